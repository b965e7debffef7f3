/- Texts of this claim laid together, one behind the other: contracts and plain lemmas; conditions as each names them. -/
import Derived.Test.YtpdkdgmaofhlkaaGreatDoorGp16
/- The stable merge where the right run is of one thing. Conditions as each names them. -/
namespace Go.Proofs.YtpdkdgmaofhlkaaGreatDoor
open Go.Shelf Go.RowKit Go.Lib Go.Sort
set_option linter.unusedVariables false
set_option linter.unusedSimpArgs false

namespace SoH
variable {α : Type} [Inhabited α] {κ : Type} [DecidableEq κ]
set_option maxHeartbeats 4000000 in
set_option maxRecDepth 1000000 in
/-- The right one is one thing. -/
theorem sym2_p {P : Program} (L : Ty P) (k : Nat) (aE : ∀ w, (isAgg 97).run P w = .ok true w) (zE : ∀ w, (Go.sizeOf 97).run P w = .ok k w) (enc : α → List Value) (cf : α → α → Int) (ky : α → κ) (hO : KO (ltOf cf) ky) (g : Nat) (cb : Array Value) (blk off cap a m : Nat) (d0 d : Array α) (w0 w : World)
    (eg : ∀ args w, (callFunc g args).run P w = .ok (.enter g args) w) (hcmp : CmpLays P g cb enc k cf blk off d0.size w0)
    (R : RowK enc k w0 blk off d0) (hs : d0.size = d.size) (S : SWK enc k w0 blk off d w) (ham : a + 1 < m) (hb : m + 1 ≤ d.size) (hsz : d.size < 4611686018427387904) (hl : Srt (ltOf cf) (fA d) a m) :
    Calls P 127 #[.slice (some ⟨blk, off, none⟩) d.size cap, .int .i64 a, .int .i64 m, .int .i64 ((m : Int) + 1), .func (.func g) #[] cb] w fun e w' => e = .returned (.tuple #[]) ∧ ∃ d' : Array α, d'.size = d.size ∧ Mg (ltOf cf) ky (fA d) (fA d') a (m + 1) ∧ SWK enc k w0 blk off d' w' := by
  have mixed := L.mixed; have t0 := L.t0; have a0 := L.a0; have z0 := L.z0; have v0 := L.v0; have t3 := L.t3; have a3 := L.a3; have z3 := L.z3; have v3 := L.v3; have t4 := L.t4; have a4 := L.a4; have z4 := L.z4; have v4 := L.v4; have t22 := L.t22; have a22 := L.a22; have z22 := L.z22; have v22 := L.v22; have t25 := L.t25; have a25 := L.a25; have z25 := L.z25; have v25 := L.v25; have t40 := L.t40; have a40 := L.a40; have z40 := L.z40; have v40 := L.v40
  have HC : Aside _ := hcmp
  have S0 : Aside (SWK enc k w0 blk off d w) := S
  have HL : Hid (Srt (ltOf cf) (fA d) a m) := hl
  clear hcmp S hl
  have hmb : ((m : Int) + 1 - (m : Int)) = 1 := by omega
  have hma : ¬ ((m : Int) - (a : Int)) = 1 := by omega
  have hmaB : (((m : Int) - (a : Int)) == 1) = false := by simp; omega
  go_enter L.fsy, Tryz.ntmps127
  go_wp2
  go_loopg [14, 15] (m - a) (fun kx s10 s11 wr => ∃ (i j : Nat), s10 = .int .i64 i ∧ s11 = .int .i64 j ∧ a ≤ i ∧ i ≤ j ∧ j ≤ m ∧ j - i ≤ kx ∧ Aside (SWK enc k w0 blk off d wr) ∧ Hid (∀ x, a ≤ x → x < i → ltOf cf (fA d m) (fA d x) = false) ∧ Hid (∀ x, j ≤ x → x < m → ltOf cf (fA d m) (fA d x) = true))
  case atStart => exact ⟨a, m, rfl, rfl, by omega, by omega, by omega, by omega, S0, fun x h1 h2 => by omega, fun x h1 h2 => by omega⟩
  case round =>
    clear S0
    obtain ⟨i, j, rfl, rfl, hai, hij, hjb, hkx, S1, HA, HB⟩ := hrel
    by_cases hlt : i < j
    · have hltz : (i : Int) < (j : Int) := by omega
      obtain ⟨q, HQ⟩ : ∃ q : Nat, Hid (q = (i + j) / 2) := ⟨_, rfl⟩
      have hq1 : i ≤ q := by rw [HQ.out]; exact (half i j hlt).1
      have hq2 : q < j := by rw [HQ.out]; exact (half i j hlt).2
      have hq : ((i : Int) + (j : Int)) / 2 = (q : Int) := by rw [HQ.out]; omega
      go_wp2_with fail
      clear hq
      cases hlv : ltOf cf d[m]! d[q]! with
      | true =>
        have HV : Hid (ltOf cf (fA d m) (fA d q) = true) := hlv
        have ea21 : (((m : Int) : Int)).toNat = m := by omega
        have pa21 : (0 : Int) ≤ ((m : Int) : Int) := by omega
        have ba21 : ((m : Int) : Int) < (d.size : Int) := by omega
        have ra21 : IntKind.i64.wrap ((m : Int) : Int) = ((m : Int) : Int) := by rw [IntKind.wrap_i64]; omega
        have ec21 : (((q : Int) : Int)).toNat = q := by omega
        have pc21 : (0 : Int) ≤ ((q : Int) : Int) := by omega
        have bc21 : ((q : Int) : Int) < (d.size : Int) := by omega
        obtain ⟨x21, hx21⟩ : ∃ x, x = d[m]! := ⟨_, rfl⟩
        obtain ⟨y21, hy21⟩ : ∃ x, x = d[q]! := ⟨_, rfl⟩
        have l21a := S1.out.ld R (by omega) P (m) (by omega)
        have l21b := S1.out.ld R (by omega) P (q) (by omega)
        rw [← hx21] at l21a
        rw [← hy21] at l21b
        have hc21 := S1.out.cmp HC.out (by omega) x21 y21
        have hv21 : cf x21 y21 < 0 := by rw [hx21, hy21]; exact of_decide_eq_true hlv
        have hd21 : decide (cf x21 y21 < 0) = true := decide_eq_true hv21
        clear hx21 hy21
        go_wp2_with fail
        go_quiet_grown (first | (go_at_fn g; refine Calls.grown_of (hc21 _ _)))
        have S2 : Aside (SWK enc k w0 blk off d (grow (wr.drewN nq) osq)) := S1.out.grown nq osq
        clear l21a l21b hc21 S1
        generalize grow (wr.drewN nq) osq = w2 at S2 ⊢
        clear nq osq
        have HB2 : Hid (∀ x, q ≤ x → x < m → ltOf cf (fA d m) (fA d x) = true) := fun x h1 h2 => lt_le hO.swo HV.out (HL.out.le hO.swo (by omega) h1 h2)
        clear hlv HV
        go_wp2
        go_roundg (q - i)
        case measure => omega
        case rel => exact ⟨i, q, rfl, rfl, by omega, by omega, by omega, by omega, S2, HA, HB2⟩
      | false =>
        have HV : Hid (ltOf cf (fA d m) (fA d q) = false) := hlv
        have ea22 : (((m : Int) : Int)).toNat = m := by omega
        have pa22 : (0 : Int) ≤ ((m : Int) : Int) := by omega
        have ba22 : ((m : Int) : Int) < (d.size : Int) := by omega
        have ra22 : IntKind.i64.wrap ((m : Int) : Int) = ((m : Int) : Int) := by rw [IntKind.wrap_i64]; omega
        have ec22 : (((q : Int) : Int)).toNat = q := by omega
        have pc22 : (0 : Int) ≤ ((q : Int) : Int) := by omega
        have bc22 : ((q : Int) : Int) < (d.size : Int) := by omega
        obtain ⟨x22, hx22⟩ : ∃ x, x = d[m]! := ⟨_, rfl⟩
        obtain ⟨y22, hy22⟩ : ∃ x, x = d[q]! := ⟨_, rfl⟩
        have l22a := S1.out.ld R (by omega) P (m) (by omega)
        have l22b := S1.out.ld R (by omega) P (q) (by omega)
        rw [← hx22] at l22a
        rw [← hy22] at l22b
        have hc22 := S1.out.cmp HC.out (by omega) x22 y22
        have hv22 : ¬ cf x22 y22 < 0 := by rw [hx22, hy22]; exact of_decide_eq_false hlv
        have hd22 : decide (cf x22 y22 < 0) = false := decide_eq_false hv22
        clear hx22 hy22
        go_wp2_with fail
        go_quiet_grown (first | (go_at_fn g; refine Calls.grown_of (hc22 _ _)))
        have S2 : Aside (SWK enc k w0 blk off d (grow (wr.drewN nq) osq)) := S1.out.grown nq osq
        clear l22a l22b hc22 S1
        generalize grow (wr.drewN nq) osq = w2 at S2 ⊢
        clear nq osq
        have HA2 : Hid (∀ x, a ≤ x → x < q + 1 → ltOf cf (fA d m) (fA d x) = false) := fun x h1 h2 => hO.swo.ntrans _ _ _ HV.out (HL.out.le hO.swo h1 (by omega) (by omega))
        clear hlv HV
        go_wp2
        go_roundg (j - (q + 1))
        case measure => omega
        case rel => exact ⟨q + 1, j, by simp, rfl, by omega, by omega, by omega, by omega, S2, HA2, HB⟩
    · obtain rfl : i = j := by omega
      have hltz : ¬ (i : Int) < (i : Int) := by omega
      have HS : Hid (Sy (ltOf cf) (fA d) a i m (m + 1) (m + 1)) := ⟨⟨by omega, by omega, by omega, by omega⟩, HL.out, fun x y h1 h2 h3 => by omega, fun x y h1 h2 h3 h4 => (show m = y by omega) ▸ HB.out x h1 h2, fun x y h1 h2 h3 h4 => by omega⟩
      have HE : Hid (Mg (ltOf cf) ky (fA d) (rotF i m (m + 1) (fA d)) a (m + 1)) := HS.out.merged hO (Mg.refl (sy_left HS.out (fun x y h1 h2 h3 h4 => (show m = y by omega) ▸ HA.out x h1 h2))) (Mg.refl (sy_right HS.out (fun x y h1 h2 h3 h4 => by omega)))
      clear HA HB HS
      go_wp2
      go_loopg [17] (m - a) (fun kx s13 wr => ∃ (q : Nat) (dk : Array α), s13 = .int .i64 q ∧ i ≤ q ∧ q ≤ m ∧ q - i ≤ kx ∧ dk.size = d.size ∧ Aside (SWK enc k w0 blk off dk wr) ∧ Hid (fA dk = rotF q m (m + 1) (fA d)))
      case atStart => exact ⟨m, d, rfl, by omega, by omega, by omega, rfl, S1, (rotF_none (by omega) (by omega) (Or.inl rfl) _).symm⟩
      case round =>
        clear S1
        obtain ⟨q, dk, rfl, hiq, hqm, hkx2, hds, S1, HF⟩ := hrel
        by_cases hqq : i < q
        · obtain ⟨q, rfl⟩ : ∃ q', q = q' + 1 := ⟨q - 1, by omega⟩
          have hqz : (i : Int) < (q : Int) + 1 := by omega
          have hqz2 : (i : Int) < ((q + 1 : Nat) : Int) := by omega
          have HN : Hid (fA (swp dk (q + 1) q) = rotF q m (m + 1) (fA d)) := by show _ = _; rw [fA_swp_adj dk q (by omega), HF.out, rot_down (by omega)]
          go_wp2_with fail
          have ea23 : (((q : Int) + 1 : Int)).toNat = q + 1 := by omega
          have pa23 : (0 : Int) ≤ ((q : Int) + 1 : Int) := by omega
          have ba23 : ((q : Int) + 1 : Int) < (d.size : Int) := by omega
          have ra23 : IntKind.i64.wrap ((q : Int) + 1 : Int) = ((q : Int) + 1 : Int) := by rw [IntKind.wrap_i64]; omega
          have ec23 : (((q : Int) : Int)).toNat = q := by omega
          have pc23 : (0 : Int) ≤ ((q : Int) : Int) := by omega
          have bc23 : ((q : Int) : Int) < (d.size : Int) := by omega
          have rc23 : IntKind.i64.wrap ((q : Int) : Int) = ((q : Int) : Int) := by rw [IntKind.wrap_i64]; omega
          have S2 : Aside (SWK enc k w0 blk off (swp dk (q + 1) (q)) ((wr.drew.setCells blk (off + (q + 1) * k) (enc dk[q]!)).setCells blk (off + (q) * k) (enc dk[q + 1]!))) := S1.out.swapped R (q + 1) (q) (by omega) (by omega)
          have l23a := S1.out.ld1 R (by omega) P (q + 1) (by omega)
          have l23b := S1.out.ld1 R (by omega) P (q) (by omega)
          have s23a := S1.out.st1 R (by omega) P (q + 1) (by omega) dk[q]!
          have s23b := S1.out.st2 R (by omega) P (q + 1) (q) (by omega) (by omega) dk[q]! dk[q + 1]!
          have n23a : (enc dk[q + 1]!).length = k := R.hk _
          have n23b : (enc dk[q]!).length = k := R.hk _
          generalize enc dk[q + 1]! = cI23 at S2 l23a s23b n23a
          generalize enc dk[q]! = cJ23 at S2 l23b s23a s23b n23b
          clear S1
          go_wp2_with fail
          go_big_region_o
          clear l23a l23b s23a s23b
          generalize (wr.drew.setCells blk (off + (q + 1) * k) cJ23).setCells blk (off + (q) * k) cI23 = w2 at S2 ⊢
          go_wp2
          go_roundg (q - i)
          case measure => omega
          case rel => exact ⟨q, swp dk (q + 1) q, by first | rfl | simp, by omega, by omega, by omega, by rw [size_swp]; exact hds, S2, HN⟩
        · obtain rfl : i = q := by omega
          have hqz : ¬ (i : Int) < (i : Int) := by omega
          go_wp2
          refine bodyPost_ret (results_none rfl _ _ _) rfl ?_
          exact ⟨rfl, dk, hds, by rw [HF.out]; exact HE.out, S1.out⟩
end SoH
end Go.Proofs.YtpdkdgmaofhlkaaGreatDoor

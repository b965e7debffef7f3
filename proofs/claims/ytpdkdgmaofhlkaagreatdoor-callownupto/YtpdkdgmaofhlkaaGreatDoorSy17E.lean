/- slices' stable merge of two runs that follow one another (symMergeCmpFunc) where one of them is of one thing, at things of several cells each. Conditions as each names them. -/
import Derived.Test.YtpdkdgmaofhlkaaGreatDoorSw17E
namespace Go.Proofs.YtpdkdgmaofhlkaaGreatDoor
open Go.Shelf Go.RowKit Go.Lib Go.Sort
set_option linter.unusedVariables false
set_option linter.unusedSimpArgs false

namespace SoE
variable {α : Type} [Inhabited α] {κ : Type} [DecidableEq κ]
section
omit [Inhabited α]
theorem sy_left {lt : α → α → Bool} {f : Nat → α} {a s m e b : Nat} (h : Sy lt f a s m e b) (hx : ∀ x y, a ≤ x → x < s → m ≤ y → y < e → lt (f y) (f x) = false) : Srt lt (rotF s m e f) a (s + (e - m)) := fun x y h1 h2 h3 => by
  have := h.o
  by_cases hy : y < s
  · exact h.s1 x y h1 h2 hy
  · by_cases hs : x < s
    · rw [rotF_out h.o.2.1 h.o.2.2.1 f (x := x) (by omega), rotF_l f (by omega)]
      exact hx _ _ (by omega) (by omega) (by omega) (by omega)
    · exact h.s2 x y (by omega) h2 h3
theorem sy_right {lt : α → α → Bool} {f : Nat → α} {a s m e b : Nat} (h : Sy lt f a s m e b) (hx : ∀ x y, s ≤ x → x < m → e ≤ y → y < b → lt (f y) (f x) = false) : Srt lt (rotF s m e f) (s + (e - m)) b := fun x y h1 h2 h3 => by
  have := h.o
  by_cases hy : y < e
  · exact h.s3 x y h1 h2 hy
  · by_cases hs : x < e
    · rw [rotF_r f (x := x) (by omega), rotF_out h.o.2.1 h.o.2.2.1 f (by omega)]
      exact hx _ _ (by omega) (by omega) (by omega) (by omega)
    · exact h.s4 x y (by omega) h2 h3
theorem rot_up {a q : Nat} (haq : a ≤ q) (f : Nat → α) : rotF q (q + 1) (q + 2) (rotF a (a + 1) (q + 1) f) = rotF a (a + 1) (q + 2) f := by
  funext x
  by_cases h1 : x < a ∨ q + 2 ≤ x
  · rw [rotF_out (by omega) (by omega) _ (by omega), rotF_out (by omega) (by omega) _ (by omega), rotF_out (by omega) (by omega) _ (by omega)]
  · by_cases h2 : x < q
    · rw [rotF_out (by omega) (by omega) _ (by omega), rotF_l f (by omega), rotF_l f (by omega)]
    · by_cases h3 : x = q
      · rw [rotF_l _ (by omega), rotF_out (by omega) (by omega) _ (by omega), rotF_l f (by omega)]; congr 1; omega
      · rw [rotF_r _ (by omega)]
        by_cases h4 : a = q
        · rw [rotF_none (by omega) (by omega) (by omega), rotF_r f (by omega)]; congr 1; omega
        · rw [rotF_r _ (by omega), rotF_r f (by omega)]; congr 1; omega
theorem rot_down {q m : Nat} (hqm : q < m) (f : Nat → α) : rotF q (q + 1) (q + 2) (rotF (q + 1) m (m + 1) f) = rotF q m (m + 1) f := by
  funext x
  by_cases h1 : x < q ∨ m + 1 ≤ x
  · rw [rotF_out (by omega) (by omega) _ (by omega), rotF_out (by omega) (by omega) _ (by omega), rotF_out (by omega) (by omega) _ (by omega)]
  · by_cases h3 : x = q
    · rw [rotF_l (s := q) (m := q + 1) (e := q + 2) _ (by omega)]
      by_cases h4 : q + 1 = m
      · rw [rotF_none (s := q + 1) (m := m) (e := m + 1) (by omega) (by omega) (by omega), rotF_l f (by omega)]; congr 1; omega
      · rw [rotF_l f (by omega), rotF_l f (by omega)]; congr 1; omega
    · by_cases h4 : x = q + 1
      · rw [rotF_r _ (by omega), rotF_out (by omega) (by omega) _ (by omega), rotF_r f (by omega)]; congr 1; omega
      · rw [rotF_out (by omega) (by omega) _ (by omega), rotF_r f (by omega), rotF_r f (by omega)]
end
theorem fA_swp_adj2 (d : Array α) (j : Nat) (hj : j + 1 < d.size) : fA (swp d j (j + 1)) = rotF j (j + 1) (j + 2) (fA d) := by
  rw [← fA_swp_adj d j hj]
  funext x
  rw [fA_swp d j (j + 1) (by omega) hj, fA_swp d (j + 1) j hj (by omega)]
  by_cases h1 : x = j + 1
  · rw [if_pos h1, if_neg (by omega), if_pos h1]
  · rw [if_neg h1]
    by_cases h2 : x = j
    · rw [if_pos h2, if_pos h2]
    · rw [if_neg h2, if_neg h2, if_neg h1]
theorem half (i j : Nat) (hi : i < j) : i ≤ (i + j) / 2 ∧ (i + j) / 2 < j := by omega
set_option maxHeartbeats 4000000 in
set_option maxRecDepth 1000000 in
/-- The left one is one thing. -/
theorem sym1_p {P : Program} (L : Ty P) (k : Nat) (aE : ∀ w, (isAgg 102).run P w = .ok true w) (zE : ∀ w, (Go.sizeOf 102).run P w = .ok k w) (enc : α → List Value) (cf : α → α → Int) (ky : α → κ) (hO : KO (ltOf cf) ky) (g : Nat) (cb : Array Value) (blk off cap a b : Nat) (d0 d : Array α) (w0 w : World)
    (eg : ∀ args w, (callFunc g args).run P w = .ok (.enter g args) w) (hcmp : CmpLays P g cb enc k cf blk off d0.size w0)
    (R : RowK enc k w0 blk off d0) (hs : d0.size = d.size) (S : SWK enc k w0 blk off d w) (hmb : a + 1 < b) (hb : b ≤ d.size) (hsz : d.size < 4611686018427387904) (hl : Srt (ltOf cf) (fA d) (a + 1) b) :
    Calls P 124 #[.slice (some ⟨blk, off, none⟩) d.size cap, .int .i64 a, .int .i64 ((a : Int) + 1), .int .i64 b, .func (.func g) #[] cb] w fun e w' => e = .returned (.tuple #[]) ∧ ∃ d' : Array α, d'.size = d.size ∧ Mg (ltOf cf) ky (fA d) (fA d') a b ∧ SWK enc k w0 blk off d' w' := by
  have mixed := L.mixed; have t0 := L.t0; have a0 := L.a0; have z0 := L.z0; have v0 := L.v0; have t3 := L.t3; have a3 := L.a3; have z3 := L.z3; have v3 := L.v3; have t4 := L.t4; have a4 := L.a4; have z4 := L.z4; have v4 := L.v4; have t22 := L.t22; have a22 := L.a22; have z22 := L.z22; have v22 := L.v22; have t25 := L.t25; have a25 := L.a25; have z25 := L.z25; have v25 := L.v25; have t40 := L.t40; have a40 := L.a40; have z40 := L.z40; have v40 := L.v40
  have HC : Aside _ := hcmp
  have S0 : Aside (SWK enc k w0 blk off d w) := S
  have HL : Hid (Srt (ltOf cf) (fA d) (a + 1) b) := hl
  clear hcmp S hl
  have ham : ((a : Int) + 1 - (a : Int)) = 1 := by omega
  go_enter L.fsy, Tryz.ntmps124
  go_wp2
  go_loopg [10, 11] (b - a) (fun kx s10 s11 wr => ∃ (i j : Nat), s10 = .int .i64 i ∧ s11 = .int .i64 j ∧ a + 1 ≤ i ∧ i ≤ j ∧ j ≤ b ∧ j - i ≤ kx ∧ Aside (SWK enc k w0 blk off d wr) ∧ Hid (∀ x, a + 1 ≤ x → x < i → ltOf cf (fA d x) (fA d a) = true) ∧ Hid (∀ x, j ≤ x → x < b → ltOf cf (fA d x) (fA d a) = false))
  case atStart => exact ⟨a + 1, b, by simp, rfl, by omega, by omega, by omega, by omega, S0, fun x h1 h2 => by omega, fun x h1 h2 => by omega⟩
  case round =>
    clear S0
    obtain ⟨i, j, rfl, rfl, hai, hij, hjb, hkx, S1, HA, HB⟩ := hrel
    by_cases hlt : i < j
    · have hltz : (i : Int) < (j : Int) := by omega
      obtain ⟨q, HQ⟩ : ∃ q : Nat, Hid (q = (i + j) / 2) := ⟨_, rfl⟩
      have hq1 : i ≤ q := by rw [HQ.out]; exact (half i j hlt).1
      have hq2 : q < j := by rw [HQ.out]; exact (half i j hlt).2
      have hq : ((i : Int) + (j : Int)) / 2 = (q : Int) := by rw [HQ.out]; omega
      go_wp2_with fail
      clear hq
      cases hlv : ltOf cf d[q]! d[a]! with
      | true =>
        have HV : Hid (ltOf cf (fA d q) (fA d a) = true) := hlv
        have ea11 : (((q : Int) : Int)).toNat = q := by omega
        have pa11 : (0 : Int) ≤ ((q : Int) : Int) := by omega
        have ba11 : ((q : Int) : Int) < (d.size : Int) := by omega
        have ec11 : (((a : Int) : Int)).toNat = a := by omega
        have pc11 : (0 : Int) ≤ ((a : Int) : Int) := by omega
        have bc11 : ((a : Int) : Int) < (d.size : Int) := by omega
        obtain ⟨x11, hx11⟩ : ∃ x, x = d[q]! := ⟨_, rfl⟩
        obtain ⟨y11, hy11⟩ : ∃ x, x = d[a]! := ⟨_, rfl⟩
        have l11a := S1.out.ld R (by omega) P (q) (by omega)
        have l11b := S1.out.ld R (by omega) P (a) (by omega)
        rw [← hx11] at l11a
        rw [← hy11] at l11b
        have hc11 := S1.out.cmp HC.out (by omega) x11 y11
        have hv11 : cf x11 y11 < 0 := by rw [hx11, hy11]; exact of_decide_eq_true hlv
        have hd11 : decide (cf x11 y11 < 0) = true := decide_eq_true hv11
        clear hx11 hy11
        go_wp2_with fail
        go_quiet_grown (first | (go_at_fn g; refine Calls.grown_of (hc11 _ _)))
        have S2 : Aside (SWK enc k w0 blk off d (grow (wr.drewN nq) osq)) := S1.out.grown nq osq
        clear l11a l11b hc11 S1
        generalize grow (wr.drewN nq) osq = w2 at S2 ⊢
        clear nq osq
        have HA2 : Hid (∀ x, a + 1 ≤ x → x < q + 1 → ltOf cf (fA d x) (fA d a) = true) := fun x h1 h2 => le_lt hO.swo (HL.out.le hO.swo h1 (by omega) (by omega)) HV.out
        clear hlv HV
        go_wp2
        go_roundg (j - (q + 1))
        case measure => omega
        case rel => exact ⟨q + 1, j, by simp, rfl, by omega, by omega, by omega, by omega, S2, HA2, HB⟩
      | false =>
        have HV : Hid (ltOf cf (fA d q) (fA d a) = false) := hlv
        have ea12 : (((q : Int) : Int)).toNat = q := by omega
        have pa12 : (0 : Int) ≤ ((q : Int) : Int) := by omega
        have ba12 : ((q : Int) : Int) < (d.size : Int) := by omega
        have ec12 : (((a : Int) : Int)).toNat = a := by omega
        have pc12 : (0 : Int) ≤ ((a : Int) : Int) := by omega
        have bc12 : ((a : Int) : Int) < (d.size : Int) := by omega
        obtain ⟨x12, hx12⟩ : ∃ x, x = d[q]! := ⟨_, rfl⟩
        obtain ⟨y12, hy12⟩ : ∃ x, x = d[a]! := ⟨_, rfl⟩
        have l12a := S1.out.ld R (by omega) P (q) (by omega)
        have l12b := S1.out.ld R (by omega) P (a) (by omega)
        rw [← hx12] at l12a
        rw [← hy12] at l12b
        have hc12 := S1.out.cmp HC.out (by omega) x12 y12
        have hv12 : ¬ cf x12 y12 < 0 := by rw [hx12, hy12]; exact of_decide_eq_false hlv
        have hd12 : decide (cf x12 y12 < 0) = false := decide_eq_false hv12
        clear hx12 hy12
        go_wp2_with fail
        go_quiet_grown (first | (go_at_fn g; refine Calls.grown_of (hc12 _ _)))
        have S2 : Aside (SWK enc k w0 blk off d (grow (wr.drewN nq) osq)) := S1.out.grown nq osq
        clear l12a l12b hc12 S1
        generalize grow (wr.drewN nq) osq = w2 at S2 ⊢
        clear nq osq
        have HB2 : Hid (∀ x, q ≤ x → x < b → ltOf cf (fA d x) (fA d a) = false) := fun x h1 h2 => hO.swo.ntrans _ _ _ (HL.out.le hO.swo (by omega) h1 h2) HV.out
        clear hlv HV
        go_wp2
        go_roundg (q - i)
        case measure => omega
        case rel => exact ⟨i, q, rfl, rfl, by omega, by omega, by omega, by omega, S2, HA, HB2⟩
    · obtain rfl : i = j := by omega
      have hltz : ¬ (i : Int) < (i : Int) := by omega
      have HS : Hid (Sy (ltOf cf) (fA d) a a (a + 1) i b) := ⟨⟨by omega, by omega, by omega, by omega⟩, fun x y h1 h2 h3 => by omega, HL.out, fun x y h1 h2 h3 h4 => (show a = x by omega) ▸ HA.out y h3 h4, fun x y h1 h2 h3 h4 => by omega⟩
      have HE : Hid (Mg (ltOf cf) ky (fA d) (rotF a (a + 1) i (fA d)) a b) := HS.out.merged hO (Mg.refl (sy_left HS.out (fun x y h1 h2 h3 h4 => by omega))) (Mg.refl (sy_right HS.out (fun x y h1 h2 h3 h4 => (show a = x by omega) ▸ HB.out y h3 h4)))
      clear HA HB HS
      go_wp2
      go_loopg [13] (b - a) (fun kx s13 wr => ∃ (q : Nat) (dk : Array α), s13 = .int .i64 q ∧ a ≤ q ∧ q < i ∧ i - q ≤ kx ∧ dk.size = d.size ∧ Aside (SWK enc k w0 blk off dk wr) ∧ Hid (fA dk = rotF a (a + 1) (q + 1) (fA d)))
      case atStart => exact ⟨a, d, rfl, by omega, by omega, by omega, rfl, S1, (rotF_none (by omega) (by omega) (Or.inr rfl) _).symm⟩
      case round =>
        clear S1
        obtain ⟨q, dk, rfl, haq, hqi, hkx2, hds, S1, HF⟩ := hrel
        by_cases hqq : q + 1 < i
        · have hqz : (q : Int) < (i : Int) - 1 := by omega
          have HN : Hid (fA (swp dk q (q + 1)) = rotF a (a + 1) (q + 2) (fA d)) := by show _ = _; rw [fA_swp_adj2 dk q (by omega), HF.out, rot_up haq]
          go_wp2_with fail
          have ea13 : (((q : Int) : Int)).toNat = q := by omega
          have pa13 : (0 : Int) ≤ ((q : Int) : Int) := by omega
          have ba13 : ((q : Int) : Int) < (d.size : Int) := by omega
          have ra13 : IntKind.i64.wrap ((q : Int) : Int) = ((q : Int) : Int) := by rw [IntKind.wrap_i64]; omega
          have ec13 : (((q : Int) + 1 : Int)).toNat = q + 1 := by omega
          have pc13 : (0 : Int) ≤ ((q : Int) + 1 : Int) := by omega
          have bc13 : ((q : Int) + 1 : Int) < (d.size : Int) := by omega
          have rc13 : IntKind.i64.wrap ((q : Int) + 1 : Int) = ((q : Int) + 1 : Int) := by rw [IntKind.wrap_i64]; omega
          have S2 : Aside (SWK enc k w0 blk off (swp dk (q) (q + 1)) ((wr.drew.setCells blk (off + (q) * k) (enc dk[q + 1]!)).setCells blk (off + (q + 1) * k) (enc dk[q]!))) := S1.out.swapped R (q) (q + 1) (by omega) (by omega)
          have l13a := S1.out.ld1 R (by omega) P (q) (by omega)
          have l13b := S1.out.ld1 R (by omega) P (q + 1) (by omega)
          have s13a := S1.out.st1 R (by omega) P (q) (by omega) dk[q + 1]!
          have s13b := S1.out.st2 R (by omega) P (q) (q + 1) (by omega) (by omega) dk[q + 1]! dk[q]!
          have n13a : (enc dk[q]!).length = k := R.hk _
          have n13b : (enc dk[q + 1]!).length = k := R.hk _
          generalize enc dk[q]! = cI13 at S2 l13a s13b n13a
          generalize enc dk[q + 1]! = cJ13 at S2 l13b s13a s13b n13b
          clear S1
          go_wp2_with fail
          go_big_region_o
          clear l13a l13b s13a s13b
          generalize (wr.drew.setCells blk (off + (q) * k) cJ13).setCells blk (off + (q + 1) * k) cI13 = w2 at S2 ⊢
          go_wp2
          go_roundg (i - (q + 1))
          case measure => omega
          case rel => exact ⟨q + 1, swp dk q (q + 1), by simp, by omega, by omega, by omega, by rw [size_swp]; exact hds, S2, HN⟩
        · obtain rfl : i = q + 1 := by omega
          have hqz : ¬ (q : Int) < ((q + 1 : Nat) : Int) - 1 := by omega
          have hqz2 : ¬ (q : Int) < (q : Int) + 1 - 1 := by omega
          go_wp2
          refine bodyPost_ret (results_none rfl _ _ _) rfl ?_
          exact ⟨rfl, dk, hds, by rw [HF.out]; exact HE.out, S1.out⟩
end SoE
end Go.Proofs.YtpdkdgmaofhlkaaGreatDoor

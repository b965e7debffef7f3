/- Texts of this claim laid together, one behind the other: contracts and plain lemmas; conditions as each names them. -/
import Derived.Test.YtpdkdgmaofhlkaaGreatDoorGp13
import Derived.Deep.RegionHeld3
import Derived.Deep.CutRange
/- slices' stable merge of two runs that follow one another (symMergeCmpFunc), at things of several cells each. Conditions as each names them. -/
namespace Go.Proofs.YtpdkdgmaofhlkaaGreatDoor
open Go.Shelf Go.RowKit Go.Lib Go.Sort
set_option linter.unusedVariables false
set_option linter.unusedSimpArgs false

namespace SoE
variable {α : Type} [Inhabited α] {κ : Type} [DecidableEq κ]
/-- What its last binary search has found. -/
structure Bs (lt : α → α → Bool) (f : Nat → α) (a m b q st r : Nat) : Prop where
  le : st ≤ r
  lo : (q < m → q + m ≤ st + b ∧ r ≤ q) ∧ (¬ q < m → a ≤ st ∧ r ≤ m)
  lft : (q < m ∧ st + b = q + m) ∨ (¬ q < m ∧ st = a) ∨ (0 < st ∧ lt (f (q + m - st)) (f (st - 1)) = false)
  rgt : (q < m ∧ r = q) ∨ (¬ q < m ∧ r = m) ∨ lt (f (q + m - 1 - r)) (f r) = true
omit [Inhabited α] in
theorem Bs.sy {lt : α → α → Bool} (ho : SWO lt) {f : Nat → α} {a m b q st : Nat} (h : Bs lt f a m b q st st) (ham : a < m) (hmb : m < b) (hq : a ≤ q ∧ q < b ∧ 2 * q ≤ a + b ∧ a + b ≤ 2 * q + 1) (hl : Srt lt f a m) (hr : Srt lt f m b) : Sy lt f a st m (q + m - st) b := by
  have ho1 := h.lo
  have hO : a ≤ st ∧ st ≤ m ∧ m ≤ q + m - st ∧ q + m - st ≤ b := by
    by_cases hqm : q < m
    · have := ho1.1 hqm; omega
    · have := ho1.2 hqm; omega
  refine ⟨hO, hl, hr, fun x y h1 h2 h3 h4 => ?_, fun x y h1 h2 h3 h4 => ?_⟩
  · rcases h.rgt with ⟨g1, g2⟩ | ⟨g1, g2⟩ | g
    · omega
    · omega
    · have e : q + m - 1 - st = q + m - st - 1 := by omega
      rw [e] at g
      exact lt_le ho (le_lt ho (hr.le ho (x := y) (y := q + m - st - 1) (by omega) (by omega) (by omega)) g) (hl.le ho (x := st) (y := x) (by omega) h1 h2)
  · rcases h.lft with ⟨g1, g2⟩ | ⟨g1, g2⟩ | ⟨g0, g⟩
    · omega
    · omega
    · exact ho.ntrans _ _ _ (ho.ntrans _ _ _ (hr.le ho (x := q + m - st) (y := y) (by omega) h3 h4) g) (hl.le ho (x := x) (y := st - 1) (by omega) (by omega) (by omega))
set_option maxHeartbeats 8000000 in
set_option maxRecDepth 1000000 in
/-- One merge, those within it being given. -/
theorem sym3_p {P : Program} (L : Ty P) (k : Nat) (aE : ∀ w, (isAgg 102).run P w = .ok true w) (zE : ∀ w, (Go.sizeOf 102).run P w = .ok k w) (enc : α → List Value) (cf : α → α → Int) (ky : α → κ) (hO : KO (ltOf cf) ky) (g : Nat) (cb : Array Value) (blk off cap a m b : Nat) (d0 d : Array α) (w0 w : World)
    (eg : ∀ args w, (callFunc g args).run P w = .ok (.enter g args) w) (hcmp : CmpLays P g cb enc k cf blk off d0.size w0)
    (R : RowK enc k w0 blk off d0) (hs : d0.size = d.size) (S : SWK enc k w0 blk off d w) (ham : a + 1 < m) (hmb : m + 1 < b) (hb : b ≤ d.size) (hsz : d.size < 4611686018427387904) (hl : Srt (ltOf cf) (fA d) a m) (hr : Srt (ltOf cf) (fA d) m b)
    (hRo : ∀ (s t u : Nat) (dk : Array α) (W : World), dk.size = d.size → SWK enc k w0 blk off dk W → s < t → t < u → u ≤ d.size → Calls P 129 #[.slice (some ⟨blk, off, none⟩) d.size cap, .int .i64 s, .int .i64 t, .int .i64 u, .func (.func g) #[] cb] W fun e w' => e = .returned (.tuple #[]) ∧ ∃ d' : Array α, d'.size = d.size ∧ fA d' = rotF s t u (fA dk) ∧ SWK enc k w0 blk off d' w')
    (hRe : ∀ (s t u : Nat) (dk : Array α) (W : World), dk.size = d.size → SWK enc k w0 blk off dk W → s < t → t < u → u ≤ d.size → u - s < b - a → Srt (ltOf cf) (fA dk) s t → Srt (ltOf cf) (fA dk) t u → Calls P 124 #[.slice (some ⟨blk, off, none⟩) d.size cap, .int .i64 s, .int .i64 t, .int .i64 u, .func (.func g) #[] cb] W fun e w' => e = .returned (.tuple #[]) ∧ ∃ d' : Array α, d'.size = d.size ∧ Mg (ltOf cf) ky (fA dk) (fA d') s u ∧ SWK enc k w0 blk off d' w') :
    Calls P 124 #[.slice (some ⟨blk, off, none⟩) d.size cap, .int .i64 a, .int .i64 m, .int .i64 b, .func (.func g) #[] cb] w fun e w' => e = .returned (.tuple #[]) ∧ ∃ d' : Array α, d'.size = d.size ∧ Mg (ltOf cf) ky (fA d) (fA d') a b ∧ SWK enc k w0 blk off d' w' := by
  have mixed := L.mixed; have t0 := L.t0; have a0 := L.a0; have z0 := L.z0; have v0 := L.v0; have t3 := L.t3; have a3 := L.a3; have z3 := L.z3; have v3 := L.v3; have t4 := L.t4; have a4 := L.a4; have z4 := L.z4; have v4 := L.v4; have t22 := L.t22; have a22 := L.a22; have z22 := L.z22; have v22 := L.v22; have t25 := L.t25; have a25 := L.a25; have z25 := L.z25; have v25 := L.v25; have t40 := L.t40; have a40 := L.a40; have z40 := L.z40; have v40 := L.v40
  have e1 : ∀ args w, (callFunc 129 args).run P w = .ok (.enter 129 args) w := enters_of L.fro (by kernel_rfl) rfl
  have e2 : ∀ args w, (callFunc 124 args).run P w = .ok (.enter 124 args) w := enters_of L.fsy (by kernel_rfl) rfl
  have HC : Aside _ := hcmp
  have S0 : Aside (SWK enc k w0 blk off d w) := S
  have HL : Hid (Srt (ltOf cf) (fA d) a m) := hl
  have HR : Hid (Srt (ltOf cf) (fA d) m b) := hr
  have HRo : Aside _ := hRo
  have HRe : Aside _ := hRe
  clear hcmp S hl hr hRo hRe
  have hma : ¬ ((m : Int) - (a : Int)) = 1 := by omega
  have hbm : ¬ ((b : Int) - (m : Int)) = 1 := by omega
  have hmaB : (((m : Int) - (a : Int)) == 1) = false := by simp; omega
  have hbmB : (((b : Int) - (m : Int)) == 1) = false := by simp; omega
  obtain ⟨q, HQ⟩ : ∃ q : Nat, Hid (q = (a + b) / 2) := ⟨_, rfl⟩
  have hq1 : a < q := by rw [HQ.out]; omega
  have hq2 : q + 1 ≤ b := by rw [HQ.out]; omega
  have hq3 : 2 * q ≤ a + b := by rw [HQ.out]; omega
  have hq4 : a + b ≤ 2 * q + 1 := by rw [HQ.out]; omega
  have hq : ((a : Int) + (b : Int)) / 2 = (q : Int) := by rw [HQ.out]; omega
  -- what stands behind the search
  have HEND : Aside (∀ (st : Nat), Bs (ltOf cf) (fA d) a m b q st st → Sy (ltOf cf) (fA d) a st m (q + m - st) b) := fun st h => h.sy hO.swo (by omega) (by omega) ⟨by omega, by omega, hq3, hq4⟩ HL.out HR.out
  go_enter L.fsy, Tryz.ntmps124
  by_cases hqm : q < m
  · have hqz : (q : Int) < (m : Int) := by omega
    have es : ((q : Int) + (m : Int) - (b : Int)) = ((q + m - b : Nat) : Int) := by omega
    go_wp2
    go_loopg [20, 21] (b - a) (fun kx s20 s21 wr => ∃ (st r : Nat), s20 = .int .i64 st ∧ s21 = .int .i64 r ∧ r - st ≤ kx ∧ Aside (SWK enc k w0 blk off d wr) ∧ Aside (Bs (ltOf cf) (fA d) a m b q st r))
    case atStart => exact ⟨q + m - b, q, rfl, rfl, by omega, S0, ⟨by omega, ⟨fun h => ⟨by omega, by omega⟩, fun h => absurd hqm h⟩, Or.inl ⟨hqm, by omega⟩, Or.inl ⟨hqm, rfl⟩⟩⟩
    case round =>
      clear S0
      obtain ⟨st, r, rfl, rfl, hkx, S1, B1⟩ := hrel
      have hle : st ≤ r := B1.out.le
      have hlo : q + m ≤ st + b ∧ r ≤ q := B1.out.lo.1 hqm
      by_cases hlt : st < r
      · have hltz : (st : Int) < (r : Int) := by omega
        obtain ⟨c, HC2⟩ : ∃ c : Nat, Hid (c = (st + r) / 2) := ⟨_, rfl⟩
        have hc1 : st ≤ c := by rw [HC2.out]; exact (half st r hlt).1
        have hc2 : c < r := by rw [HC2.out]; exact (half st r hlt).2
        have hc : ((st : Int) + (r : Int)) / 2 = (c : Int) := by rw [HC2.out]; omega
        have hpc : ((q : Int) + (m : Int) - 1 - (c : Int)) = ((q + m - 1 - c : Nat) : Int) := by omega
        obtain ⟨pc, hpcn⟩ : ∃ pc : Nat, pc = q + m - 1 - c := ⟨_, rfl⟩
        rw [← hpcn] at hpc
        have HPC : Hid (pc = q + m - 1 - c) := hpcn
        have hpb : pc < d.size := by omega
        clear hpcn
        go_wp2_with fail
        clear hc
        cases hlv : ltOf cf d[pc]! d[c]! with
        | true =>
          have HV : Hid (ltOf cf (fA d pc) (fA d c) = true) := hlv
          have ea31 : (((pc : Int) : Int)).toNat = pc := by omega
          have pa31 : (0 : Int) ≤ ((pc : Int) : Int) := by omega
          have ba31 : ((pc : Int) : Int) < (d.size : Int) := by omega
          have ra31 : IntKind.i64.wrap ((pc : Int) : Int) = ((pc : Int) : Int) := by rw [IntKind.wrap_i64]; omega
          have ec31 : (((c : Int) : Int)).toNat = c := by omega
          have pc31 : (0 : Int) ≤ ((c : Int) : Int) := by omega
          have bc31 : ((c : Int) : Int) < (d.size : Int) := by omega
          obtain ⟨x31, hx31⟩ : ∃ x, x = d[pc]! := ⟨_, rfl⟩
          obtain ⟨y31, hy31⟩ : ∃ x, x = d[c]! := ⟨_, rfl⟩
          have l31a := S1.out.ld R (by omega) P (pc) (by omega)
          have l31b := S1.out.ld R (by omega) P (c) (by omega)
          rw [← hx31] at l31a
          rw [← hy31] at l31b
          have hc31 := S1.out.cmp HC.out (by omega) x31 y31
          have hv31 : cf x31 y31 < 0 := by rw [hx31, hy31]; exact of_decide_eq_true hlv
          have hd31 : decide (cf x31 y31 < 0) = true := decide_eq_true hv31
          clear hx31 hy31
          go_wp2_with fail
          go_quiet_grown (first | (go_at_fn g; refine Calls.grown_of (hc31 _ _)))
          have S2 : Aside (SWK enc k w0 blk off d (grow (wr.drewN nq) osq)) := S1.out.grown nq osq
          clear l31a l31b hc31 S1
          generalize grow (wr.drewN nq) osq = w2 at S2 ⊢
          clear nq osq
          have B2 : Aside (Bs (ltOf cf) (fA d) a m b q st c) := ⟨hc1, ⟨fun h => ⟨hlo.1, by omega⟩, fun h => absurd hqm h⟩, B1.out.lft, Or.inr (Or.inr (HPC.out ▸ HV.out))⟩
          clear hlv HV B1
          go_wp2
          go_roundg (c - st)
          case measure => omega
          case rel => exact ⟨st, c, rfl, rfl, by omega, S2, B2⟩
        | false =>
          have HV : Hid (ltOf cf (fA d pc) (fA d c) = false) := hlv
          have ea32 : (((pc : Int) : Int)).toNat = pc := by omega
          have pa32 : (0 : Int) ≤ ((pc : Int) : Int) := by omega
          have ba32 : ((pc : Int) : Int) < (d.size : Int) := by omega
          have ra32 : IntKind.i64.wrap ((pc : Int) : Int) = ((pc : Int) : Int) := by rw [IntKind.wrap_i64]; omega
          have ec32 : (((c : Int) : Int)).toNat = c := by omega
          have pc32 : (0 : Int) ≤ ((c : Int) : Int) := by omega
          have bc32 : ((c : Int) : Int) < (d.size : Int) := by omega
          obtain ⟨x32, hx32⟩ : ∃ x, x = d[pc]! := ⟨_, rfl⟩
          obtain ⟨y32, hy32⟩ : ∃ x, x = d[c]! := ⟨_, rfl⟩
          have l32a := S1.out.ld R (by omega) P (pc) (by omega)
          have l32b := S1.out.ld R (by omega) P (c) (by omega)
          rw [← hx32] at l32a
          rw [← hy32] at l32b
          have hc32 := S1.out.cmp HC.out (by omega) x32 y32
          have hv32 : ¬ cf x32 y32 < 0 := by rw [hx32, hy32]; exact of_decide_eq_false hlv
          have hd32 : decide (cf x32 y32 < 0) = false := decide_eq_false hv32
          clear hx32 hy32
          go_wp2_with fail
          go_quiet_grown (first | (go_at_fn g; refine Calls.grown_of (hc32 _ _)))
          have S2 : Aside (SWK enc k w0 blk off d (grow (wr.drewN nq) osq)) := S1.out.grown nq osq
          clear l32a l32b hc32 S1
          generalize grow (wr.drewN nq) osq = w2 at S2 ⊢
          clear nq osq
          have B2 : Aside (Bs (ltOf cf) (fA d) a m b q (c + 1) r) := ⟨by omega, ⟨fun h => ⟨by omega, hlo.2⟩, fun h => absurd hqm h⟩, Or.inr (Or.inr ⟨by omega, by have h := HV.out; rw [HPC.out, show q + m - 1 - c = q + m - (c + 1) by omega] at h; exact h⟩), B1.out.rgt⟩
          clear hlv HV B1
          go_wp2
          go_roundg (r - (c + 1))
          case measure => omega
          case rel => exact ⟨c + 1, r, by simp, rfl, by omega, S2, B2⟩
      · obtain rfl : st = r := by omega
        have hltz : ¬ (st : Int) < (st : Int) := by omega
        have HS : Aside (Sy (ltOf cf) (fA d) a st m (q + m - st) b) := HEND.out st B1.out
        clear B1 HEND
        obtain ⟨e, he⟩ : ∃ e : Nat, e = q + m - st := ⟨_, rfl⟩
        have hez : ((q : Int) + (m : Int) - (st : Int)) = (e : Int) := by omega
        rw [← he] at HS
        have hsq : st + (e - m) = q := by omega
        have hse : a ≤ st ∧ st ≤ m ∧ m ≤ e ∧ e ≤ b := HS.out.o
        have HSQ : Hid (st + (e - m) = q) := hsq
        clear he hsq
        have hrot : Aside (Srt (ltOf cf) (rotF st m e (fA d)) a st ∧ Srt (ltOf cf) (rotF st m e (fA d)) st q ∧ Srt (ltOf cf) (rotF st m e (fA d)) q e ∧ Srt (ltOf cf) (rotF st m e (fA d)) e b) := ⟨HS.out.s1, HSQ.out ▸ HS.out.s2, HSQ.out ▸ HS.out.s3, HS.out.s4⟩
        have hfin : Aside (∀ g1 g2 : Nat → α, Mg (ltOf cf) ky (rotF st m e (fA d)) g1 a q → Mg (ltOf cf) ky g1 g2 q b → Mg (ltOf cf) ky (fA d) g2 a b) := fun g1 g2 h1 h2 => HS.out.merged hO (HSQ.out.symm ▸ h1) (HSQ.out.symm ▸ h2)
        clear HS HSQ
        go_upto_region 39 with fail
        go_cut [185] from 178 to 185 (fun p wx => ∃ bb : Bool, p = .bool bb ∧ Hid (bb = true ↔ st < m ∧ m < e) ∧ wr = wx)
        case first =>
          by_cases c1 : st < m
          · have c1z : (st : Int) < (m : Int) := by omega
            by_cases c2 : m < e
            · have c2z : (m : Int) < (e : Int) := by omega
              go_wp2
              go_meet
              exact ⟨true, rfl, ⟨fun _ => ⟨c1, c2⟩, fun _ => rfl⟩, rfl⟩
            · have c2z : ¬ (m : Int) < (e : Int) := by omega
              go_wp2
              go_meet
              exact ⟨false, rfl, ⟨fun h => (by cases h), fun h => absurd h.2 c2⟩, rfl⟩
          · have c1z : ¬ (st : Int) < (m : Int) := by omega
            go_wp2
            go_meet
            exact ⟨false, rfl, ⟨fun h => (by cases h), fun h => absurd h.1 c1⟩, rfl⟩
        case rest =>
          obtain ⟨bb, rfl, HBb, rfl⟩ := hcut
          rename_i hK39
          refine hK39 _ _ ?_
          clear hK39
          go_cut [24] from 178 to 191 (fun p wx => p = .int .i64 e ∧ ∃ d1 : Array α, d1.size = d.size ∧ Aside (SWK enc k w0 blk off d1 wx) ∧ Hid (fA d1 = rotF st m e (fA d)))
          case first =>
            cases bb with
            | true =>
              have hbb := HBb.out.1 rfl
              go_wp2_with fail
              refine (HRo.out st m e d _ rfl S1.out hbb.1 hbb.2 (by omega)).mono ?_
              rintro e9 w9 ⟨rfl, d1, hd1, hF1, hS1⟩
              go_wp2
              go_meet
              exact ⟨rfl, d1, hd1, hS1, hF1⟩
            | false =>
              have hbb : ¬ (st < m ∧ m < e) := fun h => by have := HBb.out.2 h; cases this
              go_wp2
              go_meet
              exact ⟨rfl, d, rfl, S1, (rotF_none hse.2.1 hse.2.2.1 (by omega) _).symm⟩
          case rest =>
            obtain ⟨rfl, d1, hd1, S2, HF1⟩ := hcut
            clear HBb S1
            go_upto_region 41 with fail
            go_cut [199] from 192 to 199 (fun p wx => ∃ bb : Bool, p = .bool bb ∧ Hid (bb = true ↔ a < st ∧ st < q) ∧ wc = wx)
            case first =>
              by_cases c1 : a < st
              · have c1z : (a : Int) < (st : Int) := by omega
                by_cases c2 : st < q
                · have c2z : (st : Int) < (q : Int) := by omega
                  go_wp2
                  go_meet
                  exact ⟨true, rfl, ⟨fun _ => ⟨c1, c2⟩, fun _ => rfl⟩, rfl⟩
                · have c2z : ¬ (st : Int) < (q : Int) := by omega
                  go_wp2
                  go_meet
                  exact ⟨false, rfl, ⟨fun h => (by cases h), fun h => absurd h.2 c2⟩, rfl⟩
              · have c1z : ¬ (a : Int) < (st : Int) := by omega
                go_wp2
                go_meet
                exact ⟨false, rfl, ⟨fun h => (by cases h), fun h => absurd h.1 c1⟩, rfl⟩
            case rest =>
              obtain ⟨bb, rfl, HBb, rfl⟩ := hcut
              rename_i hK41
              refine hK41 _ _ ?_
              clear hK41
              go_cut [24] from 192 to 205 (fun p wx => p = .int .i64 e ∧ ∃ d2 : Array α, d2.size = d.size ∧ Aside (SWK enc k w0 blk off d2 wx) ∧ Aside (Mg (ltOf cf) ky (rotF st m e (fA d)) (fA d2) a q))
              case first =>
                cases bb with
                | true =>
                  have hbb := HBb.out.1 rfl
                  go_wp2_with fail
                  refine (HRe.out a st q d1 _ hd1 S2.out hbb.1 hbb.2 (by omega) (by omega) (by rw [HF1.out]; exact hrot.out.1) (by rw [HF1.out]; exact hrot.out.2.1)).mono ?_
                  rintro e9 w9 ⟨rfl, d2, hd2, hF2, hS2⟩
                  go_wp2
                  go_meet
                  exact ⟨rfl, d2, hd2, hS2, by rw [← HF1.out]; exact hF2⟩
                | false =>
                  have hbb : ¬ (a < st ∧ st < q) := fun h => by have := HBb.out.2 h; cases this
                  go_wp2
                  go_meet
                  exact ⟨rfl, d1, hd1, S2, by show Mg _ _ _ _ _ _; rw [HF1.out]; exact Mg.refl (srt_none hrot.out.1 hrot.out.2.1 hbb hse.1)⟩
              case rest =>
                obtain ⟨rfl, d2, hd2, S3, M2⟩ := hcut
                clear HBb S2 HF1
                have hsr : Aside (Srt (ltOf cf) (fA d2) q e ∧ Srt (ltOf cf) (fA d2) e b) := ⟨fun x y h1 h2 h3 => by rw [M2.out.out x (by omega), M2.out.out y (by omega)]; exact hrot.out.2.2.1 x y h1 h2 h3, fun x y h1 h2 h3 => by rw [M2.out.out x (by omega), M2.out.out y (by omega)]; exact hrot.out.2.2.2 x y h1 h2 h3⟩
                go_upto_region 43 with fail
                go_cut [213] from 206 to 213 (fun p wx => ∃ bb : Bool, p = .bool bb ∧ Hid (bb = true ↔ q < e ∧ e < b) ∧ wc = wx)
                case first =>
                  by_cases c1 : q < e
                  · have c1z : (q : Int) < (e : Int) := by omega
                    by_cases c2 : e < b
                    · have c2z : (e : Int) < (b : Int) := by omega
                      go_wp2
                      go_meet
                      exact ⟨true, rfl, ⟨fun _ => ⟨c1, c2⟩, fun _ => rfl⟩, rfl⟩
                    · have c2z : ¬ (e : Int) < (b : Int) := by omega
                      go_wp2
                      go_meet
                      exact ⟨false, rfl, ⟨fun h => (by cases h), fun h => absurd h.2 c2⟩, rfl⟩
                  · have c1z : ¬ (q : Int) < (e : Int) := by omega
                    go_wp2
                    go_meet
                    exact ⟨false, rfl, ⟨fun h => (by cases h), fun h => absurd h.1 c1⟩, rfl⟩
                case rest =>
                  obtain ⟨bb, rfl, HBb, rfl⟩ := hcut
                  rename_i hK43
                  refine hK43 _ _ ?_
                  clear hK43
                  cases bb with
                  | true =>
                    have hbb := HBb.out.1 rfl
                    go_wp2_with fail
                    refine (HRe.out q e b d2 _ hd2 S3.out hbb.1 hbb.2 (by omega) (by omega) hsr.out.1 hsr.out.2).mono ?_
                    rintro e9 w9 ⟨rfl, d3, hd3, hF3, hS3⟩
                    go_wp2
                    go_end0
                    exact ⟨rfl, d3, hd3, hfin.out _ _ M2.out hF3, hS3⟩
                  | false =>
                    have hbb : ¬ (q < e ∧ e < b) := fun h => by have := HBb.out.2 h; cases this
                    go_wp2
                    go_end0
                    exact ⟨rfl, d2, hd2, hfin.out _ _ M2.out (Mg.refl (srt_none hsr.out.1 hsr.out.2 hbb (by omega))), S3.out⟩
  · have hqz : ¬ (q : Int) < (m : Int) := by omega
    go_wp2
    go_loopg [20, 21] (b - a) (fun kx s20 s21 wr => ∃ (st r : Nat), s20 = .int .i64 st ∧ s21 = .int .i64 r ∧ r - st ≤ kx ∧ Aside (SWK enc k w0 blk off d wr) ∧ Aside (Bs (ltOf cf) (fA d) a m b q st r))
    case atStart => exact ⟨a, m, rfl, rfl, by omega, S0, ⟨by omega, ⟨fun h => absurd h hqm, fun h => ⟨by omega, by omega⟩⟩, Or.inr (Or.inl ⟨hqm, rfl⟩), Or.inr (Or.inl ⟨hqm, rfl⟩)⟩⟩
    case round =>
      clear S0
      obtain ⟨st, r, rfl, rfl, hkx, S1, B1⟩ := hrel
      have hle : st ≤ r := B1.out.le
      have hlo : a ≤ st ∧ r ≤ m := B1.out.lo.2 hqm
      by_cases hlt : st < r
      · have hltz : (st : Int) < (r : Int) := by omega
        obtain ⟨c, HC2⟩ : ∃ c : Nat, Hid (c = (st + r) / 2) := ⟨_, rfl⟩
        have hc1 : st ≤ c := by rw [HC2.out]; exact (half st r hlt).1
        have hc2 : c < r := by rw [HC2.out]; exact (half st r hlt).2
        have hc : ((st : Int) + (r : Int)) / 2 = (c : Int) := by rw [HC2.out]; omega
        have hpc : ((q : Int) + (m : Int) - 1 - (c : Int)) = ((q + m - 1 - c : Nat) : Int) := by omega
        obtain ⟨pc, hpcn⟩ : ∃ pc : Nat, pc = q + m - 1 - c := ⟨_, rfl⟩
        rw [← hpcn] at hpc
        have HPC : Hid (pc = q + m - 1 - c) := hpcn
        have hpb : pc < d.size := by omega
        clear hpcn
        go_wp2_with fail
        clear hc
        cases hlv : ltOf cf d[pc]! d[c]! with
        | true =>
          have HV : Hid (ltOf cf (fA d pc) (fA d c) = true) := hlv
          have ea31 : (((pc : Int) : Int)).toNat = pc := by omega
          have pa31 : (0 : Int) ≤ ((pc : Int) : Int) := by omega
          have ba31 : ((pc : Int) : Int) < (d.size : Int) := by omega
          have ra31 : IntKind.i64.wrap ((pc : Int) : Int) = ((pc : Int) : Int) := by rw [IntKind.wrap_i64]; omega
          have ec31 : (((c : Int) : Int)).toNat = c := by omega
          have pc31 : (0 : Int) ≤ ((c : Int) : Int) := by omega
          have bc31 : ((c : Int) : Int) < (d.size : Int) := by omega
          obtain ⟨x31, hx31⟩ : ∃ x, x = d[pc]! := ⟨_, rfl⟩
          obtain ⟨y31, hy31⟩ : ∃ x, x = d[c]! := ⟨_, rfl⟩
          have l31a := S1.out.ld R (by omega) P (pc) (by omega)
          have l31b := S1.out.ld R (by omega) P (c) (by omega)
          rw [← hx31] at l31a
          rw [← hy31] at l31b
          have hc31 := S1.out.cmp HC.out (by omega) x31 y31
          have hv31 : cf x31 y31 < 0 := by rw [hx31, hy31]; exact of_decide_eq_true hlv
          have hd31 : decide (cf x31 y31 < 0) = true := decide_eq_true hv31
          clear hx31 hy31
          go_wp2_with fail
          go_quiet_grown (first | (go_at_fn g; refine Calls.grown_of (hc31 _ _)))
          have S2 : Aside (SWK enc k w0 blk off d (grow (wr.drewN nq) osq)) := S1.out.grown nq osq
          clear l31a l31b hc31 S1
          generalize grow (wr.drewN nq) osq = w2 at S2 ⊢
          clear nq osq
          have B2 : Aside (Bs (ltOf cf) (fA d) a m b q st c) := ⟨hc1, ⟨fun h => absurd h hqm, fun h => ⟨hlo.1, by omega⟩⟩, B1.out.lft, Or.inr (Or.inr (HPC.out ▸ HV.out))⟩
          clear hlv HV B1
          go_wp2
          go_roundg (c - st)
          case measure => omega
          case rel => exact ⟨st, c, rfl, rfl, by omega, S2, B2⟩
        | false =>
          have HV : Hid (ltOf cf (fA d pc) (fA d c) = false) := hlv
          have ea32 : (((pc : Int) : Int)).toNat = pc := by omega
          have pa32 : (0 : Int) ≤ ((pc : Int) : Int) := by omega
          have ba32 : ((pc : Int) : Int) < (d.size : Int) := by omega
          have ra32 : IntKind.i64.wrap ((pc : Int) : Int) = ((pc : Int) : Int) := by rw [IntKind.wrap_i64]; omega
          have ec32 : (((c : Int) : Int)).toNat = c := by omega
          have pc32 : (0 : Int) ≤ ((c : Int) : Int) := by omega
          have bc32 : ((c : Int) : Int) < (d.size : Int) := by omega
          obtain ⟨x32, hx32⟩ : ∃ x, x = d[pc]! := ⟨_, rfl⟩
          obtain ⟨y32, hy32⟩ : ∃ x, x = d[c]! := ⟨_, rfl⟩
          have l32a := S1.out.ld R (by omega) P (pc) (by omega)
          have l32b := S1.out.ld R (by omega) P (c) (by omega)
          rw [← hx32] at l32a
          rw [← hy32] at l32b
          have hc32 := S1.out.cmp HC.out (by omega) x32 y32
          have hv32 : ¬ cf x32 y32 < 0 := by rw [hx32, hy32]; exact of_decide_eq_false hlv
          have hd32 : decide (cf x32 y32 < 0) = false := decide_eq_false hv32
          clear hx32 hy32
          go_wp2_with fail
          go_quiet_grown (first | (go_at_fn g; refine Calls.grown_of (hc32 _ _)))
          have S2 : Aside (SWK enc k w0 blk off d (grow (wr.drewN nq) osq)) := S1.out.grown nq osq
          clear l32a l32b hc32 S1
          generalize grow (wr.drewN nq) osq = w2 at S2 ⊢
          clear nq osq
          have B2 : Aside (Bs (ltOf cf) (fA d) a m b q (c + 1) r) := ⟨by omega, ⟨fun h => absurd h hqm, fun h => ⟨by omega, hlo.2⟩⟩, Or.inr (Or.inr ⟨by omega, by have h := HV.out; rw [HPC.out, show q + m - 1 - c = q + m - (c + 1) by omega] at h; exact h⟩), B1.out.rgt⟩
          clear hlv HV B1
          go_wp2
          go_roundg (r - (c + 1))
          case measure => omega
          case rel => exact ⟨c + 1, r, by simp, rfl, by omega, S2, B2⟩
      · obtain rfl : st = r := by omega
        have hltz : ¬ (st : Int) < (st : Int) := by omega
        have HS : Aside (Sy (ltOf cf) (fA d) a st m (q + m - st) b) := HEND.out st B1.out
        clear B1 HEND
        obtain ⟨e, he⟩ : ∃ e : Nat, e = q + m - st := ⟨_, rfl⟩
        have hez : ((q : Int) + (m : Int) - (st : Int)) = (e : Int) := by omega
        rw [← he] at HS
        have hsq : st + (e - m) = q := by omega
        have hse : a ≤ st ∧ st ≤ m ∧ m ≤ e ∧ e ≤ b := HS.out.o
        have HSQ : Hid (st + (e - m) = q) := hsq
        clear he hsq
        have hrot : Aside (Srt (ltOf cf) (rotF st m e (fA d)) a st ∧ Srt (ltOf cf) (rotF st m e (fA d)) st q ∧ Srt (ltOf cf) (rotF st m e (fA d)) q e ∧ Srt (ltOf cf) (rotF st m e (fA d)) e b) := ⟨HS.out.s1, HSQ.out ▸ HS.out.s2, HSQ.out ▸ HS.out.s3, HS.out.s4⟩
        have hfin : Aside (∀ g1 g2 : Nat → α, Mg (ltOf cf) ky (rotF st m e (fA d)) g1 a q → Mg (ltOf cf) ky g1 g2 q b → Mg (ltOf cf) ky (fA d) g2 a b) := fun g1 g2 h1 h2 => HS.out.merged hO (HSQ.out.symm ▸ h1) (HSQ.out.symm ▸ h2)
        clear HS HSQ
        go_upto_region 39 with fail
        go_cut [185] from 178 to 185 (fun p wx => ∃ bb : Bool, p = .bool bb ∧ Hid (bb = true ↔ st < m ∧ m < e) ∧ wr = wx)
        case first =>
          by_cases c1 : st < m
          · have c1z : (st : Int) < (m : Int) := by omega
            by_cases c2 : m < e
            · have c2z : (m : Int) < (e : Int) := by omega
              go_wp2
              go_meet
              exact ⟨true, rfl, ⟨fun _ => ⟨c1, c2⟩, fun _ => rfl⟩, rfl⟩
            · have c2z : ¬ (m : Int) < (e : Int) := by omega
              go_wp2
              go_meet
              exact ⟨false, rfl, ⟨fun h => (by cases h), fun h => absurd h.2 c2⟩, rfl⟩
          · have c1z : ¬ (st : Int) < (m : Int) := by omega
            go_wp2
            go_meet
            exact ⟨false, rfl, ⟨fun h => (by cases h), fun h => absurd h.1 c1⟩, rfl⟩
        case rest =>
          obtain ⟨bb, rfl, HBb, rfl⟩ := hcut
          rename_i hK39
          refine hK39 _ _ ?_
          clear hK39
          go_cut [24] from 178 to 191 (fun p wx => p = .int .i64 e ∧ ∃ d1 : Array α, d1.size = d.size ∧ Aside (SWK enc k w0 blk off d1 wx) ∧ Hid (fA d1 = rotF st m e (fA d)))
          case first =>
            cases bb with
            | true =>
              have hbb := HBb.out.1 rfl
              go_wp2_with fail
              refine (HRo.out st m e d _ rfl S1.out hbb.1 hbb.2 (by omega)).mono ?_
              rintro e9 w9 ⟨rfl, d1, hd1, hF1, hS1⟩
              go_wp2
              go_meet
              exact ⟨rfl, d1, hd1, hS1, hF1⟩
            | false =>
              have hbb : ¬ (st < m ∧ m < e) := fun h => by have := HBb.out.2 h; cases this
              go_wp2
              go_meet
              exact ⟨rfl, d, rfl, S1, (rotF_none hse.2.1 hse.2.2.1 (by omega) _).symm⟩
          case rest =>
            obtain ⟨rfl, d1, hd1, S2, HF1⟩ := hcut
            clear HBb S1
            go_upto_region 41 with fail
            go_cut [199] from 192 to 199 (fun p wx => ∃ bb : Bool, p = .bool bb ∧ Hid (bb = true ↔ a < st ∧ st < q) ∧ wc = wx)
            case first =>
              by_cases c1 : a < st
              · have c1z : (a : Int) < (st : Int) := by omega
                by_cases c2 : st < q
                · have c2z : (st : Int) < (q : Int) := by omega
                  go_wp2
                  go_meet
                  exact ⟨true, rfl, ⟨fun _ => ⟨c1, c2⟩, fun _ => rfl⟩, rfl⟩
                · have c2z : ¬ (st : Int) < (q : Int) := by omega
                  go_wp2
                  go_meet
                  exact ⟨false, rfl, ⟨fun h => (by cases h), fun h => absurd h.2 c2⟩, rfl⟩
              · have c1z : ¬ (a : Int) < (st : Int) := by omega
                go_wp2
                go_meet
                exact ⟨false, rfl, ⟨fun h => (by cases h), fun h => absurd h.1 c1⟩, rfl⟩
            case rest =>
              obtain ⟨bb, rfl, HBb, rfl⟩ := hcut
              rename_i hK41
              refine hK41 _ _ ?_
              clear hK41
              go_cut [24] from 192 to 205 (fun p wx => p = .int .i64 e ∧ ∃ d2 : Array α, d2.size = d.size ∧ Aside (SWK enc k w0 blk off d2 wx) ∧ Aside (Mg (ltOf cf) ky (rotF st m e (fA d)) (fA d2) a q))
              case first =>
                cases bb with
                | true =>
                  have hbb := HBb.out.1 rfl
                  go_wp2_with fail
                  refine (HRe.out a st q d1 _ hd1 S2.out hbb.1 hbb.2 (by omega) (by omega) (by rw [HF1.out]; exact hrot.out.1) (by rw [HF1.out]; exact hrot.out.2.1)).mono ?_
                  rintro e9 w9 ⟨rfl, d2, hd2, hF2, hS2⟩
                  go_wp2
                  go_meet
                  exact ⟨rfl, d2, hd2, hS2, by rw [← HF1.out]; exact hF2⟩
                | false =>
                  have hbb : ¬ (a < st ∧ st < q) := fun h => by have := HBb.out.2 h; cases this
                  go_wp2
                  go_meet
                  exact ⟨rfl, d1, hd1, S2, by show Mg _ _ _ _ _ _; rw [HF1.out]; exact Mg.refl (srt_none hrot.out.1 hrot.out.2.1 hbb hse.1)⟩
              case rest =>
                obtain ⟨rfl, d2, hd2, S3, M2⟩ := hcut
                clear HBb S2 HF1
                have hsr : Aside (Srt (ltOf cf) (fA d2) q e ∧ Srt (ltOf cf) (fA d2) e b) := ⟨fun x y h1 h2 h3 => by rw [M2.out.out x (by omega), M2.out.out y (by omega)]; exact hrot.out.2.2.1 x y h1 h2 h3, fun x y h1 h2 h3 => by rw [M2.out.out x (by omega), M2.out.out y (by omega)]; exact hrot.out.2.2.2 x y h1 h2 h3⟩
                go_upto_region 43 with fail
                go_cut [213] from 206 to 213 (fun p wx => ∃ bb : Bool, p = .bool bb ∧ Hid (bb = true ↔ q < e ∧ e < b) ∧ wc = wx)
                case first =>
                  by_cases c1 : q < e
                  · have c1z : (q : Int) < (e : Int) := by omega
                    by_cases c2 : e < b
                    · have c2z : (e : Int) < (b : Int) := by omega
                      go_wp2
                      go_meet
                      exact ⟨true, rfl, ⟨fun _ => ⟨c1, c2⟩, fun _ => rfl⟩, rfl⟩
                    · have c2z : ¬ (e : Int) < (b : Int) := by omega
                      go_wp2
                      go_meet
                      exact ⟨false, rfl, ⟨fun h => (by cases h), fun h => absurd h.2 c2⟩, rfl⟩
                  · have c1z : ¬ (q : Int) < (e : Int) := by omega
                    go_wp2
                    go_meet
                    exact ⟨false, rfl, ⟨fun h => (by cases h), fun h => absurd h.1 c1⟩, rfl⟩
                case rest =>
                  obtain ⟨bb, rfl, HBb, rfl⟩ := hcut
                  rename_i hK43
                  refine hK43 _ _ ?_
                  clear hK43
                  cases bb with
                  | true =>
                    have hbb := HBb.out.1 rfl
                    go_wp2_with fail
                    refine (HRe.out q e b d2 _ hd2 S3.out hbb.1 hbb.2 (by omega) (by omega) hsr.out.1 hsr.out.2).mono ?_
                    rintro e9 w9 ⟨rfl, d3, hd3, hF3, hS3⟩
                    go_wp2
                    go_end0
                    exact ⟨rfl, d3, hd3, hfin.out _ _ M2.out hF3, hS3⟩
                  | false =>
                    have hbb : ¬ (q < e ∧ e < b) := fun h => by have := HBb.out.2 h; cases this
                    go_wp2
                    go_end0
                    exact ⟨rfl, d2, hd2, hfin.out _ _ M2.out (Mg.refl (srt_none hsr.out.1 hsr.out.2 hbb (by omega))), S3.out⟩
end SoE
end Go.Proofs.YtpdkdgmaofhlkaaGreatDoor

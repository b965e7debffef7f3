/- How many steps a checkpoint takes: the program's Save and the document's. Conditions: the checkpoint's size is at most 1048576. -/
import Derived.Test.YtdojhkgnnbdfkaaGreatSw22
namespace Go.Proofs.YtdojhkgnnbdfkaaGreat
open BigFrame Go.ChangeShapes Go.WideShapes Go.ChangeAt Go.RowKit Go.Lib Go.Maps
set_option linter.unusedVariables false
set_option linter.unusedSimpArgs false

theorem Cf.err_zero {c : Cf} (h : Cf.err c = 0) : 1 ≤ c.s ∧ c.s ≤ 16 := by
  unfold Cf.err at h
  split at h
  · rename_i hm
    exact ⟨hm.2.1.1, hm.2.1.2⟩
  · cases h
theorem Cf.err_ways (c : Cf) : Cf.err c = 0 ∨ Cf.err c = 7 := by
  unfold Cf.err
  split <;> simp
/-- A sum of three numbers that were just laid. -/
theorem ntotal_three (a b c : Int) (w W : World) (ha : 0 ≤ a ∧ a ≤ 1048576) (hb : 0 ≤ b ∧ b ≤ 1048576) (hc : 0 ≤ c ∧ c ≤ 1048576) (hf : Fr [] (w.alloc (.cells #[.int .i64 a, .int .i64 b, .int .i64 c] 3)) W) :
    Calls Tryz.prog 14 #[.slice (some ⟨w.heap.size, 0, none⟩) 3 3] W fun e w' => e = .returned (.int .i64 (a + b + c)) ∧ Fr [] W w' := by
  have hr := hf.keep (heap_alloc_new w (.cells #[.int .i64 a, .int .i64 b, .int .i64 c] 3)) (by simp)
  refine (Q.ntotal_any (some ⟨w.heap.size, 0, none⟩) 3 3 [a, b, c] W ⟨fun _ => ⟨_, 0, rfl, lt_of_block hr, fun i hi => ?_⟩, by simp⟩ rfl ?_ (by omega)).mono ?_
  · have : i = 0 ∨ i = 1 ∨ i = 2 := by simp at hi; omega
    rcases this with rfl | rfl | rfl <;> (rw [cell_of_row _ _ _ _ _ _ hr]; rfl)
  · intro x hx
    simp at hx
    rcases hx with rfl | rfl | rfl <;> omega
  · rintro e w3 ⟨rfl, h3⟩
    refine ⟨?_, h3⟩
    have : Q.sumI [a, b, c] = a + b + c := by simp [Q.sumI]; omega
    rw [this]
theorem sv_box22 {w : World} {l s x q m : Int} {bo ho : Option Addr} {Lb cb Lh ch : Nat} {W : World} (hf : Fr [] ((w.alloc (.cells #[.int .i64 l, .int .i64 s, .int .i64 x, .int .i64 q] 23)).alloc (.cells #[.int .i64 m, .slice bo Lb cb, .slice ho Lh ch] 27)) W) :
    W.cell? ⟨w.heap.size, 0, none⟩ = some (.int .i64 l) ∧ W.cell? ⟨w.heap.size, 1, none⟩ = some (.int .i64 s) ∧ W.cell? ⟨w.heap.size, 2, none⟩ = some (.int .i64 x) ∧ W.cell? ⟨w.heap.size, 3, none⟩ = some (.int .i64 q) ∧
    W.cell? ⟨w.heap.size + 1, 0, none⟩ = some (.int .i64 m) ∧ W.cell? ⟨w.heap.size + 1, 1, none⟩ = some (.slice bo Lb cb) ∧ W.cell? ⟨w.heap.size + 1, 2, none⟩ = some (.slice ho Lh ch) := by
  have hr := ((Fr.alloc [] (w.alloc (.cells #[.int .i64 l, .int .i64 s, .int .i64 x, .int .i64 q] 23)) (.cells #[.int .i64 m, .slice bo Lb cb, .slice ho Lh ch] 27)).then hf).keep (heap_alloc_new w (.cells #[.int .i64 l, .int .i64 s, .int .i64 x, .int .i64 q] 23)) (by simp)
  have hr2 := hf.keep (heap_alloc_new (w.alloc (.cells #[.int .i64 l, .int .i64 s, .int .i64 x, .int .i64 q] 23)) (.cells #[.int .i64 m, .slice bo Lb cb, .slice ho Lh ch] 27)) (by simp)
  rw [show (w.alloc (.cells #[.int .i64 l, .int .i64 s, .int .i64 x, .int .i64 q] 23)).heap.size = w.heap.size + 1 from by simp] at hr2
  refine ⟨?_, ?_, ?_, ?_, ?_, ?_, ?_⟩ <;> first | (rw [cell_of_row _ _ _ _ _ _ hr]; rfl) | (rw [cell_of_row _ _ _ _ _ _ hr2]; rfl)
set_option maxHeartbeats 4000000 in
set_option maxRecDepth 100000 in
theorem nsave_any {w : World} {m : Int} {bo : Option Addr} {Lb : Nat} {ho : Option Addr} {Lh : Nat} {bs : List Int} {hs : List Hd} {ps : List Kv} {c : Nat} {ys : List Nat} (l s x q : Int) (cb ch : Nat) (h : SvA w m bo Lb ho Lh bs hs ps c ys) {ok : Bool} {g i : Nat} {mN : Int} {bN : List Int} {pN : List Kv} (hN : Nw [] [] ok g i mN bN pN) :
    Calls Tryz.prog 5 #[.agg #[.int .i64 l, .int .i64 s, .int .i64 x, .int .i64 q], .agg #[.int .i64 m, .slice bo Lb cb, .slice ho Lh ch]] w fun e w' => ∃ r z : Int, e = .returned (.tuple #[.int .i64 r, .int .i64 z]) ∧ SaR (Cf.err ⟨l, s, x, q⟩) s c (newE 16777216 g c ys.length) (nB (20 + ys.length) + 1) r z ∧ Fr [] w w' := by
  have H1 := fun w => check_cells l s x q w
  have HC2 : Hid (∀ W, Fr [] w W → Calls Tryz.prog 12 #[.agg #[.int .i64 m, .slice bo Lb cb, .slice ho Lh ch]] W fun e w' => e = .returned (.int .i64 (c : Int)) ∧ Fr [] W w') := fun W hf => dcheck_any m bo ho Lb cb Lh ch c bs hs W (h.keep hf).I h.lb (h.keep hf).H h.lh (h.T.ck h.p)
  have HW : Hid (∀ W, Fr [] w W → Calls Tryz.prog 13 #[.agg #[.int .i64 m, .slice bo Lb cb, .slice ho Lh ch]] W fun e w' => ∃ r z : Int, e = .returned (.tuple #[.int .i64 r, .int .i64 z]) ∧ RwP (newE 16777216 g c ys.length) (nB (20 + ys.length) + 1) r z ∧ Fr [] W w') := fun W hf => nraws_any cb ch (h.keep hf) hN
  have HE1 : Hid (Cf.err ⟨l, s, x, q⟩ = 0 ∨ Cf.err ⟨l, s, x, q⟩ = 7) := Cf.err_ways _
  have HS : Hid (Cf.err ⟨l, s, x, q⟩ = 0 → 1 ≤ s ∧ s ≤ 16) := fun h => Cf.err_zero h
  have HCw : Hid (c = 0 ∨ c = 1) := h.ways
  have HNf : Hid (newE 16777216 g c ys.length = 0 → nB (20 + ys.length) + 1 ≤ 262145) := fun h => newE_few h
  obtain ⟨P, HP⟩ : ∃ P : Int → Int → Prop, Hid (∀ r z, SaR (Cf.err ⟨l, s, x, q⟩) s c (newE 16777216 g c ys.length) (nB (20 + ys.length) + 1) r z = P r z) := ⟨_, fun _ _ => rfl⟩
  simp only [HP.out]
  generalize Cf.err ⟨l, s, x, q⟩ = E1 at H1 HE1 HS HP
  generalize newE 16777216 g c ys.length = E2 at HW HNf HP
  generalize nB (20 + ys.length) + 1 = N at HW HNf HP
  obtain ⟨w1, HW1⟩ : ∃ w1, Hid ((w.alloc (.cells #[.int .i64 l, .int .i64 s, .int .i64 x, .int .i64 q] 23)).alloc (.cells #[.int .i64 m, .slice bo Lb cb, .slice ho Lh ch] 27) = w1) := ⟨_, rfl⟩
  have HB : Hid (∀ W, Fr [] w1 W → _) := fun W hf => sv_box22 (w := w) (l := l) (s := s) (x := x) (q := q) (m := m) (bo := bo) (ho := ho) (Lb := Lb) (cb := cb) (Lh := Lh) (ch := ch) (W := W) (by rw [HW1.out]; exact hf)
  have HF0 : Hid (Fr [] w w1) := by rw [← HW1.out]; exact (Fr.alloc _ _ _).then (Fr.alloc _ _ _)
  obtain ⟨B, HBw⟩ : ∃ B, Hid (w.heap.size = B) := ⟨_, rfl⟩
  rw [HBw.out] at HB
  obtain ⟨a0, a1, a2, a3, c0, c1, c2⟩ := HB.out _ (Fr.refl _ _)
  clear h hN
  go_enter Tryz.func5, Tryz.ntmps5
  go_upto_region 1 with fail
  rw [HW1.out, HBw.out]
  clear HW1 HBw
  go_wp2_with fail
  with_reducible refine Calls.mono (H1 _) ?_
  rintro e w2 ⟨rfl, hF2⟩
  have HG2 : Hid (Fr [] w1 w2) := hF2
  clear a0 a1 a2 a3 c0 c1 c2 H1 hF2
  obtain ⟨a0, a1, a2, a3, c0, c1, c2⟩ := HB.out _ HG2.out
  rcases HE1.out with rfl | rfl
  · have n1 : ((0 : Int) != 0) = false := rfl
    obtain ⟨s0, s1⟩ := HS.out rfl
    go_wp2_with fail
    with_reducible refine Calls.mono (HC2.out _ (HF0.out.then HG2.out)) ?_
    rintro e w3 ⟨rfl, hF3⟩
    have HG3 : Hid (Fr [] w1 w3) := HG2.out.then hF3
    clear a0 a1 a2 a3 c0 c1 c2 hF3 HC2
    obtain ⟨a0, a1, a2, a3, c0, c1, c2⟩ := HB.out _ HG3.out
    by_cases hc : c = 0
    · have n2 : ((c : Int) != 0) = false := by simp [hc]
      have HC0 : Hid (c = 0) := hc
      clear hc
      go_wp2_with fail
      with_reducible refine Calls.mono (HW.out _ (HF0.out.then HG3.out)) ?_
      rintro e w4 ⟨r, z, rfl, hP, hF4⟩
      have HG4 : Hid (Fr [] w1 w4) := HG3.out.then hF4
      clear a0 a1 a2 a3 c0 c1 c2 hF4 HW
      obtain ⟨a0, a1, a2, a3, c0, c1, c2⟩ := HB.out _ HG4.out
      by_cases hE : E2 = 0
      · obtain ⟨rfl, rfl⟩ : r = (N : Int) ∧ z = 0 := by unfold RwP at hP; omega
        have hfew := HNf.out hE
        have HE : Hid (E2 = 0) := hE
        clear hE hP
        go_wp2_with fail
        with_reducible refine Calls.mono (ntotal_three 2 (2 * s) (N : Int) _ _ (by omega) (by omega) (by omega) (Fr.refl _ _)) ?_
        rintro e w5 ⟨rfl, hF5⟩
        go_wp2_with fail
        go_ret2
        exact ⟨_, _, rfl, by rw [← HP.out]; have := HE.out; have := HC0.out; unfold SaR; omega, ((HF0.out.then HG4.out).then (Fr.alloc _ _ _)).then hF5⟩
      · obtain ⟨rfl, rfl⟩ : r = 0 ∧ z = E2 := by unfold RwP at hP; omega
        have n3 : (z != 0) = true := by simp [hE]
        have HE : Hid (z ≠ 0) := hE
        clear hE hP
        go_wp2_with fail
        go_ret2
        exact ⟨_, _, rfl, by rw [← HP.out]; have := HE.out; have := HC0.out; unfold SaR; omega, HF0.out.then HG4.out⟩
    · have n2 : ((c : Int) != 0) = true := by simp; omega
      have HC0 : Hid (c = 1) := by have := HCw.out; show _ = _; omega
      have hce : (c : Int) = 1 := by have := HC0.out; omega
      clear hc
      go_wp2_with fail
      go_ret2
      exact ⟨_, _, rfl, by rw [← HP.out]; have := HC0.out; unfold SaR; omega, HF0.out.then HG3.out⟩
  · have n1 : ((7 : Int) != 0) = true := rfl
    go_wp2_with fail
    go_ret2
    exact ⟨_, _, rfl, by rw [← HP.out]; unfold SaR; omega, HF0.out.then HG2.out⟩
end Go.Proofs.YtdojhkgnnbdfkaaGreat

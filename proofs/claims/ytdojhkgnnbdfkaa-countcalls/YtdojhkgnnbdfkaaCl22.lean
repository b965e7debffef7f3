/- How many steps a call takes: the program's Call and the document's. Conditions: its kind is one of eight bits. -/
import Derived.Test.YtdojhkgnnbdfkaaTx22
import Derived.Test.YtdojhkgnnbdfkaaCy17
namespace Go.Proofs.Ytdojhkgnnbdfkaa
open Go.ChangeShapes Go.WideShapes Go.ChangeAt Go.RowKit Go.Lib
set_option linter.unusedVariables false
set_option linter.unusedSimpArgs false

/-- What a call of Call answers. -/
def ClR (a b k s r e : Int) : Prop :=
  (a ≠ 0 ∧ r = 0 ∧ e = 7) ∨ (a = 0 ∧ (b ≠ 0 ∨ k = 4) ∧ r = 0 ∧ e = 1) ∨ (a = 0 ∧ b = 0 ∧ k = 1 ∧ r = 4 ∧ e = 0) ∨ (a = 0 ∧ b = 0 ∧ k ≠ 1 ∧ k ≠ 4 ∧ r = 2 + 2 * s ∧ e = 0)
def ClP (c : Cf) (k : Int) (key en : ByteArray) (r e : Int) : Prop := ClR (Cf.err c) (ckE k key en) k c.s r e
theorem ClP.uniq {c : Cf} {k : Int} {key en : ByteArray} {r e r' e' : Int} (h : ClP c k key en r e) (h' : ClP c k key en r' e') : r = r' ∧ e = e' := by
  unfold ClP ClR at h h'
  omega
theorem Cf.err_zero {c : Cf} (h : Cf.err c = 0) : 1 ≤ c.s ∧ c.s ≤ 16 := by
  unfold Cf.err at h
  split at h
  · rename_i hm
    exact ⟨hm.2.1.1, hm.2.1.2⟩
  · cases h
theorem Cf.err_ways (c : Cf) : Cf.err c = 0 ∨ Cf.err c = 7 := by
  unfold Cf.err
  split <;> simp
theorem ckE_ways (k : Int) (key en : ByteArray) : ckE k key en = 0 ∨ ckE k key en = 1 := by
  unfold ckE
  split <;> simp
/-- A sum of two numbers that were just laid. -/
theorem ntotal_two (a b : Int) (w W : World) (ha : 0 ≤ a ∧ a ≤ 1048576) (hb : 0 ≤ b ∧ b ≤ 1048576) (hf : Fr [] (w.alloc (.cells #[.int .i64 a, .int .i64 b] 3)) W) :
    Calls Try.prog 25 #[.slice (some ⟨w.heap.size, 0, none⟩) 2 2] W fun e w' => e = .returned (.int .i64 (a + b)) ∧ Fr [] W w' := by
  have hr := hf.keep (heap_alloc_new w (.cells #[.int .i64 a, .int .i64 b] 3)) (by simp)
  refine (ntotal_any (some ⟨w.heap.size, 0, none⟩) 2 2 [a, b] W ⟨fun _ => ⟨_, 0, rfl, lt_of_block hr, fun i hi => ?_⟩, by simp⟩ rfl ?_ (by omega)).mono ?_
  · have : i = 0 ∨ i = 1 := by simp at hi; omega
    rcases this with rfl | rfl <;> (rw [cell_of_row _ _ _ _ _ _ hr]; rfl)
  · intro x hx
    simp at hx
    rcases hx with rfl | rfl <;> omega
  · rintro e w3 ⟨rfl, h3⟩
    exact ⟨by simp [sumI], h3⟩
theorem CfM.box22 {w : World} {l s x q k : Int} {key en : ByteArray} {W : World} (hf : Fr [] ((w.alloc (.cells #[.int .i64 l, .int .i64 s, .int .i64 x, .int .i64 q] 39)).alloc (.cells #[.int .u8 k, .string key, .string en] 42)) W) :
    W.cell? ⟨w.heap.size, 0, none⟩ = some (.int .i64 l) ∧ W.cell? ⟨w.heap.size, 1, none⟩ = some (.int .i64 s) ∧ W.cell? ⟨w.heap.size, 2, none⟩ = some (.int .i64 x) ∧ W.cell? ⟨w.heap.size, 3, none⟩ = some (.int .i64 q) ∧
    W.cell? ⟨w.heap.size + 1, 0, none⟩ = some (.int .u8 k) ∧ W.cell? ⟨w.heap.size + 1, 1, none⟩ = some (.string key) ∧ W.cell? ⟨w.heap.size + 1, 2, none⟩ = some (.string en) := by
  have hr := ((Fr.alloc [] (w.alloc (.cells #[.int .i64 l, .int .i64 s, .int .i64 x, .int .i64 q] 39)) (.cells #[.int .u8 k, .string key, .string en] 42)).then hf).keep (heap_alloc_new w (.cells #[.int .i64 l, .int .i64 s, .int .i64 x, .int .i64 q] 39)) (by simp)
  have hr2 := hf.keep (heap_alloc_new (w.alloc (.cells #[.int .i64 l, .int .i64 s, .int .i64 x, .int .i64 q] 39)) (.cells #[.int .u8 k, .string key, .string en] 42)) (by simp)
  rw [show (w.alloc (.cells #[.int .i64 l, .int .i64 s, .int .i64 x, .int .i64 q] 39)).heap.size = w.heap.size + 1 from by simp] at hr2
  refine ⟨?_, ?_, ?_, ?_, ?_, ?_, ?_⟩ <;> first | (rw [cell_of_row _ _ _ _ _ _ hr]; rfl) | (rw [cell_of_row _ _ _ _ _ _ hr2]; rfl)
set_option maxHeartbeats 4000000 in
set_option maxRecDepth 100000 in
theorem ncall_any (l s x q k : Int) (key en : ByteArray) (w : World) (hk : 0 ≤ k ∧ k ≤ 255) :
    Calls Try.prog 16 #[.agg #[.int .i64 l, .int .i64 s, .int .i64 x, .int .i64 q], .agg #[.int .u8 k, .string key, .string en]] w fun e w' => ∃ r c : Int, e = .returned (.tuple #[.int .i64 r, .int .i64 c]) ∧ ClP ⟨l, s, x, q⟩ k key en r c ∧ Fr [] w w' := by
  have H1 := fun w => check_cells l s x q w
  have H2 := fun w => qcheck_any k key en w hk
  have HE1 : Hid (Cf.err ⟨l, s, x, q⟩ = 0 ∨ Cf.err ⟨l, s, x, q⟩ = 7) := Cf.err_ways _
  have HE2 : Hid (ckE k key en = 0 ∨ ckE k key en = 1) := ckE_ways _ _ _
  have HS : Hid (Cf.err ⟨l, s, x, q⟩ = 0 → 1 ≤ s ∧ s ≤ 16) := fun h => Cf.err_zero h
  have HR : Hid (∀ r c : Int, ClR (Cf.err ⟨l, s, x, q⟩) (ckE k key en) k s r c → ClP ⟨l, s, x, q⟩ k key en r c) := fun r c h => h
  generalize Cf.err ⟨l, s, x, q⟩ = E1 at H1 HE1 HS HR
  generalize ckE k key en = E2 at H2 HE2 HR
  obtain ⟨w1, HW1⟩ : ∃ w1, Hid ((w.alloc (.cells #[.int .i64 l, .int .i64 s, .int .i64 x, .int .i64 q] 39)).alloc (.cells #[.int .u8 k, .string key, .string en] 42) = w1) := ⟨_, rfl⟩
  have HB : Hid (∀ W, Fr [] w1 W → _) := fun W hf => CfM.box22 (w := w) (l := l) (s := s) (x := x) (q := q) (k := k) (key := key) (en := en) (W := W) (by rw [HW1.out]; exact hf)
  have HF0 : Hid (Fr [] w w1) := by rw [← HW1.out]; exact (Fr.alloc _ _ _).then (Fr.alloc _ _ _)
  obtain ⟨B, HBw⟩ : ∃ B, Hid (w.heap.size = B) := ⟨_, rfl⟩
  rw [HBw.out] at HB
  obtain ⟨a0, a1, a2, a3, c0, c1, c2⟩ := HB.out _ (Fr.refl _ _)
  go_enter Try.func16, Try.ntmps16
  go_upto_region 1 with fail
  rw [HW1.out, HBw.out]
  clear HW1 HBw
  go_wp2_with fail
  refine (H1 _).mono ?_
  rintro e w2 ⟨rfl, hF2⟩
  have HF2 : Hid (Fr [] w w2) := HF0.out.then hF2
  have HG2 : Hid (Fr [] w1 w2) := hF2
  clear a0 a1 a2 a3 c0 c1 c2 H1 hF2
  obtain ⟨a0, a1, a2, a3, c0, c1, c2⟩ := HB.out _ HG2.out
  rcases HE1.out with rfl | rfl
  · have n1 : ((0 : Int) != 0) = false := rfl
    obtain ⟨s0, s1⟩ := HS.out rfl
    go_wp2_with fail
    refine (H2 _).mono ?_
    rintro e w3 ⟨rfl, hF3⟩
    have HF3 : Hid (Fr [] w w3) := HF2.out.then hF3
    have HG3 : Hid (Fr [] w1 w3) := HG2.out.then hF3
    clear a0 a1 a2 a3 c0 c1 c2 H2 hF3
    obtain ⟨a0, a1, a2, a3, c0, c1, c2⟩ := HB.out _ HG3.out
    rcases HE2.out with rfl | rfl
    · by_cases k4 : k = 4
      · have e4 : (k == 4) = true := by simp [k4]
        have HK : Hid (k = 4) := k4
        clear k4
        go_wp2_with fail
        go_ret2
        exact ⟨_, _, rfl, HR.out _ _ (by have h1 := HK.out; unfold ClR; omega), HF3.out⟩
      · have e4 : (k == 4) = false := by simp [k4]
        have HK : Hid (k ≠ 4) := k4
        clear k4
        by_cases k1 : k = 1
        · have e1 : (k == 1) = true := by simp [k1]
          have HK1 : Hid (k = 1) := k1
          clear k1
          go_wp2_with fail
          refine (ntotal_two 2 2 _ _ (by omega) (by omega) (Fr.refl _ _)).mono ?_
          rintro e w4 ⟨rfl, hF4⟩
          go_wp2_with fail
          go_ret2
          exact ⟨_, _, rfl, HR.out _ _ (by have h2 := HK1.out; unfold ClR; omega), (HF3.out.then (Fr.alloc _ _ _)).then hF4⟩
        · have e1 : (k == 1) = false := by simp [k1]
          have HK1 : Hid (k ≠ 1) := k1
          clear k1
          go_wp2_with fail
          refine (ntotal_two 2 (2 * s) _ _ (by omega) (by omega) (Fr.refl _ _)).mono ?_
          rintro e w4 ⟨rfl, hF4⟩
          go_wp2_with fail
          go_ret2
          exact ⟨_, _, rfl, HR.out _ _ (by have h1 := HK.out; have h2 := HK1.out; unfold ClR; omega), (HF3.out.then (Fr.alloc _ _ _)).then hF4⟩
    · have n2 : ((1 : Int) != 0) = true := rfl
      go_wp2_with fail
      go_ret2
      exact ⟨_, _, rfl, HR.out _ _ (by unfold ClR; omega), HF3.out⟩
  · have n1 : ((7 : Int) != 0) = true := rfl
    go_wp2_with fail
    go_ret2
    exact ⟨_, _, rfl, HR.out _ _ (by unfold ClR; omega), HF2.out⟩
set_option maxHeartbeats 4000000 in
set_option maxRecDepth 100000 in
theorem xncall_any (l s x q k : Int) (key en : ByteArray) (w : World) (hk : 0 ≤ k ∧ k ≤ 255) :
    Calls Try.prog 17 #[.agg #[.int .i64 l, .int .i64 s, .int .i64 x, .int .i64 q], .agg #[.int .u8 k, .string key, .string en]] w fun e w' => ∃ r c : Int, e = .returned (.tuple #[.int .i64 r, .int .i64 c]) ∧ ClP ⟨l, s, x, q⟩ k key en r c ∧ Fr [] w w' := by
  have H1 := fun w => ocheck_cells l s x q w
  have H2 := fun w => yccheck_any k key en w hk
  have HE1 : Hid (Cf.err ⟨l, s, x, q⟩ = 0 ∨ Cf.err ⟨l, s, x, q⟩ = 7) := Cf.err_ways _
  have HE2 : Hid (ckE k key en = 0 ∨ ckE k key en = 1) := ckE_ways _ _ _
  have HS : Hid (Cf.err ⟨l, s, x, q⟩ = 0 → 1 ≤ s ∧ s ≤ 16) := fun h => Cf.err_zero h
  have HR : Hid (∀ r c : Int, ClR (Cf.err ⟨l, s, x, q⟩) (ckE k key en) k s r c → ClP ⟨l, s, x, q⟩ k key en r c) := fun r c h => h
  generalize Cf.err ⟨l, s, x, q⟩ = E1 at H1 HE1 HS HR
  generalize ckE k key en = E2 at H2 HE2 HR
  obtain ⟨w1, HW1⟩ : ∃ w1, Hid ((w.alloc (.cells #[.int .i64 l, .int .i64 s, .int .i64 x, .int .i64 q] 39)).alloc (.cells #[.int .u8 k, .string key, .string en] 42) = w1) := ⟨_, rfl⟩
  have HB : Hid (∀ W, Fr [] w1 W → _) := fun W hf => CfM.box22 (w := w) (l := l) (s := s) (x := x) (q := q) (k := k) (key := key) (en := en) (W := W) (by rw [HW1.out]; exact hf)
  have HF0 : Hid (Fr [] w w1) := by rw [← HW1.out]; exact (Fr.alloc _ _ _).then (Fr.alloc _ _ _)
  obtain ⟨B, HBw⟩ : ∃ B, Hid (w.heap.size = B) := ⟨_, rfl⟩
  rw [HBw.out] at HB
  obtain ⟨a0, a1, a2, a3, c0, c1, c2⟩ := HB.out _ (Fr.refl _ _)
  go_enter Try.func17, Try.ntmps17
  go_upto_region 1 with fail
  rw [HW1.out, HBw.out]
  clear HW1 HBw
  go_wp2_with fail
  refine (H1 _).mono ?_
  rintro e w2 ⟨rfl, hF2⟩
  have HF2 : Hid (Fr [] w w2) := HF0.out.then hF2
  have HG2 : Hid (Fr [] w1 w2) := hF2
  clear a0 a1 a2 a3 c0 c1 c2 H1 hF2
  obtain ⟨a0, a1, a2, a3, c0, c1, c2⟩ := HB.out _ HG2.out
  rcases HE1.out with rfl | rfl
  · have n1 : ((0 : Int) != 0) = false := rfl
    obtain ⟨s0, s1⟩ := HS.out rfl
    go_wp2_with fail
    refine (H2 _).mono ?_
    rintro e w3 ⟨rfl, hF3⟩
    have HF3 : Hid (Fr [] w w3) := HF2.out.then hF3
    have HG3 : Hid (Fr [] w1 w3) := HG2.out.then hF3
    clear a0 a1 a2 a3 c0 c1 c2 H2 hF3
    obtain ⟨a0, a1, a2, a3, c0, c1, c2⟩ := HB.out _ HG3.out
    rcases HE2.out with rfl | rfl
    · by_cases k4 : k = 4
      · have e4 : (k == 4) = true := by simp [k4]
        have HK : Hid (k = 4) := k4
        clear k4
        go_wp2_with fail
        go_ret2
        exact ⟨_, _, rfl, HR.out _ _ (by have h1 := HK.out; unfold ClR; omega), HF3.out⟩
      · have e4 : (k == 4) = false := by simp [k4]
        have HK : Hid (k ≠ 4) := k4
        clear k4
        by_cases k1 : k = 1
        · have e1 : (k == 1) = true := by simp [k1]
          have HK1 : Hid (k = 1) := k1
          clear k1
          go_wp2_with fail
          go_ret2
          exact ⟨_, _, rfl, HR.out _ _ (by have h2 := HK1.out; unfold ClR; omega), HF3.out⟩
        · have e1 : (k == 1) = false := by simp [k1]
          have HK1 : Hid (k ≠ 1) := k1
          clear k1
          go_wp2_with fail
          go_ret2
          exact ⟨_, _, rfl, HR.out _ _ (by have h1 := HK.out; have h2 := HK1.out; unfold ClR; omega), HF3.out⟩
    · have n2 : ((1 : Int) != 0) = true := rfl
      go_wp2_with fail
      go_ret2
      exact ⟨_, _, rfl, HR.out _ _ (by unfold ClR; omega), HF3.out⟩
  · have n1 : ((7 : Int) != 0) = true := rfl
    go_wp2_with fail
    go_ret2
    exact ⟨_, _, rfl, HR.out _ _ (by unfold ClR; omega), HF2.out⟩
end Go.Proofs.Ytdojhkgnnbdfkaa

/- How many steps a transaction takes: the program's Txn and the document's; the statements' lives. No conditions. -/
import Derived.Test.YtdojhkgnnbdfkaaGreatQTn22
namespace Go.Proofs.YtdojhkgnnbdfkaaGreat.Q
open Go.ChangeShapes Go.WideShapes Go.ChangeAt Go.RowKit Go.Lib
set_option linter.unusedVariables false
set_option linter.unusedSimpArgs false

theorem okT_ways (n : Int) (ws : List Wt) : ∃ c : Nat, (okT n ws ∧ c = 0) ∨ (¬ okT n ws ∧ c = 1) := by
  by_cases h : okT n ws
  · exact ⟨0, .inl ⟨h, rfl⟩⟩
  · exact ⟨1, .inr ⟨h, rfl⟩⟩
theorem TArg.box {w : World} {n : Int} {ao : Option Addr} {L cap : Nat} {W : World} (hf : Fr [] (w.alloc (.cells #[.int .i64 n, .slice ao L cap] 54)) W) : W.cell? ⟨w.heap.size, 0, none⟩ = some (.int .i64 n) ∧ W.cell? ⟨w.heap.size, 1, none⟩ = some (.slice ao L cap) := by
  have hr := hf.keep (heap_alloc_new w (.cells #[.int .i64 n, .slice ao L cap] 54)) (by simp)
  constructor <;> (rw [cell_of_row _ _ _ _ _ _ hr]; rfl)
set_option maxHeartbeats 4000000 in
set_option maxRecDepth 100000 in
theorem ntxn_any (n : Int) (ao : Option Addr) (L cap : Nat) (ws : List Wt) (sk : Bool) (w : World) (hT : TArg w n ao L cap ws) :
    Calls Tryz.prog 22 #[.agg #[.int .i64 n, .slice ao L cap], .bool sk] w fun e w' => ∃ r c : Int, e = .returned (.tuple #[.int .i64 r, .int .i64 c]) ∧ TnP n ws sk r c ∧ Fr [] w w' := by
  obtain ⟨c, hc⟩ := okT_ways n ws
  have HQ : Hid (∀ W, Fr [] w W → Calls Tryz.prog 41 #[.agg #[.int .i64 n, .slice ao L cap]] W fun e w' => e = .returned (.int .i64 (c : Int)) ∧ Fr [] W w') := fun W hf => check_any n ao L cap c ws W (hT.keep hf).rs hT.len hT.n0 hT.n1 hc
  have HB : Hid (∀ W, Fr [] (w.alloc (.cells #[.int .i64 n, .slice ao L cap] 54)) W → W.cell? ⟨w.heap.size, 0, none⟩ = some (.int .i64 n) ∧ W.cell? ⟨w.heap.size, 1, none⟩ = some (.slice ao L cap)) := fun W hf => TArg.box hf
  have HF0 : Hid (Fr [] w (w.alloc (.cells #[.int .i64 n, .slice ao L cap] 54))) := Fr.alloc _ _ _
  obtain ⟨w1, HW1⟩ : ∃ w1, Hid (w.alloc (.cells #[.int .i64 n, .slice ao L cap] 54) = w1) := ⟨_, rfl⟩
  rw [HW1.out] at HB HF0
  obtain ⟨B, HBw⟩ : ∃ B, Hid (w.heap.size = B) := ⟨_, rfl⟩
  rw [HBw.out] at HB
  obtain ⟨a0, a1⟩ := HB.out _ (Fr.refl _ _)
  have HOf : Hid (okT n ws → ∀ W, Fr [] w W → Calls Tryz.prog 42 #[.agg #[.int .i64 n, .slice ao L cap], .bool sk] W fun e w' => e = .returned (.int .i64 (tnC ws sk : Int)) ∧ Fr [] W w') := fun hk W hf => noftxn_any n ao L cap ws sk W (hT.keep hf) hk
  have HC : Hid (_ ∨ _) := hc
  clear hT hc
  go_enter Tryz.func22, Tryz.ntmps22
  go_upto_region 1 with fail
  rw [HW1.out, HBw.out]
  clear HW1 HBw
  go_wp2_with fail
  refine (HQ.out _ HF0.out).mono ?_
  rintro e w2 ⟨rfl, hF2⟩
  have HF2 : Hid (Fr [] w w2) := HF0.out.then hF2
  obtain ⟨a0', a1'⟩ := HB.out _ hF2
  clear a0 a1 HB
  rcases HC.out with ⟨hk, rfl⟩ | ⟨hk, rfl⟩
  · have hne : ((((0 : Nat) : Int)) != 0) = false := rfl
    have HK : Hid (okT n ws) := hk
    clear hk HC
    go_wp2_with fail
    refine (HOf.out HK.out _ HF2.out).mono ?_
    rintro e w3 ⟨rfl, hF3⟩
    go_wp2_with fail
    go_ret2
    exact ⟨_, _, rfl, .inl ⟨HK.out, rfl, rfl⟩, HF2.out.then hF3⟩
  · have hne : ((((1 : Nat) : Int)) != 0) = true := rfl
    have HK : Hid (¬ okT n ws) := hk
    clear hk HC
    go_wp2_with fail
    go_ret2
    exact ⟨_, _, rfl, .inr ⟨HK.out, rfl, rfl⟩, HF2.out⟩
/-- The writes of lives. -/
def ws22 : List Wt := [⟨⟨#[97]⟩, ⟨#[51]⟩, false⟩, ⟨⟨#[98]⟩, ⟨#[]⟩, true⟩, ⟨⟨#[97]⟩, ⟨#[]⟩, false⟩]
theorem ws22_ok : okT 3 ws22 := by
  refine ⟨by decide, by decide, by decide, fun x hx => ?_⟩
  simp only [ws22, List.mem_cons, List.not_mem_nil, or_false] at hx
  rcases hx with rfl | rfl | rfl
  · exact ⟨by decide, by decide, by decide, fun h => by cases h⟩
  · exact ⟨by decide, by decide, by decide, fun h => rfl⟩
  · exact ⟨by decide, by decide, by decide, fun h => by cases h⟩
theorem ws22_dd : (dd ws22).length = 2 := by
  have k0 : ¬ Kept ws22 0 := fun h => h 2 (by decide) (by decide) rfl
  have k1 : Kept ws22 1 := fun m h1 h2 => by
    have : m = 2 := by simp [ws22] at h2; omega
    subst this
    simp [kAt, ws22]
  have k2 : Kept ws22 2 := fun m h1 h2 => by simp [ws22] at h2; omega
  show (ddTo ws22 (2 + 1)).length = 2
  rw [ddTo_yes k2, ddTo_yes k1, ddTo_no k0]
  rfl
set_option maxHeartbeats 4000000 in
set_option maxRecDepth 100000 in
theorem lives22_any (w : World) : Calls Tryz.prog 8 #[] w fun e w' => e = .returned (.bool true) ∧ Fr [] w w' := by
  obtain ⟨w1, HW1⟩ : ∃ w1, Hid (w.alloc (.cells #[.string ⟨#[97]⟩, .string ⟨#[51]⟩, .bool false, .string ⟨#[98]⟩, .string ⟨#[]⟩, .bool true, .string ⟨#[97]⟩, .string ⟨#[]⟩, .bool false] 51) = w1) := ⟨_, rfl⟩
  obtain ⟨B, HB⟩ : ∃ B, Hid (w.heap.size = B) := ⟨_, rfl⟩
  have hF1 : Fr [] w w1 := by rw [← HW1.out]; exact Fr.alloc _ _ _
  have hr1 : w1.heap[B]? = some (.cells #[.string ⟨#[97]⟩, .string ⟨#[51]⟩, .bool false, .string ⟨#[98]⟩, .string ⟨#[]⟩, .bool true, .string ⟨#[97]⟩, .string ⟨#[]⟩, .bool false] 51 (0, 0)) := by rw [← HW1.out, ← HB.out]; exact heap_alloc_new w _
  have HB2 : Hid (∀ W, Fr [] (w1.alloc (.cells #[.int .i64 3, .slice (some ⟨B, 0, none⟩) 3 3] 54)) W → W.cell? ⟨w1.heap.size, 0, none⟩ = some (.int .i64 3) ∧ W.cell? ⟨w1.heap.size, 1, none⟩ = some (.slice (some ⟨B, 0, none⟩) 3 3)) := fun W hf => TArg.box hf
  have HT : Hid (∀ W, Fr [] w1 W → TArg W 3 (some ⟨B, 0, none⟩) 3 3 ws22) := fun W hf => ⟨WRs.of_row (ws := ws22) (rest := []) (hf.keep hr1 (by simp)) (by decide) (by decide), rfl, by decide, by decide⟩
  have HF2 : Hid (Fr [] w1 (w1.alloc (.cells #[.int .i64 3, .slice (some ⟨B, 0, none⟩) 3 3] 54))) := Fr.alloc _ _ _
  obtain ⟨w2, HW2⟩ : ∃ w2, Hid (w1.alloc (.cells #[.int .i64 3, .slice (some ⟨B, 0, none⟩) 3 3] 54) = w2) := ⟨_, rfl⟩
  obtain ⟨C, HC⟩ : ∃ C, Hid (B + 1 = C) := ⟨_, rfl⟩
  have HC1 : Hid (w1.heap.size = C) := by show _ = _; rw [← HC.out, ← HW1.out, ← HB.out]; simp
  rw [HW2.out] at HB2 HF2
  rw [HC1.out] at HB2
  have HF1 : Hid (Fr [] w w1) := hF1
  obtain ⟨a0, a1⟩ := HB2.out _ (Fr.refl _ _)
  clear hF1 hr1
  go_enter Tryz.func8, Tryz.ntmps8
  go_upto_region 2 with fail
  rw [HW1.out, HB.out, HW2.out, HC.out]
  clear HW1 HB HW2 HC
  go_wp2_with fail
  refine (ntxn_any 3 _ 3 3 ws22 false _ (HT.out _ HF2.out)).mono ?_
  rintro e w3 ⟨r, c, rfl, hP, hF3⟩
  obtain ⟨rfl, rfl⟩ := hP.uniq (.inl ⟨ws22_ok, rfl, rfl⟩)
  have e9 : ((tnC ws22 false : Nat) : Int) = 9 := by show ((5 + 2 * (dd ws22).length : Nat) : Int) = 9; rw [ws22_dd]; rfl
  rw [e9]
  clear a0 a1 hP e9
  obtain ⟨a0, a1⟩ := HB2.out _ hF3
  go_wp2_with fail
  refine (ntxn_any 3 _ 3 3 ws22 true _ (HT.out _ (HF2.out.then hF3))).mono ?_
  rintro e w4 ⟨r, c, rfl, hP, hF4⟩
  obtain ⟨rfl, rfl⟩ := hP.uniq (.inl ⟨ws22_ok, rfl, rfl⟩)
  have e2 : ((tnC ws22 true : Nat) : Int) = 2 := rfl
  rw [e2]
  clear a0 a1 hP e2
  go_wp2_with fail
  go_ret
  exact ⟨rfl, (HF1.out.then (HF2.out.then hF3)).then hF4⟩
end Go.Proofs.YtdojhkgnnbdfkaaGreat.Q

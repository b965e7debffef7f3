/- The document's feed that is not there, and a feed that is not there on both sides. No conditions. -/
import Derived.Test.YtibgdfjfhjckoaaAs16
import Derived.Test.YtibgdfjfhjckoaaFd16
namespace Go.Proofs.Ytibgdfjfhjckoaa
open Go.ChangeShapes Go.WideShapes Go.ChangeAt Go.RowKit Go.Lib Go.Maps
set_option linter.unusedVariables false
set_option linter.unusedSimpArgs false

set_option maxHeartbeats 2000000 in
theorem yfMore_nil (w : World) (x : Int) : Calls Try.prog 29 #[.pointer none, .int .i64 x] w fun e w' => e = .returned (.int .i64 2) ∧ w = w' := by
  go_enter Try.func29, Try.ntmps29
  go_wp2
  go_ret
  exact ⟨rfl, rfl⟩
set_option maxHeartbeats 2000000 in
theorem yfCan_nil (w : World) (x : Int) : Calls Try.prog 30 #[.pointer none, .int .i64 x] w fun e w' => e = .returned (.int .u8 0) ∧ w = w' := by
  go_enter Try.func30, Try.ntmps30
  go_wp2
  go_ret
  exact ⟨rfl, rfl⟩
set_option maxHeartbeats 2000000 in
theorem yfRead_nil (w : World) : Calls Try.prog 31 #[.pointer none] w fun e w' => e = .returned (.tuple #[.int .i64 0, .int .i64 2]) ∧ w = w' := by
  go_enter Try.func31, Try.ntmps31
  go_wp2
  go_ret2
  exact ⟨rfl, rfl⟩
set_option maxHeartbeats 2000000 in
theorem yfSkip_nil (w : World) : Calls Try.prog 32 #[.pointer none] w fun e w' => e = .returned (.tuple #[.int .i64 0, .int .i64 2]) ∧ w = w' := by
  go_enter Try.func32, Try.ntmps32
  go_wp2
  go_ret2
  exact ⟨rfl, rfl⟩
set_option maxHeartbeats 2000000 in
theorem yfHeld_nil (w : World) : Calls Try.prog 10 #[.pointer none] w fun e w' => e = .returned (.int .i64 0) ∧ w = w' := by
  go_enter Try.func10, Try.ntmps10
  go_wp2
  go_ret
  exact ⟨rfl, rfl⟩
set_option maxHeartbeats 2000000 in
theorem yfFed_nil (w : World) : Calls Try.prog 12 #[.pointer none] w fun e w' => e = .returned (.int .i64 0) ∧ w = w' := by
  go_enter Try.func12, Try.ntmps12
  go_wp2
  go_ret
  exact ⟨rfl, rfl⟩
set_option maxHeartbeats 2000000 in
theorem yfClose_nil (w : World) : Calls Try.prog 34 #[.pointer none] w fun e w' => (∃ u, e = .returned u) ∧ w = w' := by
  go_enter Try.func34, Try.ntmps34
  go_wp2
  go_end0
  exact ⟨⟨_, rfl⟩, rfl⟩
set_option maxHeartbeats 2000000 in
set_option maxRecDepth 100000 in
theorem yfDis_nil (w : World) (x : Int) : Calls Try.prog 33 #[.pointer none, .int .i64 x] w fun e w' => e = .returned (.tuple #[.agg #[.int .i64 0, .slice none 0 0], .int .i64 2]) ∧ Fr [] w w' := by
  have hF0 : Fr [] w (w.alloc (.cells #[.int .i64 0, .slice none 0 0] 42)) := Fr.alloc _ _ _
  have hB : B2 (w.alloc (.cells #[.int .i64 0, .slice none 0 0] 42)) w.heap.size (.int .i64 0) (.slice none 0 0) := ⟨heap_alloc_new _ _⟩
  obtain ⟨s0, s1, s2, s3⟩ : _ ∧ _ ∧ _ ∧ _ := ⟨hB.c0, hB.c1, hB.f0, hB.f1⟩
  have hF1 := hF0.on (Fr.box2 (w.alloc (.cells #[.int .i64 0, .slice none 0 0] 42)) w.heap.size (.int .i64 0) (.slice none 0 0)) (by simp)
  obtain ⟨W, HW⟩ : ∃ W, Hid (w.alloc (.cells #[.int .i64 0, .slice none 0 0] 42) = W) := ⟨_, rfl⟩
  rw [HW.out] at s0 s1 s2 s3 hF1
  have HF : Hid (Fr [] w ((W.setCell ⟨w.heap.size, 0, none⟩ (.int .i64 0)).setCell ⟨w.heap.size, 1, none⟩ (.slice none 0 0))) := hF1
  clear hF0 hB hF1
  go_enter Try.func33, Try.ntmps33
  go_upto_region 1 with fail
  rw [HW.out]
  clear HW
  go_wp2
  refine bodyPost_ret (v := .tuple #[.agg #[.int .i64 0, .slice none 0 0], .int .i64 2]) (by rw [results_cell_tmp rfl]; go_simp) rfl ⟨rfl, HF.out⟩
/-- Neither is there. -/
theorem asks_none (p : Value) (b : Nat) : Asks p (.pointer none) b (fun _ w => NoF p w) where
  keep := fun n w w' h hf => h.keep hf
  more := fun n w x h => by
    refine Calls.mono (fMore_no h x) ?_
    rintro e w1 ⟨he, rfl⟩
    refine ⟨2, he, FrO.refl _ _, fun w2 hf => Calls.mono (yfMore_nil w2 x) ?_⟩
    rintro e w3 ⟨he, rfl⟩
    exact ⟨he, FrO.refl _ _, h.keep hf⟩
  can := fun n w x h => by
    refine Calls.mono (fCan_no h x) ?_
    rintro e w1 ⟨he, rfl⟩
    refine ⟨0, he, FrO.refl _ _, fun w2 hf => Calls.mono (yfCan_nil w2 x) ?_⟩
    rintro e w3 ⟨he, rfl⟩
    exact ⟨he, FrO.refl _ _, h.keep hf⟩
  read := fun n w h _ => by
    refine Calls.mono (fRead_no h) ?_
    rintro e w1 ⟨he, rfl⟩
    refine ⟨0, 2, he, FrO.refl _ _, fun w2 hf => Calls.mono (yfRead_nil w2) ?_⟩
    rintro e w3 ⟨he, rfl⟩
    exact ⟨he, FrO.refl _ _, h.keep hf⟩
  skip := fun n w h => by
    refine Calls.mono (fSkip_no h) ?_
    rintro e w1 ⟨he, rfl⟩
    refine ⟨0, 2, he, FrO.refl _ _, fun w2 hf => Calls.mono (yfSkip_nil w2) ?_⟩
    rintro e w3 ⟨he, rfl⟩
    exact ⟨he, FrO.refl _ _, h.keep hf⟩
  dis := fun n w x h => by
    refine Calls.mono (fDis_no h x) ?_
    rintro e w1 ⟨he, hF1⟩
    refine ⟨0, 2, none, 0, 0, [], he, .of hF1, rfl, fun w2 hf => Calls.mono (yfDis_nil w2 x) ?_⟩
    rintro e w3 ⟨he, hF3⟩
    exact ⟨none, 0, he, .of hF3, ⟨WRs.nil _ _, WRs.nil _ _⟩, (h.keep hF1).keep (hf.then hF3)⟩
  close := fun n w h => by
    refine Calls.mono (fClose_no h) ?_
    rintro e w1 ⟨he, rfl⟩
    refine ⟨he, FrO.refl _ _, fun w2 hf => Calls.mono (yfClose_nil w2) ?_⟩
    rintro e w3 ⟨he, rfl⟩
    exact ⟨he, FrO.refl _ _, h.keep hf⟩
  held := fun n w h => by
    refine Calls.mono (fHeld_no h) ?_
    rintro e w1 ⟨he, rfl⟩
    exact ⟨0, he, rfl, yfHeld_nil w⟩
  fed := fun n w h => by
    refine Calls.mono (fFed_no h) ?_
    rintro e w1 ⟨he, rfl⟩
    exact ⟨0, he, rfl, yfFed_nil w⟩
end Go.Proofs.Ytibgdfjfhjckoaa

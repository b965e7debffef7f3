/- The walk of the law ConfTasks. Conditions: the array of names lies as its variable lays it. -/
import Derived.Test.YtddlmgedemcgmaaDoorNa13
namespace Go.Proofs.YtddlmgedemcgmaaDoor
open Go.ChangeShapes Go.WideShapes Go.ChangeAt Go.RowKit Go.Lib
set_option linter.unusedVariables false
set_option linter.unusedSimpArgs false

set_option maxHeartbeats 4000000 in
set_option maxRecDepth 100000 in
theorem conft (l s x q t : Int) (w : World) (hok : Cf.ok ⟨l, s, x, q⟩) (ht : I6 t) (hT : Nms w) :
    Calls Tryd.prog 3 #[.agg #[.int .i64 l, .int .i64 s, .int .i64 x, .int .i64 q], .int .i64 t] w fun e w' => e = .returned (.bool true) ∧ Fr [] w w' := by
  have HM : Hid (∀ W, Fr [] (w.alloc (.cells #[.int .i64 l, .int .i64 s, .int .i64 x, .int .i64 q] 23)) W → CfM W w.heap.size l s x q) := fun W hf => (CfM.new w l s x q 23).keep hf
  have HT : Hid (∀ W, Fr [] w W → Nms W) := fun W hf => hT.keep hf (by simp)
  have H1 := fun w => tasks_any l s x q w
  have H2 := fun w => otasks_any l s x q w
  obtain ⟨nm, k, e, hN⟩ := NaT.ex l s x q t
  have H3 := fun w (h : Nms w) => name_any l s x q t nm k e w h ht hN
  have H4 := fun w => oname_any l s x q t nm k e w ht hN
  generalize (Cf.tasks ⟨l, s, x, q⟩).1 = n at H1 H2
  generalize (Cf.tasks ⟨l, s, x, q⟩).2 = e1 at H1 H2
  clear hok ht hN hT
  go_enter Tryd.func3, Tryd.ntmps3
  go_wp2_with fail
  refine (H1 _).mono ?_
  rintro e' w1 ⟨rfl, hF1⟩
  have HF1 : Hid (Fr [] (w.alloc (.cells #[.int .i64 l, .int .i64 s, .int .i64 x, .int .i64 q] 23)) w1) := hF1
  clear hF1 H1
  obtain ⟨_, a0, a1, a2, a3⟩ := HM.out w1 HF1.out
  go_wp2_with fail
  refine (H2 _).mono ?_
  rintro e' w2 ⟨rfl, hF2⟩
  have HF2 : Hid (Fr [] (w.alloc (.cells #[.int .i64 l, .int .i64 s, .int .i64 x, .int .i64 q] 23)) w2) := HF1.out.then hF2
  clear hF2 H2 HF1 a0 a1 a2 a3
  obtain ⟨_, a0, a1, a2, a3⟩ := HM.out w2 HF2.out
  go_wp2_with fail
  refine (H3 _ (HT.out _ ((Fr.alloc _ _ _).then HF2.out))).mono ?_
  rintro e' w3 ⟨rfl, hF3⟩
  have HF3 : Hid (Fr [] (w.alloc (.cells #[.int .i64 l, .int .i64 s, .int .i64 x, .int .i64 q] 23)) w3) := HF2.out.then hF3
  clear hF3 H3 HF2 a0 a1 a2 a3
  obtain ⟨_, a0, a1, a2, a3⟩ := HM.out w3 HF3.out
  go_wp2_with fail
  refine (H4 _).mono ?_
  rintro e' w4 ⟨rfl, hF4⟩
  have HF4 : Hid (Fr [] (w.alloc (.cells #[.int .i64 l, .int .i64 s, .int .i64 x, .int .i64 q] 23)) w4) := HF3.out.then hF4
  clear hF4 H4 HF3 a0 a1 a2 a3
  go_wp2_with fail
  go_ret
  exact ⟨rfl, (Fr.alloc _ _ _).then HF4.out⟩
end Go.Proofs.YtddlmgedemcgmaaDoor

/- The statements' own helper alive. Conditions: the array of names lies as its variable lays it. -/
import Derived.Test.YtddlmgedemcgmaaDoorNa13
namespace Go.Proofs.YtddlmgedemcgmaaDoor
open Go.ChangeShapes Go.WideShapes Go.ChangeAt Go.RowKit Go.Lib
set_option linter.unusedVariables false
set_option linter.unusedSimpArgs false

theorem may2341 : Cf.may ⟨2, 3, 4, 1⟩ := by unfold Cf.may; decide
theorem may0 : ¬ Cf.may ⟨0, 0, 0, 0⟩ := by unfold Cf.may; decide
theorem foobar : strNs ⟨#[102, 111, 111, 98, 97, 114]⟩ = [102, 111, 111, 98, 97, 114] := rfl
theorem sh2341 : Cf.shard ⟨2, 3, 4, 1⟩ ⟨#[102, 111, 111, 98, 97, 114]⟩ = (1, 0) := by
  have h : (1 ≤ (⟨#[102, 111, 111, 98, 97, 114]⟩ : ByteArray).size ∧ (⟨#[102, 111, 111, 98, 97, 114]⟩ : ByteArray).size ≤ 64) := by decide
  unfold Cf.shard
  rw [if_neg (by simpa using may2341), if_neg (by simpa using h)]
  simp only [shN13, foobar, alive_hash]
  rfl
set_option maxHeartbeats 8000000 in
set_option maxRecDepth 100000 in
theorem alive13_any (w : World) (hT : Nms w) : Calls Tryd.prog 10 #[] w fun e w' => e = .returned (.bool true) ∧ Fr [] w w' := by
  have HT : Hid (∀ W, Fr [] w W → Nms W) := fun W hf => hT.keep hf (by simp)
  have H1 : ∀ w, Calls Tryd.prog 6 #[.agg #[.int .i64 2, .int .i64 3, .int .i64 4, .int .i64 1]] w fun e w' => e = .returned (.tuple #[.int .i64 7, .int .i64 0]) ∧ Fr [] w w' := fun w => by
    have h := tasks_any 2 3 4 1 w
    rw [show Cf.tasks ⟨2, 3, 4, 1⟩ = (7, 0) from if_pos may2341] at h
    exact h
  have H2 : ∀ w, Nms w → Calls Tryd.prog 8 #[.agg #[.int .i64 2, .int .i64 3, .int .i64 4, .int .i64 1], .int .i64 5] w fun e w' => e = .returned (.tuple #[.string nOwn, .int .i64 2, .int .i64 0]) ∧ Fr [] w w' := fun w h =>
    name_any 2 3 4 1 5 nOwn 2 0 w h ⟨by omega, by omega⟩ (Or.inr (Or.inr ⟨may2341, by omega, rfl, 2, Or.inr (Or.inr (Or.inr (Or.inl ⟨by omega, by omega, rfl, by omega⟩))), rfl⟩))
  have H3 : ∀ w, Calls Tryd.prog 13 #[.agg #[.int .i64 2, .int .i64 3, .int .i64 4, .int .i64 1], .string ⟨#[102, 111, 111, 98, 97, 114]⟩] w fun e w' => e = .returned (.tuple #[.int .i64 1, .int .i64 0]) ∧ Fr [] w w' := fun w => by
    have h := shard_any 2 3 4 1 ⟨#[102, 111, 111, 98, 97, 114]⟩ w (by decide)
    rw [sh2341] at h
    exact h
  have H4 : ∀ w, Calls Tryd.prog 11 #[.agg #[.int .i64 2, .int .i64 3, .int .i64 4, .int .i64 1]] w fun e w' => e = .returned (.int .i64 0) ∧ Fr [] w w' := fun w => by
    have h := check_cells 2 3 4 1 w
    rw [show Cf.err ⟨2, 3, 4, 1⟩ = 0 from if_pos may2341] at h
    exact h
  have H5 : ∀ w, Calls Tryd.prog 11 #[.agg #[.int .i64 0, .int .i64 0, .int .i64 0, .int .i64 0]] w fun e w' => e = .returned (.int .i64 7) ∧ Fr [] w w' := fun w => by
    have h := check_cells 0 0 0 0 w
    rw [show Cf.err ⟨0, 0, 0, 0⟩ = 7 from if_neg may0] at h
    exact h
  have HM : Hid (∀ W, Fr [] (w.alloc (.cells #[.int .i64 2, .int .i64 3, .int .i64 4, .int .i64 1] 23)) W → CfM W w.heap.size 2 3 4 1) := fun W hf => (CfM.new w 2 3 4 1 23).keep hf
  clear hT
  go_enter Tryd.func10, Tryd.ntmps10
  go_wp2_with fail
  refine (H1 _).mono ?_
  rintro e' w1 ⟨rfl, hF1⟩
  have HF1 : Hid (Fr [] (w.alloc (.cells #[.int .i64 2, .int .i64 3, .int .i64 4, .int .i64 1] 23)) w1) := hF1
  clear hF1 H1
  obtain ⟨_, a0, a1, a2, a3⟩ := HM.out w1 HF1.out
  go_wp2_with fail
  refine (H2 _ (HT.out _ ((Fr.alloc _ _ _).then HF1.out))).mono ?_
  rintro e' w2 ⟨rfl, hF2⟩
  have HF2 : Hid (Fr [] (w.alloc (.cells #[.int .i64 2, .int .i64 3, .int .i64 4, .int .i64 1] 23)) w2) := HF1.out.then hF2
  clear hF2 H2 HF1 a0 a1 a2 a3
  obtain ⟨_, a0, a1, a2, a3⟩ := HM.out w2 HF2.out
  go_wp2_with fail
  refine (H3 _).mono ?_
  rintro e' w3 ⟨rfl, hF3⟩
  have HF3 : Hid (Fr [] (w.alloc (.cells #[.int .i64 2, .int .i64 3, .int .i64 4, .int .i64 1] 23)) w3) := HF2.out.then hF3
  clear hF3 H3 HF2 a0 a1 a2 a3
  obtain ⟨_, a0, a1, a2, a3⟩ := HM.out w3 HF3.out
  go_wp2_with fail
  refine (H4 _).mono ?_
  rintro e' w4 ⟨rfl, hF4⟩
  have HF4 : Hid (Fr [] (w.alloc (.cells #[.int .i64 2, .int .i64 3, .int .i64 4, .int .i64 1] 23)) w4) := HF3.out.then hF4
  clear hF4 H4 HF3 a0 a1 a2 a3
  go_wp2_with fail
  refine (H5 _).mono ?_
  rintro e' w5 ⟨rfl, hF5⟩
  have HF5 : Hid (Fr [] (w.alloc (.cells #[.int .i64 2, .int .i64 3, .int .i64 4, .int .i64 1] 23)) w5) := HF4.out.then hF5
  clear hF5 H5 HF4
  have ho : nOwn.toList = [111, 119, 110, 101, 114] := by decide +kernel
  go_wp2_with fail
  go_ret
  exact ⟨rfl, (Fr.alloc _ _ _).then HF5.out⟩
end Go.Proofs.YtddlmgedemcgmaaDoor

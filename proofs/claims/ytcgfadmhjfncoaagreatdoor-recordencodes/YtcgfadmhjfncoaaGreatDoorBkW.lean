/- What the Book does with its one list of writes: told of it, written over, grown, looked at. Conditions: the list lies in a block of its own; fewer than 2^21 writes; its number is 1. -/
import Derived.Test.YtcgfadmhjfncoaaGreatDoorBkLook
namespace Go.Proofs.YtcgfadmhjfncoaaGreatDoor
open Go.ChangeShapes Go.WideShapes Go.ChangeAt Go.RowKit Go.Lib
set_option linter.unusedVariables false
set_option linter.unusedSimpArgs false
variable {m : Nat} {wv : Value}

/-- The mark of the list's writes. -/
def mkS : ByteArray := ⟨#[35, 49]⟩
def mkW : Wt := ⟨mkS, ⟨#[]⟩, false⟩
theorem small_1 (w : World) : Calls Tryz.prog 97 #[.int .i64 1] w fun e w' => e = .returned (.string ⟨#[49]⟩) ∧ w = w' := by
  go_enter Tryz.func97, Tryz.ntmps97
  go_wp2
  go_ret
  exact ⟨rfl, rfl⟩
theorem format_1 (w : World) : Calls Tryz.prog 96 #[.int .i64 1, .int .i64 10] w fun e w' => e = .returned (.string ⟨#[49]⟩) ∧ w = w' := by
  go_enter Tryz.func96, Tryz.ntmps96
  go_wp2_with fail
  refine (small_1 _).mono ?_
  rintro e w1 ⟨rfl, rfl⟩
  go_wp2
  go_ret
  exact ⟨rfl, rfl⟩
theorem iitoa_1 (w : World) : Calls Tryz.prog 95 #[.int .i64 1] w fun e w' => e = .returned (.string ⟨#[49]⟩) ∧ w = w' := by
  go_enter Tryz.func95, Tryz.ntmps95
  go_wp2_with fail
  refine (format_1 _).mono ?_
  rintro e w1 ⟨rfl, rfl⟩
  go_wp2
  go_ret
  exact ⟨rfl, rfl⟩
theorem itoa_1 (w : World) : Calls Tryz.prog 94 #[.int .i64 1] w fun e w' => e = .returned (.string ⟨#[49]⟩) ∧ w = w' := by
  go_enter Tryz.func94, Tryz.ntmps94
  go_wp2_with fail
  refine (iitoa_1 _).mono ?_
  rintro e w1 ⟨rfl, rfl⟩
  go_wp2
  go_ret
  exact ⟨rfl, rfl⟩
theorem word_1 (w : World) : Calls Tryz.prog 93 #[.int .i64 1] w fun e w' => e = .returned (.string ⟨#[35, 49]⟩) ∧ w = w' := by
  go_enter Tryz.func93, Tryz.ntmps93
  go_wp2_with fail
  refine (itoa_1 _).mono ?_
  rintro e w1 ⟨rfl, rfl⟩
  go_wp2
  go_ret
  exact ⟨rfl, rfl⟩
set_option maxHeartbeats 1000000 in
theorem markWrite_1 (w : World) : Calls Tryz.prog 73 #[.int .i64 1] w fun e w' => e = .returned (.agg #[.string ⟨#[35, 49]⟩, .string ⟨#[]⟩, .bool false]) ∧ Fr [] w w' := by
  go_enter Tryz.func73, Tryz.ntmps73
  go_wp2_with fail
  refine (word_1 _).mono ?_
  rintro e w1 ⟨rfl, rfl⟩
  go_wp2
  refine bodyPost_ret (v := (.agg #[.string ⟨#[35, 49]⟩, .string ⟨#[]⟩, .bool false])) (by rw [results_c1 rfl]; go_simp) rfl ⟨rfl, ?_⟩
  exact Fr.alloc [] w _
theorem word_q (w : World) : Calls Tryz.prog 93 #[.int .i64 1] w fun e w' => e = .returned (.string ⟨#[35, 49]⟩) ∧ w' = w := (word_1 w).mono fun _ _ ⟨a, b⟩ => ⟨a, b.symm⟩
set_option maxHeartbeats 1000000 in
theorem isWrite_1 (w : World) : Calls Tryz.prog 84 #[.agg #[.string ⟨#[35, 49]⟩, .string ⟨#[]⟩, .bool false], .int .i64 1] w fun e w' => e = .returned (.bool true) ∧ Fr [] w w' := by
  have hgd := Tryz.guardWt
  have hq : ∀ w', (Op.equalIn 10000 63 (.agg #[.string ⟨#[35, 49]⟩, .string ⟨#[]⟩, .bool false]) (.agg #[.string ⟨#[35, 49]⟩, .string ⟨#[]⟩, .bool false])).run Tryz.prog w' = .ok true w' := fun w' => by
    have := wt_in w' mkW mkW
    rw [(sameW_iff mkW mkW).2 rfl] at this
    exact this
  obtain ⟨w0, HW0⟩ : ∃ w0, Hid (w.alloc (.cells #[.string ⟨#[35, 49]⟩, .string ⟨#[]⟩, .bool false] 63) = w0) := ⟨_, rfl⟩
  have hb0 : w0.heap[w.heap.size]? = some (.cells #[.string ⟨#[35, 49]⟩, .string ⟨#[]⟩, .bool false] 63 (0, 0)) := by rw [← HW0.out]; exact heap_alloc_new w _
  have c0 : w0.cell? ⟨w.heap.size, 0, none⟩ = some (.string ⟨#[35, 49]⟩) := by rw [cell_of_row _ _ _ _ _ _ hb0]; rfl
  have c1 : w0.cell? ⟨w.heap.size, 1, none⟩ = some (.string ⟨#[]⟩) := by rw [cell_of_row _ _ _ _ _ _ hb0]; rfl
  have c2 : w0.cell? ⟨w.heap.size, 2, none⟩ = some (.bool false) := by rw [cell_of_row _ _ _ _ _ _ hb0]; rfl
  have hF0 : Fr [] w w0 := by rw [← HW0.out]; exact Fr.alloc [] _ _
  go_enter Tryz.func84, Tryz.ntmps84
  go_upto_region 1 with fail
  rw [HW0.out]
  go_quiet ((go_at_call 93; exact Calls.quiet_of_same (word_q _)))
  go_wp2
  go_ret
  exact ⟨by simp, hF0.then (Fr.drewN [] _ _)⟩
end Go.Proofs.YtcgfadmhjfncoaaGreatDoor

/- The Book's mark of a version, and its test of one. Conditions: numbers below 2^27. -/
import Derived.Test.YtpdkdgmaofhlkaaGreatDoorBct
import Derived.Test.YtpdkdgmaofhlkaaGreatDoorBq4
import Derived.Test.YtpdkdgmaofhlkaaGreatDoorVm
namespace Go.Proofs.YtpdkdgmaofhlkaaGreatDoor.Bq
open BigFrame Go.ChangeShapes Go.WideShapes Go.ChangeAt Go.RowKit Go.Lib
set_option linter.unusedVariables false

abbrev kVersion : Kd := { tH := 132, tE := 134, S := 3, mark := fun n => [.int .i64 (mInt n), .string ⟨#[]⟩, .bool false], col := 6, pos := by decide, len := fun _ => rfl, hE := by decide, hB := by decide, eB := by decide }
set_option maxHeartbeats 1000000 in
theorem markVersion_at (n : Nat) (B : Int) (w : World) (hn : n < 134217728) (hB : mInt n = B) : Calls Tryz.prog 84 #[.int .i64 (n : Int)] w fun e w' => e = .returned (.agg #[.int .i64 B, .string ⟨#[]⟩, .bool false]) ∧ Fr [] w w' := by
  have HM : Hid (-1000 - (n : Int) = B) := hB
  clear hB
  go_enter Tryz.func84, Tryz.ntmps84
  go_wp2
  refine bodyPost_ret (v := (.agg #[.int .i64 B, .string ⟨#[]⟩, .bool false])) (by rw [res_c1 rfl, ← HM.out]; go_simp) rfl ⟨rfl, ?_⟩
  exact Fr.alloc [] w _
set_option maxHeartbeats 1000000 in
theorem isVersion_at (n : Nat) (B : Int) (w : World) (hn : n < 134217728) (hB : mInt n = B) : Calls Tryz.prog 95 #[.agg #[.int .i64 B, .string ⟨#[]⟩, .bool false], .int .i64 (n : Int)] w fun e w' => e = .returned (.bool true) ∧ Fr [] w w' := by
  subst hB
  unfold mInt
  have hgd := Tryz.guardVn
  have hq : ∀ w', (Op.equalIn 10000 134 (.agg #[.int .i64 (-1000 - (n : Int)), .string ⟨#[]⟩, .bool false]) (.agg #[.int .i64 (-1000 - (n : Int)), .string ⟨#[]⟩, .bool false])).run Tryz.prog w' = .ok true w' := fun w' => by
    have := vn_in w' ⟨-1000 - (n : Int), ⟨#[]⟩, false⟩ ⟨-1000 - (n : Int), ⟨#[]⟩, false⟩
    rw [(sameV_iff _ _).2 rfl] at this
    exact this
  go_enter Tryz.func95, Tryz.ntmps95
  go_wp2
  go_ret
  exact ⟨by simp, Fr.alloc _ _ _⟩
end Go.Proofs.YtpdkdgmaofhlkaaGreatDoor.Bq

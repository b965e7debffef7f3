/- The Book's mark of a version, and its test of one. Conditions: numbers below 2^22. -/
import Derived.Test.YtleklocdejldnaaDoorBct
import Derived.Test.YtleklocdejldnaaDoorBq4
import Derived.Test.YtleklocdejldnaaDoorVm
namespace Go.Proofs.YtleklocdejldnaaDoor.Bq
open BigFrame Go.ChangeShapes Go.WideShapes Go.ChangeAt Go.RowKit Go.Lib
set_option linter.unusedVariables false

abbrev kVersion : Kd := { tH := 98, tE := 100, S := 3, mark := fun n => [.int .i64 (mInt n), .string ⟨#[]⟩, .bool false], col := 6, pos := by decide, len := fun _ => rfl, hE := by decide, hB := by decide, eB := by decide }
set_option maxHeartbeats 1000000 in
theorem markVersion_at (n : Nat) (B : Int) (w : World) (hn : n < 4194304) (hB : mInt n = B) : Calls Tryd.prog 70 #[.int .i64 (n : Int)] w fun e w' => e = .returned (.agg #[.int .i64 B, .string ⟨#[]⟩, .bool false]) ∧ Fr [] w w' := by
  have HM : Hid (-1000 - (n : Int) = B) := hB
  clear hB
  go_enter Tryd.func70, Tryd.ntmps70
  go_wp2
  refine bodyPost_ret (v := (.agg #[.int .i64 B, .string ⟨#[]⟩, .bool false])) (by rw [res_c1 rfl, ← HM.out]; go_simp) rfl ⟨rfl, ?_⟩
  exact Fr.alloc [] w _
set_option maxHeartbeats 1000000 in
theorem isVersion_at (n : Nat) (B : Int) (w : World) (hn : n < 4194304) (hB : mInt n = B) : Calls Tryd.prog 81 #[.agg #[.int .i64 B, .string ⟨#[]⟩, .bool false], .int .i64 (n : Int)] w fun e w' => e = .returned (.bool true) ∧ Fr [] w w' := by
  subst hB
  unfold mInt
  have hgd := Tryd.guardVn
  have hq : ∀ w', (Op.equalIn 10000 100 (.agg #[.int .i64 (-1000 - (n : Int)), .string ⟨#[]⟩, .bool false]) (.agg #[.int .i64 (-1000 - (n : Int)), .string ⟨#[]⟩, .bool false])).run Tryd.prog w' = .ok true w' := fun w' => by
    have := vn_in w' ⟨-1000 - (n : Int), ⟨#[]⟩, false⟩ ⟨-1000 - (n : Int), ⟨#[]⟩, false⟩
    rw [(sameV_iff _ _).2 rfl] at this
    exact this
  go_enter Tryd.func81, Tryd.ntmps81
  go_wp2
  go_ret
  exact ⟨by simp, Fr.alloc _ _ _⟩
end Go.Proofs.YtleklocdejldnaaDoor.Bq

/- What Fit answers, kind by kind: the number and true where it lies within the other kind, 0 and false where not. Condition: the number lies within its own kind. -/
import Derived.Test.YtbfpcpagiiamoabWalks
namespace Go.Proofs.Ytbfpcpagiiamoab
open Go.ChangeShapes Go.WideShapes Go.ChangeAt Go.RowKit
set_option linter.unusedVariables false

theorem fit6_yes (x : Int) (w : World) (l0 : -9223372036854775808 ≤ x) (l1 : x ≤ 9223372036854775807) (m0 : -128 ≤ x) (m1 : x ≤ 127) :
    Calls Try.prog 6 #[.int .i64 x] w fun e w' => e = .returned (.tuple #[.int .i8 x, .bool true]) ∧ w' = w := by
  by_cases s : x < 0
  · go_enter Try.func6, Try.ntmps6
    go_wp2
    go_ret2
    exact ⟨rfl, rfl⟩
  · go_enter Try.func6, Try.ntmps6
    go_wp2
    go_ret2
    exact ⟨rfl, rfl⟩

theorem fit6_no (x : Int) (w : World) (l0 : -9223372036854775808 ≤ x) (l1 : x ≤ 9223372036854775807) (m : x < -128 ∨ 127 < x) :
    Calls Try.prog 6 #[.int .i64 x] w fun e w' => e = .returned (.tuple #[.int .i8 0, .bool false]) ∧ w' = w := by
  obtain ⟨y, hy, hl, hh⟩ : ∃ y, IntKind.i8.wrap x = y ∧ -128 ≤ y ∧ y ≤ 127 := ⟨_, rfl, by rw [w_i8]; omega, by rw [w_i8]; omega⟩
  go_enter Try.func6, Try.ntmps6
  go_wp2
  go_ret2
  exact ⟨rfl, rfl⟩
end Go.Proofs.Ytbfpcpagiiamoab

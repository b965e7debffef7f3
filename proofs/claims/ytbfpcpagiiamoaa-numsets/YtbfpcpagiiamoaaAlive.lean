/- That the statements' own check of some fixed answers (the function alive) is true. No conditions. -/
import Derived.Test.YtbfpcpagiiamoaaFits
namespace Go.Proofs.Ytbfpcpagiiamoaa
open Go.ChangeShapes Go.WideShapes Go.ChangeAt Go.RowKit

theorem al_bits (w : World) : Calls Try.prog 32 #[.int .u64 43981, .int .i64 4, .int .i64 8] w fun e w' => e = .returned (.tuple #[.int .u64 188, .bool true]) ∧ ∃ q, w' = w.drewN q := by
  refine (bits_yes 43981 4 8 w (by decide) (by decide) (by decide) (by decide) (by decide)).mono ?_
  rintro e w' ⟨rfl, q, rfl⟩
  exact ⟨ret_two (by decide), q, rfl⟩
theorem al_put (w : World) : Calls Try.prog 33 #[.int .u64 43981, .int .i64 4, .int .i64 8, .int .u64 18] w fun e w' => e = .returned (.tuple #[.int .u64 41261, .bool true]) ∧ ∃ q, w' = w.drewN q := by
  refine (put_yes 43981 4 8 18 w (by decide) (by decide) (by decide) (by decide) (by decide) (by decide) (by decide)).mono ?_
  rintro e w' ⟨rfl, q, rfl⟩
  exact ⟨ret_two (by decide), q, rfl⟩
theorem al_turn (w : World) : Calls Try.prog 36 #[.int .u32 2147483649, .int .i64 1] w fun e w' => e = .returned (.int .u32 3) ∧ ∃ q, w' = w.drewN q := by
  refine (turn_any 2147483649 1 w (by decide) (by decide) (by decide) (by decide)).mono ?_
  rintro e w' ⟨rfl, q, rfl⟩
  exact ⟨ret_int (by decide), q, rfl⟩
theorem al_zig (w : World) : Calls Try.prog 38 #[.int .i64 (-2)] w fun e w' => e = .returned (.int .u64 3) ∧ w' = w := by
  refine (zig_any (-2) w (by decide) (by decide)).mono ?_
  rintro e w' ⟨rfl, rfl⟩
  exact ⟨ret_int (by decide), rfl⟩
theorem al_zag (w : World) : Calls Try.prog 40 #[.int .u64 3] w fun e w' => e = .returned (.int .i64 (-2)) ∧ w' = w := by
  refine (zag_any 3 w (by decide) (by decide)).mono ?_
  rintro e w' ⟨rfl, rfl⟩
  exact ⟨ret_int (by decide), rfl⟩
theorem alive_any (w : World) : Calls Try.prog 44 #[] w fun e w' => e = .returned (.bool true) ∧ ∃ q, w' = w.drewN q := by
  go_enter Try.func44, Try.ntmps44
  go_wp2_with fail
  refine (fit50_yes 127 _ (by decide) (by decide) (by decide) (by decide)).mono ?_; rintro e w' ⟨rfl, rfl⟩
  go_wp2_with fail
  refine (fit50_no 128 _ (by decide) (by decide) (by decide)).mono ?_; rintro e w' ⟨rfl, rfl⟩
  go_wp2_with (first
    | (go_at_call 32; refine (al_bits _).mono ?_; rintro e w' ⟨rfl, q1, rfl⟩)
    | (go_at_call 33; refine (al_put _).mono ?_; rintro e w' ⟨rfl, q2, rfl⟩)
    | (go_at_call 36; refine (al_turn _).mono ?_; rintro e w' ⟨rfl, q3, rfl⟩)
    | (go_at_call 38; refine (al_zig _).mono ?_; rintro e w' ⟨rfl, rfl⟩)
    | (go_at_call 40; refine (al_zag _).mono ?_; rintro e w' ⟨rfl, rfl⟩))
  go_ret
  exact ⟨rfl, _, rfl⟩
end Go.Proofs.Ytbfpcpagiiamoaa

/- What one step of the program's sum answers. Conditions: a number of 32 bits. -/
import Derived.Test.YtdojhkgnnbdfkaaGreatCrc
import Derived.Laws.BitsAllLaws
namespace Go.Proofs.YtdojhkgnnbdfkaaGreat
open Go.ChangeShapes Go.WideShapes Go.ChangeAt Go.RowKit Go.Lib

theorem and_one (c : Nat) (h : c < 4294967296) : bits .and .u32 (c : Int) 1 = ((c % 2 : Nat) : Int) := by
  rw [show (1 : Int) = ((1 : Nat) : Int) from rfl, u32_and_nat c 1 h (by omega), Nat.and_one_is_mod]

set_option maxHeartbeats 1000000 in
theorem shift_any (c : Nat) (w : World) (h : c < 4294967296) :
    Calls Tryz.prog 112 #[.int .u32 (c : Int)] w fun e w' => e = .returned (.int .u32 ((sh c : Nat) : Int)) ∧ w = w' := by
  have hand := and_one c h
  by_cases hp : c % 2 = 1
  · have E : Hid (sh c = (c / 2) ^^^ 2197175160) := by show _ = _; unfold sh; rw [if_pos hp]
    rw [hp] at hand
    have hx : bits .xor .u32 ((c : Int) / 2) 2197175160 = (((c / 2) ^^^ 2197175160 : Nat) : Int) := by
      have := u32_xor_nat (c / 2) 2197175160 (by omega) (by omega)
      simpa using this
    have HX : Hid (bits .xor .u32 ((c : Int) / 2) 2197175160 = (((c / 2) ^^^ 2197175160 : Nat) : Int)) := hx
    clear hx
    go_enter Tryz.func112, Tryz.ntmps112
    go_wp2
    go_ret
    rw [E.out]
    exact ⟨by rw [← HX.out]; rfl, rfl⟩
  · have E : Hid (sh c = c / 2) := by show _ = _; unfold sh; rw [if_neg hp]
    rw [show c % 2 = 0 by omega] at hand
    go_enter Tryz.func112, Tryz.ntmps112
    go_wp2
    go_ret
    rw [E.out]
    exact ⟨by simp, rfl⟩
end Go.Proofs.YtdojhkgnnbdfkaaGreat

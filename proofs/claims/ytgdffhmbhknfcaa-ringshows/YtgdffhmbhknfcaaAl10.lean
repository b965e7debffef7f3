/- The statements' own test that the program answers as the document fixes: contract of alive. No conditions. -/
import Derived.Test.YtgdffhmbhknfcaaRn10
namespace Go.Proofs.Ytgdffhmbhknfcaa
open Go.ChangeShapes Go.WideShapes Go.ChangeAt Go.RowKit Go.Lib
set_option linter.unusedVariables false
set_option linter.unusedSimpArgs false
set_option maxHeartbeats 8000000 in
set_option maxRecDepth 100000 in
theorem alive10_any (w : World) : Calls Try.prog 13 #[] w fun e w' => e = .returned (.bool true) ∧ Fr [] w w' := by
  go_enter Try.func13, Try.ntmps13
  go_wp2_with fail
  refine (rn_new 2 w (Fr.refl [] w) (by decide)).mono ?_
  rintro e w1 ⟨g, rfl, h1⟩
  go_wp2_with fail
  refine (gnew_no 0 w1 (by decide)).mono ?_
  rintro e w2 ⟨rfl, rfl⟩
  have H : Hid (Calls _ _ _ _ _) := rn_put 1 h1 (by decide)
  clear h1
  go_wp2_with fail
  refine Calls.mono H.out ?_
  rintro e w2 ⟨rfl, h2⟩
  have H : Hid (Calls _ _ _ _ _) := rn_put 2 h2 (by decide)
  clear h2
  go_wp2_with fail
  refine Calls.mono H.out ?_
  rintro e w3 ⟨rfl, h3⟩
  have H : Hid (Calls _ _ _ _ _) := rn_full 3 h3 (Or.inr (by decide))
  clear h3
  go_wp2_with fail
  refine Calls.mono H.out ?_
  rintro e w4 ⟨rfl, h4⟩
  have H : Hid (Calls _ _ _ _ _) := rn_len 2 h4 (by decide)
  clear h4
  rw [show ((2 : Nat) : Int) = 2 from rfl] at H
  go_wp2_with fail
  refine Calls.mono H.out ?_
  rintro e w5 ⟨rfl, h5⟩
  have H : Hid (Calls _ _ _ _ _) := rn_room 0 h5 (by decide)
  clear h5
  rw [show ((0 : Nat) : Int) = 0 from rfl] at H
  go_wp2_with fail
  refine Calls.mono H.out ?_
  rintro e w6 ⟨rfl, h6⟩
  have H : Hid (Calls _ _ _ _ _) := rn_take 1 (xs := [2]) h6
  clear h6
  go_wp2_with fail
  refine Calls.mono H.out ?_
  rintro e w7 ⟨rfl, h7⟩
  have H : Hid (Calls _ _ _ _ _) := rn_close h7
  clear h7
  go_wp2_with fail
  refine Calls.mono H.out ?_
  rintro e w8 ⟨⟨v, rfl⟩, h8⟩
  have H : Hid (Calls _ _ _ _ _) := rn_full 4 h8 (Or.inl rfl)
  clear h8
  go_wp2_with fail
  refine Calls.mono H.out ?_
  rintro e w9 ⟨rfl, h9⟩
  have H : Hid (Calls _ _ _ _ _) := rn_over false h9 (by decide)
  clear h9
  go_wp2_with fail
  refine Calls.mono H.out ?_
  rintro e w10 ⟨rfl, h10⟩
  have H : Hid (Calls _ _ _ _ _) := rn_len 1 h10 (by decide)
  clear h10
  rw [show ((1 : Nat) : Int) = 1 from rfl] at H
  go_wp2_with fail
  refine Calls.mono H.out ?_
  rintro e w11 ⟨rfl, h11⟩
  have HF : Hid (Fr [] w w11) := h11.fr
  clear h11
  go_wp2
  go_ret
  exact ⟨rfl, HF.out⟩
end Go.Proofs.Ytgdffhmbhknfcaa

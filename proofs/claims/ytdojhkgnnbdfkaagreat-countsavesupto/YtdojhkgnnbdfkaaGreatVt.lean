/- Put. Conditions as named. -/
import Derived.Test.YtdojhkgnnbdfkaaGreatVr
import Derived.Deep.RegionHeld3
namespace Go.Proofs.YtdojhkgnnbdfkaaGreat
open Go.ChangeShapes Go.WideShapes Go.ChangeAt Go.RowKit Go.Lib
set_option linter.unusedVariables false
set_option linter.unusedSimpArgs false
theorem okV_one (v : Vn) : okV [v] ↔ okX v := by
  constructor
  · intro h; exact h.1 v (by simp)
  · intro h; exact ⟨fun x hx => by rw [List.mem_singleton] at hx; rw [hx]; exact h, List.pairwise_singleton _ _⟩
/-- Is that number there already? -/
def There (vs : List Vn) (v : Vn) (d : Nat) : Prop := 0 < d ∧ (vs.getD (d - 1) Vn.zero).num = v.num
/-- What Put tells. -/
def PuTold (vs : List Vn) (v : Vn) (us : List Vn) (ok : Bool) (c : Nat) : Prop := (c = 1 ∧ ¬ (okV vs ∧ okX v) ∧ us = [] ∧ ok = false) ∨ (c = 0 ∧ okV vs ∧ okX v ∧ ∃ d, UpTo vs v.num d ∧ ((There vs v d ∧ us = vs ∧ ok = false) ∨ (¬ There vs v d ∧ us = vs.take d ++ [v] ++ vs.drop d ∧ ok = true)))
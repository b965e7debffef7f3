/- That the statements' own check of some fixed answers (the function alive) is true. No conditions. -/
import Derived.Test.YtaefninikmaiiaaGreatDoorRd6
import Derived.Test.YtaefninikmaiiaaGreatDoorSa
namespace Go.Proofs.YtaefninikmaiiaaGreatDoor
open Go.ChangeShapes Go.WideShapes Go.ChangeAt Go.RowKit Go.Lib
set_option linter.unusedVariables false

def aW : List Wt := [⟨⟨#[97]⟩, ⟨#[120]⟩, false⟩]
def aX : List Tx := [⟨1, aW⟩, ⟨2, []⟩]
def aT (S : Nat) : List Tm := [⟨1, some ⟨S, 0, none⟩, 1, 1, aW⟩, ⟨2, none, 0, 0, []⟩]
theorem aT_txs (S : Nat) : txs (aT S) = aX := rfl
def aB : List Nat := [7, 1, 1, 1, 97, 0, 1, 120, 113, 55, 57, 77, 2, 2, 0, 60, 71, 36, 214]
theorem aB_enc : aB = encL aX := by decide +kernel
theorem aX_ok : okL 1 aX := by
  refine ⟨⟨by decide, by decide, by decide, ?_⟩, rfl, ⟨by decide, by decide, by decide, by simp⟩, rfl, trivial⟩
  intro x hx
  simp only [aW, List.mem_cons, List.not_mem_nil, or_false] at hx
  subst hx
  exact ⟨by decide, by decide, by decide, fun h => by simp at h⟩
theorem a0_rds : Rds 1 [0] [] [0] 5 := ⟨rfl, Or.inr (Or.inl ⟨by simp, by rfl⟩)⟩
theorem a2_bad : Bad 1 (txs [⟨2, none, 0, 0, []⟩]) 6 := Or.inr (Or.inl ⟨⟨by decide, by decide, by decide, by simp [Tm.tx]⟩, by decide, rfl⟩)
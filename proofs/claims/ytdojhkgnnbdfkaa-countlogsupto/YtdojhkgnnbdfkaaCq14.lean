/- The writes that count: contracts of the program's counting and of the document's Counting. Conditions: at most 1000000 writes. -/
import Derived.Test.YtdojhkgnnbdfkaaLm14
import Derived.Test.YtdojhkgnnbdfkaaOw14
import Derived.Test.YtdojhkgnnbdfkaaMg11
namespace Go.Proofs.Ytdojhkgnnbdfkaa
open Go.ChangeShapes Go.WideShapes Go.ChangeAt Go.RowKit Go.Lib Go.Maps
set_option linter.unusedVariables false
set_option linter.unusedSimpArgs false

theorem lastIx_upd (ws : List Wt) (i : Nat) : lastIx ws (i + 1) = updF (lastIx ws i) (kAt ws i) (some (i : Int)) := by
  funext k
  by_cases e : k = kAt ws i
  · simp only [lastIx, if_pos e]
    rw [e, updF_same]
  · simp only [lastIx, if_neg e]
    rw [updF_other _ _ e]
theorem WOw.none14 (w0 w : World) : WOw w0 w none 0 0 [] := ⟨rfl, rfl, .inl ⟨rfl, rfl⟩⟩

/- The document's Check of a transaction, and what it leans on. Conditions as each names them. -/
import Derived.Test.YtakbodlicfmkjaaGreatTm
import Derived.Deep.RegionLaw
import Derived.Deep.RegionWith
import Derived.Deep.RegionHeld3
import Derived.Deep.CutRange
namespace Go.Proofs.YtakbodlicfmkjaaGreat
open Go.ChangeShapes Go.WideShapes Go.ChangeAt Go.RowKit Go.Lib
set_option linter.unusedVariables false
set_option linter.unusedSimpArgs false

/-- It tells whether the write may be. -/
def TellsY (e : Ending) (x : Wt) : Prop := ∃ B : Bool, e = .returned (.bool B) ∧ (B = true ↔ okW x)
/- Contracts and lemmas. -/
import Derived.Test.YtojjdnjfaelnfaaGreatDoorGp24
namespace Go.Proofs.YtojjdnjfaelnfaaGreatDoor
set_option linter.unusedSimpArgs false
set_option linter.unusedVariables false
namespace O
open Go.Proofs.Tryz
end O
namespace O
open Go.ChangeShapes Go.WideShapes Go.ChangeAt Go.RowKit Go.Lib Go.Maps Go.Proofs.Tryz
end O
namespace O
open Go.ChangeShapes Go.WideShapes Go.ChangeAt Go.RowKit Go.Lib Go.Maps Go.MapKept Go.Proofs.Tryz
open Go.ChangeMaps (setBlock modify_eq_set)
open Go.WideElems (Fit rd rg rd_key rg_of rd_mk)
section
variable{P:Program}{k:TypeId}{R:Value->Option (DataW Unit×List MemPlace)}{w:World}{b r n:Nat}{D:DataW Unit}{left:Lit->Bool}{cnt:Nat}
end
end O
end Go.Proofs.YtojjdnjfaelnfaaGreatDoor

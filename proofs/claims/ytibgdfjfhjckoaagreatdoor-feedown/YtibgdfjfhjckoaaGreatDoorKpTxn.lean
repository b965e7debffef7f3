/- What the Book does when it is told one more list (Txn). Conditions: fewer than 2^21 lists. -/
import Derived.Test.YtibgdfjfhjckoaaGreatDoorBq2
namespace Go.Proofs.YtibgdfjfhjckoaaGreatDoor.Bq
open Go.ChangeShapes Go.WideShapes Go.ChangeAt Go.RowKit Go.Lib
set_option linter.unusedVariables false

theorem Tryz.infoHTxn : (Tryz.prog.info? 110).map (fun i => (i.zero, i.size, i.bytes)) = some (some (.agg #[.slice none 0 0, .slice none 0 0, .int .i64 0]), 3, 56) := by kernel_rfl
theorem Tryz.undHTxns : Tryz.prog.underlying 29 = some (.slice 110) := by kernel_rfl

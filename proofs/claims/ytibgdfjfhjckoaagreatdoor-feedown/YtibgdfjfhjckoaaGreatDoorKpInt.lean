/- What the Book does when it is told one more list (Int). Conditions: fewer than 2^21 lists. -/
import Derived.Test.YtibgdfjfhjckoaaGreatDoorBq2
namespace Go.Proofs.YtibgdfjfhjckoaaGreatDoor.Bq
open Go.ChangeShapes Go.WideShapes Go.ChangeAt Go.RowKit Go.Lib
set_option linter.unusedVariables false

theorem Tryz.infoHInt : (Tryz.prog.info? 88).map (fun i => (i.zero, i.size, i.bytes)) = some (some (.agg #[.slice none 0 0, .slice none 0 0, .int .i64 0]), 3, 56) := by kernel_rfl
theorem Tryz.undHInts : Tryz.prog.underlying 24 = some (.slice 88) := by kernel_rfl

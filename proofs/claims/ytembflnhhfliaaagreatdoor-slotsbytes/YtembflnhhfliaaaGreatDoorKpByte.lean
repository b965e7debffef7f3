/- What the Book does when it is told one more list (Byte). Conditions: fewer than 2^26 lists. -/
import Derived.Test.YtembflnhhfliaaaGreatDoorBq2
namespace Go.Proofs.YtembflnhhfliaaaGreatDoor.Bq
open Go.ChangeShapes Go.WideShapes Go.ChangeAt Go.RowKit Go.Lib
set_option linter.unusedVariables false

theorem Tryz.infoHByte : (Tryz.prog.info? 111).map (fun i => (i.zero, i.size, i.bytes)) = some (some (.agg #[.slice none 0 0, .slice none 0 0, .int .i64 0]), 3, 56) := by kernel_rfl
theorem Tryz.undHBytes : Tryz.prog.underlying 40 = some (.slice 111) := by kernel_rfl

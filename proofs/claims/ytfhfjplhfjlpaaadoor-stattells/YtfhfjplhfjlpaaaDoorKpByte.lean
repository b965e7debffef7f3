/- What the Book does when it is told one more list (Byte). Conditions: fewer than 2^21 lists. -/
import Derived.Test.YtfhfjplhfjlpaaaDoorBq2
namespace Go.Proofs.YtfhfjplhfjlpaaaDoor.Bq
open Go.ChangeShapes Go.WideShapes Go.ChangeAt Go.RowKit Go.Lib
set_option linter.unusedVariables false

theorem Tryd.infoHByte : (Tryd.prog.info? 75).map (fun i => (i.zero, i.size, i.bytes)) = some (some (.agg #[.slice none 0 0, .slice none 0 0, .int .i64 0]), 3, 56) := by kernel_rfl
theorem Tryd.undHBytes : Tryd.prog.underlying 36 = some (.slice 75) := by kernel_rfl

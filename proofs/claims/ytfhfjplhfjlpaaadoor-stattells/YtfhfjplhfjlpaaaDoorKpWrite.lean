/- What the Book does when it is told one more list (Write). Conditions: fewer than 2^21 lists. -/
import Derived.Test.YtfhfjplhfjlpaaaDoorBq2
namespace Go.Proofs.YtfhfjplhfjlpaaaDoor.Bq
open Go.ChangeShapes Go.WideShapes Go.ChangeAt Go.RowKit Go.Lib
set_option linter.unusedVariables false

theorem Tryd.infoHWrite : (Tryd.prog.info? 84).map (fun i => (i.zero, i.size, i.bytes)) = some (some (.agg #[.slice none 0 0, .slice none 0 0, .int .i64 0]), 3, 56) := by kernel_rfl
theorem Tryd.undHWrites : Tryd.prog.underlying 39 = some (.slice 84) := by kernel_rfl

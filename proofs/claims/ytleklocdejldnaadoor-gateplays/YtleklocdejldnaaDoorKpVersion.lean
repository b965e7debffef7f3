/- What the Book does when it is told one more list (Version). Conditions: fewer than 2^21 lists. -/
import Derived.Test.YtleklocdejldnaaDoorBq2
namespace Go.Proofs.YtleklocdejldnaaDoor.Bq
open Go.ChangeShapes Go.WideShapes Go.ChangeAt Go.RowKit Go.Lib
set_option linter.unusedVariables false

theorem Tryd.infoHVersion : (Tryd.prog.info? 98).map (fun i => (i.zero, i.size, i.bytes)) = some (some (.agg #[.slice none 0 0, .slice none 0 0, .int .i64 0]), 3, 56) := by kernel_rfl
theorem Tryd.undHVersions : Tryd.prog.underlying 38 = some (.slice 98) := by kernel_rfl

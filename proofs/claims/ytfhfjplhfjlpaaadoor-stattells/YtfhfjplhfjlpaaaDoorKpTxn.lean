/- What the Book does when it is told one more list (Txn). Conditions: fewer than 2^21 lists. -/
import Derived.Test.YtfhfjplhfjlpaaaDoorBq2
namespace Go.Proofs.YtfhfjplhfjlpaaaDoor.Bq
open Go.ChangeShapes Go.WideShapes Go.ChangeAt Go.RowKit Go.Lib
set_option linter.unusedVariables false

theorem Tryd.infoHTxn : (Tryd.prog.info? 102).map (fun i => (i.zero, i.size, i.bytes)) = some (some (.agg #[.slice none 0 0, .slice none 0 0, .int .i64 0]), 3, 56) := by kernel_rfl
theorem Tryd.undHTxns : Tryd.prog.underlying 42 = some (.slice 102) := by kernel_rfl

/- Plain facts of the types of a number and a text. -/
import Derived.Test.YtakbodlicfmkjaaGreatChk7
import Derived.Maps.OwnOps
import Derived.Maps.Views
import Derived.DeepKeys4
namespace Go.Proofs.YtakbodlicfmkjaaGreat.Fo
open Go.ChangeShapes Go.WideShapes Go.ChangeAt Go.RowKit Go.Lib Go.Maps
theorem Tryz.laid7 : laidOutB Tryz.prog = true := by kernel_rfl
theorem Tryz.undI7 : Tryz.prog.underlying 3 = some (.int .i64) := by kernel_rfl
theorem Tryz.undS7 : Tryz.prog.underlying 9 = some .string := by kernel_rfl
theorem Tryz.cellsS7 : Tryz.prog.cellsOf 9 = 1 := by kernel_rfl
theorem Tryz.cellsI7 : Tryz.prog.cellsOf 3 = 1 := by kernel_rfl
theorem Tryz.zeroI7 (w : World) : (zeroValue 3).run Tryz.prog w = .ok (.int .i64 0) w := by kernel_rfl
end Go.Proofs.YtakbodlicfmkjaaGreat.Fo

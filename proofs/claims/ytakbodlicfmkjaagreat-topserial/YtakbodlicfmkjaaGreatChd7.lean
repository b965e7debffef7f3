/- Plain facts that stand ahead of the maps of entries. -/
import Derived.Test.YtakbodlicfmkjaaGreatAsk7
namespace Go.Proofs.YtakbodlicfmkjaaGreat.Fo
open Go.ChangeShapes Go.WideShapes Go.ChangeAt Go.RowKit Go.Lib Go.Maps
theorem ttx_get {ts : List Tm} {i : Nat} (h : i < ts.length) : txs (ts.take (i + 1)) = txs (ts.take i) ++ [(ts.getD i Tm.zero).tx] := by rw [ttake_snoc ts i h, txs_append]; rfl
theorem Tryz.undTsE : Tryz.prog.underlying 24 = some (.slice (Tryz.prog.elem 24)) := by kernel_rfl
theorem Tryz.elemTs : Tryz.prog.elem 24 = 59 := by kernel_rfl
theorem Tryz.sizeT (w : World) : (sizeOf 59).run Tryz.prog w = .ok 2 w := by kernel_rfl
end Go.Proofs.YtakbodlicfmkjaaGreat.Fo

/- The walk of the law LogfileSources. Conditions: how its arguments lie in memory; the table of powers of ten reads as the library lays it. -/
import Derived.Test.YtaefninikmaiiaaGreatDoorLso
import Derived.Test.YtaefninikmaiiaaGreatDoorLsn
namespace Go.Proofs.YtaefninikmaiiaaGreatDoor
open Go.ChangeShapes Go.WideShapes Go.ChangeAt Go.RowKit Go.Lib

theorem lsr (ao : Option Addr) (L cap : Nat) (ts : List Tm) (io : Option Addr) (M ic : Nat) (ns : List Int) (w : World) (hT : TRs w ao ts) (hLe : L = ts.length) (hN : IRs w io ns) (hMe : M = ns.length) (htab : Bq.Tab w) :
    Calls Tryz.prog 5 #[.slice ao L cap, .slice io M ic] w fun e w' => e = .returned (.bool true) ∧ Fr [] w w' := by
  obtain ⟨c, hc⟩ := Bad.ex (txs ts) 1
  by_cases h0 : c = 0
  · exact lso ao L cap ts io M ic ns w hT hLe hN hMe htab (hc.ok.1 h0)
  · exact lsn ao L cap ts io M ic ns w hT hLe hN hMe htab c hc h0
end Go.Proofs.YtaefninikmaiiaaGreatDoor

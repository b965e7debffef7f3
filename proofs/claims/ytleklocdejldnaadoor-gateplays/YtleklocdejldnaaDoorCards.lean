/-
  DERIVED. GIVEN WITH THE SEED: THE CARDS: each row of YtleklocdejldnaaDoorRows.lean that lists a variable, with what it lists TIED to the program's text (the seventh form; the later family's looks); each row that meets fmt, with fmt's text TOLD by the authors' own Lean function (tested against real Go, not proved from fmt's source: count such statements apart). THE CARD IS WHAT COUNTS. Prove the row's statement (the work); the ties are given (YtleklocdejldnaaDoorTie.lean); close each card by the builder's one call (the guide's Derived/Test/ToyasCard.lean, 'card_holds'). Laid BY PROGRAM, IN A SANDBOX (cutbox-door.mjs). By AI agents, Wed Nov 11 2026. No macro, syntax, notation, axiom, sorry.
-/
import Derived.Test.YtleklocdejldnaaDoorRows
import GoSem.ClaimSeven
namespace Go.Proofs.YtleklocdejldnaaDoor
namespace Rows

/-- THE TIED CARD OF 'towpathlaw12.GatePlays'. -/
def gatePlaysCard : Claim7 := { stood := { row := gatePlaysRow, standIns := [], harness := (true, "fbea5da88623675d1a3fd2746f873a949ff059fdb142ff4b29f637ff01660c89"), looks := false }, kinds := [], alts := [], laidByText := true, laidKinds := [.data, .data, .data], laidTests := true, laidLooks := .later }
def GatePlaysCardSaid : Prop := Claim7.holds Tryd.pinned (.plain (OpenSpec.ofChange gatePlaysSpec)) gatePlaysCard

/-- THE TIED CARD OF 'towpathlaw12.GateOrders'. -/
def gateOrdersCard : Claim7 := { stood := { row := gateOrdersRow, standIns := [], harness := (true, "fbea5da88623675d1a3fd2746f873a949ff059fdb142ff4b29f637ff01660c89"), looks := false }, kinds := [], alts := [], laidByText := true, laidKinds := [.data], laidTests := true, laidLooks := .later }
def GateOrdersCardSaid : Prop := Claim7.holds Tryd.pinned (.plain (OpenSpec.ofChange gateOrdersSpec)) gateOrdersCard

/-- THE TIED CARD OF 'towpathlaw12.GateAgain'. -/
def gateAgainCard : Claim7 := { stood := { row := gateAgainRow, standIns := [], harness := (true, "fbea5da88623675d1a3fd2746f873a949ff059fdb142ff4b29f637ff01660c89"), looks := false }, kinds := [], alts := [], laidByText := true, laidKinds := [.data], laidTests := true, laidLooks := .later }
def GateAgainCardSaid : Prop := Claim7.holds Tryd.pinned (.plain (OpenSpec.ofChange gateAgainSpec)) gateAgainCard

/-- THE SECOND FORM's CARD OF 'towpathlaw12.GatePlays'. -/
def gatePlaysUptoCard : Claim7 := { stood := { row := gatePlaysUptoRow, standIns := [], harness := (true, "fbea5da88623675d1a3fd2746f873a949ff059fdb142ff4b29f637ff01660c89"), looks := false }, kinds := [], alts := [], laidByText := true, laidKinds := [.data, .data, .data], laidTests := true, laidLooks := .later }
def GatePlaysUptoCardSaid : Prop := Claim7.holds Tryd.pinned (.plain (OpenSpec.upto gatePlaysSpec)) gatePlaysUptoCard

/-- THE SECOND FORM's CARD OF 'towpathlaw12.GateOrders'. -/
def gateOrdersUptoCard : Claim7 := { stood := { row := gateOrdersUptoRow, standIns := [], harness := (true, "fbea5da88623675d1a3fd2746f873a949ff059fdb142ff4b29f637ff01660c89"), looks := false }, kinds := [], alts := [], laidByText := true, laidKinds := [.data], laidTests := true, laidLooks := .later }
def GateOrdersUptoCardSaid : Prop := Claim7.holds Tryd.pinned (.plain (OpenSpec.upto gateOrdersSpec)) gateOrdersUptoCard

/-- THE SECOND FORM's CARD OF 'towpathlaw12.GateAgain'. -/
def gateAgainUptoCard : Claim7 := { stood := { row := gateAgainUptoRow, standIns := [], harness := (true, "fbea5da88623675d1a3fd2746f873a949ff059fdb142ff4b29f637ff01660c89"), looks := false }, kinds := [], alts := [], laidByText := true, laidKinds := [.data], laidTests := true, laidLooks := .later }
def GateAgainUptoCardSaid : Prop := Claim7.holds Tryd.pinned (.plain (OpenSpec.upto gateAgainSpec)) gateAgainUptoCard
end Rows
end Go.Proofs.YtleklocdejldnaaDoor

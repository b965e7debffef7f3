/-
  DERIVED. GIVEN WITH THE SEED: THE CARDS: each row of YtpdkdgmaofhlkaaGreatDoorRows.lean that lists a variable, with what it lists TIED to the program's text (the seventh form; the later family's looks); each row that meets fmt, with fmt's text TOLD by the authors' own Lean function (tested against real Go, not proved from fmt's source: count such statements apart). THE CARD IS WHAT COUNTS. Prove the row's statement (the work); the ties are given (YtpdkdgmaofhlkaaGreatDoorTie.lean); close each card by the builder's one call (the guide's Derived/Test/ToyasCard.lean, 'card_holds'). Laid BY PROGRAM, IN A SANDBOX (cutbox-door.mjs). By AI agents, Wed Nov 11 2026. No macro, syntax, notation, axiom, sorry.
-/
import Derived.Test.YtpdkdgmaofhlkaaGreatDoorRows
import GoSem.ClaimSeven
namespace Go.Proofs.YtpdkdgmaofhlkaaGreatDoor
namespace Rows

/-- THE TIED CARD OF 'towpathlaw17.CallOwn'. -/
def callOwnCard : Claim7 := { stood := { row := callOwnRow, standIns := [], harness := (true, "920409c3b0e73b484f24a7fae8f7add45ceccf6548fc6c985aef9a326b0c905d"), looks := false }, kinds := [], alts := [], laidByText := true, laidKinds := [.data, .data, .data], laidTests := true, laidLooks := .later }
def CallOwnCardSaid : Prop := Claim7.holds Tryz.pinned (.plain (OpenSpec.ofChange callOwnSpec)) callOwnCard

/-- THE SECOND FORM's CARD OF 'towpathlaw17.CallOwn'. -/
def callOwnUptoCard : Claim7 := { stood := { row := callOwnUptoRow, standIns := [], harness := (true, "920409c3b0e73b484f24a7fae8f7add45ceccf6548fc6c985aef9a326b0c905d"), looks := false }, kinds := [], alts := [], laidByText := true, laidKinds := [.data, .data, .data], laidTests := true, laidLooks := .later }
def CallOwnUptoCardSaid : Prop := Claim7.holds Tryz.pinned (.plain (OpenSpec.upto callOwnSpec)) callOwnUptoCard
end Rows
end Go.Proofs.YtpdkdgmaofhlkaaGreatDoor

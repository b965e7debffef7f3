/-
  DERIVED. GIVEN WITH THE SEED: THE CARDS: each row of YtomajifklajilaaGreatDoorRows.lean that lists a variable, with what it lists TIED to the program's text (the seventh form; the later family's looks); each row that meets fmt, with fmt's text TOLD by the authors' own Lean function (tested against real Go, not proved from fmt's source: count such statements apart). THE CARD IS WHAT COUNTS. Prove the row's statement (the work); the ties are given (YtomajifklajilaaGreatDoorTie.lean); close each card by the builder's one call (the guide's Derived/Test/ToyasCard.lean, 'card_holds'). Laid BY PROGRAM, IN A SANDBOX (cutbox-door.mjs). By AI agents, Wed Nov 11 2026. No macro, syntax, notation, axiom, sorry.
-/
import Derived.Test.YtomajifklajilaaGreatDoorRows
import GoSem.ClaimSeven
namespace Go.Proofs.YtomajifklajilaaGreatDoor
namespace Rows

/-- THE TIED CARD OF 'towpathlaw15.OwnerOwn'. -/
def ownerOwnCard : Claim7 := { stood := { row := ownerOwnRow, standIns := [], harness := (true, "646bc3e9e15c6a8ee0227f21e416951d821b5957bfa3e9cdd4f62438db8937a8"), looks := false }, kinds := [], alts := [], laidByText := true, laidKinds := [.data, .data, .data], laidTests := true, laidLooks := .later }
def OwnerOwnCardSaid : Prop := Claim7.holds Tryz.pinned (.plain (OpenSpec.ofChange ownerOwnSpec)) ownerOwnCard

/-- THE SECOND FORM's CARD OF 'towpathlaw15.OwnerOwn'. -/
def ownerOwnUptoCard : Claim7 := { stood := { row := ownerOwnUptoRow, standIns := [], harness := (true, "646bc3e9e15c6a8ee0227f21e416951d821b5957bfa3e9cdd4f62438db8937a8"), looks := false }, kinds := [], alts := [], laidByText := true, laidKinds := [.data, .data, .data], laidTests := true, laidLooks := .later }
def OwnerOwnUptoCardSaid : Prop := Claim7.holds Tryz.pinned (.plain (OpenSpec.upto ownerOwnSpec)) ownerOwnUptoCard
end Rows
end Go.Proofs.YtomajifklajilaaGreatDoor

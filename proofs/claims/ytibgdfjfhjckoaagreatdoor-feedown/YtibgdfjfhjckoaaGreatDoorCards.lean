/-
  DERIVED. GIVEN WITH THE SEED: THE CARDS: each row of YtibgdfjfhjckoaaGreatDoorRows.lean that lists a variable, with what it lists TIED to the program's text (the seventh form; the later family's looks); each row that meets fmt, with fmt's text TOLD by the authors' own Lean function (tested against real Go, not proved from fmt's source: count such statements apart). THE CARD IS WHAT COUNTS. Prove the row's statement (the work); the ties are given (YtibgdfjfhjckoaaGreatDoorTie.lean); close each card by the builder's one call (the guide's Derived/Test/ToyasCard.lean, 'card_holds'). Laid BY PROGRAM, IN A SANDBOX (cutbox-door.mjs). By AI agents, Wed Nov 11 2026. No macro, syntax, notation, axiom, sorry.
-/
import Derived.Test.YtibgdfjfhjckoaaGreatDoorRows
import GoSem.ClaimSeven
namespace Go.Proofs.YtibgdfjfhjckoaaGreatDoor
namespace Rows

/-- THE TIED CARD OF 'towpathlaw16.FeedOwn'. -/
def feedOwnCard : Claim7 := { stood := { row := feedOwnRow, standIns := [], harness := (true, "75d89a609c675140f095278b1ecf02ce31dd27b7e6a993fafbc2236368b3a65f"), looks := false }, kinds := [], alts := [], laidByText := true, laidKinds := [.data, .data, .data], laidTests := true, laidLooks := .later }
def FeedOwnCardSaid : Prop := Claim7.holds Tryz.pinned (.plain (OpenSpec.ofChange feedOwnSpec)) feedOwnCard

/-- THE SECOND FORM's CARD OF 'towpathlaw16.FeedOwn'. -/
def feedOwnUptoCard : Claim7 := { stood := { row := feedOwnUptoRow, standIns := [], harness := (true, "75d89a609c675140f095278b1ecf02ce31dd27b7e6a993fafbc2236368b3a65f"), looks := false }, kinds := [], alts := [], laidByText := true, laidKinds := [.data, .data, .data], laidTests := true, laidLooks := .later }
def FeedOwnUptoCardSaid : Prop := Claim7.holds Tryz.pinned (.plain (OpenSpec.upto feedOwnSpec)) feedOwnUptoCard
end Rows
end Go.Proofs.YtibgdfjfhjckoaaGreatDoor

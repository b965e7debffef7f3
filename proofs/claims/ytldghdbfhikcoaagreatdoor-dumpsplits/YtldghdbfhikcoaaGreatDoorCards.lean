/-
  DERIVED. GIVEN WITH THE SEED: THE CARDS: each row of YtldghdbfhikcoaaGreatDoorRows.lean that lists a variable, with what it lists TIED to the program's text (the seventh form; the later family's looks); each row that meets fmt, with fmt's text TOLD by the authors' own Lean function (tested against real Go, not proved from fmt's source: count such statements apart). THE CARD IS WHAT COUNTS. Prove the row's statement (the work); the ties are given (YtldghdbfhikcoaaGreatDoorTie.lean); close each card by the builder's one call (the guide's Derived/Test/ToyasCard.lean, 'card_holds'). Laid BY PROGRAM, IN A SANDBOX (cutbox-door.mjs). By AI agents, Wed Nov 11 2026. No macro, syntax, notation, axiom, sorry.
-/
import Derived.Test.YtldghdbfhikcoaaGreatDoorRows
import GoSem.ClaimSeven
namespace Go.Proofs.YtldghdbfhikcoaaGreatDoor
namespace Rows

/-- THE TIED CARD OF 'towpathlaw18.DumpEncodes'. -/
def dumpEncodesCard : Claim7 := { stood := { row := dumpEncodesRow, standIns := [], harness := (true, "7fc90aa656a07a171cd5300578e755f55f5aaa2da72a08800ec197f595d5ab92"), looks := false }, kinds := [], alts := [], laidByText := true, laidKinds := [.data, .data, .data], laidTests := true, laidLooks := .later }
def DumpEncodesCardSaid : Prop := Claim7.holds Tryz.pinned (.plain (OpenSpec.ofChange dumpEncodesSpec)) dumpEncodesCard

/-- THE TIED CARD OF 'towpathlaw18.DumpDecodes'. -/
def dumpDecodesCard : Claim7 := { stood := { row := dumpDecodesRow, standIns := [], harness := (true, "7fc90aa656a07a171cd5300578e755f55f5aaa2da72a08800ec197f595d5ab92"), looks := false }, kinds := [], alts := [], laidByText := true, laidKinds := [.data, .data, .data], laidTests := true, laidLooks := .later }
def DumpDecodesCardSaid : Prop := Claim7.holds Tryz.pinned (.plain (OpenSpec.ofChange dumpDecodesSpec)) dumpDecodesCard

/-- THE TIED CARD OF 'towpathlaw18.DumpSplits'. -/
def dumpSplitsCard : Claim7 := { stood := { row := dumpSplitsRow, standIns := [], harness := (true, "7fc90aa656a07a171cd5300578e755f55f5aaa2da72a08800ec197f595d5ab92"), looks := false }, kinds := [], alts := [], laidByText := true, laidKinds := [.data, .data, .data], laidTests := true, laidLooks := .later }
def DumpSplitsCardSaid : Prop := Claim7.holds Tryz.pinned (.plain (OpenSpec.ofChange dumpSplitsSpec)) dumpSplitsCard

/-- THE SECOND FORM's CARD OF 'towpathlaw18.DumpEncodes'. -/
def dumpEncodesUptoCard : Claim7 := { stood := { row := dumpEncodesUptoRow, standIns := [], harness := (true, "7fc90aa656a07a171cd5300578e755f55f5aaa2da72a08800ec197f595d5ab92"), looks := false }, kinds := [], alts := [], laidByText := true, laidKinds := [.data, .data, .data], laidTests := true, laidLooks := .later }
def DumpEncodesUptoCardSaid : Prop := Claim7.holds Tryz.pinned (.plain (OpenSpec.upto dumpEncodesSpec)) dumpEncodesUptoCard

/-- THE SECOND FORM's CARD OF 'towpathlaw18.DumpDecodes'. -/
def dumpDecodesUptoCard : Claim7 := { stood := { row := dumpDecodesUptoRow, standIns := [], harness := (true, "7fc90aa656a07a171cd5300578e755f55f5aaa2da72a08800ec197f595d5ab92"), looks := false }, kinds := [], alts := [], laidByText := true, laidKinds := [.data, .data, .data], laidTests := true, laidLooks := .later }
def DumpDecodesUptoCardSaid : Prop := Claim7.holds Tryz.pinned (.plain (OpenSpec.upto dumpDecodesSpec)) dumpDecodesUptoCard

/-- THE SECOND FORM's CARD OF 'towpathlaw18.DumpSplits'. -/
def dumpSplitsUptoCard : Claim7 := { stood := { row := dumpSplitsUptoRow, standIns := [], harness := (true, "7fc90aa656a07a171cd5300578e755f55f5aaa2da72a08800ec197f595d5ab92"), looks := false }, kinds := [], alts := [], laidByText := true, laidKinds := [.data, .data, .data], laidTests := true, laidLooks := .later }
def DumpSplitsUptoCardSaid : Prop := Claim7.holds Tryz.pinned (.plain (OpenSpec.upto dumpSplitsSpec)) dumpSplitsUptoCard
end Rows
end Go.Proofs.YtldghdbfhikcoaaGreatDoor

/-
  DERIVED. GIVEN WITH THE SEED: THE CARDS: each row of YtaaghcimfcjehaaGreatDoorRows.lean that lists a variable, with what it lists TIED to the program's text (the seventh form; the later family's looks); each row that meets fmt, with fmt's text TOLD by the authors' own Lean function (tested against real Go, not proved from fmt's source: count such statements apart). THE CARD IS WHAT COUNTS. Prove the row's statement (the work); the ties are given (YtaaghcimfcjehaaGreatDoorTie.lean); close each card by the builder's one call (the guide's Derived/Test/ToyasCard.lean, 'card_holds'). Laid BY PROGRAM, IN A SANDBOX (cutbox-door.mjs). By AI agents, Wed Nov 11 2026. No macro, syntax, notation, axiom, sorry.
-/
import Derived.Test.YtaaghcimfcjehaaGreatDoorRows
import GoSem.ClaimSeven
namespace Go.Proofs.YtaaghcimfcjehaaGreatDoor
namespace Rows

/-- THE TIED CARD OF 'towpathlaw21.TraceChecks'. -/
def traceChecksCard : Claim7 := { stood := { row := traceChecksRow, standIns := [], harness := (true, "1db30d6ffa38fa7f10be7903adbc63d3149bbc522ded2dac2ad637ad6a0eee63"), looks := false }, kinds := [], alts := [], laidByText := true, laidKinds := [.data], laidTests := true, laidLooks := .later }
def TraceChecksCardSaid : Prop := Claim7.holds Tryz.pinned (.plain (OpenSpec.ofChange traceChecksSpec)) traceChecksCard

/-- THE TIED CARD OF 'towpathlaw21.TraceMarks'. -/
def traceMarksCard : Claim7 := { stood := { row := traceMarksRow, standIns := [], harness := (true, "1db30d6ffa38fa7f10be7903adbc63d3149bbc522ded2dac2ad637ad6a0eee63"), looks := false }, kinds := [], alts := [], laidByText := true, laidKinds := [.data, .data, .data, .data], laidTests := true, laidLooks := .later }
def TraceMarksCardSaid : Prop := Claim7.holds Tryz.pinned (.plain (OpenSpec.ofChange traceMarksSpec)) traceMarksCard

/-- THE TIED CARD OF 'towpathlaw21.TraceHolds'. -/
def traceHoldsCard : Claim7 := { stood := { row := traceHoldsRow, standIns := [], harness := (true, "1db30d6ffa38fa7f10be7903adbc63d3149bbc522ded2dac2ad637ad6a0eee63"), looks := false }, kinds := [], alts := [], laidByText := true, laidKinds := [.data], laidTests := true, laidLooks := .later }
def TraceHoldsCardSaid : Prop := Claim7.holds Tryz.pinned (.plain (OpenSpec.ofChange traceHoldsSpec)) traceHoldsCard

/-- THE TIED CARD OF 'towpathlaw21.TraceStops'. -/
def traceStopsCard : Claim7 := { stood := { row := traceStopsRow, standIns := [], harness := (true, "1db30d6ffa38fa7f10be7903adbc63d3149bbc522ded2dac2ad637ad6a0eee63"), looks := false }, kinds := [], alts := [], laidByText := true, laidKinds := [.data], laidTests := true, laidLooks := .later }
def TraceStopsCardSaid : Prop := Claim7.holds Tryz.pinned (.plain (OpenSpec.ofChange traceStopsSpec)) traceStopsCard

/-- THE SECOND FORM's CARD OF 'towpathlaw21.TraceChecks'. -/
def traceChecksUptoCard : Claim7 := { stood := { row := traceChecksUptoRow, standIns := [], harness := (true, "1db30d6ffa38fa7f10be7903adbc63d3149bbc522ded2dac2ad637ad6a0eee63"), looks := false }, kinds := [], alts := [], laidByText := true, laidKinds := [.data], laidTests := true, laidLooks := .later }
def TraceChecksUptoCardSaid : Prop := Claim7.holds Tryz.pinned (.plain (OpenSpec.upto traceChecksSpec)) traceChecksUptoCard

/-- THE SECOND FORM's CARD OF 'towpathlaw21.TraceMarks'. -/
def traceMarksUptoCard : Claim7 := { stood := { row := traceMarksUptoRow, standIns := [], harness := (true, "1db30d6ffa38fa7f10be7903adbc63d3149bbc522ded2dac2ad637ad6a0eee63"), looks := false }, kinds := [], alts := [], laidByText := true, laidKinds := [.data, .data, .data, .data], laidTests := true, laidLooks := .later }
def TraceMarksUptoCardSaid : Prop := Claim7.holds Tryz.pinned (.plain (OpenSpec.upto traceMarksSpec)) traceMarksUptoCard

/-- THE SECOND FORM's CARD OF 'towpathlaw21.TraceHolds'. -/
def traceHoldsUptoCard : Claim7 := { stood := { row := traceHoldsUptoRow, standIns := [], harness := (true, "1db30d6ffa38fa7f10be7903adbc63d3149bbc522ded2dac2ad637ad6a0eee63"), looks := false }, kinds := [], alts := [], laidByText := true, laidKinds := [.data], laidTests := true, laidLooks := .later }
def TraceHoldsUptoCardSaid : Prop := Claim7.holds Tryz.pinned (.plain (OpenSpec.upto traceHoldsSpec)) traceHoldsUptoCard

/-- THE SECOND FORM's CARD OF 'towpathlaw21.TraceStops'. -/
def traceStopsUptoCard : Claim7 := { stood := { row := traceStopsUptoRow, standIns := [], harness := (true, "1db30d6ffa38fa7f10be7903adbc63d3149bbc522ded2dac2ad637ad6a0eee63"), looks := false }, kinds := [], alts := [], laidByText := true, laidKinds := [.data], laidTests := true, laidLooks := .later }
def TraceStopsUptoCardSaid : Prop := Claim7.holds Tryz.pinned (.plain (OpenSpec.upto traceStopsSpec)) traceStopsUptoCard
end Rows
end Go.Proofs.YtaaghcimfcjehaaGreatDoor

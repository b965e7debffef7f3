/-
  DERIVED. GIVEN WITH THE SEED: THE CARDS: each row of YtddlmgedemcgmaaDoorRows.lean that lists a variable, with what it lists TIED to the program's text (the seventh form; the later family's looks); each row that meets fmt, with fmt's text TOLD by the authors' own Lean function (tested against real Go, not proved from fmt's source: count such statements apart). THE CARD IS WHAT COUNTS. Prove the row's statement (the work); the ties are given (YtddlmgedemcgmaaDoorTie.lean); close each card by the builder's one call (the guide's Derived/Test/ToyasCard.lean, 'card_holds'). Laid BY PROGRAM, IN A SANDBOX (cutbox-door.mjs). By AI agents, Wed Nov 11 2026. No macro, syntax, notation, axiom, sorry.
-/
import Derived.Test.YtddlmgedemcgmaaDoorRows
import GoSem.ClaimSeven
namespace Go.Proofs.YtddlmgedemcgmaaDoor
namespace Rows

/-- THE TIED CARD OF 'towpathlaw13.ConfTasks'. -/
def confTasksCard : Claim7 := { stood := { row := confTasksRow, standIns := [], harness := (true, "dafba895053e541f1cf7fdc2defe0f4119634978ea16ad7b2cc2a72db41b2fa1"), looks := false }, kinds := [], alts := [], laidByText := true, laidKinds := [.data], laidTests := true, laidLooks := .later }
def ConfTasksCardSaid : Prop := Claim7.holds Tryd.pinned (.plain (OpenSpec.ofChange confTasksSpec)) confTasksCard

/-- THE TIED CARD OF 'towpathlaw13.ConfNames'. -/
def confNamesCard : Claim7 := { stood := { row := confNamesRow, standIns := [], harness := (true, "dafba895053e541f1cf7fdc2defe0f4119634978ea16ad7b2cc2a72db41b2fa1"), looks := false }, kinds := [], alts := [], laidByText := true, laidKinds := [.data], laidTests := true, laidLooks := .later }
def ConfNamesCardSaid : Prop := Claim7.holds Tryd.pinned (.plain (OpenSpec.ofChange confNamesSpec)) confNamesCard

/-- THE TIED CARD OF 'towpathlaw13.ConfSpreads'. -/
def confSpreadsCard : Claim7 := { stood := { row := confSpreadsRow, standIns := [], harness := (true, "dafba895053e541f1cf7fdc2defe0f4119634978ea16ad7b2cc2a72db41b2fa1"), looks := false }, kinds := [], alts := [], laidByText := true, laidKinds := [.data], laidTests := true, laidLooks := .later }
def ConfSpreadsCardSaid : Prop := Claim7.holds Tryd.pinned (.plain (OpenSpec.ofChange confSpreadsSpec)) confSpreadsCard

/-- THE SECOND FORM's CARD OF 'towpathlaw13.ConfTasks'. -/
def confTasksUptoCard : Claim7 := { stood := { row := confTasksUptoRow, standIns := [], harness := (true, "dafba895053e541f1cf7fdc2defe0f4119634978ea16ad7b2cc2a72db41b2fa1"), looks := false }, kinds := [], alts := [], laidByText := true, laidKinds := [.data], laidTests := true, laidLooks := .later }
def ConfTasksUptoCardSaid : Prop := Claim7.holds Tryd.pinned (.plain (OpenSpec.upto confTasksSpec)) confTasksUptoCard

/-- THE SECOND FORM's CARD OF 'towpathlaw13.ConfNames'. -/
def confNamesUptoCard : Claim7 := { stood := { row := confNamesUptoRow, standIns := [], harness := (true, "dafba895053e541f1cf7fdc2defe0f4119634978ea16ad7b2cc2a72db41b2fa1"), looks := false }, kinds := [], alts := [], laidByText := true, laidKinds := [.data], laidTests := true, laidLooks := .later }
def ConfNamesUptoCardSaid : Prop := Claim7.holds Tryd.pinned (.plain (OpenSpec.upto confNamesSpec)) confNamesUptoCard

/-- THE SECOND FORM's CARD OF 'towpathlaw13.ConfSpreads'. -/
def confSpreadsUptoCard : Claim7 := { stood := { row := confSpreadsUptoRow, standIns := [], harness := (true, "dafba895053e541f1cf7fdc2defe0f4119634978ea16ad7b2cc2a72db41b2fa1"), looks := false }, kinds := [], alts := [], laidByText := true, laidKinds := [.data], laidTests := true, laidLooks := .later }
def ConfSpreadsUptoCardSaid : Prop := Claim7.holds Tryd.pinned (.plain (OpenSpec.upto confSpreadsSpec)) confSpreadsUptoCard
end Rows
end Go.Proofs.YtddlmgedemcgmaaDoor

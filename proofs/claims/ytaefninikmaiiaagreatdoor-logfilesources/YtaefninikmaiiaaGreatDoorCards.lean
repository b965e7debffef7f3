/-
  DERIVED. GIVEN WITH THE SEED: THE CARDS: each row of YtaefninikmaiiaaGreatDoorRows.lean that lists a variable, with what it lists TIED to the program's text (the seventh form; the later family's looks); each row that meets fmt, with fmt's text TOLD by the authors' own Lean function (tested against real Go, not proved from fmt's source: count such statements apart). THE CARD IS WHAT COUNTS. Prove the row's statement (the work); the ties are given (YtaefninikmaiiaaGreatDoorTie.lean); close each card by the builder's one call (the guide's Derived/Test/ToyasCard.lean, 'card_holds'). Laid BY PROGRAM, IN A SANDBOX (cutbox-door.mjs). By AI agents, Wed Nov 11 2026. No macro, syntax, notation, axiom, sorry.
-/
import Derived.Test.YtaefninikmaiiaaGreatDoorRows
import GoSem.ClaimSeven
namespace Go.Proofs.YtaefninikmaiiaaGreatDoor
namespace Rows

/-- THE TIED CARD OF 'towpathlaw06.LogfileEncodes'. -/
def logfileEncodesCard : Claim7 := { stood := { row := logfileEncodesRow, standIns := [], harness := (true, "8cab220041742e0fe4ef5d98b2277222eca4014f9778892fcab80a7d71ee46ef"), looks := false }, kinds := [], alts := [], laidByText := true, laidKinds := [.data, .data, .data], laidTests := true, laidLooks := .later }
def LogfileEncodesCardSaid : Prop := Claim7.holds Tryz.pinned (.plain (OpenSpec.ofChange logfileEncodesSpec)) logfileEncodesCard

/-- THE TIED CARD OF 'towpathlaw06.LogfileReads'. -/
def logfileReadsCard : Claim7 := { stood := { row := logfileReadsRow, standIns := [], harness := (true, "8cab220041742e0fe4ef5d98b2277222eca4014f9778892fcab80a7d71ee46ef"), looks := false }, kinds := [], alts := [], laidByText := true, laidKinds := [.data, .data, .data], laidTests := true, laidLooks := .later }
def LogfileReadsCardSaid : Prop := Claim7.holds Tryz.pinned (.plain (OpenSpec.ofChange logfileReadsSpec)) logfileReadsCard

/-- THE TIED CARD OF 'towpathlaw06.LogfileSources'. -/
def logfileSourcesCard : Claim7 := { stood := { row := logfileSourcesRow, standIns := [], harness := (true, "8cab220041742e0fe4ef5d98b2277222eca4014f9778892fcab80a7d71ee46ef"), looks := false }, kinds := [], alts := [], laidByText := true, laidKinds := [.data, .data, .data], laidTests := true, laidLooks := .later }
def LogfileSourcesCardSaid : Prop := Claim7.holds Tryz.pinned (.plain (OpenSpec.ofChange logfileSourcesSpec)) logfileSourcesCard

/-- THE TIED CARD OF 'towpathlaw07.FoldStores'. -/
def foldStoresCard : Claim7 := { stood := { row := foldStoresRow, standIns := [], harness := (true, "8cab220041742e0fe4ef5d98b2277222eca4014f9778892fcab80a7d71ee46ef"), looks := false }, kinds := [], alts := [], laidByText := true, laidKinds := [.data, .data, .data], laidTests := true, laidLooks := .later }
def FoldStoresCardSaid : Prop := Claim7.holds Tryz.pinned (.plain (OpenSpec.ofChange foldStoresSpec)) foldStoresCard

/-- THE SECOND FORM's CARD OF 'towpathlaw06.LogfileEncodes'. -/
def logfileEncodesUptoCard : Claim7 := { stood := { row := logfileEncodesUptoRow, standIns := [], harness := (true, "8cab220041742e0fe4ef5d98b2277222eca4014f9778892fcab80a7d71ee46ef"), looks := false }, kinds := [], alts := [], laidByText := true, laidKinds := [.data, .data, .data], laidTests := true, laidLooks := .later }
def LogfileEncodesUptoCardSaid : Prop := Claim7.holds Tryz.pinned (.plain (OpenSpec.upto logfileEncodesSpec)) logfileEncodesUptoCard

/-- THE SECOND FORM's CARD OF 'towpathlaw06.LogfileReads'. -/
def logfileReadsUptoCard : Claim7 := { stood := { row := logfileReadsUptoRow, standIns := [], harness := (true, "8cab220041742e0fe4ef5d98b2277222eca4014f9778892fcab80a7d71ee46ef"), looks := false }, kinds := [], alts := [], laidByText := true, laidKinds := [.data, .data, .data], laidTests := true, laidLooks := .later }
def LogfileReadsUptoCardSaid : Prop := Claim7.holds Tryz.pinned (.plain (OpenSpec.upto logfileReadsSpec)) logfileReadsUptoCard

/-- THE SECOND FORM's CARD OF 'towpathlaw06.LogfileSources'. -/
def logfileSourcesUptoCard : Claim7 := { stood := { row := logfileSourcesUptoRow, standIns := [], harness := (true, "8cab220041742e0fe4ef5d98b2277222eca4014f9778892fcab80a7d71ee46ef"), looks := false }, kinds := [], alts := [], laidByText := true, laidKinds := [.data, .data, .data], laidTests := true, laidLooks := .later }
def LogfileSourcesUptoCardSaid : Prop := Claim7.holds Tryz.pinned (.plain (OpenSpec.upto logfileSourcesSpec)) logfileSourcesUptoCard

/-- THE SECOND FORM's CARD OF 'towpathlaw07.FoldStores'. -/
def foldStoresUptoCard : Claim7 := { stood := { row := foldStoresUptoRow, standIns := [], harness := (true, "8cab220041742e0fe4ef5d98b2277222eca4014f9778892fcab80a7d71ee46ef"), looks := false }, kinds := [], alts := [], laidByText := true, laidKinds := [.data, .data, .data], laidTests := true, laidLooks := .later }
def FoldStoresUptoCardSaid : Prop := Claim7.holds Tryz.pinned (.plain (OpenSpec.upto foldStoresSpec)) foldStoresUptoCard
end Rows
end Go.Proofs.YtaefninikmaiiaaGreatDoor

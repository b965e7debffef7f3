/-
  No cell of these rows narrows 'for every input' (looked for: loops, veiled, ifaces, maps, wideKeys, modest, calm, conditions, laid).
  DERIVED. THE GIVEN ROWS OF THIS SEAT. 3 by the template 'for every input the law returns true; each argument reads behind the call as it read before'; 0 by the template 'total and deterministic' (their statements: YtldghdbfhikcoaaTotals.lean).
  GIVEN WITH THE SEED: the statements are not yours to turn. If you find one false, say at which input.
  Laid BY PROGRAM, IN A SANDBOX (cutbox-rows.mjs): the forced cells as the released guide's own fill.sh prints them over the translation 048c7999bceef47e… (all of the seat's roots in one cut). By AI agents, Wed Nov 11 2026. No macro, syntax, notation, axiom, sorry.
-/
import Derived.Test.YtldghdbfhikcoaaChecked
import GoSem.Claim
import GoSem.ClaimJoined
import GoSem.ClaimMapViews
import Derived.JoinedTies
import Derived.KernelRfl
namespace Go.Proofs.Ytldghdbfhikcoaa
/- THE CELL 'sum', in the pinned program and in every row, IS THE sha256 OF THE DUMP (.gsa) THAT YtldghdbfhikcoaaProg.lean LOADS. Nothing in Lean hashes anything: it is a label: what it is worth is what the hold of that sum in a sandbox is worth. -/
noncomputable def Try.pinned : Pinned := { name := "ytldghdbfhikcoaa", sum := "048c7999bceef47e92db220f534ca6a5820d321981422b381c58004444f53cfe", checked := Try.checked }
namespace Rows
def none {H : Type} : Left H := { results := [], args := [] }

/-- 'towpathlaw18.DumpBack': WHATEVER THE INPUT: true; the input reads as it did. -/
def dumpBackSpec : ChangeSpec := { name := "dumpBack", fn := fun _ => fun
  | [d1, d2, d3] => { results := [.lit (.bool true)], args := [d1, d2, d3] }
  | _ => none }
def dumpBackRow : OpenClaim := { program := "ytldghdbfhikcoaa", sum := "048c7999bceef47e92db220f534ca6a5820d321981422b381c58004444f53cfe", func := "towpath/towpathlaw18.DumpBack", spec := "dumpBack", unfollowed := true, recurses := true, apart := false }
def DumpBackSaid : Prop := dumpBackRow.holds Try.pinned (OpenSpec.ofChange dumpBackSpec)

/-- ITS FALSE NEIGHBOUR: 'it returns false'. Refute it at one input. -/
def dumpBackWrong : ChangeSpec := { name := "dumpBack", fn := fun _ => fun
  | [d1, d2, d3] => { results := [.lit (.bool false)], args := [d1, d2, d3] }
  | _ => none }
def DumpBackWrongFalsely : Prop := dumpBackRow.holds Try.pinned (OpenSpec.ofChange dumpBackWrong)

/-- 'towpathlaw18.DumpOne': WHATEVER THE INPUT: true; the input reads as it did. -/
def dumpOneSpec : ChangeSpec := { name := "dumpOne", fn := fun _ => fun
  | [d] => { results := [.lit (.bool true)], args := [d] }
  | _ => none }
def dumpOneRow : OpenClaim := { program := "ytldghdbfhikcoaa", sum := "048c7999bceef47e92db220f534ca6a5820d321981422b381c58004444f53cfe", func := "towpath/towpathlaw18.DumpOne", spec := "dumpOne", unfollowed := true, recurses := true, apart := false }
def DumpOneSaid : Prop := dumpOneRow.holds Try.pinned (OpenSpec.ofChange dumpOneSpec)

/-- ITS FALSE NEIGHBOUR: 'it returns false'. Refute it at one input. -/
def dumpOneWrong : ChangeSpec := { name := "dumpOne", fn := fun _ => fun
  | [d] => { results := [.lit (.bool false)], args := [d] }
  | _ => none }
def DumpOneWrongFalsely : Prop := dumpOneRow.holds Try.pinned (OpenSpec.ofChange dumpOneWrong)

/-- 'towpathlaw18.DumpParts': WHATEVER THE INPUT: true; the input reads as it did. -/
def dumpPartsSpec : ChangeSpec := { name := "dumpParts", fn := fun _ => fun
  | [d1, d2] => { results := [.lit (.bool true)], args := [d1, d2] }
  | _ => none }
def dumpPartsRow : OpenClaim := { program := "ytldghdbfhikcoaa", sum := "048c7999bceef47e92db220f534ca6a5820d321981422b381c58004444f53cfe", func := "towpath/towpathlaw18.DumpParts", spec := "dumpParts", unfollowed := true, recurses := true, apart := false }
def DumpPartsSaid : Prop := dumpPartsRow.holds Try.pinned (OpenSpec.ofChange dumpPartsSpec)

/-- ITS FALSE NEIGHBOUR: 'it returns false'. Refute it at one input. -/
def dumpPartsWrong : ChangeSpec := { name := "dumpParts", fn := fun _ => fun
  | [d1, d2] => { results := [.lit (.bool false)], args := [d1, d2] }
  | _ => none }
def DumpPartsWrongFalsely : Prop := dumpPartsRow.holds Try.pinned (OpenSpec.ofChange dumpPartsWrong)

/- THE SECOND FORM. 'bulk': how many values and letters a reading holds, each counted each time it is reached (what is shared counts as often as it is met; a slice's spare places count too). A statement '..UptoSaid' is the law's where the arguments, and the package variables that the reading takes, are together of bulk at most 1048576: NARROWER than '..Said'. Prove '..Said' where nothing that the law and all that it calls make is longer than what came in: it says more and counts as full. Else prove '..UptoSaid'. A law counts once. -/
mutual
def uptoBulk {H : Type} : DataW H → Nat
  | .lit (.string bytes) => bytes.length + 1
  | .lit _ => 1
  | .nil => 1
  | .ptr d => uptoBulk d + 1
  | .slice elems spare => uptoBulkAll elems + uptoBulkAll spare + 1
  | .agg parts => uptoBulkAll parts + 1
  | .iface _ d => uptoBulk d + 1
  | .map entries => uptoBulkEntries entries + 1
  | .held _ => 1
def uptoBulkAll {H : Type} : List (DataW H) → Nat
  | [] => 0
  | d :: r => uptoBulk d + uptoBulkAll r
def uptoBulkEntries {H : Type} : List (Lit × DataW H) → Nat
  | [] => 0
  | x :: r => uptoBulkEntry x + uptoBulkEntries r
def uptoBulkEntry {H : Type} : Lit × DataW H → Nat
  | (.string bytes, d) => bytes.length + uptoBulk d + 1
  | (_, d) => uptoBulk d + 1
 end
def uptoSmall : (H : Type) → List (DataW H) → Bool := fun _ ds => decide (uptoBulkAll ds ≤ 1048576)
def OpenSpec.upto (s : _root_.Go.ChangeSpec) : _root_.Go.OpenSpec := { _root_.Go.OpenSpec.ofChange s with cond := some uptoSmall }

/-- 'towpathlaw18.DumpBack', WHERE WHAT IT READS IS OF BULK AT MOST 1048576: true; the input reads as it did. -/
def dumpBackUptoRow : OpenClaim := { program := "ytldghdbfhikcoaa", sum := "048c7999bceef47e92db220f534ca6a5820d321981422b381c58004444f53cfe", func := "towpath/towpathlaw18.DumpBack", spec := "dumpBack", unfollowed := true, recurses := true, apart := false, narrowed := true }
def DumpBackUptoSaid : Prop := dumpBackUptoRow.holds Try.pinned (OpenSpec.upto dumpBackSpec)

/-- 'towpathlaw18.DumpOne', WHERE WHAT IT READS IS OF BULK AT MOST 1048576: true; the input reads as it did. -/
def dumpOneUptoRow : OpenClaim := { program := "ytldghdbfhikcoaa", sum := "048c7999bceef47e92db220f534ca6a5820d321981422b381c58004444f53cfe", func := "towpath/towpathlaw18.DumpOne", spec := "dumpOne", unfollowed := true, recurses := true, apart := false, narrowed := true }
def DumpOneUptoSaid : Prop := dumpOneUptoRow.holds Try.pinned (OpenSpec.upto dumpOneSpec)

/-- 'towpathlaw18.DumpParts', WHERE WHAT IT READS IS OF BULK AT MOST 1048576: true; the input reads as it did. -/
def dumpPartsUptoRow : OpenClaim := { program := "ytldghdbfhikcoaa", sum := "048c7999bceef47e92db220f534ca6a5820d321981422b381c58004444f53cfe", func := "towpath/towpathlaw18.DumpParts", spec := "dumpParts", unfollowed := true, recurses := true, apart := false, narrowed := true }
def DumpPartsUptoSaid : Prop := dumpPartsUptoRow.holds Try.pinned (OpenSpec.upto dumpPartsSpec)

end Rows
end Go.Proofs.Ytldghdbfhikcoaa

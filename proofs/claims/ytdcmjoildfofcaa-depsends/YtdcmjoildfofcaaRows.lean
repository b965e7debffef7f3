/-
  No cell of these rows narrows 'for every input' (looked for: loops, veiled, ifaces, maps, wideKeys, modest, calm, conditions, laid).
  DERIVED. THE GIVEN ROWS OF THIS SEAT. 3 by the template 'for every input the law returns true; each argument reads behind the call as it read before'; 0 by the template 'total and deterministic' (their statements: YtdcmjoildfofcaaTotals.lean).
  GIVEN WITH THE SEED: the statements are not yours to turn. If you find one false, say at which input.
  Laid BY PROGRAM, IN A SANDBOX (cutbox-rows.mjs): the forced cells as the released guide's own fill.sh prints them over the translation a5f9763273b5aae4… (all of the seat's roots in one cut). By AI agents, Wed Nov 11 2026. No macro, syntax, notation, axiom, sorry.
-/
import Derived.Test.YtdcmjoildfofcaaChecked
import GoSem.Claim
import GoSem.ClaimJoined
import GoSem.ClaimMapViews
import Derived.JoinedTies
import Derived.KernelRfl
namespace Go.Proofs.Ytdcmjoildfofcaa
/- THE CELL 'sum', in the pinned program and in every row, IS THE sha256 OF THE DUMP (.gsa) THAT YtdcmjoildfofcaaProg.lean LOADS. Nothing in Lean hashes anything: it is a label: what it is worth is what the hold of that sum in a sandbox is worth. -/
noncomputable def Try.pinned : Pinned := { name := "ytdcmjoildfofcaa", sum := "a5f9763273b5aae466b46d1db91f9e461c923f3b1c4ca44c58d55e90edea2f73", checked := Try.checked }
namespace Rows
def none {H : Type} : Left H := { results := [], args := [] }

/-- 'towpathlaw11.DepsEnds': WHATEVER THE INPUT: true; the input reads as it did. -/
def depsEndsSpec : ChangeSpec := { name := "depsEnds", fn := fun _ => fun
  | [d1, d2] => { results := [.lit (.bool true)], args := [d1, d2] }
  | _ => none }
def depsEndsRow : OpenClaim := { program := "ytdcmjoildfofcaa", sum := "a5f9763273b5aae466b46d1db91f9e461c923f3b1c4ca44c58d55e90edea2f73", func := "towpath/towpathlaw11.DepsEnds", spec := "depsEnds", unfollowed := true, recurses := true, plainKeys := false, apart := false }
def DepsEndsSaid : Prop := depsEndsRow.holds Try.pinned (OpenSpec.ofChange depsEndsSpec)

/-- ITS FALSE NEIGHBOUR: 'it returns false'. Refute it at one input. -/
def depsEndsWrong : ChangeSpec := { name := "depsEnds", fn := fun _ => fun
  | [d1, d2] => { results := [.lit (.bool false)], args := [d1, d2] }
  | _ => none }
def DepsEndsWrongFalsely : Prop := depsEndsRow.holds Try.pinned (OpenSpec.ofChange depsEndsWrong)

/-- 'towpathlaw11.DepsChains': WHATEVER THE INPUT: true; the input reads as it did. -/
def depsChainsSpec : ChangeSpec := { name := "depsChains", fn := fun _ => fun
  | [d1, d2] => { results := [.lit (.bool true)], args := [d1, d2] }
  | _ => none }
def depsChainsRow : OpenClaim := { program := "ytdcmjoildfofcaa", sum := "a5f9763273b5aae466b46d1db91f9e461c923f3b1c4ca44c58d55e90edea2f73", func := "towpath/towpathlaw11.DepsChains", spec := "depsChains", unfollowed := true, recurses := true, plainKeys := false, apart := false }
def DepsChainsSaid : Prop := depsChainsRow.holds Try.pinned (OpenSpec.ofChange depsChainsSpec)

/-- ITS FALSE NEIGHBOUR: 'it returns false'. Refute it at one input. -/
def depsChainsWrong : ChangeSpec := { name := "depsChains", fn := fun _ => fun
  | [d1, d2] => { results := [.lit (.bool false)], args := [d1, d2] }
  | _ => none }
def DepsChainsWrongFalsely : Prop := depsChainsRow.holds Try.pinned (OpenSpec.ofChange depsChainsWrong)

/-- 'towpathlaw11.DepsLast': WHATEVER THE INPUT: true; the input reads as it did. -/
def depsLastSpec : ChangeSpec := { name := "depsLast", fn := fun _ => fun
  | [d1, d2] => { results := [.lit (.bool true)], args := [d1, d2] }
  | _ => none }
def depsLastRow : OpenClaim := { program := "ytdcmjoildfofcaa", sum := "a5f9763273b5aae466b46d1db91f9e461c923f3b1c4ca44c58d55e90edea2f73", func := "towpath/towpathlaw11.DepsLast", spec := "depsLast", unfollowed := true, recurses := true, plainKeys := false, apart := false }
def DepsLastSaid : Prop := depsLastRow.holds Try.pinned (OpenSpec.ofChange depsLastSpec)

/-- ITS FALSE NEIGHBOUR: 'it returns false'. Refute it at one input. -/
def depsLastWrong : ChangeSpec := { name := "depsLast", fn := fun _ => fun
  | [d1, d2] => { results := [.lit (.bool false)], args := [d1, d2] }
  | _ => none }
def DepsLastWrongFalsely : Prop := depsLastRow.holds Try.pinned (OpenSpec.ofChange depsLastWrong)

/- THE SECOND FORM. 'bulk': how many values and letters a reading holds, each counted each time it is reached (what is shared counts as often as it is met; a slice's spare places count too). A statement '..UptoSaid' is the law's where the arguments, and the package variables that the reading takes, are together of bulk at most 1048576: NARROWER than '..Said'. Prove '..Said' where nothing that the law and all that it calls make is longer than what came in: it says more and counts as full. Else prove '..UptoSaid'. A law counts once. -/
mutual
def uptoBulk {H : Type} : DataW H → Nat
  | .lit (.string bytes) => bytes.length + 1
  | .lit _ => 1
  | .nil => 1
  | .ptr d => uptoBulk d + 1
  | .slice elems spare => uptoBulkAll elems + uptoBulkAll spare + 1
  | .agg parts => uptoBulkAll parts + 1
  | .iface _ d => uptoBulk d + 1
  | .map entries => uptoBulkEntries entries + 1
  | .held _ => 1
def uptoBulkAll {H : Type} : List (DataW H) → Nat
  | [] => 0
  | d :: r => uptoBulk d + uptoBulkAll r
def uptoBulkEntries {H : Type} : List (Lit × DataW H) → Nat
  | [] => 0
  | x :: r => uptoBulkEntry x + uptoBulkEntries r
def uptoBulkEntry {H : Type} : Lit × DataW H → Nat
  | (.string bytes, d) => bytes.length + uptoBulk d + 1
  | (_, d) => uptoBulk d + 1
 end
def uptoSmall : (H : Type) → List (DataW H) → Bool := fun _ ds => decide (uptoBulkAll ds ≤ 1048576)
def OpenSpec.upto (s : _root_.Go.ChangeSpec) : _root_.Go.OpenSpec := { _root_.Go.OpenSpec.ofChange s with cond := some uptoSmall }

/-- 'towpathlaw11.DepsEnds', WHERE WHAT IT READS IS OF BULK AT MOST 1048576: true; the input reads as it did. -/
def depsEndsUptoRow : OpenClaim := { program := "ytdcmjoildfofcaa", sum := "a5f9763273b5aae466b46d1db91f9e461c923f3b1c4ca44c58d55e90edea2f73", func := "towpath/towpathlaw11.DepsEnds", spec := "depsEnds", unfollowed := true, recurses := true, plainKeys := false, apart := false, narrowed := true }
def DepsEndsUptoSaid : Prop := depsEndsUptoRow.holds Try.pinned (OpenSpec.upto depsEndsSpec)

/-- 'towpathlaw11.DepsChains', WHERE WHAT IT READS IS OF BULK AT MOST 1048576: true; the input reads as it did. -/
def depsChainsUptoRow : OpenClaim := { program := "ytdcmjoildfofcaa", sum := "a5f9763273b5aae466b46d1db91f9e461c923f3b1c4ca44c58d55e90edea2f73", func := "towpath/towpathlaw11.DepsChains", spec := "depsChains", unfollowed := true, recurses := true, plainKeys := false, apart := false, narrowed := true }
def DepsChainsUptoSaid : Prop := depsChainsUptoRow.holds Try.pinned (OpenSpec.upto depsChainsSpec)

/-- 'towpathlaw11.DepsLast', WHERE WHAT IT READS IS OF BULK AT MOST 1048576: true; the input reads as it did. -/
def depsLastUptoRow : OpenClaim := { program := "ytdcmjoildfofcaa", sum := "a5f9763273b5aae466b46d1db91f9e461c923f3b1c4ca44c58d55e90edea2f73", func := "towpath/towpathlaw11.DepsLast", spec := "depsLast", unfollowed := true, recurses := true, plainKeys := false, apart := false, narrowed := true }
def DepsLastUptoSaid : Prop := depsLastUptoRow.holds Try.pinned (OpenSpec.upto depsLastSpec)

end Rows
end Go.Proofs.Ytdcmjoildfofcaa

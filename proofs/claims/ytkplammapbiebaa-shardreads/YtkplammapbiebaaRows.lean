/-
  No cell of these rows narrows 'for every input' (looked for: loops, veiled, ifaces, maps, wideKeys, modest, calm, conditions, laid).
  DERIVED. THE GIVEN ROWS OF THIS SEAT. 4 by the template 'for every input the law returns true; each argument reads behind the call as it read before'; 0 by the template 'total and deterministic' (their statements: YtkplammapbiebaaTotals.lean).
  GIVEN WITH THE SEED: the statements are not yours to turn. If you find one false, say at which input.
  Laid BY PROGRAM, IN A SANDBOX (cutbox-rows.mjs): the forced cells as the released guide's own fill.sh prints them over the translation efb90728bab5b368… (all of the seat's roots in one cut). By AI agents, Wed Nov 11 2026. No macro, syntax, notation, axiom, sorry.
-/
import Derived.Test.YtkplammapbiebaaChecked
import GoSem.Claim
import GoSem.ClaimJoined
import GoSem.ClaimMapViews
import Derived.JoinedTies
import Derived.KernelRfl
namespace Go.Proofs.Ytkplammapbiebaa
/- THE CELL 'sum', in the pinned program and in every row, IS THE sha256 OF THE DUMP (.gsa) THAT YtkplammapbiebaaProg.lean LOADS. Nothing in Lean hashes anything: it is a label: what it is worth is what the hold of that sum in a sandbox is worth. -/
noncomputable def Try.pinned : Pinned := { name := "ytkplammapbiebaa", sum := "efb90728bab5b368b1449fe85db807df1c9542e2ec785cba7c5b1b5b72935389", checked := Try.checked }
namespace Rows
def none {H : Type} : Left H := { results := [], args := [] }

/-- 'towpathlaw09.ShardOrders': WHATEVER THE INPUT: true; the input reads as it did. -/
def shardOrdersSpec : ChangeSpec := { name := "shardOrders", fn := fun _ => fun
  | [d1, d2] => { results := [.lit (.bool true)], args := [d1, d2] }
  | _ => none }
def shardOrdersRow : OpenClaim := { program := "ytkplammapbiebaa", sum := "efb90728bab5b368b1449fe85db807df1c9542e2ec785cba7c5b1b5b72935389", func := "towpath/towpathlaw09.ShardOrders", spec := "shardOrders", unfollowed := true, recurses := true, apart := false }
def ShardOrdersSaid : Prop := shardOrdersRow.holds Try.pinned (OpenSpec.ofChange shardOrdersSpec)

/-- ITS FALSE NEIGHBOUR: 'it returns false'. Refute it at one input. -/
def shardOrdersWrong : ChangeSpec := { name := "shardOrders", fn := fun _ => fun
  | [d1, d2] => { results := [.lit (.bool false)], args := [d1, d2] }
  | _ => none }
def ShardOrdersWrongFalsely : Prop := shardOrdersRow.holds Try.pinned (OpenSpec.ofChange shardOrdersWrong)

/-- 'towpathlaw09.ShardReads': WHATEVER THE INPUT: true; the input reads as it did. -/
def shardReadsSpec : ChangeSpec := { name := "shardReads", fn := fun _ => fun
  | [d1, d2, d3] => { results := [.lit (.bool true)], args := [d1, d2, d3] }
  | _ => none }
def shardReadsRow : OpenClaim := { program := "ytkplammapbiebaa", sum := "efb90728bab5b368b1449fe85db807df1c9542e2ec785cba7c5b1b5b72935389", func := "towpath/towpathlaw09.ShardReads", spec := "shardReads", unfollowed := true, recurses := true, apart := false }
def ShardReadsSaid : Prop := shardReadsRow.holds Try.pinned (OpenSpec.ofChange shardReadsSpec)

/-- ITS FALSE NEIGHBOUR: 'it returns false'. Refute it at one input. -/
def shardReadsWrong : ChangeSpec := { name := "shardReads", fn := fun _ => fun
  | [d1, d2, d3] => { results := [.lit (.bool false)], args := [d1, d2, d3] }
  | _ => none }
def ShardReadsWrongFalsely : Prop := shardReadsRow.holds Try.pinned (OpenSpec.ofChange shardReadsWrong)

/-- 'towpathlaw09.ShardDumps': WHATEVER THE INPUT: true; the input reads as it did. -/
def shardDumpsSpec : ChangeSpec := { name := "shardDumps", fn := fun _ => fun
  | [d1, d2, d3] => { results := [.lit (.bool true)], args := [d1, d2, d3] }
  | _ => none }
def shardDumpsRow : OpenClaim := { program := "ytkplammapbiebaa", sum := "efb90728bab5b368b1449fe85db807df1c9542e2ec785cba7c5b1b5b72935389", func := "towpath/towpathlaw09.ShardDumps", spec := "shardDumps", unfollowed := true, recurses := true, apart := false }
def ShardDumpsSaid : Prop := shardDumpsRow.holds Try.pinned (OpenSpec.ofChange shardDumpsSpec)

/-- ITS FALSE NEIGHBOUR: 'it returns false'. Refute it at one input. -/
def shardDumpsWrong : ChangeSpec := { name := "shardDumps", fn := fun _ => fun
  | [d1, d2, d3] => { results := [.lit (.bool false)], args := [d1, d2, d3] }
  | _ => none }
def ShardDumpsWrongFalsely : Prop := shardDumpsRow.holds Try.pinned (OpenSpec.ofChange shardDumpsWrong)

/-- 'towpathlaw09.ShardStretches': WHATEVER THE INPUT: true; the input reads as it did. -/
def shardStretchesSpec : ChangeSpec := { name := "shardStretches", fn := fun _ => fun
  | [d1, d2, d3] => { results := [.lit (.bool true)], args := [d1, d2, d3] }
  | _ => none }
def shardStretchesRow : OpenClaim := { program := "ytkplammapbiebaa", sum := "efb90728bab5b368b1449fe85db807df1c9542e2ec785cba7c5b1b5b72935389", func := "towpath/towpathlaw09.ShardStretches", spec := "shardStretches", unfollowed := true, recurses := true, apart := false }
def ShardStretchesSaid : Prop := shardStretchesRow.holds Try.pinned (OpenSpec.ofChange shardStretchesSpec)

/-- ITS FALSE NEIGHBOUR: 'it returns false'. Refute it at one input. -/
def shardStretchesWrong : ChangeSpec := { name := "shardStretches", fn := fun _ => fun
  | [d1, d2, d3] => { results := [.lit (.bool false)], args := [d1, d2, d3] }
  | _ => none }
def ShardStretchesWrongFalsely : Prop := shardStretchesRow.holds Try.pinned (OpenSpec.ofChange shardStretchesWrong)

/- THE SECOND FORM. 'bulk': how many values and letters a reading holds, each counted each time it is reached (what is shared counts as often as it is met; a slice's spare places count too). A statement '..UptoSaid' is the law's where the arguments, and the package variables that the reading takes, are together of bulk at most 1048576: NARROWER than '..Said'. Prove '..Said' where nothing that the law and all that it calls make is longer than what came in: it says more and counts as full. Else prove '..UptoSaid'. A law counts once. -/
mutual
def uptoBulk {H : Type} : DataW H → Nat
  | .lit (.string bytes) => bytes.length + 1
  | .lit _ => 1
  | .nil => 1
  | .ptr d => uptoBulk d + 1
  | .slice elems spare => uptoBulkAll elems + uptoBulkAll spare + 1
  | .agg parts => uptoBulkAll parts + 1
  | .iface _ d => uptoBulk d + 1
  | .map entries => uptoBulkEntries entries + 1
  | .held _ => 1
def uptoBulkAll {H : Type} : List (DataW H) → Nat
  | [] => 0
  | d :: r => uptoBulk d + uptoBulkAll r
def uptoBulkEntries {H : Type} : List (Lit × DataW H) → Nat
  | [] => 0
  | x :: r => uptoBulkEntry x + uptoBulkEntries r
def uptoBulkEntry {H : Type} : Lit × DataW H → Nat
  | (.string bytes, d) => bytes.length + uptoBulk d + 1
  | (_, d) => uptoBulk d + 1
 end
def uptoSmall : (H : Type) → List (DataW H) → Bool := fun _ ds => decide (uptoBulkAll ds ≤ 1048576)
def OpenSpec.upto (s : _root_.Go.ChangeSpec) : _root_.Go.OpenSpec := { _root_.Go.OpenSpec.ofChange s with cond := some uptoSmall }

/-- 'towpathlaw09.ShardOrders', WHERE WHAT IT READS IS OF BULK AT MOST 1048576: true; the input reads as it did. -/
def shardOrdersUptoRow : OpenClaim := { program := "ytkplammapbiebaa", sum := "efb90728bab5b368b1449fe85db807df1c9542e2ec785cba7c5b1b5b72935389", func := "towpath/towpathlaw09.ShardOrders", spec := "shardOrders", unfollowed := true, recurses := true, apart := false, narrowed := true }
def ShardOrdersUptoSaid : Prop := shardOrdersUptoRow.holds Try.pinned (OpenSpec.upto shardOrdersSpec)

/-- 'towpathlaw09.ShardReads', WHERE WHAT IT READS IS OF BULK AT MOST 1048576: true; the input reads as it did. -/
def shardReadsUptoRow : OpenClaim := { program := "ytkplammapbiebaa", sum := "efb90728bab5b368b1449fe85db807df1c9542e2ec785cba7c5b1b5b72935389", func := "towpath/towpathlaw09.ShardReads", spec := "shardReads", unfollowed := true, recurses := true, apart := false, narrowed := true }
def ShardReadsUptoSaid : Prop := shardReadsUptoRow.holds Try.pinned (OpenSpec.upto shardReadsSpec)

/-- 'towpathlaw09.ShardDumps', WHERE WHAT IT READS IS OF BULK AT MOST 1048576: true; the input reads as it did. -/
def shardDumpsUptoRow : OpenClaim := { program := "ytkplammapbiebaa", sum := "efb90728bab5b368b1449fe85db807df1c9542e2ec785cba7c5b1b5b72935389", func := "towpath/towpathlaw09.ShardDumps", spec := "shardDumps", unfollowed := true, recurses := true, apart := false, narrowed := true }
def ShardDumpsUptoSaid : Prop := shardDumpsUptoRow.holds Try.pinned (OpenSpec.upto shardDumpsSpec)

/-- 'towpathlaw09.ShardStretches', WHERE WHAT IT READS IS OF BULK AT MOST 1048576: true; the input reads as it did. -/
def shardStretchesUptoRow : OpenClaim := { program := "ytkplammapbiebaa", sum := "efb90728bab5b368b1449fe85db807df1c9542e2ec785cba7c5b1b5b72935389", func := "towpath/towpathlaw09.ShardStretches", spec := "shardStretches", unfollowed := true, recurses := true, apart := false, narrowed := true }
def ShardStretchesUptoSaid : Prop := shardStretchesUptoRow.holds Try.pinned (OpenSpec.upto shardStretchesSpec)

end Rows
end Go.Proofs.Ytkplammapbiebaa

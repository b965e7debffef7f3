/-
  No cell of these rows narrows 'for every input' (looked for: loops, veiled, ifaces, maps, wideKeys, modest, calm, conditions, laid).
  DERIVED. THE GIVEN ROWS OF THIS SEAT. 3 by the template 'for every input the law returns true; each argument reads behind the call as it read before'; 0 by the template 'total and deterministic' (their statements: YtgladhebgnngdaaTotals.lean).
  GIVEN WITH THE SEED: the statements are not yours to turn. If you find one false, say at which input.
  Laid BY PROGRAM, IN A SANDBOX (cutbox-rows.mjs): the forced cells as the released guide's own fill.sh prints them over the translation ef4c1038e11b9a4b… (all of the seat's roots in one cut). By AI agents, Wed Nov 11 2026. No macro, syntax, notation, axiom, sorry.
-/
import Derived.Test.YtgladhebgnngdaaChecked
import GoSem.Claim
import GoSem.ClaimJoined
import GoSem.ClaimMapViews
import Derived.JoinedTies
import Derived.KernelRfl
namespace Go.Proofs.Ytgladhebgnngdaa
/- THE CELL 'sum', in the pinned program and in every row, IS THE sha256 OF THE DUMP (.gsa) THAT YtgladhebgnngdaaProg.lean LOADS. Nothing in Lean hashes anything: it is a label: what it is worth is what the hold of that sum in a sandbox is worth. -/
noncomputable def Try.pinned : Pinned := { name := "ytgladhebgnngdaa", sum := "ef4c1038e11b9a4b45f5ad7da255d0297dac7ea58cd52123bbf7301ec2675fad", checked := Try.checked }
namespace Rows
def none {H : Type} : Left H := { results := [], args := [] }

/-- 'towpathlaw14.LanePlays': WHATEVER THE INPUT: true; the input reads as it did. -/
def lanePlaysSpec : ChangeSpec := { name := "lanePlays", fn := fun _ => fun
  | [d1, d2, d3] => { results := [.lit (.bool true)], args := [d1, d2, d3] }
  | _ => none }
def lanePlaysRow : OpenClaim := { program := "ytgladhebgnngdaa", sum := "ef4c1038e11b9a4b45f5ad7da255d0297dac7ea58cd52123bbf7301ec2675fad", func := "towpath/towpathlaw14.LanePlays", spec := "lanePlays", unfollowed := true, recurses := true, apart := false }
def LanePlaysSaid : Prop := lanePlaysRow.holds Try.pinned (OpenSpec.ofChange lanePlaysSpec)

/-- ITS FALSE NEIGHBOUR: 'it returns false'. Refute it at one input. -/
def lanePlaysWrong : ChangeSpec := { name := "lanePlays", fn := fun _ => fun
  | [d1, d2, d3] => { results := [.lit (.bool false)], args := [d1, d2, d3] }
  | _ => none }
def LanePlaysWrongFalsely : Prop := lanePlaysRow.holds Try.pinned (OpenSpec.ofChange lanePlaysWrong)

/-- 'towpathlaw14.LaneTrips': WHATEVER THE INPUT: true; the input reads as it did. -/
def laneTripsSpec : ChangeSpec := { name := "laneTrips", fn := fun _ => fun
  | [d] => { results := [.lit (.bool true)], args := [d] }
  | _ => none }
def laneTripsRow : OpenClaim := { program := "ytgladhebgnngdaa", sum := "ef4c1038e11b9a4b45f5ad7da255d0297dac7ea58cd52123bbf7301ec2675fad", func := "towpath/towpathlaw14.LaneTrips", spec := "laneTrips", unfollowed := true, recurses := true, apart := false }
def LaneTripsSaid : Prop := laneTripsRow.holds Try.pinned (OpenSpec.ofChange laneTripsSpec)

/-- ITS FALSE NEIGHBOUR: 'it returns false'. Refute it at one input. -/
def laneTripsWrong : ChangeSpec := { name := "laneTrips", fn := fun _ => fun
  | [d] => { results := [.lit (.bool false)], args := [d] }
  | _ => none }
def LaneTripsWrongFalsely : Prop := laneTripsRow.holds Try.pinned (OpenSpec.ofChange laneTripsWrong)

/-- 'towpathlaw14.LaneStill': WHATEVER THE INPUT: true; the input reads as it did. -/
def laneStillSpec : ChangeSpec := { name := "laneStill", fn := fun _ => fun
  | [d1, d2, d3] => { results := [.lit (.bool true)], args := [d1, d2, d3] }
  | _ => none }
def laneStillRow : OpenClaim := { program := "ytgladhebgnngdaa", sum := "ef4c1038e11b9a4b45f5ad7da255d0297dac7ea58cd52123bbf7301ec2675fad", func := "towpath/towpathlaw14.LaneStill", spec := "laneStill", unfollowed := true, recurses := true, apart := false }
def LaneStillSaid : Prop := laneStillRow.holds Try.pinned (OpenSpec.ofChange laneStillSpec)

/-- ITS FALSE NEIGHBOUR: 'it returns false'. Refute it at one input. -/
def laneStillWrong : ChangeSpec := { name := "laneStill", fn := fun _ => fun
  | [d1, d2, d3] => { results := [.lit (.bool false)], args := [d1, d2, d3] }
  | _ => none }
def LaneStillWrongFalsely : Prop := laneStillRow.holds Try.pinned (OpenSpec.ofChange laneStillWrong)

/- THE SECOND FORM. 'bulk': how many values and letters a reading holds, each counted each time it is reached (what is shared counts as often as it is met; a slice's spare places count too). A statement '..UptoSaid' is the law's where the arguments, and the package variables that the reading takes, are together of bulk at most 1048576: NARROWER than '..Said'. Prove '..Said' where nothing that the law and all that it calls make is longer than what came in: it says more and counts as full. Else prove '..UptoSaid'. A law counts once. -/
mutual
def uptoBulk {H : Type} : DataW H → Nat
  | .lit (.string bytes) => bytes.length + 1
  | .lit _ => 1
  | .nil => 1
  | .ptr d => uptoBulk d + 1
  | .slice elems spare => uptoBulkAll elems + uptoBulkAll spare + 1
  | .agg parts => uptoBulkAll parts + 1
  | .iface _ d => uptoBulk d + 1
  | .map entries => uptoBulkEntries entries + 1
  | .held _ => 1
def uptoBulkAll {H : Type} : List (DataW H) → Nat
  | [] => 0
  | d :: r => uptoBulk d + uptoBulkAll r
def uptoBulkEntries {H : Type} : List (Lit × DataW H) → Nat
  | [] => 0
  | x :: r => uptoBulkEntry x + uptoBulkEntries r
def uptoBulkEntry {H : Type} : Lit × DataW H → Nat
  | (.string bytes, d) => bytes.length + uptoBulk d + 1
  | (_, d) => uptoBulk d + 1
 end
def uptoSmall : (H : Type) → List (DataW H) → Bool := fun _ ds => decide (uptoBulkAll ds ≤ 1048576)
def OpenSpec.upto (s : _root_.Go.ChangeSpec) : _root_.Go.OpenSpec := { _root_.Go.OpenSpec.ofChange s with cond := some uptoSmall }

/-- 'towpathlaw14.LanePlays', WHERE WHAT IT READS IS OF BULK AT MOST 1048576: true; the input reads as it did. -/
def lanePlaysUptoRow : OpenClaim := { program := "ytgladhebgnngdaa", sum := "ef4c1038e11b9a4b45f5ad7da255d0297dac7ea58cd52123bbf7301ec2675fad", func := "towpath/towpathlaw14.LanePlays", spec := "lanePlays", unfollowed := true, recurses := true, apart := false, narrowed := true }
def LanePlaysUptoSaid : Prop := lanePlaysUptoRow.holds Try.pinned (OpenSpec.upto lanePlaysSpec)

/-- 'towpathlaw14.LaneTrips', WHERE WHAT IT READS IS OF BULK AT MOST 1048576: true; the input reads as it did. -/
def laneTripsUptoRow : OpenClaim := { program := "ytgladhebgnngdaa", sum := "ef4c1038e11b9a4b45f5ad7da255d0297dac7ea58cd52123bbf7301ec2675fad", func := "towpath/towpathlaw14.LaneTrips", spec := "laneTrips", unfollowed := true, recurses := true, apart := false, narrowed := true }
def LaneTripsUptoSaid : Prop := laneTripsUptoRow.holds Try.pinned (OpenSpec.upto laneTripsSpec)

/-- 'towpathlaw14.LaneStill', WHERE WHAT IT READS IS OF BULK AT MOST 1048576: true; the input reads as it did. -/
def laneStillUptoRow : OpenClaim := { program := "ytgladhebgnngdaa", sum := "ef4c1038e11b9a4b45f5ad7da255d0297dac7ea58cd52123bbf7301ec2675fad", func := "towpath/towpathlaw14.LaneStill", spec := "laneStill", unfollowed := true, recurses := true, apart := false, narrowed := true }
def LaneStillUptoSaid : Prop := laneStillUptoRow.holds Try.pinned (OpenSpec.upto laneStillSpec)

end Rows
end Go.Proofs.Ytgladhebgnngdaa

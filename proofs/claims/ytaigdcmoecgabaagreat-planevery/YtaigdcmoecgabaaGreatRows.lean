/-
  No cell of these rows narrows 'for every input' (looked for: loops, veiled, ifaces, maps, wideKeys, modest, calm, conditions, laid).
  DERIVED. THE GIVEN ROWS OF THIS SEAT. 4 by the template 'for every input the law returns true; each argument reads behind the call as it read before'; 0 by the template 'total and deterministic' (their statements: YtaigdcmoecgabaaGreatTotals.lean).
  GIVEN WITH THE SEED: the statements are not yours to turn. If you find one false, say at which input.
  Laid BY PROGRAM, IN A SANDBOX (cutbox-rows.mjs): the forced cells as the released guide's own fill.sh prints them over the translation 2d5a2224a03aba7f… (all of the seat's roots in one cut). By AI agents, Wed Nov 11 2026. No macro, syntax, notation, axiom, sorry.
-/
import Derived.Test.YtaigdcmoecgabaaGreatChecked
import GoSem.Claim
import GoSem.ClaimJoined
import GoSem.ClaimMapViews
import Derived.JoinedTies
import Derived.KernelRfl
namespace Go.Proofs.YtaigdcmoecgabaaGreat
/- THE CELL 'sum', in the pinned program and in every row, IS THE sha256 OF THE DUMP (.gsa) THAT YtaigdcmoecgabaaGreatProg.lean LOADS. Nothing in Lean hashes anything: it is a label: what it is worth is what the hold of that sum in a sandbox is worth. -/
noncomputable def Tryz.pinned : Pinned := { name := "ytaigdcmoecgabaagreat", sum := "2d5a2224a03aba7fde50449b3bcf917aa59ea681da4e8c236f736664a4b7c299", checked := Tryz.checked }
namespace Rows
def none {H : Type} : Left H := { results := [], args := [] }

/-- 'towpathlaw23.PlanApart': WHATEVER THE INPUT: true; the input reads as it did. -/
def planApartSpec : ChangeSpec := { name := "planApart", fn := fun _ => fun
  | [d1, d2, d3] => { results := [.lit (.bool true)], args := [d1, d2, d3] }
  | _ => none }
def planApartRow : OpenClaim := { program := "ytaigdcmoecgabaagreat", sum := "2d5a2224a03aba7fde50449b3bcf917aa59ea681da4e8c236f736664a4b7c299", func := "towpath/towpathlaw23.PlanApart", spec := "planApart", unfollowed := true, recurses := true, plainKeys := false, apart := false }
def PlanApartSaid : Prop := planApartRow.holds Tryz.pinned (OpenSpec.ofChange planApartSpec)

/-- ITS FALSE NEIGHBOUR: 'it returns false'. Refute it at one input. -/
def planApartWrong : ChangeSpec := { name := "planApart", fn := fun _ => fun
  | [d1, d2, d3] => { results := [.lit (.bool false)], args := [d1, d2, d3] }
  | _ => none }
def PlanApartWrongFalsely : Prop := planApartRow.holds Tryz.pinned (OpenSpec.ofChange planApartWrong)

/-- 'towpathlaw23.PlanSerial': WHATEVER THE INPUT: true; the input reads as it did. -/
def planSerialSpec : ChangeSpec := { name := "planSerial", fn := fun _ => fun
  | [d1, d2] => { results := [.lit (.bool true)], args := [d1, d2] }
  | _ => none }
def planSerialRow : OpenClaim := { program := "ytaigdcmoecgabaagreat", sum := "2d5a2224a03aba7fde50449b3bcf917aa59ea681da4e8c236f736664a4b7c299", func := "towpath/towpathlaw23.PlanSerial", spec := "planSerial", unfollowed := true, recurses := true, plainKeys := false, apart := false }
def PlanSerialSaid : Prop := planSerialRow.holds Tryz.pinned (OpenSpec.ofChange planSerialSpec)

/-- ITS FALSE NEIGHBOUR: 'it returns false'. Refute it at one input. -/
def planSerialWrong : ChangeSpec := { name := "planSerial", fn := fun _ => fun
  | [d1, d2] => { results := [.lit (.bool false)], args := [d1, d2] }
  | _ => none }
def PlanSerialWrongFalsely : Prop := planSerialRow.holds Tryz.pinned (OpenSpec.ofChange planSerialWrong)

/-- 'towpathlaw23.PlanEvery': WHATEVER THE INPUT: true; the input reads as it did. -/
def planEverySpec : ChangeSpec := { name := "planEvery", fn := fun _ => fun
  | [d1, d2] => { results := [.lit (.bool true)], args := [d1, d2] }
  | _ => none }
def planEveryRow : OpenClaim := { program := "ytaigdcmoecgabaagreat", sum := "2d5a2224a03aba7fde50449b3bcf917aa59ea681da4e8c236f736664a4b7c299", func := "towpath/towpathlaw23.PlanEvery", spec := "planEvery", unfollowed := true, recurses := true, plainKeys := false, apart := false }
def PlanEverySaid : Prop := planEveryRow.holds Tryz.pinned (OpenSpec.ofChange planEverySpec)

/-- ITS FALSE NEIGHBOUR: 'it returns false'. Refute it at one input. -/
def planEveryWrong : ChangeSpec := { name := "planEvery", fn := fun _ => fun
  | [d1, d2] => { results := [.lit (.bool false)], args := [d1, d2] }
  | _ => none }
def PlanEveryWrongFalsely : Prop := planEveryRow.holds Tryz.pinned (OpenSpec.ofChange planEveryWrong)

/-- 'towpathlaw26.StatHolds': WHATEVER THE INPUT: true; the input reads as it did. -/
def statHoldsSpec : ChangeSpec := { name := "statHolds", fn := fun _ => fun
  | [d1, d2] => { results := [.lit (.bool true)], args := [d1, d2] }
  | _ => none }
def statHoldsRow : OpenClaim := { program := "ytaigdcmoecgabaagreat", sum := "2d5a2224a03aba7fde50449b3bcf917aa59ea681da4e8c236f736664a4b7c299", func := "towpath/towpathlaw26.StatHolds", spec := "statHolds", unfollowed := true, recurses := true, plainKeys := false, apart := false }
def StatHoldsSaid : Prop := statHoldsRow.holds Tryz.pinned (OpenSpec.ofChange statHoldsSpec)

/-- ITS FALSE NEIGHBOUR: 'it returns false'. Refute it at one input. -/
def statHoldsWrong : ChangeSpec := { name := "statHolds", fn := fun _ => fun
  | [d1, d2] => { results := [.lit (.bool false)], args := [d1, d2] }
  | _ => none }
def StatHoldsWrongFalsely : Prop := statHoldsRow.holds Tryz.pinned (OpenSpec.ofChange statHoldsWrong)

/- THE SECOND FORM. 'bulk': how many values and letters a reading holds, each counted each time it is reached (what is shared counts as often as it is met; a slice's spare places count too). A statement '..UptoSaid' is the law's where the arguments, and the package variables that the reading takes, are together of bulk at most 1048576: NARROWER than '..Said'. Prove '..Said' where nothing that the law and all that it calls make is longer than what came in: it says more and counts as full. Else prove '..UptoSaid'. A law counts once. -/
mutual
def uptoBulk {H : Type} : DataW H → Nat
  | .lit (.string bytes) => bytes.length + 1
  | .lit _ => 1
  | .nil => 1
  | .ptr d => uptoBulk d + 1
  | .slice elems spare => uptoBulkAll elems + uptoBulkAll spare + 1
  | .agg parts => uptoBulkAll parts + 1
  | .iface _ d => uptoBulk d + 1
  | .map entries => uptoBulkEntries entries + 1
  | .held _ => 1
def uptoBulkAll {H : Type} : List (DataW H) → Nat
  | [] => 0
  | d :: r => uptoBulk d + uptoBulkAll r
def uptoBulkEntries {H : Type} : List (Lit × DataW H) → Nat
  | [] => 0
  | x :: r => uptoBulkEntry x + uptoBulkEntries r
def uptoBulkEntry {H : Type} : Lit × DataW H → Nat
  | (.string bytes, d) => bytes.length + uptoBulk d + 1
  | (_, d) => uptoBulk d + 1
 end
def uptoSmall : (H : Type) → List (DataW H) → Bool := fun _ ds => decide (uptoBulkAll ds ≤ 1048576)
def OpenSpec.upto (s : _root_.Go.ChangeSpec) : _root_.Go.OpenSpec := { _root_.Go.OpenSpec.ofChange s with cond := some uptoSmall }

/-- 'towpathlaw23.PlanApart', WHERE WHAT IT READS IS OF BULK AT MOST 1048576: true; the input reads as it did. -/
def planApartUptoRow : OpenClaim := { program := "ytaigdcmoecgabaagreat", sum := "2d5a2224a03aba7fde50449b3bcf917aa59ea681da4e8c236f736664a4b7c299", func := "towpath/towpathlaw23.PlanApart", spec := "planApart", unfollowed := true, recurses := true, plainKeys := false, apart := false, narrowed := true }
def PlanApartUptoSaid : Prop := planApartUptoRow.holds Tryz.pinned (OpenSpec.upto planApartSpec)

/-- 'towpathlaw23.PlanSerial', WHERE WHAT IT READS IS OF BULK AT MOST 1048576: true; the input reads as it did. -/
def planSerialUptoRow : OpenClaim := { program := "ytaigdcmoecgabaagreat", sum := "2d5a2224a03aba7fde50449b3bcf917aa59ea681da4e8c236f736664a4b7c299", func := "towpath/towpathlaw23.PlanSerial", spec := "planSerial", unfollowed := true, recurses := true, plainKeys := false, apart := false, narrowed := true }
def PlanSerialUptoSaid : Prop := planSerialUptoRow.holds Tryz.pinned (OpenSpec.upto planSerialSpec)

/-- 'towpathlaw23.PlanEvery', WHERE WHAT IT READS IS OF BULK AT MOST 1048576: true; the input reads as it did. -/
def planEveryUptoRow : OpenClaim := { program := "ytaigdcmoecgabaagreat", sum := "2d5a2224a03aba7fde50449b3bcf917aa59ea681da4e8c236f736664a4b7c299", func := "towpath/towpathlaw23.PlanEvery", spec := "planEvery", unfollowed := true, recurses := true, plainKeys := false, apart := false, narrowed := true }
def PlanEveryUptoSaid : Prop := planEveryUptoRow.holds Tryz.pinned (OpenSpec.upto planEverySpec)

/-- 'towpathlaw26.StatHolds', WHERE WHAT IT READS IS OF BULK AT MOST 1048576: true; the input reads as it did. -/
def statHoldsUptoRow : OpenClaim := { program := "ytaigdcmoecgabaagreat", sum := "2d5a2224a03aba7fde50449b3bcf917aa59ea681da4e8c236f736664a4b7c299", func := "towpath/towpathlaw26.StatHolds", spec := "statHolds", unfollowed := true, recurses := true, plainKeys := false, apart := false, narrowed := true }
def StatHoldsUptoSaid : Prop := statHoldsUptoRow.holds Tryz.pinned (OpenSpec.upto statHoldsSpec)

end Rows
end Go.Proofs.YtaigdcmoecgabaaGreat

/-
  NARROWER THAN 'FOR EVERY INPUT', by the rows' own cells (each row's printed sentence says how): ConfTasks: laid · ConfNames: laid · ConfSpreads: laid.
  DERIVED. THE GIVEN ROWS OF THIS SEAT. 3 by the template 'for every input the law returns true; each argument reads behind the call as it read before'; 0 by the template 'total and deterministic' (their statements: YtddlmgedemcgmaaDoorTotals.lean).
  GIVEN WITH THE SEED: the statements are not yours to turn. If you find one false, say at which input.
  Laid BY PROGRAM, IN A SANDBOX (cutbox-rows.mjs): the forced cells as the released guide's own fill.sh prints them over the translation 6fe2208cd4771e36… (all of the seat's roots in one cut). By AI agents, Wed Nov 11 2026. No macro, syntax, notation, axiom, sorry.
-/
import Derived.Test.YtddlmgedemcgmaaDoorChecked
import GoSem.Claim
import GoSem.ClaimJoined
import GoSem.ClaimMapViews
import Derived.JoinedTies
import Derived.KernelRfl
namespace Go.Proofs.YtddlmgedemcgmaaDoor
/- THE CELL 'sum', in the pinned program and in every row, IS THE sha256 OF THE DUMP (.gsa) THAT YtddlmgedemcgmaaDoorProg.lean LOADS. Nothing in Lean hashes anything: it is a label: what it is worth is what the hold of that sum in a sandbox is worth. -/
noncomputable def Tryd.pinned : Pinned := { name := "ytddlmgedemcgmaadoor", sum := "6fe2208cd4771e365cf3b2f4ca11ff815eb801f0c51a5c129b8b26c72039ea1f", checked := Tryd.checked }
namespace Rows
def none {H : Type} : Left H := { results := [], args := [] }

/- WHAT THE LISTED PACKAGE-LEVEL VARIABLES READ AS WHEN THE CALL BEGINS. Each datum BY PROGRAM (the guide's laid-datum.mjs) off the statement by which the dump's own 'gosem.cut.vars' lays the variable. In a bare row this is a premise. The card (YtddlmgedemcgmaaDoorCards.lean) ties it to the program's text. -/
def laid_towpath_conf_names {H : Type} : DataW H := .agg [.lit (.string [100, 105, 115, 112, 97, 116, 99, 104, 101, 114]), .lit (.string [108, 97, 110, 101]), .lit (.string [111, 119, 110, 101, 114]), .lit (.string [103, 97, 116, 101]), .lit (.string [99, 97, 108, 108])]

/-- 'towpathlaw13.ConfTasks': WHATEVER THE INPUT: true; the input reads as it did. -/
def confTasksSpec : ChangeSpec := { name := "confTasks", fn := fun _ => fun
  | [d1, d2] => { results := [.lit (.bool true)], args := [d1, d2] }
  | _ => none }
def confTasksRow : OpenClaim := { program := "ytddlmgedemcgmaadoor", sum := "6fe2208cd4771e365cf3b2f4ca11ff815eb801f0c51a5c129b8b26c72039ea1f", func := "towpath/towpathlaw13.ConfTasks", spec := "confTasks", named := ["towpath/conf.names"], apart := false, laid := [("towpath/conf.names", laid_towpath_conf_names)] }
def ConfTasksSaid : Prop := confTasksRow.holds Tryd.pinned (OpenSpec.ofChange confTasksSpec)

/-- ITS FALSE NEIGHBOUR: 'it returns false'. Refute it at one input. -/
def confTasksWrong : ChangeSpec := { name := "confTasks", fn := fun _ => fun
  | [d1, d2] => { results := [.lit (.bool false)], args := [d1, d2] }
  | _ => none }
def ConfTasksWrongFalsely : Prop := confTasksRow.holds Tryd.pinned (OpenSpec.ofChange confTasksWrong)

/-- 'towpathlaw13.ConfNames': WHATEVER THE INPUT: true; the input reads as it did. -/
def confNamesSpec : ChangeSpec := { name := "confNames", fn := fun _ => fun
  | [d] => { results := [.lit (.bool true)], args := [d] }
  | _ => none }
def confNamesRow : OpenClaim := { program := "ytddlmgedemcgmaadoor", sum := "6fe2208cd4771e365cf3b2f4ca11ff815eb801f0c51a5c129b8b26c72039ea1f", func := "towpath/towpathlaw13.ConfNames", spec := "confNames", named := ["towpath/conf.names"], apart := false, laid := [("towpath/conf.names", laid_towpath_conf_names)] }
def ConfNamesSaid : Prop := confNamesRow.holds Tryd.pinned (OpenSpec.ofChange confNamesSpec)

/-- ITS FALSE NEIGHBOUR: 'it returns false'. Refute it at one input. -/
def confNamesWrong : ChangeSpec := { name := "confNames", fn := fun _ => fun
  | [d] => { results := [.lit (.bool false)], args := [d] }
  | _ => none }
def ConfNamesWrongFalsely : Prop := confNamesRow.holds Tryd.pinned (OpenSpec.ofChange confNamesWrong)

/-- 'towpathlaw13.ConfSpreads': WHATEVER THE INPUT: true; the input reads as it did. -/
def confSpreadsSpec : ChangeSpec := { name := "confSpreads", fn := fun _ => fun
  | [d1, d2, d3] => { results := [.lit (.bool true)], args := [d1, d2, d3] }
  | _ => none }
def confSpreadsRow : OpenClaim := { program := "ytddlmgedemcgmaadoor", sum := "6fe2208cd4771e365cf3b2f4ca11ff815eb801f0c51a5c129b8b26c72039ea1f", func := "towpath/towpathlaw13.ConfSpreads", spec := "confSpreads", named := ["towpath/conf.names"], apart := false, laid := [("towpath/conf.names", laid_towpath_conf_names)] }
def ConfSpreadsSaid : Prop := confSpreadsRow.holds Tryd.pinned (OpenSpec.ofChange confSpreadsSpec)

/-- ITS FALSE NEIGHBOUR: 'it returns false'. Refute it at one input. -/
def confSpreadsWrong : ChangeSpec := { name := "confSpreads", fn := fun _ => fun
  | [d1, d2, d3] => { results := [.lit (.bool false)], args := [d1, d2, d3] }
  | _ => none }
def ConfSpreadsWrongFalsely : Prop := confSpreadsRow.holds Tryd.pinned (OpenSpec.ofChange confSpreadsWrong)

/- THE SECOND FORM. 'bulk': how many values and letters a reading holds, each counted each time it is reached (what is shared counts as often as it is met; a slice's spare places count too). A statement '..UptoSaid' is the law's where the arguments, and the package variables that the reading takes, are together of bulk at most 1048576: NARROWER than '..Said'. Prove '..Said' where nothing that the law and all that it calls make is longer than what came in: it says more and counts as full. Else prove '..UptoSaid'. A law counts once. -/
mutual
def uptoBulk {H : Type} : DataW H → Nat
  | .lit (.string bytes) => bytes.length + 1
  | .lit _ => 1
  | .nil => 1
  | .ptr d => uptoBulk d + 1
  | .slice elems spare => uptoBulkAll elems + uptoBulkAll spare + 1
  | .agg parts => uptoBulkAll parts + 1
  | .iface _ d => uptoBulk d + 1
  | .map entries => uptoBulkEntries entries + 1
  | .held _ => 1
def uptoBulkAll {H : Type} : List (DataW H) → Nat
  | [] => 0
  | d :: r => uptoBulk d + uptoBulkAll r
def uptoBulkEntries {H : Type} : List (Lit × DataW H) → Nat
  | [] => 0
  | x :: r => uptoBulkEntry x + uptoBulkEntries r
def uptoBulkEntry {H : Type} : Lit × DataW H → Nat
  | (.string bytes, d) => bytes.length + uptoBulk d + 1
  | (_, d) => uptoBulk d + 1
 end
def uptoSmall : (H : Type) → List (DataW H) → Bool := fun _ ds => decide (uptoBulkAll ds ≤ 1048576)
def OpenSpec.upto (s : _root_.Go.ChangeSpec) : _root_.Go.OpenSpec := { _root_.Go.OpenSpec.ofChange s with cond := some uptoSmall }

/-- 'towpathlaw13.ConfTasks', WHERE WHAT IT READS IS OF BULK AT MOST 1048576: true; the input reads as it did. -/
def confTasksUptoRow : OpenClaim := { program := "ytddlmgedemcgmaadoor", sum := "6fe2208cd4771e365cf3b2f4ca11ff815eb801f0c51a5c129b8b26c72039ea1f", func := "towpath/towpathlaw13.ConfTasks", spec := "confTasks", named := ["towpath/conf.names"], apart := false, laid := [("towpath/conf.names", laid_towpath_conf_names)], narrowed := true }
def ConfTasksUptoSaid : Prop := confTasksUptoRow.holds Tryd.pinned (OpenSpec.upto confTasksSpec)

/-- 'towpathlaw13.ConfNames', WHERE WHAT IT READS IS OF BULK AT MOST 1048576: true; the input reads as it did. -/
def confNamesUptoRow : OpenClaim := { program := "ytddlmgedemcgmaadoor", sum := "6fe2208cd4771e365cf3b2f4ca11ff815eb801f0c51a5c129b8b26c72039ea1f", func := "towpath/towpathlaw13.ConfNames", spec := "confNames", named := ["towpath/conf.names"], apart := false, laid := [("towpath/conf.names", laid_towpath_conf_names)], narrowed := true }
def ConfNamesUptoSaid : Prop := confNamesUptoRow.holds Tryd.pinned (OpenSpec.upto confNamesSpec)

/-- 'towpathlaw13.ConfSpreads', WHERE WHAT IT READS IS OF BULK AT MOST 1048576: true; the input reads as it did. -/
def confSpreadsUptoRow : OpenClaim := { program := "ytddlmgedemcgmaadoor", sum := "6fe2208cd4771e365cf3b2f4ca11ff815eb801f0c51a5c129b8b26c72039ea1f", func := "towpath/towpathlaw13.ConfSpreads", spec := "confSpreads", named := ["towpath/conf.names"], apart := false, laid := [("towpath/conf.names", laid_towpath_conf_names)], narrowed := true }
def ConfSpreadsUptoSaid : Prop := confSpreadsUptoRow.holds Tryd.pinned (OpenSpec.upto confSpreadsSpec)

end Rows
end Go.Proofs.YtddlmgedemcgmaaDoor

/- Loops taken out of a body by the number of their first region. -/
import Derived.Test.YtgladhebgnngdaaLa14
import Derived.Test.YtgladhebgnngdaaIn10
namespace Go.Proofs.Ytgladhebgnngdaa
/-- Does the code begin with the region of that number? -/
def leads (n : Nat) : Code → Bool
  | .region id _ _ => id == n
  | .seq a _ => leads n a
  | .block _ c => leads n c
  | .scope c => leads n c
  | _ => false
/-- The loop that begins with it. -/
def findLoopAt (n : Nat) : Code → Option Code
  | .loop c => if leads n c then some (.loop c) else findLoopAt n c
  | .seq a b => match findLoopAt n a with
    | some c => some c
    | none => findLoopAt n b
  | .block _ c => findLoopAt n c
  | .scope c => findLoopAt n c
  | .cond _ a b => match findLoopAt n a with
    | some c => some c
    | none => findLoopAt n b
  | _ => none
noncomputable def codeL1 : Code := ((Try.f4.body.bind (findLoopAt 8)).getD .skip)
noncomputable def codeL3 : Code := ((Try.f4.body.bind (findLoopAt 22)).getD .skip)
noncomputable def codeL4 : Code := ((Try.f4.body.bind (findLoopAt 31)).getD .skip)
noncomputable def codeL5 : Code := ((Try.f4.body.bind (findLoopAt 40)).getD .skip)
end Go.Proofs.Ytgladhebgnngdaa

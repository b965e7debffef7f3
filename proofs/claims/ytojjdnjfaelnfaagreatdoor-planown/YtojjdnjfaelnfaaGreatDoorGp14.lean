/- Contracts and lemmas. -/
import Derived.Test.YtojjdnjfaelnfaaGreatDoorGp2
import Derived.Lib.Bytealg
import Derived.Sort.Walk0
set_option linter.unusedVariables false
namespace Go.Proofs.YtojjdnjfaelnfaaGreatDoor
open Go.Proofs.Tryz
theorem zft:∀a:List UInt8,Op.bytesLess a a=false
 | []=>rfl
 |x::xs=>by simp[Op.bytesLess,zft xs]
theorem zake(a b:List UInt8):Op.bytesLess a b=true↔a<b:=by rw[bytesLess_eq];simp
theorem zqe{a b c:List UInt8}(h1:Op.bytesLess a b=true)(h2:Op.bytesLess b c=true):Op.bytesLess a c=true:=by
 rw[zake]at *
 exact List.lt_trans h1 h2
theorem zakf{a b:List UInt8}(h1:Op.bytesLess a b=false)(h2:Op.bytesLess b a=false):a=b:=by
 rw[bytesLess_eq]at *
 simp only[decide_eq_false_iff_not,List.not_lt]at *;exact List.le_antisymm h2 h1
theorem zaba{a b:List UInt8}(h1:Op.bytesLess a b=true):Op.bytesLess b a=false:=by
 cases h:Op.bytesLess b a with
 |false=>rfl
 |true=>have:=zqe h1 h;rw[zft]at this;cases this
end Go.Proofs.YtojjdnjfaelnfaaGreatDoor

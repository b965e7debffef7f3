/- Contracts and lemmas. -/
import Derived.Test.YtaigdcmoecgabaaGreatGp2
import Derived.Lib.Bytealg
import Derived.Sort.Walk0
set_option linter.unusedVariables false
namespace Go.Proofs.YtaigdcmoecgabaaGreat
open Go.Proofs.Tryz
theorem zga:∀a:List UInt8,Op.bytesLess a a=false
 | []=>rfl
 |x::xs=>by simp[Op.bytesLess,zga xs]
theorem zakc(a b:List UInt8):Op.bytesLess a b=true↔a<b:=by rw[bytesLess_eq];simp
theorem zpv{a b c:List UInt8}(h1:Op.bytesLess a b=true)(h2:Op.bytesLess b c=true):Op.bytesLess a c=true:=by
 rw[zakc]at *
 exact List.lt_trans h1 h2
theorem zakd{a b:List UInt8}(h1:Op.bytesLess a b=false)(h2:Op.bytesLess b a=false):a=b:=by
 rw[bytesLess_eq]at *
 simp only[decide_eq_false_iff_not,List.not_lt]at *;exact List.le_antisymm h2 h1
theorem zaat{a b:List UInt8}(h1:Op.bytesLess a b=true):Op.bytesLess b a=false:=by
 cases h:Op.bytesLess b a with
 |false=>rfl
 |true=>have:=zpv h1 h;rw[zga]at this;cases this
end Go.Proofs.YtaigdcmoecgabaaGreat

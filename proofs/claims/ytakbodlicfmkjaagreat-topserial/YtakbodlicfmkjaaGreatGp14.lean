/- Contracts and lemmas. -/
import Derived.Test.YtakbodlicfmkjaaGreatGp2
import Derived.Lib.Bytealg
import Derived.Sort.Walk0
set_option linter.unusedVariables false
namespace Go.Proofs.YtakbodlicfmkjaaGreat
theorem zbw:∀a:List UInt8,Op.bytesLess a a=false
 | []=>rfl
 |x::xs=>by simp[Op.bytesLess,zbw xs]
theorem zor:∀a b:List UInt8,(Lib.compareBytes a b<0↔Op.bytesLess a b=true)
 | [],[]=>by simp[Lib.compareBytes,Op.bytesLess]
 | [],_::_=>by simp[Lib.compareBytes,Op.bytesLess]
 |_::_,[]=>by simp[Lib.compareBytes,Op.bytesLess]
 |x::xs,y::ys=>by
  have ih:=zor xs ys;unfold Lib.compareBytes Op.bytesLess;by_cases h1:x<y
  .simp[h1]
  by_cases h2:y<x
  .simp[h1,h2];intro e;subst e;exact absurd h2 h1
  simp[h1,h2];have e:x=y:=UInt8.le_antisymm (UInt8.not_lt.1 h2) (UInt8.not_lt.1 h1);simp[e,ih]
theorem zage(a b:List UInt8):Op.bytesLess a b=true↔a<b:=by rw[bytesLess_eq];simp
theorem zee{a b c:List UInt8}(h1:Op.bytesLess a b=true)(h2:Op.bytesLess b c=true):Op.bytesLess a c=true:=by
 rw[zage]at *
 exact List.lt_trans h1 h2
theorem zmv{a b c:List UInt8}(h1:Op.bytesLess a b=false)(h2:Op.bytesLess b c=false):Op.bytesLess a c=false:=by
 rw[bytesLess_eq]at *
 simp only[decide_eq_false_iff_not,List.not_lt]at *;exact List.le_trans h2 h1
theorem znq{a b:List UInt8}(h1:Op.bytesLess a b=false)(h2:Op.bytesLess b a=false):a=b:=by
 rw[bytesLess_eq]at *
 simp only[decide_eq_false_iff_not,List.not_lt]at *;exact List.le_antisymm h2 h1
theorem zos{a b:List UInt8}(h1:Op.bytesLess a b=true):Op.bytesLess b a=false:=by
 cases h:Op.bytesLess b a with
 |false=>rfl
 |true=>have:=zee h1 h;rw[zbw]at this;cases this
end Go.Proofs.YtakbodlicfmkjaaGreat

/- Contracts and lemmas. -/
import Derived.Test.YtaigdcmoecgabaaGreatGp13
import Derived.Test.YtaigdcmoecgabaaGreatGp14
set_option linter.unusedSimpArgs false
set_option linter.unusedVariables false
namespace Go.Proofs.YtaigdcmoecgabaaGreat.O
open Go.ChangeShapes Go.WideShapes Go.ChangeAt Go.RowKit Go.Lib Go.Maps Go.Proofs.Tryz
theorem zaau{a b:ByteArray}(h:a.data.toList=b.data.toList):a=b:=by
 cases a;cases b;simp only at h
 congr
 exact Array.toList_inj.1 h
def kl7(s:ByteArray):Lit:=.string s.data.toList
theorem zte{s t:ByteArray}(h:kl7 s=kl7 t):s=t:=zaau (by simpa[kl7]using h)
end Go.Proofs.YtaigdcmoecgabaaGreat.O

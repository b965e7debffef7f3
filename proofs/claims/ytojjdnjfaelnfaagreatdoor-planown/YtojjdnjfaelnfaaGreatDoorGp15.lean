/- Contracts and lemmas. -/
import Derived.Test.YtojjdnjfaelnfaaGreatDoorGp13
import Derived.Test.YtojjdnjfaelnfaaGreatDoorGp14
set_option linter.unusedSimpArgs false
set_option linter.unusedVariables false
namespace Go.Proofs.YtojjdnjfaelnfaaGreatDoor.O
open Go.ChangeShapes Go.WideShapes Go.ChangeAt Go.RowKit Go.Lib Go.Maps Go.Proofs.Tryz
theorem zabb{a b:ByteArray}(h:a.data.toList=b.data.toList):a=b:=by
 cases a;cases b;simp only at h
 congr
 exact Array.toList_inj.1 h
def kl7(s:ByteArray):Lit:=.string s.data.toList
theorem ztw{s t:ByteArray}(h:kl7 s=kl7 t):s=t:=zabb (by simpa[kl7]using h)
end Go.Proofs.YtojjdnjfaelnfaaGreatDoor.O

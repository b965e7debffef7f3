/- What the row of PlanApart says of the program is what the program forces. No conditions. -/
import Derived.Test.YtaigdcmoecgabaaGreatRows
import Derived.JoinedOf
set_option maxHeartbeats 8000000
set_option maxRecDepth 100000
set_option linter.unusedSimpArgs false
set_option linter.unusedVariables false
namespace Go.Proofs.YtaigdcmoecgabaaGreat.planApart
theorem own:ownKnob Tryz.prog.godebug=none:=by kernel_rfl
theorem both{a b:Bool}(h:a=true)(h':b=true):(a&&b)=true:=by rw[h,h'];rfl
theorem named:Tryz.pinned.checked.prog.funcNamed Rows.planApartUptoRow.func=some 3:=by kernel_rfl
theorem inst:Tryz.f3.isInstance Tryz.pinned.checked.prog Rows.planApartUptoRow.origin Rows.planApartUptoRow.targs:=of_decide_eq_true (by kernel_rfl)
theorem wrap:Tryz.f3.isWrapper Tryz.pinned.checked.prog Rows.planApartUptoRow.wrapper Rows.planApartUptoRow.mainSum:=by unfold Func.isWrapper;first|(rw[if_pos (by decide +kernel)];kernel_rfl)|(rw[if_neg (by decide +kernel)];exact⟨rfl,rfl⟩)
theorem zos:joinedFacts Tryz.pinned.checked.prog 3 Tryz.f3 (Rows.OpenSpec.upto Rows.planApartSpec).bare Rows.planApartUptoRow=true:=by
 unfold joinedFacts
 repeat' with_reducible refine both ?_ ?_
 all_goals as_aux_lemma=>kernel_rfl
end Go.Proofs.YtaigdcmoecgabaaGreat.planApart

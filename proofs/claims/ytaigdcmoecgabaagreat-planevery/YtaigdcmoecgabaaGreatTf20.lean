/- What the row of PlanEvery says of the program is what the program forces. No conditions. -/
import Derived.Test.YtaigdcmoecgabaaGreatRows
import Derived.JoinedOf
set_option maxHeartbeats 8000000
set_option maxRecDepth 100000
set_option linter.unusedSimpArgs false
set_option linter.unusedVariables false
namespace Go.Proofs.YtaigdcmoecgabaaGreat.planEvery
theorem own:ownKnob Tryz.prog.godebug=none:=by kernel_rfl
theorem both{a b:Bool}(h:a=true)(h':b=true):(a&&b)=true:=by rw[h,h'];rfl
theorem named:Tryz.pinned.checked.prog.funcNamed Rows.planEveryRow.func=some 5:=by kernel_rfl
theorem inst:Tryz.f5.isInstance Tryz.pinned.checked.prog Rows.planEveryRow.origin Rows.planEveryRow.targs:=of_decide_eq_true (by kernel_rfl)
theorem wrap:Tryz.f5.isWrapper Tryz.pinned.checked.prog Rows.planEveryRow.wrapper Rows.planEveryRow.mainSum:=by unfold Func.isWrapper;first|(rw[if_pos (by decide +kernel)];kernel_rfl)|(rw[if_neg (by decide +kernel)];exact⟨rfl,rfl⟩)
theorem zos:joinedFacts Tryz.pinned.checked.prog 5 Tryz.f5 Rows.planEverySpec Rows.planEveryRow=true:=by
 unfold joinedFacts
 repeat' with_reducible refine both ?_ ?_
 all_goals as_aux_lemma=>kernel_rfl
end Go.Proofs.YtaigdcmoecgabaaGreat.planEvery

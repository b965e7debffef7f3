/- What the row of StatHolds says of the program is what the program forces. No conditions. -/
import Derived.Test.YtaigdcmoecgabaaGreatRows
import Derived.JoinedOf
set_option maxHeartbeats 8000000
set_option maxRecDepth 100000
set_option linter.unusedSimpArgs false
set_option linter.unusedVariables false
namespace Go.Proofs.YtaigdcmoecgabaaGreat.statHolds
theorem own:ownKnob Tryz.prog.godebug=none:=by kernel_rfl
theorem both{a b:Bool}(h:a=true)(h':b=true):(a&&b)=true:=by rw[h,h'];rfl
theorem named:Tryz.pinned.checked.prog.funcNamed Rows.statHoldsRow.func=some 6:=by kernel_rfl
theorem inst:Tryz.f6.isInstance Tryz.pinned.checked.prog Rows.statHoldsRow.origin Rows.statHoldsRow.targs:=of_decide_eq_true (by kernel_rfl)
theorem wrap:Tryz.f6.isWrapper Tryz.pinned.checked.prog Rows.statHoldsRow.wrapper Rows.statHoldsRow.mainSum:=by unfold Func.isWrapper;first|(rw[if_pos (by decide +kernel)];kernel_rfl)|(rw[if_neg (by decide +kernel)];exact⟨rfl,rfl⟩)
theorem zry:joinedFacts Tryz.pinned.checked.prog 6 Tryz.f6 Rows.statHoldsSpec Rows.statHoldsRow=true:=by
 unfold joinedFacts
 repeat' with_reducible refine both ?_ ?_
 all_goals as_aux_lemma=>kernel_rfl
end Go.Proofs.YtaigdcmoecgabaaGreat.statHolds

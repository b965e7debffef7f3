/- Contracts and lemmas. -/
import Derived.Test.YtojjdnjfaelnfaaGreatDoorRows
import Derived.JoinedOf
import Derived.LaidMore
set_option maxHeartbeats 8000000
set_option maxRecDepth 100000
namespace Go.Proofs.YtojjdnjfaelnfaaGreatDoor.planOwn
open Go.Proofs.Tryz
theorem own:ownKnob prog.godebug=none:=by kernel_rfl
theorem zun:laidOutB prog=true:=by kernel_rfl
theorem both{a b:Bool}(h:a=true)(h':b=true):(a&&b)=true:=by rw[h,h'];rfl
theorem named:Tryz.pinned.checked.prog.funcNamed Rows.planOwnRow.func=some 3:=by kernel_rfl
theorem inst:Tryz.f3.isInstance Tryz.pinned.checked.prog Rows.planOwnRow.origin Rows.planOwnRow.targs:=of_decide_eq_true (by kernel_rfl)
theorem wrap:Tryz.f3.isWrapper Tryz.pinned.checked.prog Rows.planOwnRow.wrapper Rows.planOwnRow.mainSum:=by unfold Func.isWrapper;first|(rw[if_pos (by decide +kernel)];kernel_rfl)|(rw[if_neg (by decide +kernel)];exact⟨rfl,rfl⟩)
theorem facts:joinedFacts Tryz.pinned.checked.prog 3 Tryz.f3 Rows.planOwnSpec Rows.planOwnRow=true:=by
 unfold joinedFacts
 repeat' with_reducible refine both ?_ ?_
 all_goals as_aux_lemma=>kernel_rfl
end Go.Proofs.YtojjdnjfaelnfaaGreatDoor.planOwn

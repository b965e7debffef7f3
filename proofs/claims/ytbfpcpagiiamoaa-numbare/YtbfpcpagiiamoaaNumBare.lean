/- NumBare: for every number of 64 bits without a sign, Fit to each other kind, a named one too, answers the number and true just where the number lies within that kind, and 0 and false else; so too for the number cut to a named kind of 16 bits: the law returns true. Conditions: none. -/
import Derived.Test.YtbfpcpagiiamoaaRows
import Derived.Test.YtbfpcpagiiamoaaKinds
import Derived.WalkKit
import Derived.ProofKit
import Derived.OpenShut
namespace Go.Proofs.Ytbfpcpagiiamoaa.numBare
open Go.ChangeShapes Go.WideShapes Go.ChangeAt Go.RowKit
set_option linter.unusedVariables false      -- a walk need not use every 'w<i>' (that an integer argument fits its kind)

theorem own : ownKnob Try.prog.godebug = none := by kernel_rfl

theorem grown_drewN (v : World) (q : Nat) : Grown v (v.drewN q) := (Grown.refl v : Grown v v)

/-! ### STEP 1: THE WALK: the Go text returns true. 'Grown w w'': the world has at most new blocks (Derived/RowKit3.lean). Part the cases AHEAD of 'go_enter' where a test parts the walk; take each callee by a contract of your own. -/
set_option maxRecDepth 100000 in
set_option maxHeartbeats 8000000 in
theorem walk (a0 : Int) (w0 : (Lit.int .u64 a0).wf = true) (w : World) :
    Calls Try.prog 4 #[.int .u64 a0] w fun e w' => e = .returned (.bool true) ∧ Grown w w' := by
  obtain ⟨x0, x1⟩ := bounds_u64 w0
  clear w0
  obtain ⟨l0, u0⟩ := fitV_i8 a0
  have p0 : 0 ≤ fitV .i8 a0 := by unfold fitV; split <;> omega
  obtain ⟨l1, u1⟩ := fitV_i16 a0
  have p1 : 0 ≤ fitV .i16 a0 := by unfold fitV; split <;> omega
  obtain ⟨l2, u2⟩ := fitV_i32 a0
  have p2 : 0 ≤ fitV .i32 a0 := by unfold fitV; split <;> omega
  obtain ⟨l3, u3⟩ := fitV_i64 a0
  have p3 : 0 ≤ fitV .i64 a0 := by unfold fitV; split <;> omega
  obtain ⟨l4, u4⟩ := fitV_u8 a0
  have p4 : 0 ≤ fitV .u8 a0 := by unfold fitV; split <;> omega
  obtain ⟨l5, u5⟩ := fitV_u16 a0
  have p5 : 0 ≤ fitV .u16 a0 := by unfold fitV; split <;> omega
  obtain ⟨l6, u6⟩ := fitV_u32 a0
  have p6 : 0 ≤ fitV .u32 a0 := by unfold fitV; split <;> omega
  obtain ⟨m, hm, m0, m1⟩ : ∃ m, IntKind.u16.wrap a0 = m ∧ 0 ≤ m ∧ m ≤ 65535 := ⟨_, rfl, by rw [w_u16]; omega, by rw [w_u16]; omega⟩
  obtain ⟨l9, u9⟩ := fitV_i8 m
  have p9 : 0 ≤ fitV .i8 m := by unfold fitV; split <;> omega
  go_enter Try.func4, Try.ntmps4
  go_wp2_with (first
    | (go_at_call 21; refine (fit21_any _ _ ?_ ?_).mono ?_; (all_goals try omega); rintro e w' ⟨rfl, rfl⟩)
    | (go_at_call 22; refine (fit22_any _ _ ?_ ?_).mono ?_; (all_goals try omega); rintro e w' ⟨rfl, rfl⟩)
    | (go_at_call 23; refine (fit23_any _ _ ?_ ?_).mono ?_; (all_goals try omega); rintro e w' ⟨rfl, rfl⟩)
    | (go_at_call 24; refine (fit24_any _ _ ?_ ?_).mono ?_; (all_goals try omega); rintro e w' ⟨rfl, rfl⟩)
    | (go_at_call 25; refine (fit25_any _ _ ?_ ?_).mono ?_; (all_goals try omega); rintro e w' ⟨rfl, rfl⟩)
    | (go_at_call 26; refine (fit26_any _ _ ?_ ?_).mono ?_; (all_goals try omega); rintro e w' ⟨rfl, rfl⟩)
    | (go_at_call 27; refine (fit27_any _ _ ?_ ?_).mono ?_; (all_goals try omega); rintro e w' ⟨rfl, rfl⟩)
    | (go_at_call 28; refine (fit28_any _ _ ?_ ?_).mono ?_; (all_goals try omega); rintro e w' ⟨rfl, rfl⟩)
    | (go_at_call 30; refine (fit30_any _ _ ?_ ?_).mono ?_; (all_goals try omega); rintro e w' ⟨rfl, rfl⟩)
    | (go_at_call 29; refine (fit29_yes _ _ ?_ ?_ ?_ ?_).mono ?_; (all_goals try omega); rintro e w' ⟨rfl, rfl⟩))
  refine (in_is _ _ _ _ _ (fitB .i8 a0) (bare_i8 a0 (by omega) (by omega)) ?_ ?_ ?_ ?_).mono ?_; (all_goals try omega); rintro e w' ⟨rfl, rfl⟩
  go_wp2_with fail
  refine (bare_any _ _ _ _ _ rfl (fitV_yes _ _) (fitV_no _ _)).mono ?_; rintro e w' ⟨rfl, rfl⟩
  go_wp2_with fail
  refine (in_is _ _ _ _ _ (fitB .i16 a0) (bare_i16 a0 (by omega) (by omega)) ?_ ?_ ?_ ?_).mono ?_; (all_goals try omega); rintro e w' ⟨rfl, rfl⟩
  go_wp2_with fail
  refine (bare_any _ _ _ _ _ rfl (fitV_yes _ _) (fitV_no _ _)).mono ?_; rintro e w' ⟨rfl, rfl⟩
  go_wp2_with fail
  refine (in_is _ _ _ _ _ (fitB .i32 a0) (bare_i32 a0 (by omega) (by omega)) ?_ ?_ ?_ ?_).mono ?_; (all_goals try omega); rintro e w' ⟨rfl, rfl⟩
  go_wp2_with fail
  refine (bare_any _ _ _ _ _ rfl (fitV_yes _ _) (fitV_no _ _)).mono ?_; rintro e w' ⟨rfl, rfl⟩
  go_wp2_with fail
  refine (in_is _ _ _ _ _ (fitB .i64 a0) (bare_i64 a0 (by omega) (by omega)) ?_ ?_ ?_ ?_).mono ?_; (all_goals try omega); rintro e w' ⟨rfl, rfl⟩
  go_wp2_with fail
  refine (bare_any _ _ _ _ _ rfl (fitV_yes _ _) (fitV_no _ _)).mono ?_; rintro e w' ⟨rfl, rfl⟩
  go_wp2_with fail
  refine (in_is _ _ _ _ _ (fitB .i64 a0) (bare_i64 a0 (by omega) (by omega)) ?_ ?_ ?_ ?_).mono ?_; (all_goals try omega); rintro e w' ⟨rfl, rfl⟩
  go_wp2_with fail
  refine (bare_any _ _ _ _ _ rfl (fitV_yes _ _) (fitV_no _ _)).mono ?_; rintro e w' ⟨rfl, rfl⟩
  go_wp2_with fail
  refine (in_is _ _ _ _ _ (fitB .u8 a0) (bare_u8 a0 (by omega) (by omega)) ?_ ?_ ?_ ?_).mono ?_; (all_goals try omega); rintro e w' ⟨rfl, rfl⟩
  go_wp2_with fail
  refine (bare_any _ _ _ _ _ rfl (fitV_yes _ _) (fitV_no _ _)).mono ?_; rintro e w' ⟨rfl, rfl⟩
  go_wp2_with fail
  refine (in_is _ _ _ _ _ (fitB .u16 a0) (bare_u16 a0 (by omega) (by omega)) ?_ ?_ ?_ ?_).mono ?_; (all_goals try omega); rintro e w' ⟨rfl, rfl⟩
  go_wp2_with fail
  refine (bare_any _ _ _ _ _ rfl (fitV_yes _ _) (fitV_no _ _)).mono ?_; rintro e w' ⟨rfl, rfl⟩
  go_wp2_with fail
  refine (in_is _ _ _ _ _ (fitB .u32 a0) (bare_u32 a0 (by omega) (by omega)) ?_ ?_ ?_ ?_).mono ?_; (all_goals try omega); rintro e w' ⟨rfl, rfl⟩
  go_wp2_with fail
  refine (bare_any _ _ _ _ _ rfl (fitV_yes _ _) (fitV_no _ _)).mono ?_; rintro e w' ⟨rfl, rfl⟩
  go_wp2_with fail
  refine (bare_any true true a0 a0 _ rfl (fun _ => rfl) (fun h => by cases h)).mono ?_; rintro e w' ⟨rfl, rfl⟩
  go_wp2_with fail
  refine (in_is _ _ _ _ _ (fitB .i8 m) (bare_i8 m (by omega) (by omega)) ?_ ?_ ?_ ?_).mono ?_; (all_goals try omega); rintro e w' ⟨rfl, rfl⟩
  go_wp2_with fail
  refine (bare_any _ _ _ _ _ rfl (fitV_yes _ _) (fitV_no _ _)).mono ?_; rintro e w' ⟨rfl, rfl⟩
  go_wp2
  go_ret
  exact ⟨rfl, Grown.refl _⟩

/-! ### THE ROW's STEP: WRITTEN OUT: LEAVE IT -/
set_option maxRecDepth 100000 in
theorem lifted (os : Os) (started : os.Started) (H : Type) (enc : TypeId × Value → H) :
    ReturnsInHanded {} Try.checked os 4 .any (Rows.numBareSpec.pre6 enc Try.prog Try.f4 Rows.numBareRow.domain false) (Rows.numBareSpec.post enc Try.prog Try.f4 false true false false) := by
  refine returnsInHanded_of_change (C := Try.checked) own started (by kernel_rfl) Try.func4
    (ChangeSpec.witness6 (enc := enc) (C := Try.checked) false ⟨#[], #[.int .u64 0], []⟩ 8 (by kernel_rfl) (by kernel_rfl) (by kernel_rfl) (by kernel_rfl)) ?_
  intro W base args ds gs before hval0 hW hcnd _
  have hval : ∀ (j : Nat) t v, Try.f4.params[j]? = some t → args[j]? = some v → Value.okWide Try.prog W .any base t v := hval0
  have hW' := hW
  obtain ⟨p, q, hA0, hV, rfl, hfz, hnd⟩ := hW
  have hA : DataW.TrodAll enc Try.prog W 0 (fun _ => true) true Try.f4.params.toList args.toList ds p := hA0
  rw [Try.params4] at hA hval
  obtain ⟨v0, vs0, d0, ds0, p0, q0, hargs, rfl, rfl, h0, r0⟩ := trodAll_cons hA
  obtain ⟨rfl, rfl, rfl⟩ := trodAll_nil r0
  obtain rfl : args = #[v0] := by cases args; simp_all
  obtain ⟨rfl, rfl⟩ := trodVars_none hV
  obtain ⟨a0, rfl, rfl, rfl, w0⟩ := open_int Try.underlying42 (hval 0 42 v0 rfl rfl) h0
  clear hA0 hval0
  simp only [List.append_nil] at hW'
  refine (walk a0 w0 W).mono fun e W' ⟨he, hg⟩ => ?_
  subst he
  exact ⟨_, rfl, post_of_same (pa := []) (pv := []) hW' (fun _ _ _ => (trodAll_cons_mk (shut_bool Try.underlying4 _) trodAll_mk0)) (fun sp _ => (trodAll_cons_mk (shut_int Try.underlying42 w0) trodAll_mk0)) (fun _ _ => rfl) rfl
    (hg.frame _) hg.2.1 (ok_one (by kernel_rfl) rfl (okWide_bool_mk Try.underlying4 _))⟩

theorem over : Rows.numBareRow.holds Try.pinned (OpenSpec.ofChange Rows.numBareSpec) :=
  OpenClaim.holds_of_wide 4 Try.f4 rfl rfl rfl rfl rfl rfl rfl ⟨rfl, rfl, rfl, rfl, rfl⟩ rfl rfl rfl rfl rfl (by kernel_rfl) Try.func4 (by kernel_rfl)
    (of_decide_eq_true (by kernel_rfl)) (by unfold Func.isWrapper; first | (rw [if_pos (by decide +kernel)]; kernel_rfl) | (rw [if_neg (by decide +kernel)]; exact ⟨rfl, rfl⟩))
    (fun os started H enc _ => lifted os started H enc)

/-- ████ THE STATEMENT ████ -/
theorem proved : Rows.NumBareSaid :=
  over
end Go.Proofs.Ytbfpcpagiiamoaa.numBare

namespace Go.Proofs.Ytbfpcpagiiamoaa
theorem numbare_holds : Rows.NumBareSaid := numBare.proved
#print axioms numbare_holds
end Go.Proofs.Ytbfpcpagiiamoaa

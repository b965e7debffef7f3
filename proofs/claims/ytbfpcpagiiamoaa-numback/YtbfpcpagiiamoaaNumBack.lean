/- NumBack: for every number of 64 bits with a sign and every one without, what Fit takes comes back by Fit the other way as the same number, and Zigzag and Zagzig undo one another: the law returns true. Conditions: none. -/
import Derived.Test.YtbfpcpagiiamoaaRows
import Derived.Test.YtbfpcpagiiamoaaAlive
import Derived.WalkKit
import Derived.ProofKit
import Derived.OpenShut
namespace Go.Proofs.Ytbfpcpagiiamoaa.numBack
open Go.ChangeShapes Go.WideShapes Go.ChangeAt Go.RowKit
set_option linter.unusedVariables false      -- a walk need not use every 'w<i>' (that an integer argument fits its kind)

theorem own : ownKnob Try.prog.godebug = none := by kernel_rfl

theorem grown_drewN (v : World) (q : Nat) : Grown v (v.drewN q) := (Grown.refl v : Grown v v)

/-! ### STEP 1: THE WALK: the Go text returns true. 'Grown w w'': the world has at most new blocks (Derived/RowKit3.lean). Part the cases AHEAD of 'go_enter' where a test parts the walk; take each callee by a contract of your own. -/
theorem walk (a0 : Int) (a1 : Int) (w0 : (Lit.int .i64 a0).wf = true) (w1 : (Lit.int .u64 a1).wf = true) (w : World) :
    Calls Try.prog 7 #[.int .i64 a0, .int .u64 a1] w fun e w' => e = .returned (.bool true) ∧ Grown w w' := by
  obtain ⟨x0, x1⟩ := bounds_i64 w0
  obtain ⟨y0, y1⟩ := bounds_u64 w1
  clear w0 w1
  obtain ⟨g0, g1⟩ := zig_bd a0 x0 x1
  obtain ⟨k0, k1⟩ := zag_bd a1 y0 y1
  have e1 := zag_zig a0
  have e2 := zig_zag a1 y0
  by_cases c1 : -32768 ≤ a0 ∧ a0 ≤ 32767 <;> by_cases c2 : a1 ≤ 4294967295
  · obtain ⟨c3, c4⟩ := c1
    go_enter Try.func7, Try.ntmps7
    go_wp2_with (first
      | (go_at_call 44; refine (alive_any _).mono ?_; rintro e w' ⟨rfl, q1, rfl⟩)
      | (go_at_call 10; refine (fit10_yes _ _ ?_ ?_ ?_ ?_).mono ?_; (all_goals try omega); rintro e w' ⟨rfl, rfl⟩)
      | (go_at_call 28; refine (fit28_yes _ _ ?_ ?_ ?_ ?_).mono ?_; (all_goals try omega); rintro e w' ⟨rfl, rfl⟩)
      | (go_at_call 42; refine (fit42_yes _ _ ?_ ?_ ?_ ?_).mono ?_; (all_goals try omega); rintro e w' ⟨rfl, rfl⟩)
      | (go_at_call 43; refine (fit43_yes _ _ ?_ ?_ ?_ ?_).mono ?_; (all_goals try omega); rintro e w' ⟨rfl, rfl⟩)
      | (go_at_call 38; refine (zig_any _ _ ?_ ?_).mono ?_; (all_goals try omega); rintro e w' ⟨rfl, rfl⟩)
      | (go_at_call 40; refine (zag_any _ _ ?_ ?_).mono ?_; (all_goals try omega); rintro e w' ⟨rfl, rfl⟩))
    go_ret
    exact ⟨rfl, grown_drewN _ _⟩
  · obtain ⟨c3, c4⟩ := c1
    go_enter Try.func7, Try.ntmps7
    go_wp2_with (first
      | (go_at_call 44; refine (alive_any _).mono ?_; rintro e w' ⟨rfl, q1, rfl⟩)
      | (go_at_call 10; refine (fit10_yes _ _ ?_ ?_ ?_ ?_).mono ?_; (all_goals try omega); rintro e w' ⟨rfl, rfl⟩)
      | (go_at_call 28; refine (fit28_no _ _ ?_ ?_ ?_).mono ?_; (all_goals try omega); rintro e w' ⟨rfl, rfl⟩)
      | (go_at_call 42; refine (fit42_yes _ _ ?_ ?_ ?_ ?_).mono ?_; (all_goals try omega); rintro e w' ⟨rfl, rfl⟩)
      | (go_at_call 43; refine (fit43_yes _ _ ?_ ?_ ?_ ?_).mono ?_; (all_goals try omega); rintro e w' ⟨rfl, rfl⟩)
      | (go_at_call 38; refine (zig_any _ _ ?_ ?_).mono ?_; (all_goals try omega); rintro e w' ⟨rfl, rfl⟩)
      | (go_at_call 40; refine (zag_any _ _ ?_ ?_).mono ?_; (all_goals try omega); rintro e w' ⟨rfl, rfl⟩))
    go_ret
    exact ⟨rfl, grown_drewN _ _⟩
  · have c5 : a0 < -32768 ∨ 32767 < a0 := by omega
    clear c1
    go_enter Try.func7, Try.ntmps7
    go_wp2_with (first
      | (go_at_call 44; refine (alive_any _).mono ?_; rintro e w' ⟨rfl, q1, rfl⟩)
      | (go_at_call 10; refine (fit10_no _ _ ?_ ?_ ?_).mono ?_; (all_goals try omega); rintro e w' ⟨rfl, rfl⟩)
      | (go_at_call 28; refine (fit28_yes _ _ ?_ ?_ ?_ ?_).mono ?_; (all_goals try omega); rintro e w' ⟨rfl, rfl⟩)
      | (go_at_call 42; refine (fit42_yes _ _ ?_ ?_ ?_ ?_).mono ?_; (all_goals try omega); rintro e w' ⟨rfl, rfl⟩)
      | (go_at_call 43; refine (fit43_yes _ _ ?_ ?_ ?_ ?_).mono ?_; (all_goals try omega); rintro e w' ⟨rfl, rfl⟩)
      | (go_at_call 38; refine (zig_any _ _ ?_ ?_).mono ?_; (all_goals try omega); rintro e w' ⟨rfl, rfl⟩)
      | (go_at_call 40; refine (zag_any _ _ ?_ ?_).mono ?_; (all_goals try omega); rintro e w' ⟨rfl, rfl⟩))
    go_ret
    exact ⟨rfl, grown_drewN _ _⟩
  · have c5 : a0 < -32768 ∨ 32767 < a0 := by omega
    clear c1
    go_enter Try.func7, Try.ntmps7
    go_wp2_with (first
      | (go_at_call 44; refine (alive_any _).mono ?_; rintro e w' ⟨rfl, q1, rfl⟩)
      | (go_at_call 10; refine (fit10_no _ _ ?_ ?_ ?_).mono ?_; (all_goals try omega); rintro e w' ⟨rfl, rfl⟩)
      | (go_at_call 28; refine (fit28_no _ _ ?_ ?_ ?_).mono ?_; (all_goals try omega); rintro e w' ⟨rfl, rfl⟩)
      | (go_at_call 42; refine (fit42_yes _ _ ?_ ?_ ?_ ?_).mono ?_; (all_goals try omega); rintro e w' ⟨rfl, rfl⟩)
      | (go_at_call 43; refine (fit43_yes _ _ ?_ ?_ ?_ ?_).mono ?_; (all_goals try omega); rintro e w' ⟨rfl, rfl⟩)
      | (go_at_call 38; refine (zig_any _ _ ?_ ?_).mono ?_; (all_goals try omega); rintro e w' ⟨rfl, rfl⟩)
      | (go_at_call 40; refine (zag_any _ _ ?_ ?_).mono ?_; (all_goals try omega); rintro e w' ⟨rfl, rfl⟩))
    go_ret
    exact ⟨rfl, grown_drewN _ _⟩

/-! ### THE ROW's STEP: WRITTEN OUT: LEAVE IT -/
set_option maxRecDepth 100000 in
theorem lifted (os : Os) (started : os.Started) (H : Type) (enc : TypeId × Value → H) :
    ReturnsInHanded {} Try.checked os 7 .any (Rows.numBackSpec.pre6 enc Try.prog Try.f7 Rows.numBackRow.domain false) (Rows.numBackSpec.post enc Try.prog Try.f7 false true false false) := by
  refine returnsInHanded_of_change (C := Try.checked) own started (by kernel_rfl) Try.func7
    (ChangeSpec.witness6 (enc := enc) (C := Try.checked) false ⟨#[], #[.int .i64 0, .int .u64 0], []⟩ 8 (by kernel_rfl) (by kernel_rfl) (by kernel_rfl) (by kernel_rfl)) ?_
  intro W base args ds gs before hval0 hW hcnd _
  have hval : ∀ (j : Nat) t v, Try.f7.params[j]? = some t → args[j]? = some v → Value.okWide Try.prog W .any base t v := hval0
  have hW' := hW
  obtain ⟨p, q, hA0, hV, rfl, hfz, hnd⟩ := hW
  have hA : DataW.TrodAll enc Try.prog W 0 (fun _ => true) true Try.f7.params.toList args.toList ds p := hA0
  rw [Try.params7] at hA hval
  obtain ⟨v0, vs0, d0, ds0, p0, q0, hargs, rfl, rfl, h0, r0⟩ := trodAll_cons hA
  obtain ⟨v1, vs1, d1, ds1, p1, q1, rfl, rfl, rfl, h1, r1⟩ := trodAll_cons r0
  obtain ⟨rfl, rfl, rfl⟩ := trodAll_nil r1
  obtain rfl : args = #[v0, v1] := by cases args; simp_all
  obtain ⟨rfl, rfl⟩ := trodVars_none hV
  obtain ⟨a0, rfl, rfl, rfl, w0⟩ := open_int Try.underlying2 (hval 0 2 v0 rfl rfl) h0
  obtain ⟨a1, rfl, rfl, rfl, w1⟩ := open_int Try.underlying42 (hval 1 42 v1 rfl rfl) h1
  clear hA0 hval0
  simp only [List.append_nil] at hW'
  refine (walk a0 a1 w0 w1 W).mono fun e W' ⟨he, hg⟩ => ?_
  subst he
  exact ⟨_, rfl, post_of_same (pa := []) (pv := []) hW' (fun _ _ _ => (trodAll_cons_mk (shut_bool Try.underlying4 _) trodAll_mk0)) (fun sp _ => (trodAll_cons_mk (shut_int Try.underlying2 w0) (trodAll_cons_mk (shut_int Try.underlying42 w1) trodAll_mk0))) (fun _ _ => rfl) rfl
    (hg.frame _) hg.2.1 (ok_one (by kernel_rfl) rfl (okWide_bool_mk Try.underlying4 _))⟩

theorem over : Rows.numBackRow.holds Try.pinned (OpenSpec.ofChange Rows.numBackSpec) :=
  OpenClaim.holds_of_wide 7 Try.f7 rfl rfl rfl rfl rfl rfl rfl ⟨rfl, rfl, rfl, rfl, rfl⟩ rfl rfl rfl rfl rfl (by kernel_rfl) Try.func7 (by kernel_rfl)
    (of_decide_eq_true (by kernel_rfl)) (by unfold Func.isWrapper; first | (rw [if_pos (by decide +kernel)]; kernel_rfl) | (rw [if_neg (by decide +kernel)]; exact ⟨rfl, rfl⟩))
    (fun os started H enc _ => lifted os started H enc)

/-- ████ THE STATEMENT ████ -/
theorem proved : Rows.NumBackSaid :=
  over
end Go.Proofs.Ytbfpcpagiiamoaa.numBack

namespace Go.Proofs.Ytbfpcpagiiamoaa
theorem numback_holds : Rows.NumBackSaid := numBack.proved
#print axioms numback_holds
end Go.Proofs.Ytbfpcpagiiamoaa

/- For every call the law CallChecks returns true, and the call reads as it did. No conditions. -/
import Derived.Test.YtpdkdgmaofhlkaaIn17
import Derived.Test.YtpdkdgmaofhlkaaCy17
namespace Go.Proofs.Ytpdkdgmaofhlkaa.callChecks
open Go.ChangeShapes Go.WideShapes Go.ChangeAt Go.RowKit Go.Lib Go.ChangeMaps
set_option linter.unusedVariables false

set_option maxHeartbeats 1600000 in
set_option maxRecDepth 100000 in
theorem walk (k : Int) (key en : ByteArray) (w : World) (hk : 0 ≤ k ∧ k ≤ 255) (h1 : key.size ≤ reachBytes) (h2 : en.size ≤ reachBytes) :
    Calls Try.prog 3 #[.agg #[.int .u8 k, .string key, .string en]] w fun e w' => e = .returned (.bool true) ∧ Fr [] w w' := by
  have H1 := fun w => qcheck_any k key en w hk
  have H2 := fun w => yccheck_any k key en w hk
  generalize ckE k key en = c at H1 H2
  have HQ : Hid (∀ W, Fr [] (w.alloc (.cells #[.int .u8 k, .string key, .string en] 24)) W → W.cell? ⟨w.heap.size, 0, none⟩ = some (.int .u8 k) ∧ W.cell? ⟨w.heap.size, 1, none⟩ = some (.string key) ∧ W.cell? ⟨w.heap.size, 2, none⟩ = some (.string en)) := fun W hW => by
    have hr := hW.keep (heap_alloc_new w (.cells #[.int .u8 k, .string key, .string en] 24)) (by simp)
    refine ⟨?_, ?_, ?_⟩ <;> (rw [cell_of_row _ _ _ _ _ _ hr]; rfl)
  clear hk h1 h2
  have H3 := fun w => lives_any w
  have hcc : (c == c) = true := by simp
  obtain ⟨w1, hw1⟩ : ∃ w1, w1 = w.alloc (.cells #[.int .u8 k, .string key, .string en] 24) := ⟨_, rfl⟩
  have HF : Hid (Fr [] w w1) := by rw [hw1]; exact Fr.alloc _ _ _
  rw [← hw1] at HQ
  have f0 : ∀ y : Wd13 w1, y.W.cell? ⟨w.heap.size, 0, none⟩ = some (.int .u8 k) := fun y => (HQ.out _ y.h).1
  have f1 : ∀ y : Wd13 w1, y.W.cell? ⟨w.heap.size, 1, none⟩ = some (.string key) := fun y => (HQ.out _ y.h).2.1
  have f2 : ∀ y : Wd13 w1, y.W.cell? ⟨w.heap.size, 2, none⟩ = some (.string en) := fun y => (HQ.out _ y.h).2.2
  go_enter Try.func3, Try.ntmps3
  go_wp2_with fail
  rw [← hw1]
  clear hw1 HQ
  refine wp_region_wd13 (w1 := w1) (by kernel_rfl) (by kernel_rfl) (Fr.refl _ _) ?_
  repeat (go_big_quiet_step (first
    | (go_at_call 7; with_reducible refine (H1 _).mono ?_; exact fun e w3 hh => ⟨hh.1, ⟨_, Fr.then (Wd13.h _) hh.2⟩, rfl⟩)
    | (go_at_call 8; with_reducible refine (H2 _).mono ?_; exact fun e w3 hh => ⟨hh.1, ⟨_, Fr.then (Wd13.h _) hh.2⟩, rfl⟩)
    | (go_at_call 9; with_reducible refine (H3 _).mono ?_; exact fun e w3 hh => ⟨hh.1, ⟨_, Fr.then (Wd13.h _) hh.2⟩, rfl⟩)))
  refine wpQuiet_nil ?_
  rintro _ ⟨y, rfl⟩
  go_wp2_with fail
  go_ret
  exact ⟨rfl, HF.out.then y.h⟩

theorem own : ownKnob Try.prog.godebug = none := by kernel_rfl
theorem laidOut : laidOutB Try.prog = true := by kernel_rfl
set_option maxHeartbeats 4000000 in
set_option maxRecDepth 100000 in
theorem lifted (os : Os) (started : os.Started) (H : Type) (enc : TypeId × Value → H) :
    ReturnsInHanded {} Try.checked os 3 .any (Rows.callChecksSpec.pre6 enc Try.prog Try.f3 Rows.callChecksRow.domain false) (Rows.callChecksSpec.post enc Try.prog Try.f3 false true false false) := by
  refine returnsInHanded_of_change_sized (C := Try.checked) own started (by kernel_rfl) Try.func3
    (ChangeSpec.witness6 (enc := enc) (C := Try.checked) false ⟨#[], #[.agg #[.int .u8 0, .string ⟨#[]⟩, .string ⟨#[]⟩]], []⟩ 8 (by kernel_rfl) (by kernel_rfl) (by kernel_rfl) (by kernel_rfl)) ?_
  intro W base args ds gs before hval0 hW hcnd hsz0 _
  have hval : ∀ (j : Nat) t v, Try.f3.params[j]? = some t → args[j]? = some v → Value.okWide Try.prog W .any base t v := hval0
  have hsz : (DataW.weightsEach Try.prog (Try.f3.params.toList ++ Rows.callChecksSpec.plain.varTypes Try.prog) (ds ++ gs)).all (· ≤ reachBytes) = true := hsz0
  have hW' := hW
  obtain ⟨p, q, hA0, hV, rfl, hfz, hnd⟩ := hW
  have hA : DataW.TrodAll enc Try.prog W 0 (fun _ => true) true Try.f3.params.toList args.toList ds p := hA0
  rw [Try.params3] at hA hval hsz
  obtain ⟨v0, vs0, d0, ds0, p0, q0, hargs, rfl, rfl, h0, r0⟩ := trodAll_cons hA
  obtain ⟨rfl, rfl, rfl⟩ := trodAll_nil r0
  obtain rfl : args = #[v0] := by cases args; simp_all
  obtain ⟨rfl, rfl⟩ := trodVars_none hV
  obtain ⟨cs0, rfl, _⟩ := okWide_struct Try.underlying24 (hval 0 24 v0 rfl rfl)
  have k0 := h0
  have lt0 : ∀ x ∈ p0, x.block < W.heap.size := by obtain ⟨m, hm⟩ := k0; exact DataW.trod_lt m _ _ _ hm
  obtain ⟨ck0, key0, en0, rfl, hB0, hK0, hE0⟩ : ∃ (k : Int) (key en : ByteArray), cs0 = #[.int .u8 k, .string key, .string en] ∧ (0 ≤ k ∧ k ≤ 255) ∧ key.size ≤ reachBytes ∧ en.size ≤ reachBytes := by
    obtain ⟨fuel, hf⟩ := h0
    obtain ⟨k, key, en, e, h1, h2, h3⟩ := call_open hf (fun n hn => of_decide_eq_true (List.all_eq_true.1 hsz n (DataW.weights_mem_each (j := 0) (t := 24) rfl rfl n hn)))
    exact ⟨k, key, en, by cases cs0; simpa [Value.cells] using e, h1, h2, h3⟩
  clear hA0 hval0
  refine (walk ck0 key0 en0 W hB0 hK0 hE0).mono fun e W' ⟨he, hf⟩ => ?_
  subst he
  have bel : Below W.heap.size W W' := hf.below (Nat.le_refl _) (by simp)
  exact ⟨_, rfl, _, _, _, [], _, [], hW', trodAll_mk1 (shut_bool Try.underlying4 _), (trodAll_cons_mk (Below.trod laidOut (by kernel_rfl) (of_decide_eq_true (by kernel_rfl)) k0 bel lt0) trodAll_mk0), rfl, bel.frame _, fun h => by cases h⟩

theorem over : Rows.callChecksRow.holds Try.pinned (OpenSpec.ofChange Rows.callChecksSpec) :=
  OpenClaim.holds_of_wide 3 Try.f3 rfl rfl rfl rfl rfl rfl rfl ⟨rfl, rfl, rfl, rfl, rfl⟩ rfl rfl rfl rfl rfl (by kernel_rfl) Try.func3 (by kernel_rfl)
    (of_decide_eq_true (by kernel_rfl)) (by unfold Func.isWrapper; first | (rw [if_pos (by decide +kernel)]; kernel_rfl) | (rw [if_neg (by decide +kernel)]; exact ⟨rfl, rfl⟩))
    (fun os started H enc _ => lifted os started H enc)
end Go.Proofs.Ytpdkdgmaofhlkaa.callChecks
namespace Go.Proofs.Ytpdkdgmaofhlkaa
theorem callchecks_holds : Rows.CallChecksSaid := callChecks.over
#print axioms callchecks_holds
end Go.Proofs.Ytpdkdgmaofhlkaa

/- For every configuration and every call the law CountCalls returns true, and both read as they did. No conditions. -/
import Derived.Test.YtdojhkgnnbdfkaaCl22
import Derived.Test.YtdojhkgnnbdfkaaIn22
namespace Go.Proofs.Ytdojhkgnnbdfkaa.countCalls
open Go.ChangeShapes Go.WideShapes Go.ChangeAt Go.RowKit Go.Lib Go.ChangeMaps
set_option linter.unusedVariables false

set_option maxHeartbeats 1600000 in
set_option maxRecDepth 100000 in
theorem walk (l s x q k : Int) (key en : ByteArray) (w : World) (hok : Cf.ok ⟨l, s, x, q⟩) (hk : 0 ≤ k ∧ k ≤ 255) (h1 : key.size ≤ reachBytes) (h2 : en.size ≤ reachBytes) :
    Calls Try.prog 5 #[.agg #[.int .i64 l, .int .i64 s, .int .i64 x, .int .i64 q], .agg #[.int .u8 k, .string key, .string en]] w fun e w' => e = .returned (.bool true) ∧ Fr [] w w' := by
  have H1 := fun w => ncall_any l s x q k key en w hk
  have H2 := fun w => xncall_any l s x q k key en w hk
  obtain ⟨w1, HW1⟩ : ∃ w1, Hid ((w.alloc (.cells #[.int .i64 l, .int .i64 s, .int .i64 x, .int .i64 q] 39)).alloc (.cells #[.int .u8 k, .string key, .string en] 42) = w1) := ⟨_, rfl⟩
  have HB : Hid (∀ W, Fr [] w1 W → _) := fun W hf => CfM.box22 (w := w) (l := l) (s := s) (x := x) (q := q) (k := k) (key := key) (en := en) (W := W) (by rw [HW1.out]; exact hf)
  have HF0 : Hid (Fr [] w w1) := by rw [← HW1.out]; exact (Fr.alloc _ _ _).then (Fr.alloc _ _ _)
  obtain ⟨B, HBw⟩ : ∃ B, Hid (w.heap.size = B) := ⟨_, rfl⟩
  rw [HBw.out] at HB
  obtain ⟨a0, a1, a2, a3, c0, c1, c2⟩ := HB.out _ (Fr.refl _ _)
  clear hok hk h1 h2
  go_enter Try.func5, Try.ntmps5
  go_upto_region 1 with fail
  rw [HW1.out, HBw.out]
  clear HW1 HBw
  go_wp2_with fail
  refine (H1 _).mono ?_
  rintro e w2 ⟨r, c, rfl, hP, hF2⟩
  have HP : Hid (ClP ⟨l, s, x, q⟩ k key en r c) := hP
  have HF2 : Hid (Fr [] w1 w2) := hF2
  clear a0 a1 a2 a3 c0 c1 c2 H1 hP hF2
  obtain ⟨a0, a1, a2, a3, c0, c1, c2⟩ := HB.out _ HF2.out
  go_wp2_with fail
  refine (H2 _).mono ?_
  rintro e w3 ⟨r', c', rfl, hP', hF3⟩
  obtain ⟨rfl, rfl⟩ := HP.out.uniq hP'
  have HF3 : Hid (Fr [] w1 w3) := HF2.out.then hF3
  clear hP' hF3 a0 a1 a2 a3 c0 c1 c2
  have e1 : (r == r) = true := by simp
  have e2 : (c == c) = true := by simp
  go_wp2_with fail
  refine (lives22_any _).mono ?_
  rintro e w4 ⟨rfl, hF4⟩
  go_wp2_with fail
  go_ret
  exact ⟨rfl, (HF0.out.then HF3.out).then hF4⟩

theorem own : ownKnob Try.prog.godebug = none := by kernel_rfl
theorem laidOut : laidOutB Try.prog = true := by kernel_rfl
set_option maxHeartbeats 4000000 in
set_option maxRecDepth 100000 in
theorem lifted (os : Os) (started : os.Started) (H : Type) (enc : TypeId × Value → H) :
    ReturnsInHanded {} Try.checked os 5 .any (Rows.countCallsSpec.pre6 enc Try.prog Try.f5 Rows.countCallsRow.domain false) (Rows.countCallsSpec.post enc Try.prog Try.f5 false true false false) := by
  refine returnsInHanded_of_change_sized (C := Try.checked) own started (by kernel_rfl) Try.func5
    (ChangeSpec.witness6 (enc := enc) (C := Try.checked) false ⟨#[], #[.agg #[.int .i64 0, .int .i64 0, .int .i64 0, .int .i64 0], .agg #[.int .u8 0, .string ⟨#[]⟩, .string ⟨#[]⟩]], []⟩ 8 (by kernel_rfl) (by kernel_rfl) (by kernel_rfl) (by kernel_rfl)) ?_
  intro W base args ds gs before hval0 hW hcnd hsz0 _
  have hval : ∀ (j : Nat) t v, Try.f5.params[j]? = some t → args[j]? = some v → Value.okWide Try.prog W .any base t v := hval0
  have hsz : (DataW.weightsEach Try.prog (Try.f5.params.toList ++ Rows.countCallsSpec.plain.varTypes Try.prog) (ds ++ gs)).all (· ≤ reachBytes) = true := hsz0
  have hW' := hW
  obtain ⟨p, q, hA0, hV, rfl, hfz, hnd⟩ := hW
  have hA : DataW.TrodAll enc Try.prog W 0 (fun _ => true) true Try.f5.params.toList args.toList ds p := hA0
  rw [Try.params5] at hA hval hsz
  obtain ⟨v0, vs0, d0, ds0, p0, q0, hargs, rfl, rfl, h0, r0⟩ := trodAll_cons hA
  obtain ⟨v1, vs1, d1, ds1, p1, q1, rfl, rfl, rfl, h1, r1⟩ := trodAll_cons r0
  obtain ⟨rfl, rfl, rfl⟩ := trodAll_nil r1
  obtain rfl : args = #[v0, v1] := by cases args; simp_all
  obtain ⟨rfl, rfl⟩ := trodVars_none hV
  obtain ⟨cs0, rfl, _⟩ := okWide_struct Try.underlying39 (hval 0 39 v0 rfl rfl)
  have k0 := h0
  have lt0 : ∀ x ∈ p0, x.block < W.heap.size := by obtain ⟨m, hm⟩ := k0; exact DataW.trod_lt m _ _ _ hm
  obtain ⟨ca0, cb0, cc0, cd0, rfl, hB0⟩ : ∃ (a b c d : Int), cs0 = #[.int .i64 a, .int .i64 b, .int .i64 c, .int .i64 d] ∧ Cf.ok ⟨a, b, c, d⟩ := by
    obtain ⟨fuel, hf⟩ := h0
    obtain ⟨a, b, c, d, e, hk⟩ := cf_open hf
    exact ⟨a, b, c, d, by cases cs0; simpa [Value.cells] using e, hk⟩
  obtain ⟨cs1, rfl, _⟩ := okWide_struct Try.underlying42 (hval 1 42 v1 rfl rfl)
  have k1 := h1
  have lt1 : ∀ x ∈ p1, x.block < W.heap.size := by obtain ⟨m, hm⟩ := k1; exact DataW.trod_lt m _ _ _ hm
  obtain ⟨ck1, key1, en1, rfl, hB1, hK1, hE1⟩ : ∃ (k : Int) (key en : ByteArray), cs1 = #[.int .u8 k, .string key, .string en] ∧ (0 ≤ k ∧ k ≤ 255) ∧ key.size ≤ reachBytes ∧ en.size ≤ reachBytes := by
    obtain ⟨fuel, hf⟩ := h1
    obtain ⟨k, key, en, e, h1, h2, h3⟩ := call_open hf (fun n hn => of_decide_eq_true (List.all_eq_true.1 hsz n (DataW.weights_mem_each (j := 1) (t := 42) rfl rfl n hn)))
    exact ⟨k, key, en, by cases cs1; simpa [Value.cells] using e, h1, h2, h3⟩
  clear hA0 hval0
  refine (walk ca0 cb0 cc0 cd0 ck1 key1 en1 W hB0 hB1 hK1 hE1).mono fun e W' ⟨he, hf⟩ => ?_
  subst he
  have bel : Below W.heap.size W W' := hf.below (Nat.le_refl _) (by simp)
  exact ⟨_, rfl, _, _, _, [], _, [], hW', trodAll_mk1 (shut_bool Try.underlying4 _), (trodAll_cons_mk (Below.trod laidOut (by kernel_rfl) (of_decide_eq_true (by kernel_rfl)) k0 bel lt0) (trodAll_cons_mk (Below.trod laidOut (by kernel_rfl) (of_decide_eq_true (by kernel_rfl)) k1 bel lt1) trodAll_mk0)), rfl, bel.frame _, fun h => by cases h⟩

theorem over : Rows.countCallsRow.holds Try.pinned (OpenSpec.ofChange Rows.countCallsSpec) :=
  OpenClaim.holds_of_wide 5 Try.f5 rfl rfl rfl rfl rfl rfl rfl ⟨rfl, rfl, rfl, rfl, rfl⟩ rfl rfl rfl rfl rfl (by kernel_rfl) Try.func5 (by kernel_rfl)
    (of_decide_eq_true (by kernel_rfl)) (by unfold Func.isWrapper; first | (rw [if_pos (by decide +kernel)]; kernel_rfl) | (rw [if_neg (by decide +kernel)]; exact ⟨rfl, rfl⟩))
    (fun os started H enc _ => lifted os started H enc)
end Go.Proofs.Ytdojhkgnnbdfkaa.countCalls
namespace Go.Proofs.Ytdojhkgnnbdfkaa
theorem countcalls_holds : Rows.CountCallsSaid := countCalls.over
#print axioms countcalls_holds
end Go.Proofs.Ytdojhkgnnbdfkaa

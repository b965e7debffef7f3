/- For every configuration and every key the law ConfShards returns true, and both read as they did. No conditions. -/
import Derived.Test.YtddlmgedemcgmaaCi13
import Derived.SizedLaws
import Derived.ChangeMaps5
namespace Go.Proofs.Ytddlmgedemcgmaa.confShards
open Go.ChangeShapes Go.WideShapes Go.ChangeAt Go.RowKit Go.Lib Go.ChangeMaps
set_option linter.unusedVariables false

set_option maxHeartbeats 4000000 in
set_option maxRecDepth 100000 in
theorem walk (l s x q : Int) (key : ByteArray) (hk : key.size ≤ 140737488355328) (w : World) (hok : Cf.ok ⟨l, s, x, q⟩) :
    Calls Try.prog 3 #[.agg #[.int .i64 l, .int .i64 s, .int .i64 x, .int .i64 q], .string key] w fun e w' => e = .returned (.bool true) ∧ Fr [] w w' := by
  have hs' : key.size ≤ 9223372036854775807 := by omega
  have HM : Hid (∀ W, Fr [] (w.alloc (.cells #[.int .i64 l, .int .i64 s, .int .i64 x, .int .i64 q] 23)) W → CfM W w.heap.size l s x q) := fun W hf => (CfM.new w l s x q 23).keep hf
  have H1 := fun w => shard_any l s x q key w hs'
  have H2 := fun w => oshard_any l s x q key w hs'
  have H3 := fun w => check_cells l s x q w
  have H4 := fun w => ocheck_cells l s x q w
  generalize (Cf.shard ⟨l, s, x, q⟩ key).1 = n at H1 H2
  generalize (Cf.shard ⟨l, s, x, q⟩ key).2 = e1 at H1 H2
  generalize Cf.err ⟨l, s, x, q⟩ = e2 at H3 H4
  clear hok
  by_cases hL : 1048576 < key.size
  · have E : decide (1048576 < key.size) = true := by simp [hL]
    go_enter Try.func3, Try.ntmps3
    go_wp2_with fail
    refine (beyond_any _ key.size _ hs' (by simp [World.cell?_alloc_at])).mono ?_
    rintro e w1 ⟨rfl, rfl⟩
    rw [E]
    go_wp2_with fail
    go_ret
    exact ⟨rfl, (Fr.alloc _ _ _).then (Fr.alloc _ _ _)⟩
  · have E : decide (1048576 < key.size) = false := by simp [hL]
    go_enter Try.func3, Try.ntmps3
    go_wp2_with fail
    refine (beyond_any _ key.size _ hs' (by simp [World.cell?_alloc_at])).mono ?_
    rintro e w1 ⟨rfl, rfl⟩
    rw [E]
    obtain ⟨w1, hw1⟩ : ∃ w1, w1 = ((w.alloc (.cells #[.int .i64 l, .int .i64 s, .int .i64 x, .int .i64 q] 23)).alloc (.cells #[.int .i64 (key.size : Int)] 3)) := ⟨_, rfl⟩
    have HF1 : Hid (Fr [] (w.alloc (.cells #[.int .i64 l, .int .i64 s, .int .i64 x, .int .i64 q] 23)) w1) := by rw [hw1]; exact Fr.alloc _ _ _
    rw [← hw1]
    clear hw1
    obtain ⟨_, a0, a1, a2, a3⟩ := HM.out w1 HF1.out
    go_wp2_with fail
    refine (H1 _).mono ?_
    rintro e w2 ⟨rfl, hF2⟩
    have HF2 : Hid (Fr [] (w.alloc (.cells #[.int .i64 l, .int .i64 s, .int .i64 x, .int .i64 q] 23)) w2) := HF1.out.then hF2
    clear HF1 hF2 a0 a1 a2 a3 H1
    obtain ⟨_, a0, a1, a2, a3⟩ := HM.out w2 HF2.out
    go_wp2_with fail
    refine (H2 _).mono ?_
    rintro e w3 ⟨rfl, hF3⟩
    have HF3 : Hid (Fr [] (w.alloc (.cells #[.int .i64 l, .int .i64 s, .int .i64 x, .int .i64 q] 23)) w3) := HF2.out.then hF3
    clear HF2 hF3 a0 a1 a2 a3 H2
    have f0 : ∀ y : Wd13 w3, y.W.cell? ⟨w.heap.size, 0, none⟩ = some (.int .i64 l) := fun y => (HM.out _ (HF3.out.then y.h)).2.1
    have f1 : ∀ y : Wd13 w3, y.W.cell? ⟨w.heap.size, 1, none⟩ = some (.int .i64 s) := fun y => (HM.out _ (HF3.out.then y.h)).2.2.1
    have f2 : ∀ y : Wd13 w3, y.W.cell? ⟨w.heap.size, 2, none⟩ = some (.int .i64 x) := fun y => (HM.out _ (HF3.out.then y.h)).2.2.2.1
    have f3 : ∀ y : Wd13 w3, y.W.cell? ⟨w.heap.size, 3, none⟩ = some (.int .i64 q) := fun y => (HM.out _ (HF3.out.then y.h)).2.2.2.2
    go_wp2_with fail
    refine wp_region_wd13 (w1 := w3) (by kernel_rfl) (by kernel_rfl) (Fr.refl _ _) ?_
    repeat (go_big_quiet_step (first
      | (go_at_call 7; with_reducible refine (H3 _).mono ?_; exact fun e w3 hh => ⟨hh.1, ⟨_, Fr.then (Wd13.h _) hh.2⟩, rfl⟩)
      | (go_at_call 8; with_reducible refine (H4 _).mono ?_; exact fun e w3 hh => ⟨hh.1, ⟨_, Fr.then (Wd13.h _) hh.2⟩, rfl⟩)))
    refine wpQuiet_nil ?_
    rintro _ ⟨y, rfl⟩
    go_wp2_with fail
    go_ret
    exact ⟨rfl, (Fr.alloc _ _ _).then (HF3.out.then y.h)⟩

theorem own : ownKnob Try.prog.godebug = none := by kernel_rfl
theorem laidOut : laidOutB Try.prog = true := by kernel_rfl
set_option maxHeartbeats 4000000 in
set_option maxRecDepth 100000 in
theorem lifted (os : Os) (started : os.Started) (H : Type) (enc : TypeId × Value → H) :
    ReturnsInHanded {} Try.checked os 3 .any (Rows.confShardsSpec.pre6 enc Try.prog Try.f3 Rows.confShardsRow.domain false) (Rows.confShardsSpec.post enc Try.prog Try.f3 false true false false) := by
  refine returnsInHanded_of_change_sized (C := Try.checked) own started (by kernel_rfl) Try.func3
    (ChangeSpec.witness6 (enc := enc) (C := Try.checked) false ⟨#[], #[.agg #[.int .i64 0, .int .i64 0, .int .i64 0, .int .i64 0], .string ⟨#[]⟩], []⟩ 8 (by kernel_rfl) (by kernel_rfl) (by kernel_rfl) (by kernel_rfl)) ?_
  intro W base args ds gs before hval0 hW hcnd hsz0 _
  have hval : ∀ (j : Nat) t v, Try.f3.params[j]? = some t → args[j]? = some v → Value.okWide Try.prog W .any base t v := hval0
  have hsz : (DataW.weightsEach Try.prog (Try.f3.params.toList ++ Rows.confShardsSpec.plain.varTypes Try.prog) (ds ++ gs)).all (· ≤ reachBytes) = true := hsz0
  have hW' := hW
  obtain ⟨p, q, hA0, hV, rfl, hfz, hnd⟩ := hW
  have hA : DataW.TrodAll enc Try.prog W 0 (fun _ => true) true Try.f3.params.toList args.toList ds p := hA0
  rw [Try.params3] at hA hval hsz
  obtain ⟨v0, vs0, d0, ds0, p0, q0, hargs, rfl, rfl, h0, r0⟩ := trodAll_cons hA
  obtain ⟨v1, vs1, d1, ds1, p1, q1, rfl, rfl, rfl, h1, r1⟩ := trodAll_cons r0
  obtain ⟨rfl, rfl, rfl⟩ := trodAll_nil r1
  obtain rfl : args = #[v0, v1] := by cases args; simp_all
  obtain ⟨rfl, rfl⟩ := trodVars_none hV
  obtain ⟨cs0, rfl, _⟩ := okWide_struct Try.underlying23 (hval 0 23 v0 rfl rfl)
  have k0 := h0
  have lt0 : ∀ x ∈ p0, x.block < W.heap.size := by obtain ⟨m, hm⟩ := k0; exact DataW.trod_lt m _ _ _ hm
  obtain ⟨ca0, cb0, cc0, cd0, rfl, hB0⟩ : ∃ (a b c d : Int), cs0 = #[.int .i64 a, .int .i64 b, .int .i64 c, .int .i64 d] ∧ Cf.ok ⟨a, b, c, d⟩ := by
    obtain ⟨fuel, hf⟩ := h0
    obtain ⟨a, b, c, d, e, hk⟩ := cf_open hf
    exact ⟨a, b, c, d, by cases cs0; simpa [Value.cells] using e, hk⟩
  obtain ⟨s1, rfl, rfl, rfl, w1⟩ := open_string Try.underlying9 (hval 1 9 v1 rfl rfl) h1
  have z1 : s1.size ≤ 140737488355328 := by
    have h9 : s1.size ≤ reachBytes := of_decide_eq_true (List.all_eq_true.1 hsz s1.size (DataW.weights_mem_each (j := 1) (t := 9) rfl rfl _ (by
      simp only [DataW.weights, List.mem_singleton]
      show s1.data.size = _
      simp)))
    have := reachBytes_lt
    omega
  clear hA0 hval0
  refine (walk ca0 cb0 cc0 cd0 s1 z1 W hB0).mono fun e W' ⟨he, hf⟩ => ?_
  subst he
  have bel : Below W.heap.size W W' := hf.below (Nat.le_refl _) (by simp)
  exact ⟨_, rfl, _, _, _, [], _, [], hW', trodAll_mk1 (shut_bool Try.underlying4 _), (trodAll_cons_mk (Below.trod laidOut (by kernel_rfl) (of_decide_eq_true (by kernel_rfl)) k0 bel lt0) (trodAll_cons_mk (shut_string Try.underlying9 w1) trodAll_mk0)), rfl, bel.frame _, fun h => by cases h⟩

theorem over : Rows.confShardsRow.holds Try.pinned (OpenSpec.ofChange Rows.confShardsSpec) :=
  OpenClaim.holds_of_wide 3 Try.f3 rfl rfl rfl rfl rfl rfl rfl ⟨rfl, rfl, rfl, rfl, rfl⟩ rfl rfl rfl rfl rfl (by kernel_rfl) Try.func3 (by kernel_rfl)
    (of_decide_eq_true (by kernel_rfl)) (by unfold Func.isWrapper; first | (rw [if_pos (by decide +kernel)]; kernel_rfl) | (rw [if_neg (by decide +kernel)]; exact ⟨rfl, rfl⟩))
    (fun os started H enc _ => lifted os started H enc)
end Go.Proofs.Ytddlmgedemcgmaa.confShards
namespace Go.Proofs.Ytddlmgedemcgmaa
theorem confshards_holds : Rows.ConfShardsSaid := confShards.over
#print axioms confshards_holds
end Go.Proofs.Ytddlmgedemcgmaa

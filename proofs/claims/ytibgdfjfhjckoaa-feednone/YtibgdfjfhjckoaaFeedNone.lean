/- For every way to make a feed and every row of asks the law FeedNone returns true, and what came in reads as it did. No conditions. -/
import Derived.Test.YtibgdfjfhjckoaaNo16
namespace Go.Proofs.Ytibgdfjfhjckoaa.feedNone
open Go.ChangeShapes Go.WideShapes Go.ChangeAt Go.RowKit Go.Lib Go.Maps
set_option linter.unusedVariables false
set_option linter.unusedSimpArgs false

theorem walk (mark win : Int) (bo : Option Addr) (M bc : Nat) (bs : List Int) (ao : Option Addr) (L cap : Nat) (os : List (Nat × Int)) (w : World) (hB : IRs w bo bs) (hM : M = bs.length) (hi : ∀ x ∈ bs, i64 x) (hI : -9223372036854775808 ≤ mark ∧ mark ≤ 9223372036854775807 ∧ -9223372036854775808 ≤ win ∧ win ≤ 9223372036854775807) (hO : OArg w ao L cap os) :
    Calls Try.prog 4 #[.agg #[.int .i64 mark, .slice bo M bc, .int .i64 win], .slice ao L cap] w fun e w' => e = .returned (.bool true) ∧ Fr [] w w' := none16_walk mark win bo M bc ao L cap os w hO

theorem own : ownKnob Try.prog.godebug = none := by kernel_rfl
theorem laidOut : laidOutB Try.prog = true := by kernel_rfl
set_option maxHeartbeats 4000000 in
set_option maxRecDepth 100000 in
theorem lifted (os : Os) (started : os.Started) (H : Type) (enc : TypeId × Value → H) :
    ReturnsInHanded {} Try.checked os 4 .any (Rows.feedNoneSpec.pre6 enc Try.prog Try.f4 Rows.feedNoneRow.domain false) (Rows.feedNoneSpec.post enc Try.prog Try.f4 false true false false) := by
  refine returnsInHanded_of_change_sized (C := Try.checked) own started (by kernel_rfl) Try.func4
    (ChangeSpec.witness6 (enc := enc) (C := Try.checked) false ⟨#[], #[.agg #[.int .i64 0, .slice none 0 0, .int .i64 0], .slice none 0 0], []⟩ 8 (by kernel_rfl) (by kernel_rfl) (by kernel_rfl) (by kernel_rfl)) ?_
  intro W base args ds gs before hval0 hW hcnd hsz0 _
  have hval : ∀ (j : Nat) t v, Try.f4.params[j]? = some t → args[j]? = some v → Value.okWide Try.prog W .any base t v := hval0
  have hsz : (DataW.weightsEach Try.prog (Try.f4.params.toList ++ Rows.feedNoneSpec.plain.varTypes Try.prog) (ds ++ gs)).all (· ≤ reachBytes) = true := hsz0
  have hW' := hW
  obtain ⟨p, q, hA0, hV, rfl, hfz, hnd⟩ := hW
  have hA : DataW.TrodAll enc Try.prog W 0 (fun _ => true) true Try.f4.params.toList args.toList ds p := hA0
  rw [Try.params4] at hA hval hsz
  obtain ⟨v0, vs0, d0, ds0, p0, q0, hargs, rfl, rfl, h0, r0⟩ := trodAll_cons hA
  obtain ⟨v1, vs1, d1, ds1, p1, q1, rfl, rfl, rfl, h1, r1⟩ := trodAll_cons r0
  obtain ⟨rfl, rfl, rfl⟩ := trodAll_nil r1
  obtain rfl : args = #[v0, v1] := by cases args; simp_all
  obtain ⟨rfl, rfl⟩ := trodVars_none hV
  obtain ⟨cs0, rfl, _⟩ := okWide_struct Try.underlying25 (hval 0 25 v0 rfl rfl)
  have k0 := h0
  have lt0 : ∀ x ∈ p0, x.block < W.heap.size := by obtain ⟨m, hm⟩ := k0; exact DataW.trod_lt m _ _ _ hm
  obtain ⟨sh0, qu0, a0, len0, cap0, xs0, rfl, hB0, hL0, hM0, hI0⟩ : ∃ (sh qu : Int) (ao : Option Addr) (L cap : Nat) (os : List Int), cs0 = #[.int .i64 sh, .slice ao L cap, .int .i64 qu] ∧ IRs W ao os ∧ L = os.length ∧ (∀ x ∈ os, i64 x) ∧ (-9223372036854775808 ≤ sh ∧ sh ≤ 9223372036854775807 ∧ -9223372036854775808 ≤ qu ∧ qu ≤ 9223372036854775807) := by
    obtain ⟨fuel, hf⟩ := h0
    obtain ⟨sh, qu, ao, L, cap, os, e, h1, h2, h3, h4⟩ := made16_open hf (fun n hn => of_decide_eq_true (List.all_eq_true.1 hsz n (DataW.weights_mem_each (j := 0) (t := 25) rfl rfl n hn)))
    exact ⟨sh, qu, ao, L, cap, os, by cases cs0; simpa [Value.cells] using e, h1, h2, h3, h4⟩
  have k1 := h1
  have lt1 : ∀ x ∈ p1, x.block < W.heap.size := by obtain ⟨m, hm⟩ := k1; exact DataW.trod_lt m _ _ _ hm
  obtain ⟨a1, len1, cap1, xs1, rfl, hB1⟩ : ∃ ao L cap xs, v1 = .slice ao L cap ∧ OArg W ao L cap xs := by
    obtain ⟨fuel, hf⟩ := h1
    obtain ⟨ao, L, cap, rfl⟩ := okWide_slice Try.undAsks16 (hval 1 26 v1 rfl rfl)
    obtain ⟨ao', L', cap', xs, e, hA⟩ := ops_open hf
    exact ⟨ao', L', cap', xs, by simpa [Value.cells] using e, hA⟩
  clear hA0 hval0
  refine (walk sh0 qu0 a0 len0 cap0 xs0 a1 len1 cap1 xs1 W hB0 hL0 hM0 hI0 hB1).mono fun e W' ⟨he, hf⟩ => ?_
  subst he
  have bel : Below W.heap.size W W' := hf.below (Nat.le_refl _) (by simp)
  exact ⟨_, rfl, _, _, _, [], _, [], hW', trodAll_mk1 (shut_bool Try.underlying4 _), (trodAll_cons_mk (Below.trod laidOut (by kernel_rfl) (of_decide_eq_true (by kernel_rfl)) k0 bel lt0) (trodAll_cons_mk (Below.trod laidOut (by kernel_rfl) (of_decide_eq_true (by kernel_rfl)) k1 bel lt1) trodAll_mk0)), rfl, bel.frame _, fun h => by cases h⟩

theorem over : Rows.feedNoneRow.holds Try.pinned (OpenSpec.ofChange Rows.feedNoneSpec) :=
  OpenClaim.holds_of_wide 4 Try.f4 rfl rfl rfl rfl rfl rfl rfl ⟨rfl, rfl, rfl, rfl, rfl⟩ rfl rfl rfl rfl rfl (by kernel_rfl) Try.func4 (by kernel_rfl)
    (of_decide_eq_true (by kernel_rfl)) (by unfold Func.isWrapper; first | (rw [if_pos (by decide +kernel)]; kernel_rfl) | (rw [if_neg (by decide +kernel)]; exact ⟨rfl, rfl⟩))
    (fun os started H enc _ => lifted os started H enc)
end Go.Proofs.Ytibgdfjfhjckoaa.feedNone
namespace Go.Proofs.Ytibgdfjfhjckoaa
theorem feednone_holds : Rows.FeedNoneSaid := feedNone.over
#print axioms feednone_holds
end Go.Proofs.Ytibgdfjfhjckoaa

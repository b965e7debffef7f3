/- For every log, every way to make a feed and every row of bytes the law FeedOrder returns true, and what came in reads as it did. No conditions. -/
import Derived.Test.YtibgdfjfhjckoaaOr16
import Derived.Test.YtibgdfjfhjckoaaTxs
namespace Go.Proofs.Ytibgdfjfhjckoaa.feedOrder
open Go.ChangeShapes Go.WideShapes Go.ChangeAt Go.RowKit Go.Lib Go.Maps
set_option linter.unusedVariables false
set_option linter.unusedSimpArgs false

theorem walk (ao : Option Addr) (L cap : Nat) (ts : List Tm) (mark win : Int) (bo : Option Addr) (M bc : Nat) (bs : List Int) (uo : Option Addr) (U uc : Nat) (xs : List Nat) (w : World) (hT : TRs w ao ts) (hL : L = ts.length) (hC : L ≤ cap) (hB : IRs w bo bs) (hM : M = bs.length) (hi : ∀ x ∈ bs, i64 x) (hI : -9223372036854775808 ≤ mark ∧ mark ≤ 9223372036854775807 ∧ -9223372036854775808 ≤ win ∧ win ≤ 9223372036854775807) (hU : BArg w uo U uc xs) (hUl : U ≤ 140737488351232) :
    Calls Try.prog 5 #[.slice ao L cap, .agg #[.int .i64 mark, .slice bo M bc, .int .i64 win], .slice uo U uc] w fun e w' => e = .returned (.bool true) ∧ Fr [] w w' := order16_walk ao L cap ts mark win bo M bc bs uo U uc xs w hT hL hB hM hi ⟨hI.1, hI.2.1⟩ hU

theorem own : ownKnob Try.prog.godebug = none := by kernel_rfl
theorem laidOut : laidOutB Try.prog = true := by kernel_rfl
set_option maxHeartbeats 4000000 in
set_option maxRecDepth 100000 in
theorem lifted (os : Os) (started : os.Started) (H : Type) (enc : TypeId × Value → H) :
    ReturnsInHanded {} Try.checked os 5 .any (Rows.feedOrderSpec.pre6 enc Try.prog Try.f5 Rows.feedOrderRow.domain false) (Rows.feedOrderSpec.post enc Try.prog Try.f5 false true false false) := by
  refine returnsInHanded_of_change_sized (C := Try.checked) own started (by kernel_rfl) Try.func5
    (ChangeSpec.witness6 (enc := enc) (C := Try.checked) false ⟨#[], #[.slice none 0 0, .agg #[.int .i64 0, .slice none 0 0, .int .i64 0], .slice none 0 0], []⟩ 8 (by kernel_rfl) (by kernel_rfl) (by kernel_rfl) (by kernel_rfl)) ?_
  intro W base args ds gs before hval0 hW hcnd hsz0 _
  have hval : ∀ (j : Nat) t v, Try.f5.params[j]? = some t → args[j]? = some v → Value.okWide Try.prog W .any base t v := hval0
  have hsz : (DataW.weightsEach Try.prog (Try.f5.params.toList ++ Rows.feedOrderSpec.plain.varTypes Try.prog) (ds ++ gs)).all (· ≤ reachBytes) = true := hsz0
  have hW' := hW
  obtain ⟨p, q, hA0, hV, rfl, hfz, hnd⟩ := hW
  have hA : DataW.TrodAll enc Try.prog W 0 (fun _ => true) true Try.f5.params.toList args.toList ds p := hA0
  rw [Try.params5] at hA hval hsz
  obtain ⟨v0, vs0, d0, ds0, p0, q0, hargs, rfl, rfl, h0, r0⟩ := trodAll_cons hA
  obtain ⟨v1, vs1, d1, ds1, p1, q1, rfl, rfl, rfl, h1, r1⟩ := trodAll_cons r0
  obtain ⟨v2, vs2, d2, ds2, p2, q2, rfl, rfl, rfl, h2, r2⟩ := trodAll_cons r1
  obtain ⟨rfl, rfl, rfl⟩ := trodAll_nil r2
  obtain rfl : args = #[v0, v1, v2] := by cases args; simp_all
  obtain ⟨rfl, rfl⟩ := trodVars_none hV
  have k0 := h0
  have lt0 : ∀ x ∈ p0, x.block < W.heap.size := by obtain ⟨m, hm⟩ := k0; exact DataW.trod_lt m _ _ _ hm
  obtain ⟨a0, len0, cap0, ts0, rfl, hB0, hL0, hC0⟩ : ∃ ao L cap ts, v0 = .slice ao L cap ∧ TRs W ao ts ∧ L = ts.length ∧ L ≤ cap := by
    obtain ⟨fuel, hf⟩ := h0
    obtain ⟨ao, L, cap, rfl⟩ := okWide_slice Try.undTs' (hval 0 22 v0 rfl rfl)
    exact ts_open hf (fun n hn => of_decide_eq_true (List.all_eq_true.1 hsz n (DataW.weights_mem_each (j := 0) (t := 22) rfl rfl n hn)))
  obtain ⟨cs1, rfl, _⟩ := okWide_struct Try.underlying25 (hval 1 25 v1 rfl rfl)
  have k1 := h1
  have lt1 : ∀ x ∈ p1, x.block < W.heap.size := by obtain ⟨m, hm⟩ := k1; exact DataW.trod_lt m _ _ _ hm
  obtain ⟨sh1, qu1, a1, len1, cap1, xs1, rfl, hB1, hL1, hM1, hI1⟩ : ∃ (sh qu : Int) (ao : Option Addr) (L cap : Nat) (os : List Int), cs1 = #[.int .i64 sh, .slice ao L cap, .int .i64 qu] ∧ IRs W ao os ∧ L = os.length ∧ (∀ x ∈ os, i64 x) ∧ (-9223372036854775808 ≤ sh ∧ sh ≤ 9223372036854775807 ∧ -9223372036854775808 ≤ qu ∧ qu ≤ 9223372036854775807) := by
    obtain ⟨fuel, hf⟩ := h1
    obtain ⟨sh, qu, ao, L, cap, os, e, h1, h2, h3, h4⟩ := made16_open hf (fun n hn => of_decide_eq_true (List.all_eq_true.1 hsz n (DataW.weights_mem_each (j := 1) (t := 25) rfl rfl n hn)))
    exact ⟨sh, qu, ao, L, cap, os, by cases cs1; simpa [Value.cells] using e, h1, h2, h3, h4⟩
  obtain ⟨a2, len2, cap2, rfl⟩ := okWide_slice Try.undBs (hval 2 49 v2 rfl rfl)
  have k2 := h2
  have lt2 : ∀ x ∈ p2, x.block < W.heap.size := by obtain ⟨m, hm⟩ := k2; exact DataW.trod_lt m _ _ _ hm
  obtain ⟨z2, w2⟩ : ∃ zs, IsRow .u8 W a2 len2 cap2 zs := by
    obtain ⟨fuel, hf⟩ := h2
    rcases open_ints Try.undBs Try.underlying5 (by kernel_rfl) hf with ⟨hcs, _⟩ | ⟨x, l, c, zs, hcs, _, hl, hm, hz, _, hcell, hwz⟩
    · simp [Value.cells] at hcs
      obtain ⟨rfl, rfl, rfl⟩ := hcs
      exact ⟨[], .inl ⟨rfl, rfl, rfl, rfl⟩⟩
    · simp [Value.cells] at hcs
      obtain ⟨rfl, rfl, rfl⟩ := hcs
      exact ⟨zs, .inr ⟨_, rfl, hl, hm, by simpa using hz, hcell, hwz⟩⟩
  have hc2 : len2 ≤ 140737488351232 := by
    obtain ⟨fuel, hf⟩ := k2
    rcases open_ints Try.undBs Try.underlying5 (by kernel_rfl) hf with ⟨hcs, _⟩ | ⟨x, l, c, zs, hcs, _, hl, hm, hz, hx, hcell, hwz⟩
    · simp [Value.cells] at hcs
      omega
    · simp [Value.cells] at hcs
      obtain ⟨rfl, rfl, rfl⟩ := hcs
      have hd := congrArg Prod.fst hx
      simp only at hd
      have := sized_slice (j := 2) hsz rfl (by rw [hd]; rfl) Try.undBs
      rw [show Try.prog.bytesOf 5 = 1 from by kernel_rfl] at this
      simp [lits, reachBytes] at this hz
      omega
  obtain ⟨xs2, hB2⟩ := BArg.of_row w2
  clear hA0 hval0
  refine (walk a0 len0 cap0 ts0 sh1 qu1 a1 len1 cap1 xs1 a2 len2 cap2 xs2 W hB0 hL0 hC0 hB1 hL1 hM1 hI1 hB2 hc2).mono fun e W' ⟨he, hf⟩ => ?_
  subst he
  have bel : Below W.heap.size W W' := hf.below (Nat.le_refl _) (by simp)
  exact ⟨_, rfl, _, _, _, [], _, [], hW', trodAll_mk1 (shut_bool Try.underlying4 _), (trodAll_cons_mk (Below.trod laidOut (by kernel_rfl) (of_decide_eq_true (by kernel_rfl)) k0 bel lt0) (trodAll_cons_mk (Below.trod laidOut (by kernel_rfl) (of_decide_eq_true (by kernel_rfl)) k1 bel lt1) (trodAll_cons_mk (Below.trod laidOut (by kernel_rfl) (of_decide_eq_true (by kernel_rfl)) k2 bel lt2) trodAll_mk0))), rfl, bel.frame _, fun h => by cases h⟩

theorem over : Rows.feedOrderRow.holds Try.pinned (OpenSpec.ofChange Rows.feedOrderSpec) :=
  OpenClaim.holds_of_wide 5 Try.f5 rfl rfl rfl rfl rfl rfl rfl ⟨rfl, rfl, rfl, rfl, rfl⟩ rfl rfl rfl rfl rfl (by kernel_rfl) Try.func5 (by kernel_rfl)
    (of_decide_eq_true (by kernel_rfl)) (by unfold Func.isWrapper; first | (rw [if_pos (by decide +kernel)]; kernel_rfl) | (rw [if_neg (by decide +kernel)]; exact ⟨rfl, rfl⟩))
    (fun os started H enc _ => lifted os started H enc)
end Go.Proofs.Ytibgdfjfhjckoaa.feedOrder
namespace Go.Proofs.Ytibgdfjfhjckoaa
theorem feedorder_holds : Rows.FeedOrderSaid := feedOrder.over
#print axioms feedorder_holds
end Go.Proofs.Ytibgdfjfhjckoaa

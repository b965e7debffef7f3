/- For every trip (a configuration, transactions, bytes) the law LaneTrips returns true, and the trip reads as it did. No conditions. -/
import Derived.Test.YtgladhebgnngdaaTr14
namespace Go.Proofs.Ytgladhebgnngdaa.laneTrips
open Go.ChangeShapes Go.WideShapes Go.ChangeAt Go.RowKit Go.Lib Go.Maps
set_option linter.unusedVariables false
set_option linter.unusedSimpArgs false

theorem walk (l s x q : Int) (ao : Option Addr) (L cap : Nat) (ts : List Tm) (bo : Option Addr) (Bn bc : Nat) (bs : List Nat) (w : World) (hC : Cf.ok ⟨l, s, x, q⟩) (hT : TRs w ao ts) (hLe : L = ts.length) (hB : BArg w bo Bn bc bs) (hBn : Bn ≤ 140737488351232) :
    Calls Try.prog 4 #[.agg #[.int .i64 l, .int .i64 s, .int .i64 x, .int .i64 q, .slice ao L cap, .slice bo Bn bc]] w fun e w' => e = .returned (.bool true) ∧ Fr [] w w' := trips_walk l s x q ao L cap ts bo Bn bc bs w hC hT hLe hB hBn

theorem own : ownKnob Try.prog.godebug = none := by kernel_rfl
theorem laidOut : laidOutB Try.prog = true := by kernel_rfl
set_option maxHeartbeats 4000000 in
set_option maxRecDepth 100000 in
theorem lifted (os : Os) (started : os.Started) (H : Type) (enc : TypeId × Value → H) :
    ReturnsInHanded {} Try.checked os 4 .any (Rows.laneTripsSpec.pre6 enc Try.prog Try.f4 Rows.laneTripsRow.domain false) (Rows.laneTripsSpec.post enc Try.prog Try.f4 false true false false) := by
  refine returnsInHanded_of_change_sized (C := Try.checked) own started (by kernel_rfl) Try.func4
    (ChangeSpec.witness6 (enc := enc) (C := Try.checked) false ⟨#[], #[.agg #[.int .i64 0, .int .i64 0, .int .i64 0, .int .i64 0, .slice none 0 0, .slice none 0 0]], []⟩ 8 (by kernel_rfl) (by kernel_rfl) (by kernel_rfl) (by kernel_rfl)) ?_
  intro W base args ds gs before hval0 hW hcnd hsz0 _
  have hval : ∀ (j : Nat) t v, Try.f4.params[j]? = some t → args[j]? = some v → Value.okWide Try.prog W .any base t v := hval0
  have hsz : (DataW.weightsEach Try.prog (Try.f4.params.toList ++ Rows.laneTripsSpec.plain.varTypes Try.prog) (ds ++ gs)).all (· ≤ reachBytes) = true := hsz0
  have hW' := hW
  obtain ⟨p, q, hA0, hV, rfl, hfz, hnd⟩ := hW
  have hA : DataW.TrodAll enc Try.prog W 0 (fun _ => true) true Try.f4.params.toList args.toList ds p := hA0
  rw [Try.params4] at hA hval hsz
  obtain ⟨v0, vs0, d0, ds0, p0, q0, hargs, rfl, rfl, h0, r0⟩ := trodAll_cons hA
  obtain ⟨rfl, rfl, rfl⟩ := trodAll_nil r0
  obtain rfl : args = #[v0] := by cases args; simp_all
  obtain ⟨rfl, rfl⟩ := trodVars_none hV
  obtain ⟨cs0, rfl, _⟩ := okWide_struct Try.underlying47 (hval 0 47 v0 rfl rfl)
  have k0 := h0
  have lt0 : ∀ x ∈ p0, x.block < W.heap.size := by obtain ⟨m, hm⟩ := k0; exact DataW.trod_lt m _ _ _ hm
  obtain ⟨ca0, cb0, cc0, cd0, a0, len0, cap0, ts0, bo0, bn0, bc0, bs0, rfl, hC0, hB0, hL0, hAr0, hN0⟩ : ∃ (a b c d : Int) (ao : Option Addr) (L cap : Nat) (ts : List Tm) (bo : Option Addr) (Bn bc : Nat) (bs : List Nat), cs0 = #[.int .i64 a, .int .i64 b, .int .i64 c, .int .i64 d, .slice ao L cap, .slice bo Bn bc] ∧ Cf.ok ⟨a, b, c, d⟩ ∧ TRs W ao ts ∧ L = ts.length ∧ BArg W bo Bn bc bs ∧ Bn ≤ 140737488351232 := by
    obtain ⟨fuel, hf⟩ := h0
    obtain ⟨a, b, c, d, ao, L, cap, ts, bo, Bn, bc, bs, e, h1, h2, h3, h4, h5⟩ := trip_open hf (fun n hn => of_decide_eq_true (List.all_eq_true.1 hsz n (DataW.weights_mem_each (j := 0) (t := 47) rfl rfl n hn)))
    exact ⟨a, b, c, d, ao, L, cap, ts, bo, Bn, bc, bs, by cases cs0; simpa [Value.cells] using e, h1, h2, h3, h4, h5⟩
  clear hA0 hval0
  refine (walk ca0 cb0 cc0 cd0 a0 len0 cap0 ts0 bo0 bn0 bc0 bs0 W hC0 hB0 hL0 hAr0 hN0).mono fun e W' ⟨he, hf⟩ => ?_
  subst he
  have bel : Below W.heap.size W W' := hf.below (Nat.le_refl _) (by simp)
  exact ⟨_, rfl, _, _, _, [], _, [], hW', trodAll_mk1 (shut_bool Try.underlying4 _), (trodAll_cons_mk (Below.trod laidOut (by kernel_rfl) (of_decide_eq_true (by kernel_rfl)) k0 bel lt0) trodAll_mk0), rfl, bel.frame _, fun h => by cases h⟩

theorem over : Rows.laneTripsRow.holds Try.pinned (OpenSpec.ofChange Rows.laneTripsSpec) :=
  OpenClaim.holds_of_wide 4 Try.f4 rfl rfl rfl rfl rfl rfl rfl ⟨rfl, rfl, rfl, rfl, rfl⟩ rfl rfl rfl rfl rfl (by kernel_rfl) Try.func4 (by kernel_rfl)
    (of_decide_eq_true (by kernel_rfl)) (by unfold Func.isWrapper; first | (rw [if_pos (by decide +kernel)]; kernel_rfl) | (rw [if_neg (by decide +kernel)]; exact ⟨rfl, rfl⟩))
    (fun os started H enc _ => lifted os started H enc)
end Go.Proofs.Ytgladhebgnngdaa.laneTrips
namespace Go.Proofs.Ytgladhebgnngdaa
theorem lanetrips_holds : Rows.LaneTripsSaid := laneTrips.over
#print axioms lanetrips_holds
end Go.Proofs.Ytgladhebgnngdaa

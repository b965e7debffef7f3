/- For every list of transactions and every two numbers the law FoldChains returns true, and the list reads as it did. No conditions. -/
import Derived.Test.YtfminnmfdogopaaRefCh
import Derived.Test.YtfminnmfdogopaaLfT
import Derived.Test.YtfminnmfdogopaaTxs
namespace Go.Proofs.Ytfminnmfdogopaa.foldChains
open Go.ChangeShapes Go.WideShapes Go.ChangeAt Go.RowKit Go.Lib
set_option linter.unusedVariables false
set_option linter.unusedSimpArgs false

set_option maxHeartbeats 8000000 in
set_option maxRecDepth 100000 in
theorem walk (ao : Option Addr) (L cap : Nat) (ts : List Tm) (i j : Int) (w : World) (hT : TRs w ao ts) (hLe : L = ts.length) (hcap : L ≤ cap) (hi : -9223372036854775808 ≤ i ∧ i ≤ 9223372036854775807) (hj : -9223372036854775808 ≤ j ∧ j ≤ 9223372036854775807) :
    Calls Try.prog 4 #[.slice ao L cap, .int .i64 i, .int .i64 j] w fun e w' => e = .returned (.bool true) ∧ Fr [] w w' := by
  have HL : Hid (L = ts.length) := hLe
  have HI : Hid (∀ W, Fr [] w W → TRs W ao ts) := fun W hf => hT.keep hf
  clear hLe
  go_enter Try.func4, Try.ntmps4
  go_wp2_with fail
  refine (txnsSizeB_any ao L cap ts _ hT HL.out).mono ?_
  rintro e w1 ⟨N0, rfl, hN0b, hLN, hFw0, hF1⟩
  have HFw0 : Hid (N0 ≤ 1048576 → Few ts) := hFw0
  clear hFw0
  go_wp2_with fail
  refine (beyond_any w1.heap.size N0 _ (by omega) (by simp)).mono ?_
  rintro e w2 ⟨rfl, rfl⟩
  have hF2 : Fr [] w1 (w1.alloc (.cells #[.int .i64 (N0 : Int)] 3)) := Fr.alloc _ _ _
  obtain ⟨w2, HW2⟩ : ∃ w2, Hid (w1.alloc (.cells #[.int .i64 (N0 : Int)] 3) = w2) := ⟨_, rfl⟩
  rw [HW2.out] at hF2 ⊢
  have hG2 := hF1.then hF2
  by_cases hbig : 1048576 < N0
  · have hbd : decide (1048576 < N0) = true := by simpa using hbig
    rw [hbd]
    go_wp2
    go_ret
    exact ⟨rfl, hG2⟩
  · have hbd : decide (1048576 < N0) = false := by simpa using hbig
    rw [hbd]
    have hLs : L < 1048577 := by omega
    have HFew : Hid (Few ts) := HFw0.out (by omega)
    obtain ⟨R, c, hTo⟩ := ChTold.ex (txs ts) i j
    have HTo : Hid (ChTold (txs ts) i j R c) := hTo
    clear hTo hF1 hF2 hbig hbd
    go_wp2_with fail
    refine (twinTs_any ao L cap ts _ (HI.out _ hG2) HL.out (by omega) HFew.out).mono ?_
    rintro e w4 ⟨b, ks, rfl, hb, hrow4, hTw4, hF4⟩
    have hG4 := hG2.then hF4
    have HTw : Hid (∀ W, Fr [] w4 W → Twd w W ts ks) := fun W hf => by
      have h1 := hTw4.keep hf (by simp)
      exact ⟨h1.len, fun k hk => by have := h1.new k hk; have := hG2.size; omega, h1.row, h1.apart⟩
    have HRow : Hid (∀ W, Fr [] w4 W → W.heap[b]? = some (.cells (tmsC (twTs ts ks ++ [spT])).toArray 51 (0, 0))) := fun W hf => hf.keep hrow4 (by simp)
    have HX : Hid (∀ W, Fr [] w4 W → TRs W (some ⟨b, 0, none⟩) (twTs ts ks)) := fun W hf => twins_trs hT (HTw.out W hf) (HRow.out W hf)
    have HXL : Hid (L = (twTs ts ks).length) := by show _ = _; rw [twTs_length ts ks hTw4.len]; exact HL.out
    have HTo2 : Hid (ChTold (txs (twTs ts ks)) i j R c) := by show ChTold _ _ _ _ _; rw [txs_twTs ts ks hTw4.len]; exact HTo.out
    have HI4 : Hid (∀ W, Fr [] w4 W → TRs W ao ts) := fun W hf => HI.out W (hG4.then hf)
    clear hrow4 hTw4 hF4 HI hb hG2
    go_wp2_with fail
    refine (fChained_any (some ⟨b, 0, none⟩) L (L + 1) i j c R (twTs ts ks) _ (HX.out _ (Fr.refl _ _)) HXL.out (by omega) hi.1 hi.2 hj.1 hj.2 HTo2.out).mono ?_
    rintro e w5 ⟨rfl, hF5⟩
    go_wp2_with fail
    refine (zChained_any ao L cap i j c R ts _ (HI4.out _ hF5) HL.out hi.1 hi.2 hj.1 hj.2 HTo.out).mono ?_
    rintro e w6 ⟨rfl, hF6⟩
    have hG6 := hF5.then hF6
    have HLf : Hid _ := leftTs_any b ks w ao L cap ts w6 (HI4.out _ hG6) HL.out (by omega) HFew.out (HTw.out _ hG6) (HRow.out _ hG6)
    have hRR : (R == R) = true := by simp
    have hcc : ((c : Int) == (c : Int)) = true := by simp
    go_wp2_with fail
    refine Calls.mono HLf.out ?_
    rintro e w7 ⟨rfl, hF7⟩
    have hG7 := hG4.then (hG6.then hF7)
    clear HLf hF7 hG6 hF5 hF6 hG4
    go_wp2
    go_ret
    exact ⟨by simp, hG7⟩

theorem own : ownKnob Try.prog.godebug = none := by kernel_rfl
theorem laidOut : laidOutB Try.prog = true := by kernel_rfl
set_option maxHeartbeats 4000000 in
set_option maxRecDepth 100000 in
theorem lifted (os : Os) (started : os.Started) (H : Type) (enc : TypeId × Value → H) :
    ReturnsInHanded {} Try.checked os 4 .any (Rows.foldChainsSpec.pre6 enc Try.prog Try.f4 Rows.foldChainsRow.domain false) (Rows.foldChainsSpec.post enc Try.prog Try.f4 false true false false) := by
  refine returnsInHanded_of_change_sized (C := Try.checked) own started (by kernel_rfl) Try.func4
    (ChangeSpec.witness6 (enc := enc) (C := Try.checked) false ⟨#[], #[.slice none 0 0, .int .i64 0, .int .i64 0], []⟩ 8 (by kernel_rfl) (by kernel_rfl) (by kernel_rfl) (by kernel_rfl)) ?_
  intro W base args ds gs before hval0 hW hcnd hsz0 _
  have hval : ∀ (j : Nat) t v, Try.f4.params[j]? = some t → args[j]? = some v → Value.okWide Try.prog W .any base t v := hval0
  have hsz : (DataW.weightsEach Try.prog (Try.f4.params.toList ++ Rows.foldChainsSpec.plain.varTypes Try.prog) (ds ++ gs)).all (· ≤ reachBytes) = true := hsz0
  have hW' := hW
  obtain ⟨p, q, hA0, hV, rfl, hfz, hnd⟩ := hW
  have hA : DataW.TrodAll enc Try.prog W 0 (fun _ => true) true Try.f4.params.toList args.toList ds p := hA0
  rw [Try.params4] at hA hval hsz
  obtain ⟨v0, vs0, d0, ds0, p0, q0, hargs, rfl, rfl, h0, r0⟩ := trodAll_cons hA
  obtain ⟨v1, vs1, d1, ds1, p1, q1, rfl, rfl, rfl, h1, r1⟩ := trodAll_cons r0
  obtain ⟨v2, vs2, d2, ds2, p2, q2, rfl, rfl, rfl, h2, r2⟩ := trodAll_cons r1
  obtain ⟨rfl, rfl, rfl⟩ := trodAll_nil r2
  obtain rfl : args = #[v0, v1, v2] := by cases args; simp_all
  obtain ⟨rfl, rfl⟩ := trodVars_none hV
  have k0 := h0
  have lt0 : ∀ x ∈ p0, x.block < W.heap.size := by obtain ⟨m, hm⟩ := k0; exact DataW.trod_lt m _ _ _ hm
  obtain ⟨a0, len0, cap0, ts0, rfl, hB0, hL0, hC0⟩ : ∃ ao L cap ts, v0 = .slice ao L cap ∧ TRs W ao ts ∧ L = ts.length ∧ L ≤ cap := by
    obtain ⟨fuel, hf⟩ := h0
    obtain ⟨ao, L, cap, rfl⟩ := okWide_slice Try.undTs' (hval 0 22 v0 rfl rfl)
    exact ts_open hf (fun n hn => of_decide_eq_true (List.all_eq_true.1 hsz n (DataW.weights_mem_each (j := 0) (t := 22) rfl rfl n hn)))
  obtain ⟨n1, rfl, rfl, rfl, w1⟩ := open_int Try.underlying3 (hval 1 3 v1 rfl rfl) h1
  have b1 := bounds_i64 w1
  obtain ⟨n2, rfl, rfl, rfl, w2⟩ := open_int Try.underlying3 (hval 2 3 v2 rfl rfl) h2
  have b2 := bounds_i64 w2
  clear hA0 hval0
  refine (walk a0 len0 cap0 ts0 n1 n2 W hB0 hL0 hC0 b1 b2).mono fun e W' ⟨he, hf⟩ => ?_
  subst he
  have bel : Below W.heap.size W W' := hf.below (Nat.le_refl _) (by simp)
  exact ⟨_, rfl, _, _, _, [], _, [], hW', trodAll_mk1 (shut_bool Try.underlying4 _), (trodAll_cons_mk (Below.trod laidOut (by kernel_rfl) (of_decide_eq_true (by kernel_rfl)) k0 bel lt0) (trodAll_cons_mk (shut_int Try.underlying3 w1) (trodAll_cons_mk (shut_int Try.underlying3 w2) trodAll_mk0))), rfl, bel.frame _, fun h => by cases h⟩

theorem over : Rows.foldChainsRow.holds Try.pinned (OpenSpec.ofChange Rows.foldChainsSpec) :=
  OpenClaim.holds_of_wide 4 Try.f4 rfl rfl rfl rfl rfl rfl rfl ⟨rfl, rfl, rfl, rfl, rfl⟩ rfl rfl rfl rfl rfl (by kernel_rfl) Try.func4 (by kernel_rfl)
    (of_decide_eq_true (by kernel_rfl)) (by unfold Func.isWrapper; first | (rw [if_pos (by decide +kernel)]; kernel_rfl) | (rw [if_neg (by decide +kernel)]; exact ⟨rfl, rfl⟩))
    (fun os started H enc _ => lifted os started H enc)
end Go.Proofs.Ytfminnmfdogopaa.foldChains
namespace Go.Proofs.Ytfminnmfdogopaa
theorem foldchains_holds : Rows.FoldChainsSaid := foldChains.over
#print axioms foldchains_holds
end Go.Proofs.Ytfminnmfdogopaa

/- For every list of transactions and whatever is asked of it the law FoldReads returns true, and the list reads as it did. No conditions. -/
import Derived.Test.YtfminnmfdogopaaWtr7
import Derived.Test.YtfminnmfdogopaaLfT
import Derived.Test.YtfminnmfdogopaaAsko
namespace Go.Proofs.Ytfminnmfdogopaa.foldReads
open Go.ChangeShapes Go.WideShapes Go.ChangeAt Go.RowKit Go.Lib
set_option linter.unusedVariables false
set_option linter.unusedSimpArgs false

/-- What is asked, in its box. -/
structure BoxA (W : World) (b : Nat) (f n : Int) (key en : ByteArray) : Prop where
  box : W.heap[b]? = some (.cells #[.int .i64 f, .int .i64 n, .string key, .string en] 24 (0, 0))
theorem BoxA.keep {W W' : World} {b : Nat} {f n : Int} {key en : ByteArray} (h : BoxA W b f n key en) (hf : Fr [] W W') : BoxA W' b f n key en := ⟨hf.keep h.box (by simp)⟩
theorem BoxA.c {W : World} {b : Nat} {f n : Int} {key en : ByteArray} (h : BoxA W b f n key en) : W.cell? ⟨b, 0, none⟩ = some (.int .i64 f) ∧ W.cell? ⟨b, 1, none⟩ = some (.int .i64 n) ∧ W.cell? ⟨b, 2, none⟩ = some (.string key) ∧ W.cell? ⟨b, 3, none⟩ = some (.string en) := by
  have k : ∀ o, W.cell? ⟨b, o, none⟩ = #[Value.int .i64 f, .int .i64 n, .string key, .string en][o]? := fun o => cell_of_row _ _ _ _ _ _ h.box
  exact ⟨k 0, k 1, k 2, k 3⟩
theorem new3 (w : World) (a b c : Int) : (w.alloc (.cells #[.int .i64 a, .int .i64 b, .int .i64 c] 3)).cell? ⟨w.heap.size, 0, none⟩ = some (.int .i64 a) ∧ (w.alloc (.cells #[.int .i64 a, .int .i64 b, .int .i64 c] 3)).cell? ⟨w.heap.size, 1, none⟩ = some (.int .i64 b) ∧ (w.alloc (.cells #[.int .i64 a, .int .i64 b, .int .i64 c] 3)).cell? ⟨w.heap.size, 2, none⟩ = some (.int .i64 c) := by
  have k : ∀ o, (w.alloc (.cells #[.int .i64 a, .int .i64 b, .int .i64 c] 3)).cell? ⟨w.heap.size, o, none⟩ = #[Value.int .i64 a, .int .i64 b, .int .i64 c][o]? := fun o => cell_of_row _ _ _ _ _ _ (heap_alloc_new w _)
  exact ⟨k 0, k 1, k 2⟩

set_option maxHeartbeats 16000000 in
set_option maxRecDepth 100000 in
theorem walk (ao : Option Addr) (L cap : Nat) (ts : List Tm) (f n : Int) (key en : ByteArray) (w : World) (hT : TRs w ao ts) (hLe : L = ts.length) (hcap : L ≤ cap) (hf : -9223372036854775808 ≤ f ∧ f ≤ 9223372036854775807) (hn : -9223372036854775808 ≤ n ∧ n ≤ 9223372036854775807) (hky : key.size ≤ reachBytes) (hen : en.size ≤ reachBytes) :
    Calls Try.prog 3 #[.slice ao L cap, .agg #[.int .i64 f, .int .i64 n, .string key, .string en]] w fun e w' => e = .returned (.bool true) ∧ Fr [] w w' := by
  have HL : Hid (L = ts.length) := hLe
  have HI : Hid (∀ W, Fr [] w W → TRs W ao ts) := fun W hf => hT.keep hf
  have hks : key.size ≤ 140737488355328 := by have := reachBytes_lt; omega
  have hes : en.size ≤ 140737488355328 := by have := reachBytes_lt; omega
  obtain ⟨w0, HW0⟩ : ∃ w0, Hid (w.alloc (.cells #[.int .i64 f, .int .i64 n, .string key, .string en] 24) = w0) := ⟨_, rfl⟩
  have hF0 : Fr [] w w0 := by rw [← HW0.out]; exact Fr.alloc [] w _
  have hb0 : BoxA w0 w.heap.size f n key en := ⟨by rw [← HW0.out]; exact heap_alloc_new w _⟩
  have hT0 : Hid (TRs w ao ts) := hT
  clear hLe hT hky hen
  go_enter Try.func3, Try.ntmps3
  go_upto_region 1 with fail
  rw [HW0.out]
  obtain ⟨B, HBx⟩ : ∃ B, Hid (B = w.heap.size) := ⟨_, rfl⟩
  rw [← HBx.out] at hb0 ⊢
  clear HW0
  obtain ⟨c0, c1, c2, c3⟩ := hb0.c
  have HBk : Hid (∀ W, Fr [] w0 W → BoxA W B f n key en) := fun W hf => hb0.keep hf
  have q2 : w0.drew.cell? ⟨B, 2, none⟩ = some (.string key) := c2
  have q3 : w0.drew.cell? ⟨B, 3, none⟩ = some (.string en) := c3
  have HTs : Hid (∀ W, Fr [] w0 W → Calls Try.prog 9 #[.slice ao L cap] W fun e w' => ∃ N : Nat, e = .returned (.int .i64 (N : Int)) ∧ N ≤ 9007199254740992 ∧ L ≤ N ∧ Hid (N ≤ 1048576 → Few ts) ∧ Fr [] w0 w' ∧ w'.cell? ⟨B, 2, none⟩ = some (.string key) ∧ w'.cell? ⟨B, 3, none⟩ = some (.string en)) := fun W hf => by
    refine (txnsSizeB_any ao L cap ts W (HI.out _ (hF0.then hf)) HL.out).mono ?_
    rintro e w' ⟨N0, rfl, hN0b, hLN, hFw0, hF1⟩
    have hk := HBk.out _ (hf.then hF1)
    exact ⟨N0, rfl, by omega, by omega, hFw0, hf.then hF1, hk.c.2.2.1, hk.c.2.2.2⟩
  go_region_held3 (fun W => W.cell? ⟨B, 2, none⟩ = some (.string key) ∧ W.cell? ⟨B, 3, none⟩ = some (.string en)) (go_keep)
    (first
    | (go_at_call 9; with_reducible refine Calls.mono (HTs.out _ (Fr.drew [] _)) ?_; rintro e w1 ⟨N0, rfl, hNb, hLN, HFw, hG1, k2, k3⟩)
    | (go_at_call 8; with_reducible refine Calls.mono (beyond3_any w1.heap.size N0 key.size en.size _ hNb (by omega) (by omega) (new3 w1 _ _ _).1 (new3 w1 _ _ _).2.1 (new3 w1 _ _ _).2.2) ?_; rintro e w2 ⟨Bq, rfl, hBq, hw2⟩; have hG2 : Fr [] w0 w2 := hG1.then (by rw [← hw2]; exact Fr.alloc _ _ _); clear hw2; have hk2 := HBk.out _ hG2; have m2 := hk2.c.2.2.1; have m3 := hk2.c.2.2.2; clear hk2))
  clear HTs c0 c1 c2 c3 q2 q3 k2 k3 m2 m3 hb0
  have hG2w := hF0.then hG2
  cases Bq with
  | true =>
    go_wp2
    go_ret
    exact ⟨rfl, hG2w⟩
  | false =>
    have hsum := hBq rfl
    have hLs : L < 1048577 := by omega
    have HFew : Hid (Few ts) := HFw.out (by omega)
    obtain ⟨val, ok, cg, hGT⟩ := GTold.ex (txs ts) f key
    obtain ⟨ps, cs, hST⟩ := ScTold.ex (txs ts) f key en
    obtain ⟨v, cw, hWT⟩ := WTold.ex (txs ts) n key
    have HGT : Hid (GTold (txs ts) f key val ok cg) := hGT
    have HST : Hid (ScTold (txs ts) f key en ps cs) := hST
    have HWT : Hid (WTold (txs ts) n key v cw) := hWT
    obtain ⟨N, hN⟩ : ∃ N, N = ps.length := ⟨_, rfl⟩
    have HN : Hid (N = ps.length) := hN
    clear hGT hST hWT hN hBq hNb HFw hsum hLN
    go_wp2_with fail
    refine (twinTs_any ao L cap ts _ (HI.out _ hG2w) HL.out (by omega) HFew.out).mono ?_
    rintro e w4 ⟨b, ks, rfl, hb, hrow4, hTw4, hF4⟩
    have hG4 := hG2w.then hF4
    have HTw : Hid (∀ W, Fr [] w4 W → Twd w W ts ks) := fun W hf => by
      have h1 := hTw4.keep hf (by simp)
      exact ⟨h1.len, fun k hk => by have := h1.new k hk; have := hG2w.size; omega, h1.row, h1.apart⟩
    have HRow : Hid (∀ W, Fr [] w4 W → W.heap[b]? = some (.cells (tmsC (twTs ts ks ++ [spT])).toArray 51 (0, 0))) := fun W hf => hf.keep hrow4 (by simp)
    have HX : Hid (∀ W, Fr [] w4 W → TRs W (some ⟨b, 0, none⟩) (twTs ts ks)) := fun W hf => twins_trs hT0.out (HTw.out W hf) (HRow.out W hf)
    have HXL : Hid (L = (twTs ts ks).length) := by show _ = _; rw [twTs_length ts ks hTw4.len]; exact HL.out
    have HXT : Hid (txs (twTs ts ks) = txs ts) := txs_twTs ts ks hTw4.len
    have HI4 : Hid (∀ W, Fr [] w4 W → TRs W ao ts) := fun W hf => HI.out W (hG4.then hf)
    have HB4 : Hid (∀ W, Fr [] w4 W → BoxA W B f n key en) := fun W hf => HBk.out _ (hG2.then (hF4.then hf))
    obtain ⟨c0, c1, c2, c3⟩ := (HB4.out _ (Fr.refl _ _)).c
    clear hrow4 hTw4 hF4 HI hb hG2w hG2 HBk hG1
    -- Get
    go_wp2_with fail
    refine (fGet_any (some ⟨b, 0, none⟩) L (L + 1) f key val ok cg (twTs ts ks) _ (HX.out _ (Fr.refl _ _)) HXL.out (by omega) hf.1 hf.2 (by rw [HXT.out]; exact HGT.out)).mono ?_
    rintro e w5 ⟨rfl, hF5⟩
    obtain ⟨d0, d1, d2, d3⟩ := (HB4.out _ hF5).c
    clear c0 c1 c2 c3
    go_wp2_with fail
    refine (zGet_any ao L cap f key val ok cg ts _ (HI4.out _ hF5) HL.out hf.1 hf.2 hks HGT.out).mono ?_
    rintro e w6 ⟨rfl, hF6⟩
    have hG6 := hF5.then hF6
    obtain ⟨c0, c1, c2, c3⟩ := (HB4.out _ hG6).c
    clear d0 d1 d2 d3 hF5 hF6
    -- Scan
    go_wp2_with fail
    refine (fScan_any (some ⟨b, 0, none⟩) L (L + 1) f key en ps N cs (twTs ts ks) _ (HX.out _ hG6) HXL.out (by omega) hf.1 hf.2 (by rw [HXT.out]; exact HST.out) HN.out).mono ?_
    rintro e w7 ⟨ro, rc, rfl, hE7, hF7⟩
    have hG7 := hG6.then hF7
    obtain ⟨d0, d1, d2, d3⟩ := (HB4.out _ hG7).c
    have HE7 : Hid (∀ W, Fr [] w7 W → w7.heap.size ≤ W.heap.size → EOut w6 W ro N rc ps) := fun W hf _ => hE7.keep hf
    clear c0 c1 c2 c3 hE7 hG6 hF7
    go_wp2_with fail
    refine (zScan_any ao L cap f key en ps cs ts _ (HI4.out _ hG7) HL.out hf.1 hf.2 HST.out).mono ?_
    rintro e w8 ⟨ro2, N2, rc2, rfl, hE8, hpl, hF8⟩
    have hNN : N2 = N := by rw [hE8.len, HN.out]
    subst hNN
    have hG8 := hG7.then hF8
    obtain ⟨c0, c1, c2, c3⟩ := (HB4.out _ hG8).c
    have HE8 : Hid (∀ W, Fr [] w8 W → ERs W ro ps ∧ ERs W ro2 ps) := fun W hf => ⟨(HE7.out W (hF8.then hf) (hF8.then hf).size).ers hpl, (hE8.keep hf).ers hpl⟩
    clear d0 d1 d2 d3 hE8 hpl hG7 hF8 HE7
    -- Writer
    go_wp2_with fail
    refine (fWriter_any (some ⟨b, 0, none⟩) L (L + 1) n key v cw (twTs ts ks) _ (HX.out _ hG8) HXL.out (by omega) hn.1 hn.2 (by rw [HXT.out]; exact HWT.out)).mono ?_
    rintro e w9 ⟨rfl, hF9⟩
    have hG9 := hG8.then hF9
    obtain ⟨d0, d1, d2, d3⟩ := (HB4.out _ hG9).c
    clear c0 c1 c2 c3
    go_wp2_with fail
    refine (zWriter_any ao L cap n key v cw ts _ (HI4.out _ hG9) HL.out hks hn.1 hn.2 HWT.out).mono ?_
    rintro e wa ⟨rfl, hFa⟩
    have hGa := hG9.then hFa
    have hFba := hF9.then hFa
    have HSm : Hid _ := sameEntries_any ro ro2 N2 rc rc2 ps wa (HE8.out _ hFba).1 (HE8.out _ hFba).2 HN.out
    clear d0 d1 d2 d3 hG9 hF9 hFa hG8 hFba
    have e1 : (val.toList == val.toList) = true := by simp
    have e2 : (ok == ok) = true := by simp
    have e3 : ((cg : Int) == (cg : Int)) = true := by simp
    have e4 : ((cs : Int) == (cs : Int)) = true := by simp
    have e5 : (v == v) = true := by simp
    have e6 : ((cw : Int) == (cw : Int)) = true := by simp
    go_wp2_with fail
    refine Calls.mono HSm.out ?_
    rintro e wb ⟨rfl, hFb⟩
    have hGb := hGa.then hFb
    have HLf : Hid _ := leftTs_any b ks w ao L cap ts wb (HI4.out _ hGb) HL.out (by omega) HFew.out (HTw.out _ hGb) (HRow.out _ hGb)
    clear HSm hFb hGa
    go_wp2_with fail
    refine Calls.mono HLf.out ?_
    rintro e wc ⟨rfl, hFc⟩
    have hGc := hG4.then (hGb.then hFc)
    clear HLf hFc hGb hG4
    go_wp2
    go_ret
    exact ⟨by simp, hGc⟩

theorem own : ownKnob Try.prog.godebug = none := by kernel_rfl
theorem laidOut : laidOutB Try.prog = true := by kernel_rfl
set_option maxHeartbeats 4000000 in
set_option maxRecDepth 100000 in
theorem lifted (os : Os) (started : os.Started) (H : Type) (enc : TypeId × Value → H) :
    ReturnsInHanded {} Try.checked os 3 .any (Rows.foldReadsSpec.pre6 enc Try.prog Try.f3 Rows.foldReadsRow.domain false) (Rows.foldReadsSpec.post enc Try.prog Try.f3 false true false false) := by
  refine returnsInHanded_of_change_sized (C := Try.checked) own started (by kernel_rfl) Try.func3
    (ChangeSpec.witness6 (enc := enc) (C := Try.checked) false ⟨#[], #[.slice none 0 0, .agg #[.int .i64 0, .int .i64 0, .string ⟨#[]⟩, .string ⟨#[]⟩]], []⟩ 8 (by kernel_rfl) (by kernel_rfl) (by kernel_rfl) (by kernel_rfl)) ?_
  intro W base args ds gs before hval0 hW hcnd hsz0 _
  have hval : ∀ (j : Nat) t v, Try.f3.params[j]? = some t → args[j]? = some v → Value.okWide Try.prog W .any base t v := hval0
  have hsz : (DataW.weightsEach Try.prog (Try.f3.params.toList ++ Rows.foldReadsSpec.plain.varTypes Try.prog) (ds ++ gs)).all (· ≤ reachBytes) = true := hsz0
  have hW' := hW
  obtain ⟨p, q, hA0, hV, rfl, hfz, hnd⟩ := hW
  have hA : DataW.TrodAll enc Try.prog W 0 (fun _ => true) true Try.f3.params.toList args.toList ds p := hA0
  rw [Try.params3] at hA hval hsz
  obtain ⟨v0, vs0, d0, ds0, p0, q0, hargs, rfl, rfl, h0, r0⟩ := trodAll_cons hA
  obtain ⟨v1, vs1, d1, ds1, p1, q1, rfl, rfl, rfl, h1, r1⟩ := trodAll_cons r0
  obtain ⟨rfl, rfl, rfl⟩ := trodAll_nil r1
  obtain rfl : args = #[v0, v1] := by cases args; simp_all
  obtain ⟨rfl, rfl⟩ := trodVars_none hV
  have k0 := h0
  have lt0 : ∀ x ∈ p0, x.block < W.heap.size := by obtain ⟨m, hm⟩ := k0; exact DataW.trod_lt m _ _ _ hm
  obtain ⟨a0, len0, cap0, ts0, rfl, hB0, hL0, hC0⟩ : ∃ ao L cap ts, v0 = .slice ao L cap ∧ TRs W ao ts ∧ L = ts.length ∧ L ≤ cap := by
    obtain ⟨fuel, hf⟩ := h0
    obtain ⟨ao, L, cap, rfl⟩ := okWide_slice Try.undTs' (hval 0 22 v0 rfl rfl)
    exact ts_open hf (fun n hn => of_decide_eq_true (List.all_eq_true.1 hsz n (DataW.weights_mem_each (j := 0) (t := 22) rfl rfl n hn)))
  obtain ⟨cs1, rfl, _⟩ := okWide_struct Try.underlying24 (hval 1 24 v1 rfl rfl)
  have k1 := h1
  have lt1 : ∀ x ∈ p1, x.block < W.heap.size := by obtain ⟨m, hm⟩ := k1; exact DataW.trod_lt m _ _ _ hm
  obtain ⟨f1, n1, y1, z1, rfl, hf1, hn1, hy1, hz1⟩ : ∃ (f n : Int) (key en : ByteArray), cs1 = #[.int .i64 f, .int .i64 n, .string key, .string en] ∧ (-9223372036854775808 ≤ f ∧ f ≤ 9223372036854775807) ∧ (-9223372036854775808 ≤ n ∧ n ≤ 9223372036854775807) ∧ key.size ≤ reachBytes ∧ en.size ≤ reachBytes := by
    obtain ⟨fuel, hf⟩ := h1
    obtain ⟨f, n, key, en, e, b0, b1, m0, m1⟩ := ask_open hf
    have hall : ∀ n ∈ d1.weights Try.prog 24, n ≤ reachBytes := fun n hn => of_decide_eq_true (List.all_eq_true.1 hsz n (DataW.weights_mem_each (j := 1) (t := 24) rfl rfl n hn))
    exact ⟨f, n, key, en, by cases cs1; simpa [Value.cells] using e, b0, b1, hall _ m0, hall _ m1⟩
  clear hA0 hval0
  refine (walk a0 len0 cap0 ts0 f1 n1 y1 z1 W hB0 hL0 hC0 hf1 hn1 hy1 hz1).mono fun e W' ⟨he, hf⟩ => ?_
  subst he
  have bel : Below W.heap.size W W' := hf.below (Nat.le_refl _) (by simp)
  exact ⟨_, rfl, _, _, _, [], _, [], hW', trodAll_mk1 (shut_bool Try.underlying4 _), (trodAll_cons_mk (Below.trod laidOut (by kernel_rfl) (of_decide_eq_true (by kernel_rfl)) k0 bel lt0) (trodAll_cons_mk (Below.trod laidOut (by kernel_rfl) (of_decide_eq_true (by kernel_rfl)) k1 bel lt1) trodAll_mk0)), rfl, bel.frame _, fun h => by cases h⟩

theorem over : Rows.foldReadsRow.holds Try.pinned (OpenSpec.ofChange Rows.foldReadsSpec) :=
  OpenClaim.holds_of_wide 3 Try.f3 rfl rfl rfl rfl rfl rfl rfl ⟨rfl, rfl, rfl, rfl, rfl⟩ rfl rfl rfl rfl rfl (by kernel_rfl) Try.func3 (by kernel_rfl)
    (of_decide_eq_true (by kernel_rfl)) (by unfold Func.isWrapper; first | (rw [if_pos (by decide +kernel)]; kernel_rfl) | (rw [if_neg (by decide +kernel)]; exact ⟨rfl, rfl⟩))
    (fun os started H enc _ => lifted os started H enc)
end Go.Proofs.Ytfminnmfdogopaa.foldReads
namespace Go.Proofs.Ytfminnmfdogopaa
theorem foldreads_holds : Rows.FoldReadsSaid := foldReads.over
#print axioms foldreads_holds
end Go.Proofs.Ytfminnmfdogopaa

/- For every two transactions the law RecordApart returns true, and both read as they did. No conditions. -/
import Derived.Test.YtcgfadmhjfncoaaRec2
import Derived.Test.YtcgfadmhjfncoaaTxo
import Derived.Deep.CutRange
import Derived.Deep.RegionHeld3
import Derived.Deep.LoopGhost
namespace Go.Proofs.Ytcgfadmhjfncoaa.recordApart
open Go.ChangeShapes Go.WideShapes Go.ChangeAt Go.RowKit Go.Lib
set_option linter.unusedVariables false

set_option maxHeartbeats 2000000 in
theorem beyond2_any (k x y : Nat) (w : World) (hx : x ≤ 2^51) (hy : y ≤ 2^51) (c0 : w.cell? ⟨k, 0, none⟩ = some (.int .i64 (x : Int))) (c1 : w.cell? ⟨k, 1, none⟩ = some (.int .i64 (y : Int))) :
    Calls Try.prog 7 #[.slice (some ⟨k, 0, none⟩) 2 2] w fun e w' => (∃ B : Bool, e = .returned (.bool B)) ∧ w = w' := by
  by_cases h : 1048576 < x
  · have h' : (1048576 : Int) < x := by omega
    go_enter Try.func7, Try.ntmps7
    go_wp2_with fail
    refine wp_loop_rounds 1 ?_
    rw [rounds_succ]
    go_wp2
    go_ret
    exact ⟨⟨_, rfl⟩, rfl⟩
  · have h' : (x : Int) ≤ 1048576 := by omega
    by_cases h2 : 1048576 < x + y
    · have h2' : (1048576 : Int) < x + y := by omega
      go_enter Try.func7, Try.ntmps7
      go_wp2_with fail
      refine wp_loop_rounds 2 ?_
      rw [rounds_succ]
      go_wp2
      rw [rounds_succ]
      go_wp2
      go_ret
      exact ⟨⟨_, rfl⟩, rfl⟩
    · have h2' : (x : Int) + y ≤ 1048576 := by omega
      go_enter Try.func7, Try.ntmps7
      go_wp2_with fail
      refine wp_loop_rounds 3 ?_
      rw [rounds_succ]
      go_wp2
      rw [rounds_succ]
      go_wp2
      rw [rounds_succ]
      go_wp2
      go_ret
      exact ⟨⟨_, rfl⟩, rfl⟩

theorem beyond2_at (N1 N2 : Nat) (w : World) (xs ys : List Wt) (h1 : Wide N1 xs) (h2 : Wide N2 ys) :
    Calls Try.prog 7 #[.slice (some ⟨w.heap.size, 0, none⟩) 2 2] (w.alloc (.cells #[.int .i64 ((N1 : Int) + 1), .int .i64 ((N2 : Int) + 1)] 3)) fun e w' => (∃ B : Bool, e = .returned (.bool B)) ∧ (w.alloc (.cells #[.int .i64 ((N1 : Int) + 1), .int .i64 ((N2 : Int) + 1)] 3)) = w' := by
  have a := h1.2.1
  have b := h2.2.1
  refine beyond2_any w.heap.size (N1 + 1) (N2 + 1) _ (by omega) (by omega) ?_ ?_
  · have := cell_of_row _ _ 0 _ _ _ (heap_alloc_new w (.cells #[.int .i64 ((N1 : Int) + 1), .int .i64 ((N2 : Int) + 1)] 3))
    rw [this]
    simp
  · have := cell_of_row _ _ 1 _ _ _ (heap_alloc_new w (.cells #[.int .i64 ((N1 : Int) + 1), .int .i64 ((N2 : Int) + 1)] 3))
    rw [this]
    simp
/-- The same, said of what TxnSize tells. -/
theorem txSize_at (m : Int) (a : Option Addr) (L ca : Nat) (xs : List Wt) (w : World) (ha : WRs w a xs) (hL : L = xs.length) :
    Calls Try.prog 14 #[.agg #[.int .i64 m, .slice a L ca]] w fun e w' => ∃ N : Nat, e = .returned (.int .i64 ((N : Int) + 1)) ∧ Wide N xs ∧ Fr [] w w' := by
  refine (txSize_any m a L ca xs w ha hL).mono ?_
  rintro e w' ⟨N, rfl, h⟩
  exact ⟨N, by simp, h⟩

set_option maxHeartbeats 8000000 in
set_option maxRecDepth 100000 in
theorem walk (m : Int) (ao : Option Addr) (L ca : Nat) (xs : List Wt) (n : Int) (bo : Option Addr) (M cb : Nat) (ys : List Wt) (w : World) (hT : TArg w m ao L ca xs) (hU : TArg w n bo M cb ys) :
    Calls Try.prog 6 #[.agg #[.int .i64 m, .slice ao L ca], .agg #[.int .i64 n, .slice bo M cb]] w fun e w' => e = .returned (.bool true) ∧ Fr [] w w' := by
  have HL : Hid (L = xs.length) := hT.len
  have HM : Hid (M = ys.length) := hU.len
  obtain ⟨hm0, hm1, hn0, hn1⟩ : _ ∧ _ ∧ _ ∧ _ := ⟨hT.n0, hT.n1, hU.n0, hU.n1⟩
  obtain ⟨w0, HW0⟩ : ∃ w0, Hid ((w.alloc (.cells #[.int .i64 m, .slice ao L ca] 27)).alloc (.cells #[.int .i64 n, .slice bo M cb] 27) = w0) := ⟨_, rfl⟩
  have hF0 : Fr [] w w0 := by rw [← HW0.out]; exact (Fr.alloc [] w _).then (Fr.alloc [] _ _)
  have hT0 : B2 w0 w.heap.size (.int .i64 m) (.slice ao L ca) := ⟨by rw [← HW0.out]; exact (Fr.alloc [] _ _).keep (heap_alloc_new w _) (by simp)⟩
  have hU0 : B2 w0 (w.heap.size + 1) (.int .i64 n) (.slice bo M cb) := ⟨by
    rw [← HW0.out]
    have := heap_alloc_new (w.alloc (.cells #[.int .i64 m, .slice ao L ca] 27)) (.cells #[.int .i64 n, .slice bo M cb] 27)
    simpa using this⟩
  have HT0 : Hid (∀ W, Fr [] w0 W → B2 W w.heap.size (.int .i64 m) (.slice ao L ca) ∧ B2 W (w.heap.size + 1) (.int .i64 n) (.slice bo M cb)) := fun W hf => ⟨hT0.keep hf, hU0.keep hf⟩
  have HX : Hid (∀ W, Fr [] w0 W → WRs W ao xs ∧ WRs W bo ys) := fun W hf => ⟨hT.rs.keep (hF0.then hf), hU.rs.keep (hF0.then hf)⟩
  have k0 := (HT0.out _ (Fr.drew [] w0)).1.c0
  have k1 := (HT0.out _ (Fr.drew [] w0)).1.c1
  have k2 := (HT0.out _ (Fr.drew [] w0)).2.c0
  have k3 := (HT0.out _ (Fr.drew [] w0)).2.c1
  have hA := alive5_any w0.drew
  go_enter Try.func6, Try.ntmps6
  go_upto_region 1 with fail
  rw [HW0.out]
  first
    | go_loud (go_region_held3 (fun W => W.cell? ⟨w.heap.size, 0, none⟩ = some (.int .i64 m) ∧ W.cell? ⟨w.heap.size, 1, none⟩ = some (.slice ao L ca) ∧ W.cell? ⟨w.heap.size + 1, 0, none⟩ = some (.int .i64 n) ∧ W.cell? ⟨w.heap.size + 1, 1, none⟩ = some (.slice bo M cb)) (go_keep)
        (first
        | (go_at_call 7; with_reducible refine (beyond2_at N1 N2 w3 xs ys hN1 hN2).mono ?_; rintro e w4 ⟨⟨B, rfl⟩, hw4⟩; subst hw4)
        | (go_at_call 14; with_reducible refine hS2.mono ?_; rintro e w3 ⟨N2, rfl, hN2, hF3⟩; have hG3 := hG2.then hF3; have k8 := (HT0.out _ hG3).1.c0; have k9 := (HT0.out _ hG3).1.c1; have k10 := (HT0.out _ hG3).2.c0; have k11 := (HT0.out _ hG3).2.c1)
        | (go_at_call 14; with_reducible refine hS1.mono ?_; rintro e w2 ⟨N1, rfl, hN1, hF2⟩; have hG2 := hG1.then hF2; have k8 := (HT0.out _ hG2).1.c0; have k9 := (HT0.out _ hG2).1.c1; have k10 := (HT0.out _ hG2).2.c0; have k11 := (HT0.out _ hG2).2.c1; have hS2 := txSize_at n bo M cb ys w2 (HX.out _ hG2).2 HM.out)
        | (go_at_call 13; with_reducible refine hA.mono ?_; rintro e w1 ⟨rfl, hF1⟩; have hG1 := (Fr.drew [] w0).then hF1; have k4 := (HT0.out _ hG1).1.c0; have k5 := (HT0.out _ hG1).1.c1; have k6 := (HT0.out _ hG1).2.c0; have k7 := (HT0.out _ hG1).2.c1; have hS1 := txSize_at m ao L ca xs w1 (HX.out _ hG1).1 HL.out)))
    | fail
  have hF4 : Fr [] w3 (w3.alloc (.cells #[.int .i64 ((N1 : Int) + 1), .int .i64 ((N2 : Int) + 1)] 3)) := Fr.alloc _ _ _
  obtain ⟨w4, HW4⟩ : ∃ w4, Hid (w3.alloc (.cells #[.int .i64 ((N1 : Int) + 1), .int .i64 ((N2 : Int) + 1)] 3) = w4) := ⟨_, rfl⟩
  rw [HW4.out] at hF4 ⊢
  have hG4 := hG3.then hF4
  clear hF1 hF2 hF3 hF4 hG1 hG2 hG3 hS1 hS2 hA hT0 hU0 k0 k1 k2 k3 k4 k5 k6 k7 hN1 hN2
  cases B with
  | true =>
    go_wp2_with fail
    refine (alive5_any _).mono ?_
    rintro e w5 ⟨rfl, hF5⟩
    go_wp2
    go_ret
    exact ⟨rfl, hF0.then (hG4.then hF5)⟩
  | false =>
    have a0 := (HT0.out _ hG4).1.c0
    have a1 := (HT0.out _ hG4).1.c1
    by_cases hm : okT m xs
    · obtain ⟨p, rfl⟩ : ∃ p : Nat, m = (p : Int) := ⟨m.toNat, by have := hm.1; omega⟩
      obtain ⟨us, has⟩ : ∃ us, us = encT p xs := ⟨_, rfl⟩
      obtain ⟨A, hA⟩ : ∃ A, A = us.length := ⟨_, rfl⟩
      have hAb : 2 ≤ A ∧ A ≤ 65000 := by rw [hA, has]; exact encT_length p xs hm
      have HP : Hid (okT (p : Int) xs) := hm
      have HAS : Hid (us = encT p xs) := has
      have HAS' : Hid (us = encT (p : Int).toNat xs) := by show _ = _; rw [Int.toNat_natCast]; exact has
      have HA : Hid (A = us.length) := hA
      clear hm has hA
      go_wp2_with fail
      refine (encode_ok (p : Int) ao L ca A xs us _ (HX.out _ hG4).1 HL.out HP.out HAS'.out HA.out).mono ?_
      rintro e w5 ⟨k, rfl, hk, hrow5, hF5⟩
      have hG5 := hG4.then hF5
      have b0 := (HT0.out _ hG5).2.c0
      have b1 := (HT0.out _ hG5).2.c1
      clear a0 a1
      by_cases hn : okT n ys
      · obtain ⟨q, rfl⟩ : ∃ q : Nat, n = (q : Int) := ⟨n.toNat, by have := hn.1; omega⟩
        obtain ⟨vs, hbs⟩ : ∃ vs, vs = encT q ys := ⟨_, rfl⟩
        obtain ⟨C, hC⟩ : ∃ C, C = vs.length := ⟨_, rfl⟩
        have hCb : 2 ≤ C ∧ C ≤ 65000 := by rw [hC, hbs]; exact encT_length q ys hn
        have HQ : Hid (okT (q : Int) ys) := hn
        have HBS : Hid (vs = encT q ys) := hbs
        have HBS' : Hid (vs = encT (q : Int).toNat ys) := by show _ = _; rw [Int.toNat_natCast]; exact hbs
        have HC : Hid (C = vs.length) := hC
        clear hn hbs hC
        go_wp2_with fail
        refine (encode_ok (q : Int) bo M cb C ys vs _ (HX.out _ hG5).2 HM.out HQ.out HBS'.out HC.out).mono ?_
        rintro e w6 ⟨k6, rfl, hk6, hrow6, hF6⟩
        have hG6 := hG5.then hF6
        have hrow5' := hF6.keep hrow5 (by simp)
        clear hF5 hF6 hrow5 b0 b1 hG5
        obtain ⟨K, hK⟩ : ∃ K, K = min A C := ⟨_, rfl⟩
        have hKA : K ≤ A := by omega
        have hKC : K ≤ C := by omega
        have HK : Hid (K = min A C) := hK
        clear hK
        have hmin : (if C < A then (C : Int) else (A : Int)) = (K : Int) := by
          have := HK.out
          split <;> omega
        have hKA' : (K : Int) ≤ A := by omega
        have hKC' : (K : Int) ≤ C := by omega
        have hA0 : ¬ A = 0 := by omega
        have hC0 : ¬ C = 0 := by omega
        obtain ⟨R, hR⟩ : ∃ R, R = decide (us.take K = vs.take K) := ⟨_, rfl⟩
        have HR : Hid (R = true ↔ (p : Int) = (q : Int) ∧ xs = ys) := by
          show _ ↔ _
          rw [hR, decide_eq_true_eq, HAS.out, HBS.out, encT_apart p q K xs ys HP.out HQ.out (by rw [HK.out, HA.out, HC.out, HAS.out, HBS.out])]
          constructor
          · rintro ⟨a, b⟩; exact ⟨by omega, b⟩
          · rintro ⟨a, b⟩; exact ⟨by omega, b⟩
        have hl1 : us.length < 2^41 := by rw [← HA.out]; omega
        have hl2 : vs.length < 2^41 := by rw [← HC.out]; omega
        have hSB : Calls Try.prog 18 #[.slice (some ⟨k, 0, none⟩) K A, .slice (some ⟨k6, 0, none⟩) K C] w6.drew fun e w' => e = .returned (.bool R) ∧ Fr [] w6.drew w' := by
          refine (same_any (some ⟨k, 0, none⟩) (some ⟨k6, 0, none⟩) K K A C (us.take K) (vs.take K) _ ((Rs.of_row ((Fr.drew [] w6).keep hrow5' (by simp)) hl1).take K) ((Rs.of_row ((Fr.drew [] w6).keep hrow6 (by simp)) hl2).take K) (by rw [List.length_take, ← HA.out]; omega) (by rw [List.length_take, ← HC.out]; omega)).mono ?_
          rintro e w' ⟨rfl, q', rfl⟩
          exact ⟨by rw [hR], Fr.drewN _ _ _⟩
        have hG7 := hG6.then (Fr.drew [] w6)
        have a0 := (HT0.out _ hG7).1.c0
        have a1 := (HT0.out _ hG7).1.c1
        have a2 := (HT0.out _ hG7).2.c0
        have a3 := (HT0.out _ hG7).2.c1
        clear hR hrow6 hrow5'
        go_upto_region 8 with fail
        try rw [hmin]
        first
          | go_loud (go_region_held3 (fun W => W.cell? ⟨w.heap.size, 0, none⟩ = some (.int .i64 (p : Int)) ∧ W.cell? ⟨w.heap.size, 1, none⟩ = some (.slice ao L ca) ∧ W.cell? ⟨w.heap.size + 1, 0, none⟩ = some (.int .i64 (q : Int)) ∧ W.cell? ⟨w.heap.size + 1, 1, none⟩ = some (.slice bo M cb)) (go_keep)
              (first
              | (go_at_call 11; with_reducible refine hST.mono ?_; rintro e w9 ⟨rfl, hF9⟩; have hG9 := hG8.then hF9; have d0 := (HT0.out _ hG9).1.c0; have d1 := (HT0.out _ hG9).1.c1; have d2 := (HT0.out _ hG9).2.c0; have d3 := (HT0.out _ hG9).2.c1)
              | (go_at_call 18; with_reducible refine hSB.mono ?_; rintro e w8 ⟨rfl, hF8⟩; have hG8 := hG7.then hF8; have c0 := (HT0.out _ hG8).1.c0; have c1 := (HT0.out _ hG8).1.c1; have c2 := (HT0.out _ hG8).2.c0; have c3 := (HT0.out _ hG8).2.c1; have hST := sameTxn_any (p : Int) (q : Int) ao bo L M ca cb R xs ys w8 (HX.out _ hG8).1 (HX.out _ hG8).2 HL.out HM.out HR.out)))
          | fail
        have hRR : (R == R) = true := by simp
        have HG : Hid (Fr [] w w9) := hF0.then hG9
        clear hST hSB hF8 hF9 hG9 hG8
        go_wp2
        go_ret
        exact ⟨by simp, HG.out⟩
      · have HN : Hid (¬ okT n ys) := hn
        clear hn
        go_wp2_with fail
        refine (encode_no n bo M cb ys _ (HX.out _ hG5).2 HM.out hn0 hn1 HN.out).mono ?_
        rintro e w6 ⟨rfl, hF6⟩
        have HG : Hid (Fr [] w w6) := hF0.then (hG5.then hF6)
        clear hF6 hF5
        go_wp2
        go_ret
        exact ⟨rfl, HG.out⟩
    · have HN : Hid (¬ okT m xs) := hm
      clear hm
      go_wp2_with fail
      refine (encode_no m ao L ca xs _ (HX.out _ hG4).1 HL.out hm0 hm1 HN.out).mono ?_
      rintro e w5 ⟨rfl, hF5⟩
      have hG5 := hG4.then hF5
      have b0 := (HT0.out _ hG5).2.c0
      have b1 := (HT0.out _ hG5).2.c1
      clear a0 a1
      by_cases hn : okT n ys
      · go_wp2_with fail
        refine (encode_ok n bo M cb _ ys _ _ (HX.out _ hG5).2 HM.out hn rfl rfl).mono ?_
        rintro e w6 ⟨k6, rfl, hk6, hrow6, hF6⟩
        have HG : Hid (Fr [] w w6) := hF0.then (hG5.then hF6)
        clear hF6 hF5 hrow6
        go_wp2
        go_ret
        exact ⟨rfl, HG.out⟩
      · go_wp2_with fail
        refine (encode_no n bo M cb ys _ (HX.out _ hG5).2 HM.out hn0 hn1 hn).mono ?_
        rintro e w6 ⟨rfl, hF6⟩
        have HG : Hid (Fr [] w w6) := hF0.then (hG5.then hF6)
        clear hF6 hF5
        go_wp2
        go_ret
        exact ⟨rfl, HG.out⟩

theorem own : ownKnob Try.prog.godebug = none := by kernel_rfl
theorem laidOut : laidOutB Try.prog = true := by kernel_rfl
set_option maxHeartbeats 4000000 in
set_option maxRecDepth 100000 in
theorem lifted (os : Os) (started : os.Started) (H : Type) (enc : TypeId × Value → H) :
    ReturnsInHanded {} Try.checked os 6 .any (Rows.recordApartSpec.pre6 enc Try.prog Try.f6 Rows.recordApartRow.domain false) (Rows.recordApartSpec.post enc Try.prog Try.f6 false true false false) := by
  refine returnsInHanded_of_change_sized (C := Try.checked) own started (by kernel_rfl) Try.func6
    (ChangeSpec.witness6 (enc := enc) (C := Try.checked) false ⟨#[], #[.agg #[.int .i64 0, .slice none 0 0], .agg #[.int .i64 0, .slice none 0 0]], []⟩ 8 (by kernel_rfl) (by kernel_rfl) (by kernel_rfl) (by kernel_rfl)) ?_
  intro W base args ds gs before hval0 hW hcnd hsz0 _
  have hval : ∀ (j : Nat) t v, Try.f6.params[j]? = some t → args[j]? = some v → Value.okWide Try.prog W .any base t v := hval0
  have hsz : (DataW.weightsEach Try.prog (Try.f6.params.toList ++ Rows.recordApartSpec.plain.varTypes Try.prog) (ds ++ gs)).all (· ≤ reachBytes) = true := hsz0
  have hW' := hW
  obtain ⟨p, q, hA0, hV, rfl, hfz, hnd⟩ := hW
  have hA : DataW.TrodAll enc Try.prog W 0 (fun _ => true) true Try.f6.params.toList args.toList ds p := hA0
  rw [Try.params6] at hA hval hsz
  obtain ⟨v0, vs0, d0, ds0, p0, q0, hargs, rfl, rfl, h0, r0⟩ := trodAll_cons hA
  obtain ⟨v1, vs1, d1, ds1, p1, q1, rfl, rfl, rfl, h1, r1⟩ := trodAll_cons r0
  obtain ⟨rfl, rfl, rfl⟩ := trodAll_nil r1
  obtain rfl : args = #[v0, v1] := by cases args; simp_all
  obtain ⟨rfl, rfl⟩ := trodVars_none hV
  obtain ⟨cs0, rfl, _⟩ := okWide_struct Try.underlying27 (hval 0 27 v0 rfl rfl)
  have k0 := h0
  have lt0 : ∀ x ∈ p0, x.block < W.heap.size := by obtain ⟨m, hm⟩ := k0; exact DataW.trod_lt m _ _ _ hm
  obtain ⟨n0, a0, len0, cap0, ws0, rfl, hB0⟩ : ∃ n ao L cap ws, cs0 = #[.int .i64 n, .slice ao L cap] ∧ TArg W n ao L cap ws := by
    obtain ⟨fuel, hf⟩ := h0
    obtain ⟨n, ao, L, cap, ws, e, hok⟩ := tx_open hf (fun n hn => of_decide_eq_true (List.all_eq_true.1 hsz n (DataW.weights_mem_each (j := 0) (t := 27) rfl rfl n hn)))
    exact ⟨n, ao, L, cap, ws, by cases cs0; simpa [Value.cells] using e, hok⟩
  obtain ⟨cs1, rfl, _⟩ := okWide_struct Try.underlying27 (hval 1 27 v1 rfl rfl)
  have k1 := h1
  have lt1 : ∀ x ∈ p1, x.block < W.heap.size := by obtain ⟨m, hm⟩ := k1; exact DataW.trod_lt m _ _ _ hm
  obtain ⟨n1, a1, len1, cap1, ws1, rfl, hB1⟩ : ∃ n ao L cap ws, cs1 = #[.int .i64 n, .slice ao L cap] ∧ TArg W n ao L cap ws := by
    obtain ⟨fuel, hf⟩ := h1
    obtain ⟨n, ao, L, cap, ws, e, hok⟩ := tx_open hf (fun n hn => of_decide_eq_true (List.all_eq_true.1 hsz n (DataW.weights_mem_each (j := 1) (t := 27) rfl rfl n hn)))
    exact ⟨n, ao, L, cap, ws, by cases cs1; simpa [Value.cells] using e, hok⟩
  clear hA0 hval0
  refine (walk n0 a0 len0 cap0 ws0 n1 a1 len1 cap1 ws1 W hB0 hB1).mono fun e W' ⟨he, hf⟩ => ?_
  subst he
  have bel : Below W.heap.size W W' := hf.below (Nat.le_refl _) (by simp)
  exact ⟨_, rfl, _, _, _, [], _, [], hW', trodAll_mk1 (shut_bool Try.underlying4 _), (trodAll_cons_mk (Below.trod laidOut (by kernel_rfl) (of_decide_eq_true (by kernel_rfl)) k0 bel lt0) (trodAll_cons_mk (Below.trod laidOut (by kernel_rfl) (of_decide_eq_true (by kernel_rfl)) k1 bel lt1) trodAll_mk0)), rfl, bel.frame _, fun h => by cases h⟩

theorem over : Rows.recordApartRow.holds Try.pinned (OpenSpec.ofChange Rows.recordApartSpec) :=
  OpenClaim.holds_of_wide 6 Try.f6 rfl rfl rfl rfl rfl rfl rfl ⟨rfl, rfl, rfl, rfl, rfl⟩ rfl rfl rfl rfl rfl (by kernel_rfl) Try.func6 (by kernel_rfl)
    (of_decide_eq_true (by kernel_rfl)) (by unfold Func.isWrapper; first | (rw [if_pos (by decide +kernel)]; kernel_rfl) | (rw [if_neg (by decide +kernel)]; exact ⟨rfl, rfl⟩))
    (fun os started H enc _ => lifted os started H enc)
end Go.Proofs.Ytcgfadmhjfncoaa.recordApart
namespace Go.Proofs.Ytcgfadmhjfncoaa
theorem recordapart_holds : Rows.RecordApartSaid := recordApart.over
#print axioms recordapart_holds
end Go.Proofs.Ytcgfadmhjfncoaa

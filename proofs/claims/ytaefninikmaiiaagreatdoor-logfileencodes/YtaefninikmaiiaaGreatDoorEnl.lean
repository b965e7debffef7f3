/- The walk of the law LogfileEncodes. Conditions: how its argument lies in memory; the table of powers of ten reads as the library lays it. -/
import Derived.Test.YtaefninikmaiiaaGreatDoorLw6
import Derived.Test.YtaefninikmaiiaaGreatDoorRefL
namespace Go.Proofs.YtaefninikmaiiaaGreatDoor
open BigFrame Go.ChangeShapes Go.WideShapes Go.ChangeAt Go.RowKit Go.Lib
set_option linter.unusedVariables false
set_option linter.unusedSimpArgs false

/-- What is told of a log: what is wrong, and its bytes. -/
def Told6 (l : List Tx) (c : Nat) (ys : List Nat) : Prop := (okL 1 l ∧ c = 0 ∧ ys = encL l) ∨ (Bad 1 l c ∧ c ≠ 0 ∧ ys = [])
theorem Told6.ex (l : List Tx) : ∃ c ys, Told6 l c ys := by
  obtain ⟨c, hc⟩ := Bad.ex l 1
  by_cases h : c = 0
  · exact ⟨0, _, Or.inl ⟨hc.ok.1 h, rfl, rfl⟩⟩
  · exact ⟨c, _, Or.inr ⟨hc, h, rfl⟩⟩
theorem Told6.bad {l : List Tx} {c : Nat} {ys : List Nat} (h : Told6 l c ys) : Bad 1 l c := by
  rcases h with ⟨a, rfl, _⟩ | ⟨a, _, _⟩
  · exact okL_bad a
  · exact a
theorem Told6.len {l : List Tx} {c : Nat} {ys : List Nat} (h : Told6 l c ys) : ys.length < 2^33 := by
  rcases h with ⟨a, _, rfl⟩ | ⟨_, _, rfl⟩
  · exact encL_few a
  · simp
theorem row_own6 {w : World} {k N : Nat} {ys : List Nat} (h : w.heap[k]? = some (.cells (bts ys).toArray 5 (0, 0))) (hN : N = ys.length) (hm : N < 2^40) : w.ownsRow 0 5 1 (.slice (some ⟨k, 0, none⟩) N N) N (bts ys) := by
  refine ⟨by rw [bts_length]; omega, .inr ⟨k, N, (bts ys).toArray, rfl, Nat.zero_le _, h, Nat.le_refl _, by simp only [maxLen]; omega, by simp [bts_length]; omega, ?_⟩⟩
  simp only [Nat.mul_one]
  rw [List.take_of_length_le (by rw [bts_length]; omega)]
theorem own_rs6 {w : World} {ao : Option Addr} {n cap : Nat} {xs : List Nat} (h : w.ownsRow 0 5 1 (.slice ao n cap) n (bts xs)) (hn : n = xs.length) (hl : xs.length < 2^41) : Rs w ao xs := by
  have h' : Wn w (.slice ao n cap) xs := by unfold Wn; rw [← hn]; exact h
  exact h'.rs hl
theorem Rs.fr6 {w w' : World} {ao : Option Addr} {xs : List Nat} (h : Rs w ao xs) (hf : Fr [] w w') : Rs w' ao xs := by
  refine ⟨fun h0 => ?_, h.len⟩
  obtain ⟨b, off, e, hc⟩ := h.lies h0
  exact ⟨b, off, e, fun j hj => by
    have hlt := World.block_lt_of_cell? w _ (hc j hj)
    rw [World.cell?_of_block (hf.block b hlt (by simp))]
    exact hc j hj⟩
theorem lencode_gen (ao : Option Addr) (L cap c N : Nat) (ts : List Tm) (ys : List Nat) (w : World) (hT : TRs w ao ts) (hL : L = ts.length) (ht : Told6 (txs ts) c ys) (hN : N = ys.length) :
    Calls Tryz.prog 10 #[.slice ao L cap] w fun e w' => ∃ bo cb, e = .returned (.tuple #[.slice bo N cb, .int .i64 (c : Int)]) ∧ w'.ownsRow 0 5 1 (.slice bo N cb) N (bts ys) ∧ (∀ k, (Value.slice bo N cb).ownBlock = some k → w.heap.size ≤ k) ∧ Fr [] w w' := by
  have hl := ht.len
  rcases ht with ⟨hok, rfl, rfl⟩ | ⟨hb, h0, rfl⟩
  · refine (lencode_ok ao L cap N ts _ w hT hL hok rfl hN).mono ?_
    rintro e w' ⟨ro, rfl, hH, hF⟩
    by_cases h0 : 0 < (encL (txs ts)).length
    · obtain ⟨k, rfl, hk, hrow⟩ := hH.row h0
      exact ⟨some ⟨k, 0, none⟩, N, rfl, row_own6 hrow hN (by omega), by intro j hj; simp [Value.ownBlock] at hj; omega, hF⟩
    · obtain rfl := hH.nil (by omega)
      obtain rfl : N = 0 := by omega
      have hy : encL (txs ts) = [] := List.eq_nil_of_length_eq_zero (by omega)
      rw [hy]
      exact ⟨none, 0, rfl, World.ownsRow_nil _ _ _ _, by intro j hj; simp [Value.ownBlock] at hj, hF⟩
  · simp only [List.length_nil] at hN
    subst hN
    refine (lencode_no ao L cap c ts w hT hL hb h0).mono ?_
    rintro e w' ⟨rfl, hF⟩
    exact ⟨none, 0, rfl, World.ownsRow_nil _ _ _ _, by intro j hj; simp [Value.ownBlock] at hj, hF⟩
theorem yencode_gen (ao : Option Addr) (L cap c N : Nat) (ts : List Tm) (ys : List Nat) (w : World) (hT : TRs w ao ts) (hL : L = ts.length) (ht : Told6 (txs ts) c ys) (hN : N = ys.length) :
    Calls Tryz.prog 11 #[.slice ao L cap] w fun e w' => ∃ bo cb, e = .returned (.tuple #[.slice bo N cb, .int .i64 (c : Int)]) ∧ Rs w' bo ys ∧ Fr [] w w' := by
  have hl := ht.len
  rcases ht with ⟨hok, rfl, rfl⟩ | ⟨hb, h0, rfl⟩
  · refine (yEncode_ok ao L cap ts _ w hT hL hok rfl).mono ?_
    rintro e w' ⟨bo, M, cb, rfl, hM, hR, hF⟩
    rw [← hN] at hM
    subst hM
    exact ⟨bo, cb, rfl, hR.rs (by omega), hF⟩
  · simp only [List.length_nil] at hN
    subst hN
    refine (yEncode_no ao L cap c ts w hT hL hb h0).mono ?_
    rintro e w' ⟨rfl, hF⟩
    exact ⟨none, 0, rfl, Rs.nil _ _, hF⟩

set_option maxHeartbeats 8000000 in
set_option maxRecDepth 100000 in
theorem encl (ao : Option Addr) (L cap : Nat) (ts : List Tm) (w : World) (hT : TRs w ao ts) (hLe : L = ts.length) (htab : Bq.Tab w) :
    Calls Tryz.prog 3 #[.slice ao L cap] w fun e w' => e = .returned (.bool true) ∧ Fr [] w w' := by
  have HL : Hid (L = ts.length) := hLe
  have HTb : Hid (Bq.Tab w) := htab
  have HI : Hid (∀ W, Fr [] w W → TRs W ao ts) := fun W hf => hT.keep hf
  clear hLe htab
  go_enter Tryz.func3, Tryz.ntmps3
  go_wp2_with fail
  refine (txnsSizeB_any ao L cap ts _ hT HL.out).mono ?_
  rintro e w1 ⟨N0, rfl, hN0b, hLN, hFw0, hF1⟩
  have HFw0 : Hid (N0 ≤ 1048576 → Few ts) := hFw0
  clear hFw0
  go_wp2_with fail
  refine (beyond_any w1.heap.size N0 _ (by omega) (by simp)).mono ?_
  rintro e w2 ⟨rfl, rfl⟩
  have hF2 : Fr [] w1 (w1.alloc (.cells #[.int .i64 (N0 : Int)] 3)) := Fr.alloc _ _ _
  obtain ⟨w2, HW2⟩ : ∃ w2, Hid (w1.alloc (.cells #[.int .i64 (N0 : Int)] 3) = w2) := ⟨_, rfl⟩
  rw [HW2.out] at hF2 ⊢
  have hG2 := hF1.then hF2
  by_cases hbig : 1048576 < N0
  · have hbd : decide (1048576 < N0) = true := by simpa using hbig
    rw [hbd]
    go_wp2
    go_ret
    exact ⟨rfl, hG2⟩
  · have hbd : decide (1048576 < N0) = false := by simpa using hbig
    rw [hbd]
    have hLs : L < 1048577 := by omega
    have hfew := HFw0.out (by omega)
    have HFew : Hid (Few ts) := hfew
    obtain ⟨c, ys, hTo⟩ := Told6.ex (txs ts)
    have HTo : Hid (Told6 (txs ts) c ys) := hTo
    obtain ⟨N, HN⟩ : ∃ N, Hid (N = ys.length) := ⟨_, rfl⟩
    have hNb : N < 2^33 := by rw [HN.out]; exact hTo.len
    clear hTo hF1 hF2 hbig hbd hfew
    go_wp2_with fail
    refine (twinTs_any ao L cap ts _ (HI.out _ hG2) HL.out (by omega) HFew.out).mono ?_
    rintro e w4 ⟨b, ks, rfl, hb, hrow4, hTw4, hF4⟩
    have hG4 := hG2.then hF4
    have HG04 : Hid (Fr [] w w4) := hG4
    have hwb : w.heap.size ≤ b := by have := hG2.size; omega
    have HTw : Hid (∀ W, Fr [] w4 W → Twd w W ts ks) := fun W hf => by
      have h1 := hTw4.keep hf (by simp)
      exact ⟨h1.len, fun k hk => by have := h1.new k hk; have := hG2.size; omega, h1.row, h1.apart⟩
    have HRow : Hid (∀ W, Fr [] w4 W → W.heap[b]? = some (.cells (tmsC (twTs ts ks ++ [spT])).toArray 63 (0, 0))) := fun W hf => hf.keep hrow4 (by simp)
    have HX : Hid (∀ W, Fr [] w4 W → TRs W (some ⟨b, 0, none⟩) (twTs ts ks)) := fun W hf => twins_trs hT (HTw.out W hf) (HRow.out W hf)
    have HXL : Hid (L = (twTs ts ks).length) := by show _ = _; rw [twTs_length ts ks hTw4.len]; exact HL.out
    have HTo2 : Hid (Told6 (txs (twTs ts ks)) c ys) := by show Told6 _ _ _; rw [txs_twTs ts ks hTw4.len]; exact HTo.out
    have HI4 : Hid (∀ W, Fr [] w4 W → TRs W ao ts) := fun W hf => HI.out W (hG4.then hf)
    clear hrow4 hTw4 hF4 hG2 hG4 HI hb
    go_wp2_with fail
    refine (lencode_gen (some ⟨b, 0, none⟩) L (L + 1) c N (twTs ts ks) ys _ (HX.out _ (Fr.refl _ _)) HXL.out HTo2.out HN.out).mono ?_
    rintro e w5 ⟨b1, cb1, rfl, hO5, hk5, hF5⟩
    go_wp2_with fail
    refine (lencode_gen (some ⟨b, 0, none⟩) L (L + 1) c N (twTs ts ks) ys _ (HX.out _ hF5) HXL.out HTo2.out HN.out).mono ?_
    rintro e w6 ⟨b2, cb2, rfl, hO6, hk6, hF6⟩
    have hG6 := hF5.then hF6
    have hlt5 : ∀ k, (Value.slice b1 N cb1).ownBlock = some k → k < w5.heap.size := fun k hk => (hO5.lt k hk).2
    have hO56 := owns_keep hO5 hF6 (by simp)
    clear hO5
    go_wp2_with fail
    refine (yencode_gen ao L cap c N ts ys _ (HI4.out _ hG6) HL.out HTo.out HN.out).mono ?_
    rintro e w8 ⟨b3, cb3, rfl, hR8, hF8⟩
    have hG8 := hG6.then hF8
    have hO1 := owns_keep hO56 hF8 (by simp)
    have hO2 := owns_keep hO6 hF8 (by simp)
    have hl1 : ys.length < 2^41 := by rw [← HN.out]; omega
    have HS1 : Hid (∀ W, Fr [] w8 W → Calls Tryz.prog 13 #[.slice b1 N cb1, .slice b3 N cb3] W fun e w' => e = .returned (.bool true) ∧ Fr [] W w') := fun W hf => by
      refine (same_yes b1 b3 N N cb1 cb3 ys ys W (own_rs6 (owns_keep hO1 hf (by simp)) HN.out hl1) (hR8.fr6 hf) HN.out HN.out rfl).mono ?_
      rintro e w' ⟨rfl, q, rfl⟩
      exact ⟨rfl, Fr.drewN _ _ _⟩
    have HS2 : Hid (∀ W, Fr [] w8 W → Calls Tryz.prog 13 #[.slice b2 N cb2, .slice b3 N cb3] W fun e w' => e = .returned (.bool true) ∧ Fr [] W w') := fun W hf => by
      refine (same_yes b2 b3 N N cb2 cb3 ys ys W (own_rs6 (owns_keep hO2 hf (by simp)) HN.out hl1) (hR8.fr6 hf) HN.out HN.out rfl).mono ?_
      rintro e w' ⟨rfl, q, rfl⟩
      exact ⟨rfl, Fr.drewN _ _ _⟩
    have HK1 : Hid (∀ W, Fr [] w8 W → Calls Tryz.prog 12 #[.slice (some ⟨b, 0, none⟩) L (L + 1)] W fun e w' => e = .returned (.int .i64 (c : Int)) ∧ Fr [] W w') := fun W hf => lcheck_any _ L (L + 1) c _ W (HX.out _ (hG8.then hf)) HXL.out HTo2.out.bad
    have HLf : Hid (∀ W, Fr [] w8 W → Calls Tryz.prog 14 #[.slice (some ⟨b, 0, none⟩) L (L + 1), .slice ao L cap] W fun e w' => e = .returned (.bool true) ∧ Fr [] W w') := fun W hf => leftTs_any b ks w ao L cap ts W (HI4.out _ (hG8.then hf)) HL.out (by omega) HFew.out (HTw.out _ (hG8.then hf)) (HRow.out _ (hG8.then hf))
    have hcc : ((c : Int) != c) = false := by simp
    have HR : Hid (Fr [] w4 w8) := hG8
    have HO1 : Hid (w8.ownsRow 0 5 1 (.slice b1 N cb1) N (bts ys)) := hO1
    have HO2 : Hid (w8.ownsRow 0 5 1 (.slice b2 N cb2) N (bts ys)) := hO2
    have HB1 : Hid (∀ k, (Value.slice b1 N cb1).ownBlock = some k → w4.heap.size ≤ k ∧ k < w5.heap.size) := fun k hk => ⟨hk5 k hk, hlt5 k hk⟩
    have hs45 : w4.heap.size ≤ w5.heap.size := hF5.size
    have HB2 : Hid (∀ k, (Value.slice b2 N cb2).ownBlock = some k → w5.heap.size ≤ k) := hk6
    clear hO1 hO2 hO56 hO6 hR8 hF5 hF6 hG6 hF8 hG8 hk5 hk6 hlt5
    go_wp2_with fail
    refine (HK1.out _ (Fr.refl _ _)).mono ?_
    rintro e x1 ⟨rfl, hf1⟩
    go_wp2_with fail
    refine (HS1.out _ hf1).mono ?_
    rintro e x2 ⟨rfl, hf2⟩
    have hg2 := hf1.then hf2
    go_wp2_with fail
    refine (HS2.out _ hg2).mono ?_
    rintro e x3 ⟨rfl, hf3⟩
    have hg3 := hg2.then hf3
    go_wp2_with fail
    refine (HLf.out _ hg3).mono ?_
    rintro e w9 ⟨rfl, hf4⟩
    have hG9 := hg3.then hf4
    clear hf1 hf2 hf3 hf4 hg2 hg3
    have HG9 : Hid (Fr [] w8 w9) := hG9
    obtain ⟨bk, HBk⟩ : ∃ bk, Hid (bk = w9.heap.size) := ⟨_, rfl⟩
    obtain ⟨wl, HWl⟩ : ∃ wl, Hid (wl = w9.alloc (Obj.cells #[.int .i64 0, .slice none 0 0, .slice none 0 0, .slice none 0 0, .slice none 0 0, .slice none 0 0, .slice none 0 0, .slice none 0 0, .slice none 0 0, .slice none 0 0, .slice none 0 0, .slice none 0 0] 45)) := ⟨_, rfl⟩
    clear hG9 HS1 HS2 HK1 HLf
    go_upto_region 10 with fail
    rw [← HWl.out, ← HBk.out]
    have HFl : Hid (Fr [] w9 wl) := by rw [HWl.out]; exact Fr.alloc _ _ _
    have hBl : wl.heap[bk]? = some (.cells Bq.newBk 45 (0, 0)) := by rw [HWl.out, HBk.out]; exact heap_alloc_new w9 _
    have HG8l : Hid (Fr [] w8 wl) := HG9.out.then HFl.out
    have hbk1 : w8.heap.size ≤ bk := by rw [HBk.out]; exact HG9.out.size
    have hs8 : w4.heap.size ≤ w8.heap.size := HR.out.size
    have hs4 : w.heap.size ≤ w4.heap.size := HG04.out.size
    have HB0 : Hid (Bq.B4 w wl bk 0 (.slice none 0 0) (.slice none 0 0) (.slice none 0 0) (.slice none 0 0) [] [] [] []) := Bq.B4.new hBl (by omega)
    have HG4l : Hid (Fr [] w4 wl) := HR.out.then HG8l.out
    have HD0 : Hid (Bq.Dts wl (some ⟨b, 0, none⟩) L (L + 1) (dts (twTs ts ks))) := twins_dts hT HL.out hLs HFew.out (HTw.out _ HG4l.out) (HRow.out _ HG4l.out)
    have HC1 : Hid _ := Bq.txns_any HB0.out (some ⟨b, 0, none⟩) L (L + 1) _ HD0.out (fun i d hd k hk hm => by simp [Bq.lbs] at hm) (fun k hk hm => by simp [Bq.lbs] at hm) (by omega)
    clear hBl
    go_wp2_with fail
    refine Calls.mono HC1.out ?_
    rintro e wa ⟨rfl, rW, rT, hBa, hFa, hMWa, hMTa⟩
    have HBa : Hid (Bq.B4 w wa bk (0 + L + 1) (.slice none 0 0) (.slice none 0 0) rW rT [] [] ([] ++ Bq.held 0 (dts (twTs ts ks))) ([] ++ [⟨.slice (some ⟨b, 0, none⟩) L (L + 1), .slice none 0 0, 0 + L + 1⟩])) := hBa
    have HFa : Hid (Fr [bk] wl wa) := hFa
    have HOa1 : Hid (wa.ownsRow 0 5 1 (.slice b1 N cb1) N (bts ys)) := owns_keep (owns_keep HO1.out HG8l.out (by simp)) HFa.out (fun k hk => by have := (HO1.out.lt k hk).2; simp; omega)
    have HOa2 : Hid (wa.ownsRow 0 5 1 (.slice b2 N cb2) N (bts ys)) := owns_keep (owns_keep HO2.out HG8l.out (by simp)) HFa.out (fun k hk => by have := (HO2.out.lt k hk).2; simp; omega)
    have HC2 : Hid _ := Bq.bytes_any HBa.out b1 N cb1 ⟨N, bts ys, HOa1.out, by omega⟩ (fun k hk hm => by simp [Bq.lbs] at hm) (by omega)
    clear hBa hFa hMWa hMTa HC1 HB0 HD0
    go_wp2_with fail
    refine Calls.mono HC2.out ?_
    rintro e wb ⟨rfl, rB1, hBb, hFb, hMb⟩
    have HBb : Hid (Bq.B4 w wb bk (0 + L + 1 + 1) rB1 (.slice none 0 0) rW rT ([] ++ [⟨.slice b1 N cb1, .slice none 0 0, 0 + L + 1 + 1⟩]) [] ([] ++ Bq.held 0 (dts (twTs ts ks))) ([] ++ [⟨.slice (some ⟨b, 0, none⟩) L (L + 1), .slice none 0 0, 0 + L + 1⟩])) := hBb
    have HFb : Hid (Fr [bk] wa wb) := hFb
    have HOb2 : Hid (wb.ownsRow 0 5 1 (.slice b2 N cb2) N (bts ys)) := owns_keep HOa2.out HFb.out (fun k hk => by have := (HO2.out.lt k hk).2; simp; omega)
    have HC3 : Hid _ := Bq.bytes_any HBb.out b2 N cb2 ⟨N, bts ys, HOb2.out, by omega⟩ (fun k hk hm => by
      obtain ⟨h, hh, hk1⟩ := Bq.mem_lbs.1 hm
      simp at hh
      subst hh
      have := HB1.out k hk1
      have := HB2.out k hk
      omega) (by omega)
    have hMB : ∀ k, rB1.ownBlock = some k → w.heap.size ≤ k := HBb.out.rBn
    clear hBb hFb hMb HC2 HBa
    go_wp2_with fail
    refine Calls.mono HC3.out ?_
    rintro e wc ⟨rfl, rB2, hBc, hFc, hMc⟩
    have hGc : Fr [] w wc := by
      refine (((HG04.out.then HG4l.out).on HFa.out (by intro x hx; simp at hx; omega)).on HFb.out (by intro x hx; simp at hx; omega)).on hFc ?_
      intro x hx
      rcases List.mem_cons.1 hx with h | h
      · omega
      · exact hMB x (by simpa using h)
    have HC4 : Hid _ := hBc.apart (by
        intro k hk
        obtain ⟨h, hh, hk1⟩ := Bq.mem_lbs.1 hk
        simp at hh
        rcases hh with rfl | rfl
        · have := HB1.out k hk1; omega
        · have := HB2.out k hk1; omega) (by intro k hk; simp [Bq.lbs] at hk) (by
        intro k hk
        rw [List.nil_append] at hk
        exact (HTw.out _ (Fr.refl _ _)).new k (lbs_twins hk)) (by
        intro k hk
        obtain ⟨h, hh, hk1⟩ := Bq.mem_lbs.1 hk
        simp at hh
        subst hh
        simp [Value.ownBlock] at hk1
        omega) HTb.out hGc
    clear hBc hFc hMc HC3 HBb hGc
    go_wp2_with fail
    refine Calls.mono HC4.out ?_
    rintro e wd ⟨rfl, hFd⟩
    clear HC4
    go_wp2
    go_ret
    exact ⟨rfl, hFd⟩
end Go.Proofs.YtaefninikmaiiaaGreatDoor

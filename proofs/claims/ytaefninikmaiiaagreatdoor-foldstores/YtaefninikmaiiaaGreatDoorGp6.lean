/- Texts of this claim laid together, one behind the other: contracts and plain lemmas; conditions as each names them. -/
import Derived.Test.YtaefninikmaiiaaGreatDoorGp4
import Derived.Test.YtaefninikmaiiaaGreatDoorGp5
import Derived.Test.YtaefninikmaiiaaGreatDoorGp1
/- The walk of the law FoldStores. Conditions: how its arguments lie in memory; the table of powers of ten reads as the library lays it. -/
namespace Go.Proofs.YtaefninikmaiiaaGreatDoor
open BigFrame Go.ChangeShapes Go.WideShapes Go.ChangeAt Go.RowKit Go.Lib
set_option linter.unusedVariables false
set_option linter.unusedSimpArgs false

theorem capplys_len : ∀ (ws : List Wt) (E : ByteArray → Option ByteArray) (ps : List Pr), Is E ps → ∃ qs, Is (capplys (fun _ => true) E ws) qs ∧ qs.length ≤ ps.length + ws.length
  | [], E, ps, h => ⟨ps, h, by simp⟩
  | x :: ws, E, ps, h => by
    have h1 : Is (capply (fun _ => true) E x) (wrote ps x) := by unfold capply; rw [if_pos rfl]; exact h.write x
    obtain ⟨qs, hq, hl⟩ := capplys_len ws _ _ h1
    exact ⟨qs, hq, by have := wrote_length ps x; simp; omega⟩
theorem call_len : ∀ (l : List Tx) (E : ByteArray → Option ByteArray) (ps : List Pr), Is E ps → (∀ t ∈ l, t.ws.length ≤ 32) → ∃ qs, Is (call (fun _ => true) E l) qs ∧ qs.length ≤ ps.length + 32 * l.length
  | [], E, ps, h, _ => ⟨ps, h, by simp⟩
  | t :: l, E, ps, h, hw => by
    obtain ⟨qs, hq, hl⟩ := capplys_len t.ws E ps h
    obtain ⟨rs, hr, hl2⟩ := call_len l _ _ hq (fun t' ht => hw t' (List.mem_cons_of_mem _ ht))
    have := hw t (by simp)
    exact ⟨rs, hr, by simp; omega⟩
/-- There are not many. -/
theorem fo_len (l : List Tx) (hw : ∀ t ∈ l, t.ws.length ≤ 32) : ∃ ps, Is (fo l) ps ∧ ps.length ≤ 32 * l.length := by
  obtain ⟨qs, h1, h2⟩ := call_len l _ _ Is.nil hw
  exact ⟨qs, h1, by simpa using h2⟩
/-- There are not many. -/
theorem sc_len {l : List Tx} {f : Int} {ps : List Pr} {c : Nat} (h : ScTold l f ⟨#[]⟩ ⟨#[]⟩ ps c) : ps.length ≤ 32 * l.length := by
  rcases h.2 with ⟨_, rfl⟩ | ⟨hc, hIs⟩
  · simp
  · have hok : okL 1 l := by
      rcases h.1 with h0 | h0 | h0
      · exact absurd hc h0.2
      · exact h0.1
      · exact h0.1
    obtain ⟨qs, h1, h2⟩ := fo_len (l.take f.toNat) (fun t ht => (okL_mem hok t (List.mem_of_mem_take ht)).2.2.1)
    have e : ps = qs := hIs.unique (h1.cong (fun s => by rw [call_fo, if_pos (inS_all2 s)]))
    rw [e]
    rw [List.length_take] at h2
    omega

set_option maxHeartbeats 8000000 in
set_option maxRecDepth 100000 in
theorem fstl (ao : Option Addr) (L cap : Nat) (ts : List Tm) (f : Int) (w : World) (hT : TRs w ao ts) (hLe : L = ts.length) (hf : -9223372036854775808 ≤ f ∧ f ≤ 9223372036854775807) (htab : Bq.Tab w) :
    Calls Tryz.prog 6 #[.slice ao L cap, .int .i64 f] w fun e w' => e = .returned (.bool true) ∧ Fr [] w w' := by
  have HL : Hid (L = ts.length) := hLe
  have HTb : Hid (Bq.Tab w) := htab
  have HI : Hid (∀ W, Fr [] w W → TRs W ao ts) := fun W hf => hT.keep hf
  clear hLe htab
  go_enter Tryz.func6, Tryz.ntmps6
  go_wp2_with fail
  refine (txnsSizeB_any ao L cap ts _ hT HL.out).mono ?_
  rintro e w1 ⟨N0, rfl, hN0b, hLN, hFw0, hF1⟩
  have HFw0 : Hid (N0 ≤ 1048576 → Few ts) := hFw0
  clear hFw0
  go_wp2_with fail
  refine (beyond_any w1.heap.size N0 _ (by omega) (by simp)).mono ?_
  rintro e w2 ⟨rfl, rfl⟩
  have hF2 : Fr [] w1 (w1.alloc (.cells #[.int .i64 (N0 : Int)] 3)) := Fr.alloc _ _ _
  obtain ⟨w2, HW2⟩ : ∃ w2, Hid (w1.alloc (.cells #[.int .i64 (N0 : Int)] 3) = w2) := ⟨_, rfl⟩
  rw [HW2.out] at hF2 ⊢
  have hG2 := hF1.then hF2
  by_cases hbig : 1048576 < N0
  · have hbd : decide (1048576 < N0) = true := by simpa using hbig
    rw [hbd]
    go_wp2
    go_ret
    exact ⟨rfl, hG2⟩
  · have hbd : decide (1048576 < N0) = false := by simpa using hbig
    rw [hbd]
    have hLs : L < 1048577 := by omega
    have hfew := HFw0.out (by omega)
    have HFew : Hid (Few ts) := hfew
    obtain ⟨ps, c, hTo⟩ := ScTold.ex (txs ts) f ⟨#[]⟩ ⟨#[]⟩
    have HTo : Hid (ScTold (txs ts) f ⟨#[]⟩ ⟨#[]⟩ ps c) := hTo
    obtain ⟨N, HN⟩ : ∃ N, Hid (N = ps.length) := ⟨_, rfl⟩
    have hNb : N < 2^33 := by have := sc_len hTo; rw [txs_length, ← HL.out] at this; rw [HN.out]; omega
    clear hTo hF1 hF2 hbig hbd hfew
    go_wp2_with fail
    refine (twinTs_any ao L cap ts _ (HI.out _ hG2) HL.out (by omega) HFew.out).mono ?_
    rintro e w4 ⟨b, ks, rfl, hb, hrow4, hTw4, hF4⟩
    have hG4 := hG2.then hF4
    have HG04 : Hid (Fr [] w w4) := hG4
    have hwb : w.heap.size ≤ b := by have := hG2.size; omega
    have HTw : Hid (∀ W, Fr [] w4 W → Twd w W ts ks) := fun W hf => by
      have h1 := hTw4.keep hf (by simp)
      exact ⟨h1.len, fun k hk => by have := h1.new k hk; have := hG2.size; omega, h1.row, h1.apart⟩
    have HRow : Hid (∀ W, Fr [] w4 W → W.heap[b]? = some (.cells (tmsC (twTs ts ks ++ [spT])).toArray 63 (0, 0))) := fun W hf => hf.keep hrow4 (by simp)
    have HX : Hid (∀ W, Fr [] w4 W → TRs W (some ⟨b, 0, none⟩) (twTs ts ks)) := fun W hf => twins_trs hT (HTw.out W hf) (HRow.out W hf)
    have HXL : Hid (L = (twTs ts ks).length) := by show _ = _; rw [twTs_length ts ks hTw4.len]; exact HL.out
    have HTo2 : Hid (ScTold (txs (twTs ts ks)) f ⟨#[]⟩ ⟨#[]⟩ ps c) := by show ScTold _ _ _ _ _ _; rw [txs_twTs ts ks hTw4.len]; exact HTo.out
    have HI4 : Hid (∀ W, Fr [] w4 W → TRs W ao ts) := fun W hf => HI.out W (hG4.then hf)
    clear hrow4 hTw4 hF4 hG2 hG4 HI hb
    have hl1 : ps.length < 1099511627776 := by rw [← HN.out]; omega
    go_wp2_with fail
    refine (fStore_any (some ⟨b, 0, none⟩) L (L + 1) f ps N c (twTs ts ks) _ (HX.out _ (Fr.refl _ _)) HXL.out (by omega) hf.1 hf.2 HTo2.out HN.out).mono ?_
    rintro e w5 ⟨b1, cb1, rfl, hE5, hF5⟩
    go_wp2_with fail
    refine (fStore_any (some ⟨b, 0, none⟩) L (L + 1) f ps N c (twTs ts ks) _ (HX.out _ hF5) HXL.out (by omega) hf.1 hf.2 HTo2.out HN.out).mono ?_
    rintro e w6 ⟨b2, cb2, rfl, hE6, hF6⟩
    have hG6 := hF5.then hF6
    have hk5 : ∀ k, (Value.slice b1 N cb1).ownBlock = some k → w4.heap.size ≤ k := fun k hk => (owns_cells hE5.row hk).1
    have hk6 : ∀ k, (Value.slice b2 N cb2).ownBlock = some k → w5.heap.size ≤ k := fun k hk => (owns_cells hE6.row hk).1
    have hlt5 : ∀ k, (Value.slice b1 N cb1).ownBlock = some k → k < w5.heap.size := fun k hk => by
      obtain ⟨_, _, e⟩ := owns_cells hE5.row hk
      exact lt_of_block e
    have hE56 := hE5.keep hF6
    clear hE5
    go_wp2_with fail
    refine (zStore_any ao L cap f ps N c ts _ (HI4.out _ hG6) HL.out hf.1 hf.2 HTo.out HN.out).mono ?_
    rintro e w8 ⟨b3, cb3, rfl, hE8, _, hF8⟩
    have hG8 := hG6.then hF8
    have hE1 := hE56.keep hF8
    have hE2 := hE6.keep hF8
    have hO1 : w8.ownsRow 0 115 2 (.slice b1 N cb1) N (celsE ps) := own_base hE1.row (Nat.zero_le _)
    have hO2 : w8.ownsRow 0 115 2 (.slice b2 N cb2) N (celsE ps) := own_base hE2.row (Nat.zero_le _)
    have HS1 : Hid (∀ W, Fr [] w8 W → Calls Tryz.prog 37 #[.slice b1 N cb1, .slice b3 N cb3] W fun e w' => e = .returned (.bool true) ∧ Fr [] W w') := fun W hf => sameEntries_any b1 b3 N cb1 cb3 ps W ((hE1.keep hf).ers hl1) ((hE8.keep hf).ers hl1) HN.out
    have HS2 : Hid (∀ W, Fr [] w8 W → Calls Tryz.prog 37 #[.slice b2 N cb2, .slice b3 N cb3] W fun e w' => e = .returned (.bool true) ∧ Fr [] W w') := fun W hf => sameEntries_any b2 b3 N cb2 cb3 ps W ((hE2.keep hf).ers hl1) ((hE8.keep hf).ers hl1) HN.out
    have HLf : Hid (∀ W, Fr [] w8 W → Calls Tryz.prog 14 #[.slice (some ⟨b, 0, none⟩) L (L + 1), .slice ao L cap] W fun e w' => e = .returned (.bool true) ∧ Fr [] W w') := fun W hf => leftTs_any b ks w ao L cap ts W (HI4.out _ (hG8.then hf)) HL.out (by omega) HFew.out (HTw.out _ (hG8.then hf)) (HRow.out _ (hG8.then hf))
    have hcc : ((c : Int) != c) = false := by simp
    have HR : Hid (Fr [] w4 w8) := hG8
    have HO1 : Hid (w8.ownsRow 0 115 2 (.slice b1 N cb1) N (celsE ps)) := hO1
    have HO2 : Hid (w8.ownsRow 0 115 2 (.slice b2 N cb2) N (celsE ps)) := hO2
    have HB1 : Hid (∀ k, (Value.slice b1 N cb1).ownBlock = some k → w4.heap.size ≤ k ∧ k < w5.heap.size) := fun k hk => ⟨hk5 k hk, hlt5 k hk⟩
    have hs45 : w4.heap.size ≤ w5.heap.size := hF5.size
    have HB2 : Hid (∀ k, (Value.slice b2 N cb2).ownBlock = some k → w5.heap.size ≤ k) := hk6
    clear hO1 hO2 hE1 hE2 hE56 hE6 hE8 hF5 hF6 hG6 hF8 hG8 hk5 hk6 hlt5
    go_wp2_with fail
    refine (HS1.out _ (Fr.refl _ _)).mono ?_
    rintro e x2 ⟨rfl, hf2⟩
    have hg2 := hf2
    go_wp2_with fail
    refine (HS2.out _ hg2).mono ?_
    rintro e x3 ⟨rfl, hf3⟩
    have hg3 := hg2.then hf3
    go_wp2_with fail
    refine (HLf.out _ hg3).mono ?_
    rintro e w9 ⟨rfl, hf4⟩
    have hG9 := hg3.then hf4
    clear hf2 hf3 hf4 hg2 hg3
    have HG9 : Hid (Fr [] w8 w9) := hG9
    obtain ⟨bk, HBk⟩ : ∃ bk, Hid (bk = w9.heap.size) := ⟨_, rfl⟩
    obtain ⟨wl, HWl⟩ : ∃ wl, Hid (wl = w9.alloc (Obj.cells #[.int .i64 0, .slice none 0 0, .slice none 0 0, .slice none 0 0, .slice none 0 0, .slice none 0 0, .slice none 0 0, .slice none 0 0, .slice none 0 0, .slice none 0 0, .slice none 0 0, .slice none 0 0] 45)) := ⟨_, rfl⟩
    clear hG9 HS1 HS2 HLf
    go_upto_region 10 with fail
    rw [← HWl.out, ← HBk.out]
    have HFl : Hid (Fr [] w9 wl) := by rw [HWl.out]; exact Fr.alloc _ _ _
    have hBl : wl.heap[bk]? = some (.cells Bq.newBk 45 (0, 0)) := by rw [HWl.out, HBk.out]; exact heap_alloc_new w9 _
    have HG8l : Hid (Fr [] w8 wl) := HG9.out.then HFl.out
    have hbk1 : w8.heap.size ≤ bk := by rw [HBk.out]; exact HG9.out.size
    have hs8 : w4.heap.size ≤ w8.heap.size := HR.out.size
    have hs4 : w.heap.size ≤ w4.heap.size := HG04.out.size
    have HB0 : Hid (Bq.B4 w wl bk 0 (.slice none 0 0) (.slice none 0 0) (.slice none 0 0) (.slice none 0 0) [] [] [] []) := Bq.B4.new hBl (by omega)
    have HG4l : Hid (Fr [] w4 wl) := HR.out.then HG8l.out
    have HD0 : Hid (Bq.Dts wl (some ⟨b, 0, none⟩) L (L + 1) (dts (twTs ts ks))) := twins_dts hT HL.out hLs HFew.out (HTw.out _ HG4l.out) (HRow.out _ HG4l.out)
    have HC1 : Hid _ := Bq.txns_any HB0.out (some ⟨b, 0, none⟩) L (L + 1) _ HD0.out (fun i d hd k hk hm => by simp [Bq.lbs] at hm) (fun k hk hm => by simp [Bq.lbs] at hm) (by omega)
    clear hBl
    go_wp2_with fail
    refine Calls.mono HC1.out ?_
    rintro e wa ⟨rfl, rW, rT, hBa, hFa, hMWa, hMTa⟩
    have HBa : Hid (Bq.B4 w wa bk (0 + L + 1) (.slice none 0 0) (.slice none 0 0) rW rT [] [] ([] ++ Bq.held 0 (dts (twTs ts ks))) ([] ++ [⟨.slice (some ⟨b, 0, none⟩) L (L + 1), .slice none 0 0, 0 + L + 1⟩])) := hBa
    have HFa : Hid (Fr [bk] wl wa) := hFa
    have HOa1 : Hid (wa.ownsRow 0 115 2 (.slice b1 N cb1) N (celsE ps)) := owns_keep (owns_keep HO1.out HG8l.out (by simp)) HFa.out (fun k hk => by have := (HO1.out.lt k hk).2; simp; omega)
    have HOa2 : Hid (wa.ownsRow 0 115 2 (.slice b2 N cb2) N (celsE ps)) := owns_keep (owns_keep HO2.out HG8l.out (by simp)) HFa.out (fun k hk => by have := (HO2.out.lt k hk).2; simp; omega)
    have HC2 : Hid _ := Bq.entries_any HBa.out b1 N cb1 ⟨N, celsE ps, HOa1.out, by omega⟩ (fun k hk hm => by simp [Bq.lbs] at hm) (by omega)
    clear hBa hFa hMWa hMTa HC1 HB0 HD0
    go_wp2_with fail
    refine Calls.mono HC2.out ?_
    rintro e wb ⟨rfl, rB1, hBb, hFb, hMb⟩
    have HBb : Hid (Bq.B4 w wb bk (0 + L + 1 + 1) rB1 (.slice none 0 0) rW rT ([] ++ [⟨.slice b1 N cb1, .slice none 0 0, 0 + L + 1 + 1⟩]) [] ([] ++ Bq.held 0 (dts (twTs ts ks))) ([] ++ [⟨.slice (some ⟨b, 0, none⟩) L (L + 1), .slice none 0 0, 0 + L + 1⟩])) := hBb
    have HFb : Hid (Fr [bk] wa wb) := hFb
    have HOb2 : Hid (wb.ownsRow 0 115 2 (.slice b2 N cb2) N (celsE ps)) := owns_keep HOa2.out HFb.out (fun k hk => by have := (HO2.out.lt k hk).2; simp; omega)
    have HC3 : Hid _ := Bq.entries_any HBb.out b2 N cb2 ⟨N, celsE ps, HOb2.out, by omega⟩ (fun k hk hm => by
      obtain ⟨h, hh, hk1⟩ := Bq.mem_lbs.1 hm
      simp at hh
      subst hh
      have := HB1.out k hk1
      have := HB2.out k hk
      omega) (by omega)
    have hMB : ∀ k, rB1.ownBlock = some k → w.heap.size ≤ k := HBb.out.rBn
    clear hBb hFb hMb HC2 HBa
    go_wp2_with fail
    refine Calls.mono HC3.out ?_
    rintro e wc ⟨rfl, rB2, hBc, hFc, hMc⟩
    have hGc : Fr [] w wc := by
      refine (((HG04.out.then HG4l.out).on HFa.out (by intro x hx; simp at hx; omega)).on HFb.out (by intro x hx; simp at hx; omega)).on hFc ?_
      intro x hx
      rcases List.mem_cons.1 hx with h | h
      · omega
      · exact hMB x (by simpa using h)
    have HC4 : Hid _ := hBc.apart (by
        intro k hk
        obtain ⟨h, hh, hk1⟩ := Bq.mem_lbs.1 hk
        simp at hh
        rcases hh with rfl | rfl
        · have := HB1.out k hk1; omega
        · have := HB2.out k hk1; omega) (by intro k hk; simp [Bq.lbs] at hk) (by
        intro k hk
        rw [List.nil_append] at hk
        exact (HTw.out _ (Fr.refl _ _)).new k (lbs_twins hk)) (by
        intro k hk
        obtain ⟨h, hh, hk1⟩ := Bq.mem_lbs.1 hk
        simp at hh
        subst hh
        simp [Value.ownBlock] at hk1
        omega) HTb.out hGc
    clear hBc hFc hMc HC3 HBb hGc
    go_wp2_with fail
    refine Calls.mono HC4.out ?_
    rintro e wd ⟨rfl, hFd⟩
    clear HC4
    go_wp2
    go_ret
    exact ⟨rfl, hFd⟩
end Go.Proofs.YtaefninikmaiiaaGreatDoor
/- Transactions that came in: how they lie in memory. Conditions as each lemma names them. -/
namespace Go.Proofs.YtaefninikmaiiaaGreatDoor
open Go.ChangeShapes Go.WideShapes Go.ChangeAt Go.RowKit Go.Lib
set_option linter.unusedVariables false
section
variable {H : Type} {enc : TypeId × Value → H}
theorem Tryz.undTs' : Tryz.prog.underlying 22 = some (.slice 63) := by kernel_rfl
set_option maxRecDepth 100000 in
theorem ts_open {w : World} {fuel : Nat} {v : Value} {d : DataW H} {ps : List MemPlace} (h : DataW.trod enc Tryz.prog w 0 (fun _ => true) true fuel 22 [v] = some (d, ps)) (hsz : ∀ n ∈ d.weights Tryz.prog 22, n ≤ reachBytes) :
    ∃ ao L cap ts, v = .slice ao L cap ∧ TRs w ao ts ∧ L = ts.length ∧ L ≤ cap := by
  rcases Go.Deep.open_slice Tryz.undTs' h with ⟨hcs, _⟩ | ⟨a, len, cap, m, n, D, Pl, hcs, hb, hl, hm, hmm, hx, hE⟩
  · simp only [List.cons.injEq, and_true] at hcs
    exact ⟨none, 0, 0, [], hcs, TRs.nil _ _, rfl, Nat.le_refl _⟩
  · simp only [List.cons.injEq, and_true] at hcs
    simp only [if_true] at hmm
    subst hmm
    rw [Tryz.cellsT] at hE hx
    have hd : d = .slice ((List.range len).map D) ((List.range (m - len)).map fun j => D (len + j)) := by have := congrArg Prod.fst hx; simpa using this
    have hr := reachBytes_lt
    have hW : ∀ i, i < len → ∀ q ∈ (D i).weights Tryz.prog 63, q ≤ reachBytes := by
      intro i hi q hq
      apply hsz
      rw [hd]
      simp only [DataW.weights, Tryz.undTs']
      refine List.mem_cons_of_mem _ (List.mem_append_left _ ?_)
      exact weightsAll_mem (List.mem_map.2 ⟨i, by simpa using hi, rfl⟩) _ hq
    have hO : ∀ i, i < len → ∃ t : Tm, (w.cells? 0 (a.add (i * 2)) 2 = some [.int .i64 t.n, .slice t.ao t.L t.cap]) ∧ t.at w := by
      intro i hi
      obtain ⟨cs', h1, h2⟩ := hE i (by omega)
      obtain ⟨n, ao, L, cap, ws, rfl, hT⟩ := tx_open h2 (hW i hi)
      exact ⟨⟨n, ao, L, cap, ws⟩, h1, hT⟩
    haveI : Inhabited Tm := ⟨Tm.zero⟩
    obtain ⟨F, hF⟩ := Go.Deep.choose_lt hO
    have hlen : len ≤ 140737488355328 := by
      have hw : len * Tryz.prog.bytesOf 63 ≤ reachBytes := by
        refine Nat.le_trans (Nat.mul_le_mul_right _ hl) (hsz _ ?_)
        rw [hd]
        simp only [DataW.weights, Tryz.undTs', List.length_map, List.length_range]
        rw [show len + (m - len) = m by omega]
        exact List.mem_cons_self
      have hb40 : 1 ≤ Tryz.prog.bytesOf 63 := by
        rw [show Tryz.prog.bytesOf 63 = 32 from by kernel_rfl]
        decide
      have := Nat.le_mul_of_pos_right len hb40
      omega
    refine ⟨some a, len, m, (List.range len).map F, hcs, ⟨fun h0 => ?_, by simpa using hlen, ?_⟩, by simp, hl⟩
    · simp only [List.length_map, List.length_range] at h0 ⊢
      have hc0 := (World.cells?_some (hF 0 (by omega)).1).2.2
      obtain ⟨b, off, spot⟩ := a
      have hspot : spot = none := by
        have := hc0 0 (by omega)
        simp at this
        simpa [Addr.add] using World.cell?_spot this
      subst hspot
      have hcell : ∀ i, i < len → ∀ j, j < 2 → w.cell? ⟨b, off + i * 2 + j, none⟩ = [Value.int .i64 (F i).n, .slice (F i).ao (F i).L (F i).cap][j]? := by
        intro i hi j hj
        have := (World.cells?_some (hF i (by omega)).1).2.2 j hj
        rw [show ((⟨b, off, none⟩ : Addr).add (i * 2)).add j = ⟨b, off + i * 2 + j, none⟩ from by rw [Addr.add_lit, Addr.add_lit]] at this
        exact this
      refine ⟨b, off, rfl, World.block_lt_of_cell? w ⟨b, off + 0 * 2 + 0, none⟩ (by rw [hcell 0 (by omega) 0 (by omega)]; rfl), fun i hi => ?_⟩
      have e : ((List.range len).map F).getD i Tm.zero = F i := by simp [List.getD, hi]
      rw [e]
      exact ⟨hcell i hi 0 (by omega), hcell i hi 1 (by omega)⟩
    · intro t ht
      obtain ⟨i, hi, rfl⟩ := List.mem_map.1 ht
      exact (hF i (by simpa using hi)).2
end
end Go.Proofs.YtaefninikmaiiaaGreatDoor

/- The walk of the law LogfileSources where the log may not be. Conditions: how its arguments lie in memory; the table of powers of ten reads as the library lays it. -/
import Derived.Test.YtaefninikmaiiaaGreatDoorGv6
namespace Go.Proofs.YtaefninikmaiiaaGreatDoor
open BigFrame Go.ChangeShapes Go.WideShapes Go.ChangeAt Go.RowKit Go.Lib
set_option linter.unusedVariables false
set_option linter.unusedSimpArgs false

/-- Apart of a Book that was told of nothing that lies anywhere. -/
theorem nil_apart {w0 w : World} {bk T : Nat} {rI rW : Value} {hI hW : List Bq.HB} (h : Bq.B4 w0 w bk T (.slice none 0 0) rI rW (.slice none 0 0) [] hI hW []) (lI : Bq.lbs hI = []) (lW : Bq.lbs hW = []) (ht0 : Bq.Tab w0) (hf : Fr [] w0 w) :
    Calls Tryz.prog 17 #[.pointer (some ⟨bk, 0, none⟩)] w fun e w' => e = .returned (.bool true) ∧ (∀ p, NoS p w → NoS p w') ∧ Fr [] w0 w' := by
  obtain ⟨cs, hX, _⟩ := h.box
  have ho := h.own (by simp [Bq.lbs]) (by simp [lI]) (by simp [lW]) (by simp [Bq.lbs])
  have hcond : ∀ k ∈ Bq.own4 (.slice none 0 0) rI rW (.slice none 0 0) [] hI hW [], ∀ cs t, w.heap[k]? = some (.cells cs t (0, 0)) → t ≠ 72 := by
    intro k hk cs t hc
    simp only [Bq.own4, List.mem_append, Option.mem_toList, lI, lW] at hk
    rcases hk with (hk | hk) | (hk | hk) | (hk | hk) | (hk | hk)
    · simp [Value.ownBlock] at hk
    · simp [Bq.lbs] at hk
    · obtain ⟨cs1, h1⟩ := Bq.own_type h.sI.bl.row k hk
      have := cells_type hc h1
      subst this
      decide
    · simp at hk
    · obtain ⟨cs1, h1⟩ := Bq.own_type h.sW.bl.row k hk
      have := cells_type hc h1
      subst this
      decide
    · simp at hk
    · simp [Value.ownBlock] at hk
    · simp [Bq.lbs] at hk
  refine (Bq.apart4_any bk cs (.slice none 0 0) rI rW (.slice none 0 0) [] hI hW [] w hX h.sB h.sI h.sW h.sT (ht0.keep hf (by simp)) (fun hm => by have := ho _ hm; have := ht0.lt; omega)).mono ?_
  rintro e w' ⟨rfl, hF⟩
  refine ⟨rfl, fun p hp => ?_, hf.on hF ho⟩
  rcases hp with hp | ⟨x, e, hx⟩
  · exact Or.inl hp
  · exact Or.inr ⟨x, e, hF.keep hx (fun hm => hcond x hm _ _ hx rfl)⟩

set_option maxHeartbeats 16000000 in
set_option maxRecDepth 100000 in
theorem lsn (ao : Option Addr) (L cap : Nat) (ts : List Tm) (io : Option Addr) (M ic : Nat) (ns : List Int) (w : World) (hT : TRs w ao ts) (hLe : L = ts.length) (hN : IRs w io ns) (hMe : M = ns.length) (htab : Bq.Tab w) (c : Nat) (hbad : Bad 1 (txs ts) c) (hc0 : c ≠ 0) :
    Calls Tryz.prog 5 #[.slice ao L cap, .slice io M ic] w fun e w' => e = .returned (.bool true) ∧ Fr [] w w' := by
  have HL : Hid (L = ts.length) := hLe
  have HM : Hid (M = ns.length) := hMe
  have HTb : Hid (Bq.Tab w) := htab
  have HBad : Hid (Bad 1 (txs ts) c) := hbad
  have HI : Hid (∀ W, Fr [] w W → TRs W ao ts) := fun W hf => hT.keep hf
  have HN : Hid (∀ W, Fr [] w W → IRs W io ns) := fun W hf => hN.keep hf
  have hMM : M ≤ 17592186044416 := by have := hN.few; omega
  clear hLe htab hMe hbad hN
  go_enter Tryz.func5, Tryz.ntmps5
  go_wp2_with fail
  refine (txnsSizeB_any ao L cap ts _ hT HL.out).mono ?_
  rintro e w1 ⟨N0, rfl, hN0b, hLN, hFw0, hF1⟩
  have HFw0 : Hid (N0 ≤ 1048576 → Few ts) := hFw0
  clear hFw0
  go_wp2_with fail
  refine (beyond2_any w1.heap.size N0 M _ (by omega) (by omega) (by simp) (by simp)).mono ?_
  rintro e w2 ⟨rfl, rfl⟩
  have hF2 : Fr [] w1 (w1.alloc (.cells #[.int .i64 (N0 : Int), .int .i64 (M : Int)] 3)) := Fr.alloc _ _ _
  obtain ⟨w2, HW2⟩ : ∃ w2, Hid (w1.alloc (.cells #[.int .i64 (N0 : Int), .int .i64 (M : Int)] 3) = w2) := ⟨_, rfl⟩
  rw [HW2.out] at hF2 ⊢
  have hG2 := hF1.then hF2
  by_cases hbig : 1048576 < N0 + M
  · have hbd : decide (1048576 < N0 + M) = true := by simpa using hbig
    rw [hbd]
    go_wp2
    go_ret
    exact ⟨rfl, hG2⟩
  · have hbd : decide (1048576 < N0 + M) = false := by simpa using hbig
    rw [hbd]
    have hLs : L < 1048577 := by omega
    have hMs : M < 1048577 := by omega
    have HFew : Hid (Few ts) := HFw0.out (by omega)
    clear hF1 hF2 hbig hbd
    go_wp2_with fail
    refine (twinTs_any ao L cap ts _ (HI.out _ hG2) HL.out (by omega) HFew.out).mono ?_
    rintro e w4 ⟨b, ks, rfl, hb, hrow4, hTw4, hF4⟩
    have hG4 := hG2.then hF4
    have HG04 : Hid (Fr [] w w4) := hG4
    have hwb : w.heap.size ≤ b := by have := hG2.size; omega
    have hb4 : b < w4.heap.size := lt_of_block hrow4
    have HK4 : Hid (∀ k ∈ ks, k < w4.heap.size) := fun k hk => by
      obtain ⟨i, hi⟩ := List.getElem?_of_mem hk
      have hil : i < ts.length := by rw [← hTw4.len]; exact (List.getElem?_eq_some_iff.1 hi).1
      exact lt_of_block (hTw4.row i ts[i] k (List.getElem?_eq_getElem hil) hi)
    have HTw : Hid (∀ W, Fr [] w4 W → Twd w W ts ks) := fun W hf => by
      have h1 := hTw4.keep hf (by simp)
      exact ⟨h1.len, fun k hk => by have := h1.new k hk; have := hG2.size; omega, h1.row, h1.apart⟩
    have HRow : Hid (∀ W, Fr [] w4 W → W.heap[b]? = some (.cells (tmsC (twTs ts ks ++ [spT])).toArray 63 (0, 0))) := fun W hf => hf.keep hrow4 (by simp)
    have HX : Hid (∀ W, Fr [] w4 W → TRs W (some ⟨b, 0, none⟩) (twTs ts ks)) := fun W hf => twins_trs hT (HTw.out W hf) (HRow.out W hf)
    have HXL : Hid (L = (twTs ts ks).length) := by show _ = _; rw [twTs_length ts ks hTw4.len]; exact HL.out
    have HXT : Hid (txs (twTs ts ks) = txs ts) := txs_twTs ts ks hTw4.len
    have HBad2 : Hid (Bad 1 (txs (twTs ts ks)) c) := by show Bad _ _ _; rw [HXT.out]; exact HBad.out
    have hcc : ((c : Int) != c) = false := by simp
    have HI4 : Hid (∀ W, Fr [] w4 W → TRs W ao ts) := fun W hf => HI.out W (hG4.then hf)
    clear hrow4 hTw4 hF4 hG2 hG4 HI hb hT
    go_wp2_with fail
    refine (new_no (some ⟨b, 0, none⟩) L (L + 1) c (twTs ts ks) _ (HX.out _ (Fr.refl _ _)) HXL.out HBad2.out hc0).mono ?_
    rintro e w5 ⟨rfl, hF5⟩
    go_wp2_with fail
    refine (yNew_no ao L cap c ts _ (HI4.out _ hF5) HL.out HBad.out hc0).mono ?_
    rintro e w6 ⟨rfl, hF6⟩
    have hG6 := hF5.then hF6
    have HLf : Hid (∀ W, Fr [] w6 W → Calls Tryz.prog 14 #[.slice (some ⟨b, 0, none⟩) L (L + 1), .slice ao L cap] W fun e w' => e = .returned (.bool true) ∧ Fr [] W w') := fun W hf => leftTs_any b ks w ao L cap ts W (HI4.out _ (hG6.then hf)) HL.out (by omega) HFew.out (HTw.out _ (hG6.then hf)) (HRow.out _ (hG6.then hf))
    have HG6 : Hid (Fr [] w4 w6) := hG6
    clear hF5 hF6 hG6
    go_wp2_with fail
    refine (HLf.out _ (Fr.refl _ _)).mono ?_
    rintro e w9 ⟨rfl, hf9⟩
    have HG9 : Hid (Fr [] w4 w9) := HG6.out.then hf9
    obtain ⟨bk, HBk⟩ : ∃ bk, Hid (bk = w9.heap.size) := ⟨_, rfl⟩
    obtain ⟨wl, HWl⟩ : ∃ wl, Hid (wl = w9.alloc (Obj.cells #[.int .i64 0, .slice none 0 0, .slice none 0 0, .slice none 0 0, .slice none 0 0, .slice none 0 0, .slice none 0 0, .slice none 0 0, .slice none 0 0, .slice none 0 0, .slice none 0 0, .slice none 0 0] 45)) := ⟨_, rfl⟩
    clear hf9 HLf HG6
    go_upto_region 9 with fail
    rw [← HWl.out, ← HBk.out]
    have HFl : Hid (Fr [] w9 wl) := by rw [HWl.out]; exact Fr.alloc _ _ _
    have hBl : wl.heap[bk]? = some (.cells Bq.newBk 45 (0, 0)) := by rw [HWl.out, HBk.out]; exact heap_alloc_new w9 _
    have hs9 : w4.heap.size ≤ w9.heap.size := HG9.out.size
    have hs4 : w.heap.size ≤ w4.heap.size := HG04.out.size
    have hbk1 : w9.heap.size ≤ bk := by rw [HBk.out]; exact Nat.le_refl _
    have HB0 : Hid (Bq.B4 w wl bk 0 (.slice none 0 0) (.slice none 0 0) (.slice none 0 0) (.slice none 0 0) [] [] [] []) := Bq.B4.new hBl (by omega)
    have HG4l : Hid (Fr [] w4 wl) := HG9.out.then HFl.out
    have HD0 : Hid (Bq.Dts wl (some ⟨b, 0, none⟩) L (L + 1) (dts (twTs ts ks))) := twins_dts (HI4.out _ HG4l.out) HL.out hLs HFew.out (HTw.out _ HG4l.out) (HRow.out _ HG4l.out)
    have HC1 : Hid _ := Bq.txns_any HB0.out (some ⟨b, 0, none⟩) L (L + 1) _ HD0.out (fun i d hd k hk hm => by simp [Bq.lbs] at hm) (fun k hk hm => by simp [Bq.lbs] at hm) (by omega)
    clear hBl
    go_wp2_with fail
    refine Calls.mono HC1.out ?_
    rintro e wa ⟨rfl, rW, rT, hBa, hFa, hMWa, hMTa⟩
    have HBa : Hid (Bq.B4 w wa bk (0 + L + 1) (.slice none 0 0) (.slice none 0 0) rW rT [] [] ([] ++ Bq.held 0 (dts (twTs ts ks))) ([] ++ [⟨.slice (some ⟨b, 0, none⟩) L (L + 1), .slice none 0 0, 0 + L + 1⟩])) := hBa
    have HFa : Hid (Fr [bk] wl wa) := hFa
    have HGa : Hid (Fr [] w wa) := (HG04.out.then HG4l.out).on HFa.out (by intro x hx; simp at hx; omega)
    have HC4 : Hid _ := HBa.out.apart (by intro k hk; simp [Bq.lbs] at hk) (by intro k hk; simp [Bq.lbs] at hk) (by
        intro k hk
        rw [List.nil_append] at hk
        exact (HTw.out _ (Fr.refl _ _)).new k (lbs_twins hk)) (by
        intro k hk
        obtain ⟨h, hh, hk1⟩ := Bq.mem_lbs.1 hk
        simp at hh
        subst hh
        simp [Value.ownBlock] at hk1
        omega) HTb.out HGa.out
    clear hBa hFa hMWa hMTa HC1 HB0 HD0 HBa
    go_wp2_with fail
    refine Calls.mono HC4.out ?_
    rintro e wb ⟨rfl, hFb⟩
    have HFb : Hid (Fr [] w wb) := hFb
    obtain ⟨bj, HBj⟩ : ∃ bj, Hid (bj = wb.heap.size) := ⟨_, rfl⟩
    obtain ⟨wj, HWj⟩ : ∃ wj, Hid (wj = wb.alloc (Obj.cells #[.int .i64 0, .slice none 0 0, .slice none 0 0, .slice none 0 0, .slice none 0 0, .slice none 0 0, .slice none 0 0, .slice none 0 0, .slice none 0 0, .slice none 0 0, .slice none 0 0, .slice none 0 0] 45)) := ⟨_, rfl⟩
    clear hFb HC4 HFa HGa HG4l HFl HWl HBk HG9 HTw HRow HX HXL HXT HBad2 HI4 HK4
    go_upto_region 13 with fail
    rw [← HWj.out, ← HBj.out]
    have hFj : Fr [] wb wj := by rw [HWj.out]; exact Fr.alloc _ _ _
    have hBj : wj.heap[bj]? = some (.cells Bq.newBk 45 (0, 0)) := by rw [HWj.out, HBj.out]; exact heap_alloc_new wb _
    have HP0 : Hid (Bq.B4 w wj bj 0 (.slice none 0 0) (.slice none 0 0) (.slice none 0 0) (.slice none 0 0) [] [] [] []) := Bq.B4.new hBj (by rw [HBj.out]; exact HFb.out.size)
    have hG0 : Fr [] w wj := HFb.out.then hFj
    clear hFj hBj HWj HBj
    go_wp2_with fail
    go_loopw [12] (fun ii wr => ∃ (i T : Nat) (rI rW : Value) (hI hW : List Bq.HB), ii = .int .i64 i ∧ i ≤ M ∧ T ≤ 2 * i ∧ Hid (Bq.B4 w wr bj T (.slice none 0 0) rI rW (.slice none 0 0) [] hI hW []) ∧ Hid (Bq.lbs hI = []) ∧ Hid (Bq.lbs hW = []) ∧ Hid (Fr [] w wr)) (fun ii _ => M - (RowKit.intOf ii).toNat)
    case atStart => exact ⟨0, 0, _, _, [], [], rfl, Nat.zero_le _, Nat.le_refl _, HP0, rfl, rfl, hG0⟩
    case round =>
      clear HP0 hG0
      obtain ⟨i, T, rI, rW2, hI, hW, rfl, hiM, hTi, HP, HlI, HlW, HFr⟩ := hrel
      by_cases hi : i < M
      · have hi' : i < ns.length := by rw [← HM.out]; exact hi
        obtain ⟨ib, off, e9, hib, hc⟩ := (HN.out _ HFr.out).lies (by omega)
        subst e9
        have hx := hc i hi'
        obtain ⟨n, hn⟩ : ∃ n, n = ns.getD i 0 := ⟨_, rfl⟩
        rw [← hn] at hx
        have HCn : Hid (∀ W, Fr [] w W → W.cell? ⟨ib, off + i, none⟩ = some (.int .i64 n)) := fun W hf => by
          obtain ⟨ib', off', e', _, hc'⟩ := (HN.out _ hf).lies (by omega)
          cases e'
          rw [hc' i hi', hn]
        clear hc hn
        go_wp2_with fail
        refine (sGet_none (p := .pointer none) (Or.inl rfl) n).mono ?_
        rintro e wc ⟨rfl, hFc⟩
        have hFd : Fr [] wc (wc.alloc (.cells #[.int .i64 0, .slice none 0 0] 63)) := Fr.alloc _ _ _
        have hbx : B2 (wc.alloc (.cells #[.int .i64 0, .slice none 0 0] 63)) wc.heap.size (.int .i64 0) (.slice none 0 0) := ⟨heap_alloc_new _ _⟩
        obtain ⟨wd, HWd⟩ : ∃ wd, Hid (wc.alloc (.cells #[.int .i64 0, .slice none 0 0] 63) = wd) := ⟨_, rfl⟩
        rw [HWd.out] at hFd hbx
        obtain ⟨bx, HBx⟩ : ∃ bx, Hid (wc.heap.size = bx) := ⟨_, rfl⟩
        rw [HBx.out] at hbx
        have hGd : Fr [] wr wd := hFc.then hFd
        have hxn := HCn.out _ (HFr.out.then hGd)
        have HGd : Hid (Fr [] wr wd) := hGd
        have HBd : Hid (B2 wd bx (.int .i64 0) (.slice none 0 0)) := hbx
        clear hFc hFd hbx hGd hx
        go_upto_region 17 with fail
        rw [HWd.out, HBx.out]
        clear HWd
        go_wp2_with fail
        refine (yGet_nil _ n).mono ?_
        rintro e we ⟨rfl, hFe⟩
        have hFf : Fr [] we (we.alloc (.cells #[.int .i64 0, .slice none 0 0] 63)) := Fr.alloc _ _ _
        have hby : B2 (we.alloc (.cells #[.int .i64 0, .slice none 0 0] 63)) we.heap.size (.int .i64 0) (.slice none 0 0) := ⟨heap_alloc_new _ _⟩
        obtain ⟨wf, HWf⟩ : ∃ wf, Hid (we.alloc (.cells #[.int .i64 0, .slice none 0 0] 63) = wf) := ⟨_, rfl⟩
        rw [HWf.out] at hFf hby
        obtain ⟨bw, HBw⟩ : ∃ bw, Hid (we.heap.size = bw) := ⟨_, rfl⟩
        rw [HBw.out] at hby
        have hbf := HBd.out.keep (hFe.then hFf)
        have HGf : Hid (Fr [] wr wf) := HGd.out.then (hFe.then hFf)
        have HSm : Hid _ := sameTxn_any 0 0 none none 0 0 0 0 true [] [] wf (WRs.nil _ _) (WRs.nil _ _) rfl rfl (by simp)
        obtain ⟨k0, k1, l0, l1⟩ : _ ∧ _ ∧ _ ∧ _ := ⟨hbf.c0, hbf.c1, hby.c0, hby.c1⟩
        have HBf : Hid (B2 wf bx (.int .i64 0) (.slice none 0 0)) := hbf
        clear hFe hFf hby hbf HGd HBd hxn
        go_upto_region 18 with fail
        rw [HWf.out, HBw.out]
        clear HWf
        go_wp2_with fail
        refine Calls.mono HSm.out ?_
        rintro e wg ⟨rfl, hFg⟩
        have hGg := HGf.out.then hFg
        have HPg : Hid (Bq.B4 w wg bj T (.slice none 0 0) rI rW2 (.slice none 0 0) [] hI hW []) := HP.out.keep hGg
        have HGg : Hid (Fr [] w wg) := HFr.out.then hGg
        have hbg := HBf.out.keep hFg
        obtain ⟨m0, m1⟩ : _ ∧ _ := ⟨hbg.c0, hbg.c1⟩
        clear hFg hbg hGg HSm HGf HBf k0 k1 l0 l1 HP HFr
        go_wp2_with fail
        refine (sLast_no (p := .pointer none) (Or.inl rfl)).mono ?_
        rintro e _ ⟨rfl, rfl⟩
        go_wp2_with fail
        refine (yLast_nil _).mono ?_
        rintro e _ ⟨rfl, rfl⟩
        by_cases h30 : i < 30
        · have h30' : (i : Int) < 30 := by omega
          have HC7 : Hid _ := Bq.txn_any HPg.out 0 none 0 0 ⟨0, [], World.ownsRow_nil _ _ _ _, by omega⟩ (fun k hk => by simp [Value.ownBlock] at hk) (by omega)
          go_wp2_with fail
          refine Calls.mono HC7.out ?_
          rintro e wh ⟨rfl, rW3, hBh, hFh, hMh⟩
          have HBh : Hid (Bq.B4 w wh bj (T + 1) (.slice none 0 0) rI rW3 (.slice none 0 0) [] hI (hW ++ [⟨.slice none 0 0, .slice none 0 0, T + 1⟩]) []) := hBh
          have HlW2 : Hid (Bq.lbs (hW ++ [⟨.slice none 0 0, .slice none 0 0, T + 1⟩]) = []) := by show _ = _; rw [Bq.lbs_append, HlW.out]; rfl
          have HGh : Hid (Fr [] w wh) := HGg.out.on hFh (fun k hk => by
            rcases List.mem_cons.1 hk with hk | hk
            · have := HPg.out.bn; omega
            · exact HPg.out.rWn k (by simpa using hk))
          have HC8 : Hid _ := Bq.ints_any HBh.out none 0 0 ⟨0, [], World.ownsRow_nil _ _ _ _, by omega⟩ (fun k hk => by simp [Value.ownBlock] at hk) (by omega)
          clear hBh hFh hMh HC7 HPg HGg m0 m1
          go_wp2_with fail
          refine (sAsked_no (p := .pointer none) (Or.inl rfl)).mono ?_
          rintro e _ ⟨rfl, rfl⟩
          go_wp2_with fail
          refine Calls.mono HC8.out ?_
          rintro e wm ⟨rfl, rI3, hBm, hFm, hMm⟩
          have HBm : Hid (Bq.B4 w wm bj (T + 1 + 1) (.slice none 0 0) rI3 rW3 (.slice none 0 0) [] (hI ++ [⟨.slice none 0 0, .slice none 0 0, T + 1 + 1⟩]) (hW ++ [⟨.slice none 0 0, .slice none 0 0, T + 1⟩]) []) := hBm
          have HlI2 : Hid (Bq.lbs (hI ++ [⟨.slice none 0 0, .slice none 0 0, T + 1 + 1⟩]) = []) := by show _ = _; rw [Bq.lbs_append, HlI.out]; rfl
          have HGm : Hid (Fr [] w wm) := HGh.out.on hFm (fun k hk => by
            rcases List.mem_cons.1 hk with hk | hk
            · have := HBh.out.bn; omega
            · exact HBh.out.rIn k (by simpa using hk))
          clear hBm hFm hMm HC8 HBh HGh
          go_wp2
          go_roundw
          case rel => exact ⟨i + 1, T + 1 + 1, rI3, rW3, _, _, by simp, by omega, by omega, HBm, HlI2, HlW2, HGm⟩
          case measure => simp [RowKit.intOf]; omega
        · have h30' : ¬ (i : Int) < 30 := by omega
          clear m0 m1
          go_wp2
          go_roundw
          case rel => exact ⟨i + 1, T, rI, rW2, hI, hW, by simp, by omega, by omega, HPg, HlI, HlW, HGg⟩
          case measure => simp [RowKit.intOf]; omega
      · obtain rfl : i = M := by omega
        have hFz : Fr [] wr (wr.alloc (.cells #[.bool false, .slice none 0 0, .slice none 0 0] 72)) := Fr.alloc _ _ _
        have hNz : NoS (.pointer (some ⟨wr.heap.size, 0, none⟩)) (wr.alloc (.cells #[.bool false, .slice none 0 0, .slice none 0 0] 72)) := Or.inr ⟨_, rfl, heap_alloc_new _ _⟩
        obtain ⟨wz, HWz⟩ : ∃ wz, Hid (wr.alloc (.cells #[.bool false, .slice none 0 0, .slice none 0 0] 72) = wz) := ⟨_, rfl⟩
        rw [HWz.out] at hFz hNz
        obtain ⟨bz, HBz⟩ : ∃ bz, Hid (wr.heap.size = bz) := ⟨_, rfl⟩
        rw [HBz.out] at hNz
        have HFz : Hid (Fr [] wr wz) := hFz
        have HNz : Hid (NoS (.pointer (some ⟨bz, 0, none⟩)) wz) := hNz
        clear hFz hNz
        go_upto_region 24 with fail
        rw [HWz.out, HBz.out]
        clear HWz
        go_wp2_with fail
        refine (sGet_none HNz.out 1).mono ?_
        rintro e wo ⟨rfl, hFo⟩
        have hFp : Fr [] wo (wo.alloc (.cells #[.int .i64 0, .slice none 0 0] 63)) := Fr.alloc _ _ _
        obtain ⟨wp, HWp⟩ : ∃ wp, Hid (wo.alloc (.cells #[.int .i64 0, .slice none 0 0] 63) = wp) := ⟨_, rfl⟩
        rw [HWp.out] at hFp
        have hFq := hFo.then hFp
        have HNp : Hid (NoS (.pointer (some ⟨bz, 0, none⟩)) wp) := HNz.out.keep hFq
        have HC9 : Hid _ := nil_apart (HP.out.keep (HFz.out.then hFq)) HlI.out HlW.out HTb.out (HFr.out.then (HFz.out.then hFq))
        clear hFo hFp hFq HP HFr HFz HNz
        go_upto_region 25 with fail
        rw [HWp.out]
        clear HWp
        go_wp2_with fail
        refine Calls.mono HC9.out ?_
        rintro e wq ⟨rfl, hNq, hFq⟩
        have HNq : Hid (NoS (.pointer (some ⟨bz, 0, none⟩)) wq) := hNq _ HNp.out
        have HGq : Hid (Fr [] w wq) := hFq
        clear hNq hFq HC9 HNp
        go_wp2_with fail
        refine (sAsked_no (p := .pointer none) (Or.inl rfl)).mono ?_
        rintro e _ ⟨rfl, rfl⟩
        go_wp2_with fail
        refine (yAsked_nil _).mono ?_
        rintro e _ ⟨rfl, rfl⟩
        go_wp2_with fail
        refine (sameInts_any none none 0 0 0 [] wq ⟨fun h => by simp at h⟩ ⟨fun h => by simp at h⟩ rfl (by omega)).mono ?_
        rintro e wt ⟨rfl, q, HWt⟩
        have hFt : Fr [] wq wt := by rw [HWt]; exact Fr.drewN _ _ _
        have HNt : Hid (NoS (.pointer (some ⟨bz, 0, none⟩)) wt) := HNq.out.keep hFt
        have HGt : Hid (Fr [] w wt) := HGq.out.then hFt
        clear HWt hFt HNq HGq
        go_wp2_with fail
        refine (sLast_no (p := .pointer none) (Or.inl rfl)).mono ?_
        rintro e _ ⟨rfl, rfl⟩
        go_wp2_with fail
        refine (yLast_nil _).mono ?_
        rintro e _ ⟨rfl, rfl⟩
        go_wp2_with fail
        refine (sLast_no HNt.out).mono ?_
        rintro e _ ⟨rfl, rfl⟩
        go_wp2_with fail
        refine (sAsked_no HNt.out).mono ?_
        rintro e _ ⟨rfl, rfl⟩
        go_wp2
        go_ret
        exact ⟨rfl, HGt.out⟩
end Go.Proofs.YtaefninikmaiiaaGreatDoor

/- The walk of the law LogfileSources where the log may be. Conditions: how its arguments lie in memory; the table of powers of ten reads as the library lays it. -/
import Derived.Test.YtaefninikmaiiaaGreatDoorGv6
namespace Go.Proofs.YtaefninikmaiiaaGreatDoor
open BigFrame Go.ChangeShapes Go.WideShapes Go.ChangeAt Go.RowKit Go.Lib
set_option linter.unusedVariables false
set_option linter.unusedSimpArgs false

set_option maxHeartbeats 16000000 in
set_option maxRecDepth 100000 in
theorem lso (ao : Option Addr) (L cap : Nat) (ts : List Tm) (io : Option Addr) (M ic : Nat) (ns : List Int) (w : World) (hT : TRs w ao ts) (hLe : L = ts.length) (hN : IRs w io ns) (hMe : M = ns.length) (htab : Bq.Tab w) (hok : okL 1 (txs ts)) :
    Calls Tryz.prog 5 #[.slice ao L cap, .slice io M ic] w fun e w' => e = .returned (.bool true) ∧ Fr [] w w' := by
  have HL : Hid (L = ts.length) := hLe
  have HM : Hid (M = ns.length) := hMe
  have HTb : Hid (Bq.Tab w) := htab
  have HOK : Hid (okL 1 (txs ts)) := hok
  have HI : Hid (∀ W, Fr [] w W → TRs W ao ts) := fun W hf => hT.keep hf
  have HN : Hid (∀ W, Fr [] w W → IRs W io ns) := fun W hf => hN.keep hf
  have hMM : M ≤ 17592186044416 := by have := hN.few; omega
  clear hLe htab hMe hok hN
  go_enter Tryz.func5, Tryz.ntmps5
  go_wp2_with fail
  refine (txnsSizeB_any ao L cap ts _ hT HL.out).mono ?_
  rintro e w1 ⟨N0, rfl, hN0b, hLN, hFw0, hF1⟩
  have HFw0 : Hid (N0 ≤ 1048576 → Few ts) := hFw0
  clear hFw0
  go_wp2_with fail
  refine (beyond2_any w1.heap.size N0 M _ (by omega) (by omega) (by simp) (by simp)).mono ?_
  rintro e w2 ⟨rfl, rfl⟩
  have hF2 : Fr [] w1 (w1.alloc (.cells #[.int .i64 (N0 : Int), .int .i64 (M : Int)] 3)) := Fr.alloc _ _ _
  obtain ⟨w2, HW2⟩ : ∃ w2, Hid (w1.alloc (.cells #[.int .i64 (N0 : Int), .int .i64 (M : Int)] 3) = w2) := ⟨_, rfl⟩
  rw [HW2.out] at hF2 ⊢
  have hG2 := hF1.then hF2
  by_cases hbig : 1048576 < N0 + M
  · have hbd : decide (1048576 < N0 + M) = true := by simpa using hbig
    rw [hbd]
    go_wp2
    go_ret
    exact ⟨rfl, hG2⟩
  · have hbd : decide (1048576 < N0 + M) = false := by simpa using hbig
    rw [hbd]
    have hLs : L < 1048577 := by omega
    have hMs : M < 1048577 := by omega
    have HFew : Hid (Few ts) := HFw0.out (by omega)
    clear hF1 hF2 hbig hbd
    go_wp2_with fail
    refine (twinTs_any ao L cap ts _ (HI.out _ hG2) HL.out (by omega) HFew.out).mono ?_
    rintro e w4 ⟨b, ks, rfl, hb, hrow4, hTw4, hF4⟩
    have hG4 := hG2.then hF4
    have HG04 : Hid (Fr [] w w4) := hG4
    have hwb : w.heap.size ≤ b := by have := hG2.size; omega
    have hb4 : b < w4.heap.size := lt_of_block hrow4
    have HK4 : Hid (∀ k ∈ ks, k < w4.heap.size) := fun k hk => by
      obtain ⟨i, hi⟩ := List.getElem?_of_mem hk
      have hil : i < ts.length := by rw [← hTw4.len]; exact (List.getElem?_eq_some_iff.1 hi).1
      exact lt_of_block (hTw4.row i ts[i] k (List.getElem?_eq_getElem hil) hi)
    have HTw : Hid (∀ W, Fr [] w4 W → Twd w W ts ks) := fun W hf => by
      have h1 := hTw4.keep hf (by simp)
      exact ⟨h1.len, fun k hk => by have := h1.new k hk; have := hG2.size; omega, h1.row, h1.apart⟩
    have HRow : Hid (∀ W, Fr [] w4 W → W.heap[b]? = some (.cells (tmsC (twTs ts ks ++ [spT])).toArray 63 (0, 0))) := fun W hf => hf.keep hrow4 (by simp)
    have HX : Hid (∀ W, Fr [] w4 W → TRs W (some ⟨b, 0, none⟩) (twTs ts ks)) := fun W hf => twins_trs hT (HTw.out W hf) (HRow.out W hf)
    have HXL : Hid (L = (twTs ts ks).length) := by show _ = _; rw [twTs_length ts ks hTw4.len]; exact HL.out
    have HXT : Hid (txs (twTs ts ks) = txs ts) := txs_twTs ts ks hTw4.len
    have HOK2 : Hid (okL 1 (txs (twTs ts ks))) := by show okL _ _; rw [HXT.out]; exact HOK.out
    have HI4 : Hid (∀ W, Fr [] w4 W → TRs W ao ts) := fun W hf => HI.out W (hG4.then hf)
    clear hrow4 hTw4 hF4 hG2 hG4 HI hb hT
    go_wp2_with fail
    refine (new_ok (some ⟨b, 0, none⟩) L (L + 1) (twTs ts ks) _ (HX.out _ (Fr.refl _ _)) HXL.out HOK2.out).mono ?_
    rintro e w5 ⟨g, lb, ds, rfl, hS5, hds, hF5⟩
    have HDs : Hid (txs ds = txs ts) := hds.trans HXT.out
    have HS5 : Hid (Src w4 w5 g lb L ds (.slice none 0 0) []) := hS5
    have hs45 : w4.heap.size ≤ w5.heap.size := hF5.size
    clear hS5 hds
    go_wp2_with fail
    refine (yNew_ok ao L cap ts _ (HI4.out _ hF5) HL.out HOK.out).mono ?_
    rintro e w6 ⟨g2, lo, lc, us, rfl, hY6, hus, hF6⟩
    have HUs : Hid (txs us = txs ds) := hus.trans HDs.out.symm
    have HY6 : Hid (YSrc w5 w6 g2 L lo lc us (.slice none 0 0) []) := hY6
    have hG6 := hF5.then hF6
    have HLf : Hid (∀ W, Fr [] w6 W → Calls Tryz.prog 14 #[.slice (some ⟨b, 0, none⟩) L (L + 1), .slice ao L cap] W fun e w' => e = .returned (.bool true) ∧ Fr [] W w') := fun W hf => leftTs_any b ks w ao L cap ts W (HI4.out _ (hG6.then hf)) HL.out (by omega) HFew.out (HTw.out _ (hG6.then hf)) (HRow.out _ (hG6.then hf))
    have HS6 : Hid (Src w4 w6 g lb L ds (.slice none 0 0) []) := HS5.out.keep hF6
    have HG6 : Hid (Fr [] w4 w6) := hG6
    clear hY6 hus hF5 hF6 hG6 HS5
    go_wp2_with fail
    refine (HLf.out _ (Fr.refl _ _)).mono ?_
    rintro e w9 ⟨rfl, hf9⟩
    have HG9 : Hid (Fr [] w4 w9) := HG6.out.then hf9
    have HS9 : Hid (Src w4 w9 g lb L ds (.slice none 0 0) []) := HS6.out.keep hf9
    have HY9 : Hid (YSrc w5 w9 g2 L lo lc us (.slice none 0 0) []) := HY6.out.keep hf9
    obtain ⟨bk, HBk⟩ : ∃ bk, Hid (bk = w9.heap.size) := ⟨_, rfl⟩
    obtain ⟨wl, HWl⟩ : ∃ wl, Hid (wl = w9.alloc (Obj.cells #[.int .i64 0, .slice none 0 0, .slice none 0 0, .slice none 0 0, .slice none 0 0, .slice none 0 0, .slice none 0 0, .slice none 0 0, .slice none 0 0, .slice none 0 0, .slice none 0 0, .slice none 0 0] 45)) := ⟨_, rfl⟩
    clear hf9 HLf HS6 HY6 HG6
    go_upto_region 9 with fail
    rw [← HWl.out, ← HBk.out]
    have HFl : Hid (Fr [] w9 wl) := by rw [HWl.out]; exact Fr.alloc _ _ _
    have hBl : wl.heap[bk]? = some (.cells Bq.newBk 45 (0, 0)) := by rw [HWl.out, HBk.out]; exact heap_alloc_new w9 _
    have hs9 : w4.heap.size ≤ w9.heap.size := HG9.out.size
    have hs4 : w.heap.size ≤ w4.heap.size := HG04.out.size
    have hbk1 : w9.heap.size ≤ bk := by rw [HBk.out]; exact Nat.le_refl _
    have HB0 : Hid (Bq.B4 w wl bk 0 (.slice none 0 0) (.slice none 0 0) (.slice none 0 0) (.slice none 0 0) [] [] [] []) := Bq.B4.new hBl (by omega)
    have HG4l : Hid (Fr [] w4 wl) := HG9.out.then HFl.out
    have HD0 : Hid (Bq.Dts wl (some ⟨b, 0, none⟩) L (L + 1) (dts (twTs ts ks))) := twins_dts (HI4.out _ HG4l.out) HL.out hLs HFew.out (HTw.out _ HG4l.out) (HRow.out _ HG4l.out)
    have HC1 : Hid _ := Bq.txns_any HB0.out (some ⟨b, 0, none⟩) L (L + 1) _ HD0.out (fun i d hd k hk hm => by simp [Bq.lbs] at hm) (fun k hk hm => by simp [Bq.lbs] at hm) (by omega)
    have HSl : Hid (∀ W, Fr [bk] wl W → Src w4 W g lb L ds (.slice none 0 0) [] ∧ YSrc w5 W g2 L lo lc us (.slice none 0 0) []) := fun W hf => by
      have h1 := HS9.out.keep HFl.out
      have h2 := HY9.out.keep HFl.out
      refine ⟨h1.keepW h1 hf (fun k hk cs t hc => ?_), h2.keepW h2 hf (fun k hk cs t hc => ?_)⟩
      · simp only [List.mem_singleton] at hk
        subst hk
        have := cells_type hc hBl
        subst this
        exact ⟨fun e => absurd e (by decide), by decide, fun e => by rcases e with e | e <;> exact absurd e (by decide)⟩
      · simp only [List.mem_singleton] at hk
        subst hk
        have := cells_type hc hBl
        subst this
        exact ⟨fun e => absurd e (by decide), by decide, fun e => by rcases e with e | e <;> exact absurd e (by decide)⟩
    clear hBl
    go_wp2_with fail
    refine Calls.mono HC1.out ?_
    rintro e wa ⟨rfl, rW, rT, hBa, hFa, hMWa, hMTa⟩
    have HBa : Hid (Bq.B4 w wa bk (0 + L + 1) (.slice none 0 0) (.slice none 0 0) rW rT [] [] ([] ++ Bq.held 0 (dts (twTs ts ks))) ([] ++ [⟨.slice (some ⟨b, 0, none⟩) L (L + 1), .slice none 0 0, 0 + L + 1⟩])) := hBa
    have HFa : Hid (Fr [bk] wl wa) := hFa
    have HGa : Hid (Fr [] w wa) := (HG04.out.then HG4l.out).on HFa.out (by intro x hx; simp at hx; omega)
    have HC4 : Hid _ := old_apart HBa.out (HSl.out _ HFa.out).1 (HSl.out _ HFa.out).2 hs45 (by
        intro k hk
        rw [List.nil_append] at hk
        have h1 := lbs_twins hk
        exact ⟨(HTw.out _ (Fr.refl _ _)).new k h1, HK4.out k h1⟩) (by
        intro k hk
        obtain ⟨h, hh, hk1⟩ := Bq.mem_lbs.1 hk
        simp at hh
        subst hh
        simp [Value.ownBlock] at hk1
        omega) HTb.out HGa.out
    clear hBa hFa hMWa hMTa HC1 HB0 HD0 HSl HBa
    go_wp2_with fail
    refine Calls.mono HC4.out ?_
    rintro e wb ⟨rfl, hSb, hYb, hFb⟩
    have HSb : Hid (Src w4 wb g lb L ds (.slice none 0 0) []) := hSb
    have HYb : Hid (YSrc w5 wb g2 L lo lc us (.slice none 0 0) []) := hYb
    have HFb : Hid (Fr [] w wb) := hFb
    have h5b : w5.heap.size ≤ wb.heap.size := by have := hYb.gn; have := hYb.lt; omega
    have h4b : w4.heap.size ≤ wb.heap.size := by omega
    obtain ⟨bj, HBj⟩ : ∃ bj, Hid (bj = wb.heap.size) := ⟨_, rfl⟩
    obtain ⟨wj, HWj⟩ : ∃ wj, Hid (wj = wb.alloc (Obj.cells #[.int .i64 0, .slice none 0 0, .slice none 0 0, .slice none 0 0, .slice none 0 0, .slice none 0 0, .slice none 0 0, .slice none 0 0, .slice none 0 0, .slice none 0 0, .slice none 0 0, .slice none 0 0] 45)) := ⟨_, rfl⟩
    clear hSb hYb hFb HC4 HFa HGa HG4l HFl HWl HBk HS9 HY9 HG9 HTw HRow HX HXL HXT HOK2 HI4 HK4
    go_upto_region 13 with fail
    rw [← HWj.out, ← HBj.out]
    have hFj : Fr [] wb wj := by rw [HWj.out]; exact Fr.alloc _ _ _
    have hBj : wj.heap[bj]? = some (.cells Bq.newBk 45 (0, 0)) := by rw [HWj.out, HBj.out]; exact heap_alloc_new wb _
    have HP0 : Hid (Pr6 w4 w5 wb wj g lb g2 L lc lo ds us (.slice none 0 0) (.slice none 0 0) [] [] bj 0 (.slice none 0 0) (.slice none 0 0) [] []) :=
      ⟨HSb.out.keep hFj, HYb.out.keep hFj, Bq.B4.new hBj (by rw [HBj.out]; exact Nat.le_refl _), fun k hk => by simp [Value.ownBlock] at hk, fun k hk => by simp [Bq.lbs] at hk, fun k hk => by simp [Bq.lbs] at hk⟩
    have hG0 : Fr [] w wj := HFb.out.then hFj
    have HTbb : Hid (Bq.Tab wb) := HTb.out.keep HFb.out (by simp)
    clear hFj hBj HWj HBj
    go_wp2_with fail
    go_loopw [12] (fun ii wr => ∃ (i T : Nat) (v v2 : Value) (qs : List Nat) (rI rW : Value) (hI hW : List Bq.HB), ii = .int .i64 i ∧ i ≤ M ∧ T ≤ 2 * i ∧ qs.length ≤ i ∧ Hid (Pr6 w4 w5 wb wr g lb g2 L lc lo ds us v v2 qs qs bj T rI rW hI hW) ∧ Hid (Fr [] w wr)) (fun ii _ => M - (RowKit.intOf ii).toNat)
    case atStart => exact ⟨0, 0, _, _, [], _, _, [], [], rfl, Nat.zero_le _, Nat.le_refl _, Nat.le_refl _, HP0, hG0⟩
    case round =>
      clear HP0 hG0
      obtain ⟨i, T, v, v2, qs, rI, rW2, hI, hW, rfl, hiM, hTi, hqi, HP, HFr⟩ := hrel
      by_cases hi : i < M
      · have hi' : i < ns.length := by rw [← HM.out]; exact hi
        obtain ⟨ib, off, e9, hib, hc⟩ := (HN.out _ HFr.out).lies (by omega)
        subst e9
        have hx := hc i hi'
        obtain ⟨n, hn⟩ : ∃ n, n = ns.getD i 0 := ⟨_, rfl⟩
        rw [← hn] at hx
        have HCn : Hid (∀ W, Fr [] w W → W.cell? ⟨ib, off + i, none⟩ = some (.int .i64 n)) := fun W hf => by
          obtain ⟨ib', off', e', _, hc'⟩ := (HN.out _ hf).lies (by omega)
          cases e'
          rw [hc' i hi', hn]
        clear hc hn
        go_wp2_with fail
        refine (sget_any HP.out.s n (by omega) (by have := HFr.out.size; have := HP.out.s.gn; have := HP.out.s.lt; omega)).mono ?_
        rintro e wc ⟨c, xn, xo, Mx, xc, xws, v', qs', rfl, hGv, hMx, hM32, hrow, hWx, hSc, hFc, hMc⟩
        have HGv : Hid (Gv (txs ds) n qs c xn xws qs') := hGv
        have HMx : Hid (Mx = xws.length) := hMx
        clear hMx
        have hPc := HP.out.get1 hSc hFc hMc
        have hGc : Fr [] w wc := HFr.out.on hFc (fun k hk => by have := HP.out.s.own_ge k hk; omega)
        have hsw : w.heap.size ≤ wr.heap.size := HFr.out.size
        have hswb : wb.heap.size ≤ wr.heap.size := by have := HP.out.b.bn; obtain ⟨_, h1, _⟩ := HP.out.b.box; have := lt_of_block h1.box; omega
        have hsrc : wr.heap.size ≤ wc.heap.size := hFc.size
        have hFd : Fr [] wc (wc.alloc (.cells #[.int .i64 xn, .slice xo Mx xc] 63)) := Fr.alloc _ _ _
        have hbx : B2 (wc.alloc (.cells #[.int .i64 xn, .slice xo Mx xc] 63)) wc.heap.size (.int .i64 xn) (.slice xo Mx xc) := ⟨heap_alloc_new _ _⟩
        have hPd := hPc.keep hFd
        have hGd := hGc.then hFd
        have hrd := owns_keepB hrow hFd (by simp)
        obtain ⟨wd, HWd⟩ : ∃ wd, Hid (wc.alloc (.cells #[.int .i64 xn, .slice xo Mx xc] 63) = wd) := ⟨_, rfl⟩
        rw [HWd.out] at hFd hbx hPd hGd hrd
        obtain ⟨bx, HBx⟩ : ∃ bx, Hid (wc.heap.size = bx) := ⟨_, rfl⟩
        rw [HBx.out] at hbx
        have HWx : Hid (WRs wc xo xws) := hWx
        have hxn := HCn.out _ hGd
        have HPd : Hid (Pr6 w4 w5 wb wd g lb g2 L lc lo ds us v' v2 qs' qs bj T rI rW2 hI hW) := hPd
        have HGd : Hid (Fr [] w wd) := hGd
        have HBd : Hid (B2 wd bx (.int .i64 xn) (.slice xo Mx xc)) := hbx
        have HRd : Hid (wd.ownsRow wr.heap.size 124 3 (.slice xo Mx xc) Mx (wtsC xws)) := hrd
        have HOl : Hid (∀ k, wr.heap.size ≤ k → k ∉ Bq.lbs hW) := fun k hk => (HP.out.old k hk).2.2.2
        clear hGv hrow hWx hSc hFc hMc hPc hGc hFd hbx hPd hGd hrd hx HP HFr
        go_upto_region 17 with fail
        rw [HWd.out, HBx.out]
        clear HWd
        go_wp2_with fail
        refine (yget_any HPd.out.y n (by omega) (by have := HPd.out.y.gn; have := HPd.out.y.lt; omega)).mono ?_
        rintro e we ⟨c2, yn, yo, My, yc, yws, v2', qs2, rfl, hGv2, hMy, hWy, hYe, hFe, hMe⟩
        rw [HUs.out] at hGv2
        obtain ⟨e1, e2, e3, e4⟩ := HGv.out.one hGv2
        subst e1 e2 e3 e4
        have e5 : Mx = My := by have := HMx.out; omega
        subst e5
        clear hMy
        have hPe := HPd.out.get2 hYe hFe hMe
        have hGe : Fr [] w we := HGd.out.on hFe (fun k hk => by have := HPd.out.y.own_ge k hk; omega)
        have hbe := HBd.out.keepS hFe (HPd.out.y.own_off HBd.out.box (by decide) (by decide))
        have hre := owns_keepB HRd.out hFe (fun k hk => by obtain ⟨_, cc, ee⟩ := owns_cells HRd.out hk; exact HPd.out.y.own_off ee (by decide) (by decide))
        have hFf : Fr [] we (we.alloc (.cells #[.int .i64 xn, .slice yo Mx yc] 63)) := Fr.alloc _ _ _
        have hby : B2 (we.alloc (.cells #[.int .i64 xn, .slice yo Mx yc] 63)) we.heap.size (.int .i64 xn) (.slice yo Mx yc) := ⟨heap_alloc_new _ _⟩
        obtain ⟨wf, HWf⟩ : ∃ wf, Hid (we.alloc (.cells #[.int .i64 xn, .slice yo Mx yc] 63) = wf) := ⟨_, rfl⟩
        rw [HWf.out] at hFf hby
        obtain ⟨bw, HBw⟩ : ∃ bw, Hid (we.heap.size = bw) := ⟨_, rfl⟩
        rw [HBw.out] at hby
        have hbf := hbe.keep hFf
        have HPf : Hid (Pr6 w4 w5 wb wf g lb g2 L lc lo ds us v' v2' qs' qs' bj T rI rW2 hI hW) := hPe.keep hFf
        have HGf : Hid (Fr [] w wf) := hGe.then hFf
        have HRf : Hid (wf.ownsRow wr.heap.size 124 3 (.slice xo Mx xc) Mx (wtsC xws)) := owns_keepB hre hFf (by simp)
        have HWxf : Hid (WRs wf xo xws) := (show WOw wr wf xo Mx xc xws from ⟨HMx.out, HRf.out⟩).rs HWx.out.few HWx.out.each
        have HWyf : Hid (WRs wf yo xws) := hWy.keep hFf
        have HSm : Hid _ := sameTxn_any xn xn xo yo Mx Mx xc yc true xws xws wf HWxf.out HWyf.out HMx.out HMx.out (by simp)
        obtain ⟨k0, k1, l0, l1⟩ : _ ∧ _ ∧ _ ∧ _ := ⟨hbf.c0, hbf.c1, hby.c0, hby.c1⟩
        have HBf : Hid (B2 wf bx (.int .i64 xn) (.slice xo Mx xc)) := hbf
        have hq' : qs'.length ≤ i + 1 := by have := HGv.out.len.1; omega
        have hcc : ((c : Int) != c) = false := by simp
        have hLL : ((L : Int) != L) = false := by simp
        clear hGv2 hWy hYe hFe hMe hPe hGe hbe hre hFf hby hbf HPd HGd HBd HRd HWx HWxf HWyf hxn
        go_upto_region 18 with fail
        rw [HWf.out, HBw.out]
        clear HWf
        go_wp2_with fail
        refine Calls.mono HSm.out ?_
        rintro e wg ⟨rfl, hFg⟩
        have HPg : Hid (Pr6 w4 w5 wb wg g lb g2 L lc lo ds us v' v2' qs' qs' bj T rI rW2 hI hW) := HPf.out.keep hFg
        have HGg : Hid (Fr [] w wg) := HGf.out.then hFg
        have hbg := HBf.out.keep hFg
        obtain ⟨m0, m1⟩ : _ ∧ _ := ⟨hbg.c0, hbg.c1⟩
        have HRg : Hid (wg.ownsRow wr.heap.size 124 3 (.slice xo Mx xc) Mx (wtsC xws)) := owns_keepB HRf.out hFg (by simp)
        clear hFg hbg HSm HPf HGf HBf HRf k0 k1 l0 l1
        go_wp2_with fail
        refine (sLast_any HPg.out.s).mono ?_
        rintro e _ ⟨rfl, rfl⟩
        go_wp2_with fail
        refine (yLast_any HPg.out.y).mono ?_
        rintro e _ ⟨rfl, rfl⟩
        by_cases h30 : i < 30
        · have h30' : (i : Int) < 30 := by omega
          have HC7 : Hid _ := HPg.out.txn xn xo Mx xc wr.heap.size (wtsC xws) HRg.out hswb hM32 (fun k hk => HOl.out k (owns_cells HRg.out hk).1) (by omega)
          go_wp2_with fail
          refine Calls.mono HC7.out ?_
          rintro e wh ⟨rfl, rW3, hW3, hPh, Sh, hFh, hSh⟩
          have HPh : Hid (Pr6 w4 w5 wb wh g lb g2 L lc lo ds us v' v2' qs' qs' bj (T + 1) rI rW3 hI hW3) := hPh
          have HGh : Hid (Fr [] w wh) := HGg.out.on hFh (fun k hk => by have := hSh k hk; have := HFb.out.size; omega)
          obtain ⟨Q, HQ⟩ : ∃ Q, Hid (Q = qs'.length) := ⟨_, rfl⟩
          have hQ : Q ≤ i + 1 := by rw [HQ.out]; exact hq'
          have hsh : wb.heap.size ≤ wh.heap.size := by have := HPh.out.b.bn; obtain ⟨_, h1, _⟩ := HPh.out.b.box; have := lt_of_block h1.box; omega
          clear hPh hFh hSh HC7 HPg HGg HRg m0 m1
          go_wp2_with fail
          refine (asn_any HPh.out.s (by omega) Q HQ.out).mono ?_
          rintro e wi ⟨bo, rfl, hri, hFi⟩
          have HPi : Hid (Pr6 w4 w5 wb wi g lb g2 L lc lo ds us v' v2' qs' qs' bj (T + 1) rI rW3 hI hW3) := HPh.out.keep hFi
          have HGi : Hid (Fr [] w wi) := HGh.out.then hFi
          have HC8 : Hid _ := HPi.out.nums bo Q Q wh.heap.size (ints qs') hri hsh (by omega) (fun k hk => ⟨(HPh.out.old k hk).1, (HPh.out.old k hk).2.1, (HPh.out.old k hk).2.2.1⟩) (by omega)
          clear hri hFi HPh HGh
          go_wp2_with fail
          refine Calls.mono HC8.out ?_
          rintro e wm ⟨rfl, rI3, hI3, hPm, Sm, hFm, hSm⟩
          have HPm : Hid (Pr6 w4 w5 wb wm g lb g2 L lc lo ds us v' v2' qs' qs' bj (T + 1 + 1) rI3 rW3 hI3 hW3) := hPm
          have HGm : Hid (Fr [] w wm) := HGi.out.on hFm (fun k hk => by have := hSm k hk; have := HFb.out.size; omega)
          clear hPm hFm hSm HC8 HPi HGi
          go_wp2
          go_roundw
          case rel => exact ⟨i + 1, T + 1 + 1, v', v2', qs', rI3, rW3, hI3, hW3, by simp, by omega, by omega, by omega, HPm, HGm⟩
          case measure => simp [RowKit.intOf]; omega
        · have h30' : ¬ (i : Int) < 30 := by omega
          clear HRg m0 m1
          go_wp2
          go_roundw
          case rel => exact ⟨i + 1, T, v', v2', qs', rI, rW2, hI, hW, by simp, by omega, by omega, by omega, HPg, HGg⟩
          case measure => simp [RowKit.intOf]; omega
      · obtain rfl : i = M := by omega
        obtain ⟨a2, ca2, e2⟩ := own_shapeB HP.out.y.row
        subst e2
        have hFz : Fr [] wr (wr.alloc (.cells #[.bool false, .slice none 0 0, .slice none 0 0] 72)) := Fr.alloc _ _ _
        have hNz : NoS (.pointer (some ⟨wr.heap.size, 0, none⟩)) (wr.alloc (.cells #[.bool false, .slice none 0 0, .slice none 0 0] 72)) := Or.inr ⟨_, rfl, heap_alloc_new _ _⟩
        obtain ⟨Q, HQ⟩ : ∃ Q, Hid (Q = qs.length) := ⟨_, rfl⟩
        rw [← HQ.out] at HP
        have hQ : Q ≤ i := by rw [HQ.out]; exact hqi
        obtain ⟨wz, HWz⟩ : ∃ wz, Hid (wr.alloc (.cells #[.bool false, .slice none 0 0, .slice none 0 0] 72) = wz) := ⟨_, rfl⟩
        rw [HWz.out] at hFz hNz
        obtain ⟨bz, HBz⟩ : ∃ bz, Hid (wr.heap.size = bz) := ⟨_, rfl⟩
        rw [HBz.out] at hNz
        have HPz : Hid (Pr6 w4 w5 wb wz g lb g2 L lc lo ds us v (.slice a2 Q ca2) qs qs bj T rI rW2 hI hW) := HP.out.keep hFz
        have HGz : Hid (Fr [] w wz) := HFr.out.then hFz
        have HNz : Hid (NoS (.pointer (some ⟨bz, 0, none⟩)) wz) := hNz
        clear hFz hNz HP HFr
        go_upto_region 24 with fail
        rw [HWz.out, HBz.out]
        clear HWz
        go_wp2_with fail
        refine (sGet_none HNz.out 1).mono ?_
        rintro e wo ⟨rfl, hFo⟩
        have hFp : Fr [] wo (wo.alloc (.cells #[.int .i64 0, .slice none 0 0] 63)) := Fr.alloc _ _ _
        obtain ⟨wp, HWp⟩ : ∃ wp, Hid (wo.alloc (.cells #[.int .i64 0, .slice none 0 0] 63) = wp) := ⟨_, rfl⟩
        rw [HWp.out] at hFp
        have hFq := hFo.then hFp
        have HPp : Hid (Pr6 w4 w5 wb wp g lb g2 L lc lo ds us v (.slice a2 Q ca2) qs qs bj T rI rW2 hI hW) := HPz.out.keep hFq
        have HGp : Hid (Fr [] w wp) := HGz.out.then hFq
        have HNp : Hid (NoS (.pointer (some ⟨bz, 0, none⟩)) wp) := HNz.out.keep hFq
        have HC9 : Hid _ := HPp.out.apart HSb.out HYb.out HTbb.out (HTb.out.keep HGp.out (by simp))
        clear hFo hFp hFq HPz HGz HNz
        go_upto_region 25 with fail
        rw [HWp.out]
        clear HWp
        go_wp2_with fail
        refine Calls.mono HC9.out ?_
        rintro e wq ⟨rfl, hSq, hYq, hNq, Sq, hFq, hSqq⟩
        have HSq : Hid (Src w4 wq g lb L ds v qs) := hSq
        have HYq : Hid (YSrc w5 wq g2 L lo lc us (.slice a2 Q ca2) qs) := hYq
        have HNq : Hid (NoS (.pointer (some ⟨bz, 0, none⟩)) wq) := hNq _ HNp.out
        have HGq : Hid (Fr [] w wq) := HGp.out.on hFq (fun k hk => by have := hSqq k hk; have := HFb.out.size; omega)
        clear hSq hYq hNq hFq hSqq HC9 HPp HGp HNp
        go_wp2_with fail
        refine (asked_any HSq.out (by rw [← HQ.out]; omega) Q HQ.out).mono ?_
        rintro e ws ⟨bo, rfl, hIs, hFs⟩
        have HYs := HYq.out.keep hFs
        have hI2 : Is ws a2 qs := Is.of_own (n := Q) (cap := ca2) (by have := HYs.row; rw [← HQ.out] at this; exact this) HQ.out
        go_wp2_with fail
        refine (yAsked_any HYs).mono ?_
        rintro e _ ⟨rfl, rfl⟩
        go_wp2_with fail
        refine (sameInts_any bo a2 Q Q ca2 qs ws hIs hI2 HQ.out (by omega)).mono ?_
        rintro e wt ⟨rfl, q, HWt⟩
        have hFt : Fr [] wq wt := hFs.then (by rw [HWt]; exact Fr.drewN _ _ _)
        have HSt : Hid (Src w4 wt g lb L ds v qs) := HSq.out.keep hFt
        have HYt : Hid (YSrc w5 wt g2 L lo lc us (.slice a2 Q ca2) qs) := HYq.out.keep hFt
        have HNt : Hid (NoS (.pointer (some ⟨bz, 0, none⟩)) wt) := HNq.out.keep hFt
        have HGt : Hid (Fr [] w wt) := HGq.out.then hFt
        clear HWt hFt hFs hIs hI2 HYs HSq HYq HNq HGq
        go_wp2_with fail
        refine (sLast_any HSt.out).mono ?_
        rintro e _ ⟨rfl, rfl⟩
        go_wp2_with fail
        refine (yLast_any HYt.out).mono ?_
        rintro e _ ⟨rfl, rfl⟩
        go_wp2_with fail
        refine (sLast_no HNt.out).mono ?_
        rintro e _ ⟨rfl, rfl⟩
        go_wp2_with fail
        refine (sAsked_no HNt.out).mono ?_
        rintro e _ ⟨rfl, rfl⟩
        go_wp2
        go_ret
        exact ⟨rfl, HGt.out⟩
end Go.Proofs.YtaefninikmaiiaaGreatDoor

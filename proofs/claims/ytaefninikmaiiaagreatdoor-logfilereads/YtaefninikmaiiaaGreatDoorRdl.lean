/- The walk of the law LogfileReads. Conditions: how its argument lies in memory; the table of powers of ten reads as the library lays it. -/
import Derived.Test.YtaefninikmaiiaaGreatDoorLw6
import Derived.Test.YtaefninikmaiiaaGreatDoorRefR
import Derived.Test.YtaefninikmaiiaaGreatDoorSame6
namespace Go.Proofs.YtaefninikmaiiaaGreatDoor
open BigFrame Go.ChangeShapes Go.WideShapes Go.ChangeAt Go.RowKit Go.Lib
set_option linter.unusedVariables false
set_option linter.unusedSimpArgs false

theorem bytes_own {w : World} {t L : Nat} {xs : List Nat} (h : w.heap[t]? = some (.cells (bts (xs ++ [77])).toArray 5 (0, 0))) (hL : L = xs.length) (hm : L < 2^40) : w.ownsRow 0 5 1 (.slice (some ⟨t, 0, none⟩) L (L + 1)) L (bts xs) := by
  refine ⟨by rw [bts_length]; omega, .inr ⟨t, L + 1, (bts (xs ++ [77])).toArray, rfl, Nat.zero_le _, h, by omega, by simp only [maxLen]; omega, by simp [bts_length]; omega, ?_⟩⟩
  simp only [bts_append, Nat.mul_one]
  rw [List.take_append_of_le_length (by rw [bts_length]; omega), List.take_of_length_le (by rw [bts_length]; omega)]
theorem bytes_arg {w : World} {t L : Nat} {xs : List Nat} (h : w.heap[t]? = some (.cells (bts (xs ++ [77])).toArray 5 (0, 0))) (hL : L = xs.length) (hl : ∀ x ∈ xs, x < 256) (hm : L < 2^40) : BArg w (some ⟨t, 0, none⟩) L (L + 1) xs := by
  refine ⟨hL, hl, by omega, by omega, fun h0 => ⟨t, 0, rfl, lt_of_block h, fun j hj => ?_⟩⟩
  have h1 := bytes_own h hL hm
  rw [Nat.zero_add, h1.cellAt j (by omega), bts_get xs j (by omega)]
/-- What Read handed out, as a Book sees it. -/
theorem tout_dts {w w' W : World} {ro : Option Addr} {N rc : Nat} {ds : List Tm} (h : TOut w w' (.slice ro N rc) ds) (hf : Fr [] w' W) (hN : N = ds.length) (hNs : N < 1048577) : Bq.Dts W ro N rc (dts ds) := by
  have hrow : W.ownsRow 0 63 2 (.slice ro N rc) N (tmsC ds) := by
    have := owns_keep h.row hf (by simp)
    rw [← hN] at this
    exact this
  refine ⟨by rw [dtC_dts]; exact hrow, by simp [dts, hN], hNs, ?_, ?_⟩
  · intro i d hd
    obtain ⟨u, hu, rfl⟩ := dts_get hd
    obtain ⟨k, e1, e2, e3, hk, hr, hok⟩ := h.each u (List.mem_of_getElem? hu)
    have hr' := hf.keep hr (by simp)
    have hl := hok.2.2.1
    refine ⟨u.L, wtsC u.ws, ?_, by omega⟩
    simp only
    rw [e1, e2]
    refine ⟨by rw [wtsC_length, e3], .inr ⟨k, u.L, (wtsC u.ws).toArray, rfl, Nat.zero_le _, hr', Nat.le_refl _, by simp only [maxLen]; omega, by simp [wtsC_length]; omega, ?_⟩⟩
    rw [List.take_of_length_le (by rw [wtsC_length]; omega)]
  · intro i j a c ha hc hij k hk1 hk2
    obtain ⟨u, hu, rfl⟩ := dts_get ha
    obtain ⟨v, hv, rfl⟩ := dts_get hc
    obtain ⟨ku, e1, _⟩ := h.each u (List.mem_of_getElem? hu)
    obtain ⟨kv, e2, _⟩ := h.each v (List.mem_of_getElem? hv)
    simp only at hk1 hk2
    rw [e1] at hk1
    rw [e2] at hk2
    simp [Value.ownBlock] at hk1 hk2
    subst hk1
    have hne : u.ao ≠ v.ao := by
      have hiu := (List.getElem?_eq_some_iff.1 hu)
      have hjv := (List.getElem?_eq_some_iff.1 hv)
      have hp := List.pairwise_iff_getElem.1 h.pw
      by_cases hlt : i < j
      · have := hp i j hiu.1 hjv.1 hlt
        rw [hiu.2, hjv.2] at this
        exact this
      · have := hp j i hjv.1 hiu.1 (by omega)
        rw [hiu.2, hjv.2] at this
        exact fun e => this e.symm
    rw [e1, e2, hk2] at hne
    exact hne rfl
theorem lbs_tout {w w' : World} {v : Value} {ds : List Tm} (h : TOut w w' v ds) {T k : Nat} (hk : k ∈ Bq.lbs (Bq.held T (dts ds))) : w.heap.size ≤ k := by
  obtain ⟨i, d, hd, hk1⟩ := Bq.mem_held hk
  obtain ⟨u, hu, rfl⟩ := dts_get hd
  obtain ⟨ku, e1, _, _, h1, _⟩ := h.each u (List.mem_of_getElem? hu)
  simp only at hk1
  rw [e1] at hk1
  simp [Value.ownBlock] at hk1
  omega

set_option maxHeartbeats 8000000 in
set_option maxRecDepth 100000 in
theorem rdl (ao : Option Addr) (L cap : Nat) (xs : List Nat) (w : World) (hA : BArg w ao L cap xs) (htab : Bq.Tab w) :
    Calls Tryz.prog 4 #[.slice ao L cap] w fun e w' => e = .returned (.bool true) ∧ Fr [] w w' := by
  have HL : Hid (L = xs.length) := hA.len
  have HTb : Hid (Bq.Tab w) := htab
  have HI : Hid (∀ W, Fr [] w W → BArg W ao L cap xs) := fun W hf => hA.keep hf
  have hmost := hA.most
  have hF2 : Fr [] w (w.alloc (.cells #[.int .i64 (L : Int)] 3)) := Fr.alloc _ _ _
  obtain ⟨w2, HW2⟩ : ∃ w2, Hid (w.alloc (.cells #[.int .i64 (L : Int)] 3) = w2) := ⟨_, rfl⟩
  rw [HW2.out] at hF2
  go_enter Tryz.func4, Tryz.ntmps4
  go_wp2_with fail
  refine (beyond_any w.heap.size L _ hmost (by simp)).mono ?_
  rintro e w2' ⟨rfl, rfl⟩
  rw [HW2.out]
  by_cases hbig : 1048576 < L
  · have hbd : decide (1048576 < L) = true := by simpa using hbig
    rw [hbd]
    go_wp2
    go_ret
    exact ⟨rfl, hF2⟩
  · have hbd : decide (1048576 < L) = false := by simpa using hbig
    rw [hbd]
    have hLs : L < 1048577 := by omega
    have hlow := hA.low
    obtain ⟨ls, vs, c, hRd⟩ := Rds.ex xs.length 1 xs (Nat.le_refl _) hlow
    obtain ⟨hx1, hx2, _⟩ := Rds.inv hlow hRd
    have hxl := congrArg List.length hx1
    rw [List.length_append] at hxl
    have hle := (encL_length (okL_mem hx2)).1
    have HRd : Hid (Rds 1 xs ls vs c) := hRd
    obtain ⟨N, HN⟩ : ∃ N, Hid (N = ls.length) := ⟨_, rfl⟩
    obtain ⟨G, HG⟩ : ∃ G, Hid (G + vs.length = xs.length) := ⟨(encL ls).length, hxl.symm⟩
    have hNs : N < 1048577 := by have := HN.out; have := HL.out; omega
    clear hRd hx1 hx2 hxl hle hbig hbd
    go_wp2_with fail
    refine (twin_any ao L cap xs _ (HI.out _ hF2) (by omega)).mono ?_
    rintro e w4 ⟨t, rfl, ht, hrow4, hF4⟩
    have hG4 := hF2.then hF4
    have HG04 : Hid (Fr [] w w4) := hG4
    have hwt : w.heap.size ≤ t := by have := hF2.size; omega
    have htl : t < w4.heap.size := lt_of_block hrow4
    have HRow : Hid (∀ W, Fr [] w4 W → W.heap[t]? = some (.cells (bts (xs ++ [77])).toArray 5 (0, 0))) := fun W hf => hf.keep hrow4 (by simp)
    have HI4 : Hid (∀ W, Fr [] w4 W → BArg W ao L cap xs) := fun W hf => HI.out W (hG4.then hf)
    have hlx : xs.length < 2^40 := by rw [← HL.out]; omega
    clear hrow4 hF4 hF2 hG4 HI ht hA
    go_wp2_with fail
    refine (lread_any (some ⟨t, 0, none⟩) L (L + 1) c xs vs ls _ (bytes_arg (HRow.out _ (Fr.refl _ _)) HL.out hlow (by omega)) hlx HRd.out N G HN.out HG.out).mono ?_
    rintro e w5 ⟨ro, rc, rfl, ds, hds, hTO, hF5⟩
    go_wp2_with fail
    refine (yRead_any ao L cap c xs vs ls _ ((HI4.out _ hF5).rs (by omega)) hlow HL.out (HI4.out _ hF5).fits (by omega) HRd.out N G HN.out HG.out).mono ?_
    rintro e w8 ⟨po, pc, rfl, us, hus, hTU, hNu, hF8⟩
    have hG8 := hF5.then hF8
    have hdl : N = ds.length := by rw [HN.out, ← hds, txs_length]
    have HDl : Hid (N = ds.length) := hdl
    have hTD : TRs w8 ro ds := (hTO.trs (by rw [← hdl]; omega)).keep hF8
    have HTO : Hid (TOut w4 w5 (.slice ro N rc) ds) := hTO
    have HS : Hid _ := sameTxns_any ro po N N rc pc true ds us w8 hTD hTU hdl hNu (by simp [hds, hus])
    have HF8 : Hid (Fr [] w5 w8) := hF8
    have HR : Hid (Fr [] w4 w8) := hG8
    have hcc : ((c : Int) != c) = false := by simp
    have hGG : ((G : Int) != G) = false := by simp
    clear hTO hTD hTU hNu hds hus hF5 hF8 hG8 hdl
    go_wp2_with fail
    refine Calls.mono HS.out ?_
    rintro e x1 ⟨rfl, hf1⟩
    have HLf : Hid _ := leftBytes_any t ao L cap xs x1 (HI4.out _ (HR.out.then hf1)) (by omega) (HRow.out _ (HR.out.then hf1))
    clear HS
    go_wp2_with fail
    refine Calls.mono HLf.out ?_
    rintro e w9 ⟨rfl, qq, hw9⟩
    have hG9 : Fr [] w8 w9 := hf1.then (by rw [hw9]; exact Fr.drewN _ _ _)
    have HG9 : Hid (Fr [] w8 w9) := hG9
    obtain ⟨bk, HBk⟩ : ∃ bk, Hid (bk = w9.heap.size) := ⟨_, rfl⟩
    obtain ⟨wl, HWl⟩ : ∃ wl, Hid (wl = w9.alloc (Obj.cells #[.int .i64 0, .slice none 0 0, .slice none 0 0, .slice none 0 0, .slice none 0 0, .slice none 0 0, .slice none 0 0, .slice none 0 0, .slice none 0 0, .slice none 0 0, .slice none 0 0, .slice none 0 0] 45)) := ⟨_, rfl⟩
    clear hG9 hw9 HLf hf1
    go_upto_region 9 with fail
    rw [← HWl.out, ← HBk.out]
    have HFl : Hid (Fr [] w9 wl) := by rw [HWl.out]; exact Fr.alloc _ _ _
    have hBl : wl.heap[bk]? = some (.cells Bq.newBk 45 (0, 0)) := by rw [HWl.out, HBk.out]; exact heap_alloc_new w9 _
    have HG8l : Hid (Fr [] w8 wl) := HG9.out.then HFl.out
    have hbk1 : w8.heap.size ≤ bk := by rw [HBk.out]; exact HG9.out.size
    have hs8 : w4.heap.size ≤ w8.heap.size := HR.out.size
    have hs4 : w.heap.size ≤ w4.heap.size := HG04.out.size
    have HB0 : Hid (Bq.B4 w wl bk 0 (.slice none 0 0) (.slice none 0 0) (.slice none 0 0) (.slice none 0 0) [] [] [] []) := Bq.B4.new hBl (by omega)
    have HG4l : Hid (Fr [] w4 wl) := HR.out.then HG8l.out
    have HO1 : Hid (wl.ownsRow 0 5 1 (.slice (some ⟨t, 0, none⟩) L (L + 1)) L (bts xs)) := bytes_own (HRow.out _ HG4l.out) HL.out (by omega)
    have HC1 : Hid _ := Bq.bytes_any HB0.out (some ⟨t, 0, none⟩) L (L + 1) ⟨L, bts xs, HO1.out, by omega⟩ (fun k hk hm => by simp [Bq.lbs] at hm) (by omega)
    clear hBl
    go_wp2_with fail
    refine Calls.mono HC1.out ?_
    rintro e wa ⟨rfl, rB, hBa, hFa, hMa⟩
    have HBa : Hid (Bq.B4 w wa bk (0 + 1) rB (.slice none 0 0) (.slice none 0 0) (.slice none 0 0) ([] ++ [⟨.slice (some ⟨t, 0, none⟩) L (L + 1), .slice none 0 0, 0 + 1⟩]) [] [] []) := hBa
    have HFa : Hid (Fr [bk] wl wa) := hFa
    have HD0 : Hid (Bq.Dts wl ro N rc (dts ds)) := tout_dts HTO.out (HF8.out.then HG8l.out) HDl.out hNs
    have HDa : Hid (Bq.Dts wa ro N rc (dts ds)) := HD0.out.keep HFa.out (fun k hk => by have := (HD0.out.row.lt k hk).2; have h2 := Bq.own_type HD0.out.row k hk; simp; rintro rfl; obtain ⟨cs, hc⟩ := h2; obtain ⟨cs', hX, _⟩ := HB0.out.box; rw [hX.box] at hc; simp at hc)
      (fun i d hd k hk => by obtain ⟨n, vs', h1, _⟩ := HD0.out.each i d hd; obtain ⟨cs, hc⟩ := Bq.own_type h1 k hk; simp; rintro rfl; obtain ⟨cs', hX, _⟩ := HB0.out.box; rw [hX.box] at hc; simp at hc)
    have HC2 : Hid _ := Bq.txns_any HBa.out ro N rc _ HDa.out (fun i d hd k hk hm => by simp [Bq.lbs] at hm) (fun k hk hm => by simp [Bq.lbs] at hm) (by omega)
    clear hBa hFa hMa HC1 HB0 HD0
    go_wp2_with fail
    refine Calls.mono HC2.out ?_
    rintro e wc ⟨rfl, rW, rT, hBc, hFc, _, _⟩
    have hGc : Fr [] w wc := by
      refine ((HG04.out.then HG4l.out).on HFa.out (by intro x hx; simp at hx; omega)).on hFc ?_
      intro x hx
      simp [Value.ownBlock] at hx
      omega
    have HC4 : Hid _ := hBc.apart (by
        intro k hk
        obtain ⟨h, hh, hk1⟩ := Bq.mem_lbs.1 hk
        simp at hh
        subst hh
        simp [Value.ownBlock] at hk1
        omega) (by intro k hk; simp [Bq.lbs] at hk) (by
        intro k hk
        rw [List.nil_append] at hk
        have := lbs_tout HTO.out hk
        omega) (by
        intro k hk
        obtain ⟨h, hh, hk1⟩ := Bq.mem_lbs.1 hk
        simp at hh
        subst hh
        have := HTO.out.new k hk1
        omega) HTb.out hGc
    clear hBc hFc HC2 HBa hGc
    go_wp2_with fail
    refine Calls.mono HC4.out ?_
    rintro e wd ⟨rfl, hFd⟩
    clear HC4
    go_wp2
    go_ret
    exact ⟨rfl, hFd⟩
end Go.Proofs.YtaefninikmaiiaaGreatDoor

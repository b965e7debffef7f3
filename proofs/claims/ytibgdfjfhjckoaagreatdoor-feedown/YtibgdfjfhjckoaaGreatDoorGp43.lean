/- Texts of this claim laid together, one behind the other: contracts and plain lemmas; conditions as each names them. -/
import Derived.Test.YtibgdfjfhjckoaaGreatDoorGp41
import Derived.Test.YtibgdfjfhjckoaaGreatDoorGp42
/- The walk of the law FeedOwn. Conditions: how its arguments lie in memory; the table of powers of ten reads as the library lays it. -/
namespace Go.Proofs.YtibgdfjfhjckoaaGreatDoor
open Go.ChangeShapes Go.WideShapes Go.ChangeAt Go.RowKit Go.Lib Go.Maps
set_option linter.unusedVariables false
set_option linter.unusedSimpArgs false

/-- A Book alone, between two feeds. -/
structure Pb (wl w : World) (bk T : Nat) : Prop where
  b : ∃ rW hW, Bq.B4 wl w bk T (.slice none 0 0) (.slice none 0 0) rW (.slice none 0 0) [] [] hW [] ∧ ∀ k ∈ Bq.lbs hW, wl.heap.size ≤ k
  fr : Fr [] wl w
theorem Pb.keep {wl w w' : World} {bk T : Nat} (h : Pb wl w bk T) (hf : Fr [] w w') : Pb wl w' bk T := by
  obtain ⟨⟨rW, hW, h1, h2⟩, h3⟩ := h
  exact ⟨⟨rW, hW, h1.keep hf, h2⟩, h3.then hf⟩
/-- What stands between two rounds of the inner loop. -/
def Pi (wl w : World) (bk T f L : Nat) (X : List Tx) (n : Nat) : Prop := ∃ w0 rW hW g lb ds v qs mb hw, Pz wl w0 w bk T rW hW f g lb L ds v qs mb ⟨n, L, 64, false, false⟩ hw ∧ txs ds = X ∧ qs.length ≤ n
theorem Pi.keep {wl w w' : World} {bk T f L : Nat} {X : List Tx} {n : Nat} (h : Pi wl w bk T f L X n) (hf : Fr [] w w') : Pi wl w' bk T f L X n := by
  obtain ⟨w0, rW, hW, g, lb, ds, v, qs, mb, hw, h, hx, hq⟩ := h
  exact ⟨w0, rW, hW, g, lb, ds, v, qs, mb, hw, h.keep hf, hx, hq⟩
/-- A record is read, handed on. -/
structure Pt (wl w : World) (bk T f L : Nat) (X : List Tx) (n k M : Nat) : Prop where
  i : ∃ w0 rW hW g lb ds v qs mb hw, Pz wl w0 w bk T rW hW f g lb L ds v qs mb ⟨n + 1, L, 64, false, false⟩ hw ∧ txs ds = X ∧ qs.length ≤ n + 1 ∧ k ∉ Bq.lbs hW
  row : w.heap[k]? = some (.cells (wtsC (X.getD n Tx.zero).ws).toArray 81 (0, 0))
  len : M = (X.getD n Tx.zero).ws.length
  few : M ≤ 32
  new : wl.heap.size ≤ k
  ok : okT ((n : Int) + 1) (X.getD n Tx.zero).ws
theorem Pt.keep {wl w w' : World} {bk T f L : Nat} {X : List Tx} {n k M : Nat} (h : Pt wl w bk T f L X n k M) (hf : Fr [] w w') : Pt wl w' bk T f L X n k M := by
  obtain ⟨⟨w0, rW, hW, g, lb, ds, v, qs, mb, hw, h1, hx, hq, hk⟩, h2, h3, h4, h5, h6⟩ := h
  exact ⟨⟨w0, rW, hW, g, lb, ds, v, qs, mb, hw, h1.keep hf, hx, hq, hk⟩, hf.keep h2 (by simp), h3, h4, h5, h6⟩
theorem Pt.wrs {wl w : World} {bk T f L : Nat} {X : List Tx} {n k M : Nat} (h : Pt wl w bk T f L X n k M) : WRs w (some ⟨k, 0, none⟩) (X.getD n Tx.zero).ws := WRs.of_ok h.ok h.row
theorem pt_txn {wl w : World} {bk T f L : Nat} {X : List Tx} {n k M : Nat} (h : Pt wl w bk T f L X n k M) (hT : T < 1000) (x : Int) : Calls Tryz.prog 11 #[.pointer (some ⟨bk, 0, none⟩), .agg #[.int .i64 x, .slice (some ⟨k, 0, none⟩) M M]] w fun e w' => e = .returned (.tuple #[]) ∧ Hid (Pi wl w' bk (T + 1) f L X (n + 1)) := by
  obtain ⟨⟨w0, rW, hW, g, lb, ds, v, qs, mb, hw, h1, hx, hq, hk⟩, h2, h3, h4, h5, h6⟩ := h
  refine Calls.mono (h1.txn x k M _ h2 h3 h4 hk h5 hT) ?_
  rintro e w' ⟨he, rW', hW', h7⟩
  exact ⟨he, w0, rW', hW', g, lb, ds, v, qs, mb, hw, h7.out, hx, hq⟩
/-- Read, then Dispatch at the number ahead. -/
theorem pi_read {wl w : World} {bk T f L : Nat} {X : List Tx} {n : Nat} (h : Pi wl w bk T f L X n) (hn : n < L) (hn4 : n < 40) : Calls Tryz.prog 8 #[.pointer (some ⟨f, 0, none⟩)] w fun e w' => e = .returned (.tuple #[.int .i64 ((n : Int) + 1), .int .i64 0]) ∧
    Hid (∀ w2, Fr [] w' w2 → Calls Tryz.prog 9 #[.pointer (some ⟨f, 0, none⟩), .int .i64 (n : Int)] w2 fun e2 w3 => ∃ k M, e2 = .returned (.tuple #[.agg #[.int .i64 ((n : Int) + 1), .slice (some ⟨k, 0, none⟩) M M], .int .i64 0]) ∧ Hid (Pt wl w3 bk T f L X n k M)) := by
  obtain ⟨w0, rW, hW, g, lb, ds, v, qs, mb, hw, h, hx, hq⟩ := h
  have hcr : Fe.readC ⟨n, L, 64, false, false⟩ = 0 := by simp [Fe.readC]; omega
  refine Calls.mono (fRead_any h.fd (by omega)) ?_
  rintro e w1 ⟨he, hr⟩
  rcases hr with ⟨h0, _⟩ | ⟨_, v', hw', hD, hF, hM, kk, nn, ehw, hkk⟩
  · exact absurd hcr h0
  have hP1 := h.feed hD hF (by intro k hk; rcases List.mem_cons.1 hk with rfl | hk; exact Or.inl rfl; exact Or.inr hk)
  rw [show Fe.readS ⟨n, L, 64, false, false⟩ = ⟨n + 1, L, 64, true, false⟩ from by simp [Fe.readS, hcr]] at hP1 hD
  refine ⟨by rw [he, hcr]; simp [Fe.readN, hcr], fun w2 hf2 => ?_⟩
  have hP2 := hP1.keep hf2
  obtain ⟨_, k, e1, hrow, hkn⟩ := hP2.fd.held rfl
  simp only [Nat.add_sub_cancel] at e1 hrow
  rw [ehw] at e1
  have hkk2 : kk = k := by
    simp only [Value.slice.injEq, Option.some.injEq, Addr.mk.injEq] at e1
    exact e1.1.1
  have hlen := h.fd.src.len
  obtain ⟨_, _, _, eL, _, _, hok⟩ := h.fd.src.each _ (tgetD_mem ds n (by omega))
  have hX : (X.getD n Tx.zero).ws = (ds.getD n Tm.zero).ws := by rw [← hx, txs_getD]; rfl
  have hnum : (ds.getD n Tm.zero).n = ((n + 1 : Nat) : Int) := h.fd.numOf (n + 1) (by omega) (by omega)
  have hcd : Fe.disC ⟨n + 1, L, 64, true, false⟩ [] (n : Int) = 0 := by
    have hnr : Fe.near ⟨n + 1, L, 64, true, false⟩ (n : Int) = true := by simp only [Fe.near, decide_eq_true_iff]; omega
    simp [Fe.disC, hnr]
  refine Calls.mono (fDis_any hP2.fd (n : Int)) ?_
  rintro e2 w3 ⟨he2, hD3, hF3⟩
  rw [show disV ⟨n + 1, L, 64, true, false⟩ [] (n : Int) hw' = .agg #[.int .i64 ((n + 1 : Nat) : Int), .slice (some ⟨k, 0, none⟩) (ds.getD n Tm.zero).L (ds.getD n Tm.zero).L] from by simp [disV, hcd, ehw, e1], hcd] at he2
  rw [show Fe.disS ⟨n + 1, L, 64, true, false⟩ [] (n : Int) = ⟨n + 1, L, 64, false, false⟩ from by simp [Fe.disS, hcd]] at hD3
  have hP3 := hP2.feed hD3 hF3 (by intro j hj; simp at hj; exact Or.inl hj)
  have hka := hF3.keep hrow (by
    intro hm
    simp only [List.mem_singleton] at hm
    subst hm
    rw [hP2.fd.box] at hrow
    simp at hrow)
  rw [hnum] at hok
  refine ⟨k, (ds.getD n Tm.zero).L, by rw [he2]; simp, ⟨⟨w0, rW, hW, g, lb, ds, v', _, mb, _, hP3, hx, ?_, ?_⟩, by rw [hX]; exact hka, by rw [hX]; exact eL, ?_, ?_, ?_⟩⟩
  · simp
    omega
  · intro hm
    obtain ⟨cs, hc⟩ := lbsW16 h.b hm
    have := lt_of_block hc
    omega
  · rw [eL]; exact hok.2.2.1
  · have := h.fr.size; omega
  · rw [hX]
    have e9 : ((n : Int) + 1) = ((n + 1 : Nat) : Int) := by omega
    rw [e9]; exact hok
set_option maxHeartbeats 16000000 in
set_option maxRecDepth 100000 in
theorem fow (ao : Option Addr) (L cap : Nat) (ts : List Tm) (w : World) (hT : TRs w ao ts) (hL : L = ts.length) (htab : Bq.Tab w) :
    Calls Tryz.prog 3 #[.slice ao L cap] w fun e w' => e = .returned (.bool true) ∧ Fr [] w w' := by
  have HT : Hid (∀ W, Fr [] w W → TRs W ao ts) := fun W hf => hT.keep hf
  have HL : Hid (L = ts.length) := hL
  have HTb : Hid (Bq.Tab w) := htab
  obtain ⟨bk, HBk⟩ : ∃ bk, Hid (bk = w.heap.size) := ⟨_, rfl⟩
  obtain ⟨wb, HWb⟩ : ∃ wb, Hid (wb = w.alloc (.cells Bq.newBk 35)) := ⟨_, rfl⟩
  have hFb : Fr [] w wb := by rw [HWb.out]; exact Fr.alloc _ _ _
  have hBb : wb.heap[bk]? = some (.cells Bq.newBk 35 (0, 0)) := by rw [HWb.out, HBk.out]; exact heap_alloc_new w _
  have HPb0 : Hid (Pb w wb bk 0) := ⟨⟨_, [], Bq.B4.new hBb (by rw [HBk.out]; exact Nat.le_refl _), fun k hk => by simp [Bq.lbs] at hk⟩, hFb⟩
  obtain ⟨c, hbad⟩ := Bad.ex (txs ts) 1
  have HBD : Hid (Bad 1 (txs ts) c) := hbad
  have hLt : L ≤ 140737488355328 := by rw [hL]; exact hT.few
  unfold Bq.newBk at HWb
  clear hT hL htab hFb hBb
  go_enter Tryz.func3, Tryz.ntmps3
  go_upto_region 2 with fail
  rw [← HWb.out, ← HBk.out]
  clear HWb HBk
  go_wp2_with fail
  go_loopw [4] (fun ii wr => ∃ i : Nat, ii = .int .i64 i ∧ i ≤ 2 ∧ Hid (∃ T, T ≤ 40 * i ∧ Pb w wr bk T)) (fun ii _ => 2 - (RowKit.intOf ii).toNat)
  case atStart => exact ⟨0, rfl, by omega, ⟨0, by omega, HPb0.out⟩⟩
  case round =>
    clear HPb0
    obtain ⟨i, rfl, hi2, HP⟩ := hrel
    by_cases hi : i < 2
    · obtain ⟨T, hT40, hPb⟩ := HP.out
      have HPb : Hid (Pb w wr bk T) := hPb
      clear hPb HP
      by_cases hc0 : c = 0
      · subst hc0
        have hok := (Bad.ok hbad).1 rfl
        have HOK : Hid (okL 1 (txs ts)) := hok
        have hL16 : L ≤ 65536 := by have := okL_few hok; rw [txs_length] at this; have := HL.out; omega
        clear hok
        have HC : Hid (Calls _ _ _ _ _) := new_ok ao L cap ts wr (HT.out _ HPb.out.fr) HL.out HOK.out
        go_wp2_with fail
        refine Calls.mono HC.out ?_
        rintro e w1 ⟨g, lb, ds, rfl, hS1, hds, hF1⟩
        have HPb1 : Hid (Pb w w1 bk T) := HPb.out.keep hF1
        have HDs : Hid (txs ds = txs ts) := hds
        have hokd : okL 1 (txs ds) := by rw [hds]; exact HOK.out
        have HN : Hid (Calls _ _ _ _ _) := fNew_ok 0 none 0 0 [] 64 hS1 hokd ⟨fun h => by simp at h, by simp⟩ rfl (by simp) ⟨by omega, by omega⟩ (by
          have hm : MayB 0 [] := ⟨fun j hj => by simp at hj, fun h => by simp at h⟩
          simp [newC, hm, grB])
        have HSz : Hid (w.heap.size ≤ wr.heap.size) := HPb.out.fr.size
        clear HC hS1 hds hF1 hokd HPb
        go_wp2_with fail
        refine Calls.mono HN.out ?_
        rintro e w2 ⟨f, mb, rfl, hD2, hF2⟩
        obtain ⟨⟨rW, hW, hB2, hlw2⟩, hfr2⟩ := HPb1.out.keep hF2
        have HPz : Hid (Pz w wr w2 bk T rW hW f g lb L ds (.slice none 0 0) [] mb ⟨0, 0, 64, false, false⟩ (.slice none 0 0)) := ⟨hD2, hB2, hlw2, HSz.out, hfr2⟩
        clear HN hD2 hF2 HPb1 hB2 hlw2 hfr2
        have HC : Hid (Calls Tryz.prog 7 #[.pointer (some ⟨f, 0, none⟩), .int .i64 (L : Int)] w2 fun e w' => e = .returned (.int .i64 0) ∧ Hid (Pi w w' bk T f L (txs ts) 0)) := by
          have hcm : Fe.moreC ⟨0, 0, 64, false, false⟩ L (L : Int) = 0 := by simp [Fe.moreC]
          refine Calls.mono (fMore_any HPz.out.fd (L : Int)) ?_
          rintro e w' ⟨he, h1, h2⟩
          rw [show Fe.moreS ⟨0, 0, 64, false, false⟩ L (L : Int) = ⟨0, L, 64, false, false⟩ from by simp [Fe.moreS, hcm]] at h1
          exact ⟨by rw [he, hcm]; rfl, wr, rW, hW, g, lb, ds, _, [], mb, _, HPz.out.feed h1 h2 (by intro j hj; simp at hj; exact Or.inl hj), HDs.out, by simp⟩
        go_wp2_with fail
        refine Calls.mono HC.out ?_
        rintro e w3 ⟨rfl, HPi⟩
        clear HC HPz
        go_wp2_with fail
        go_loopw [9] (fun nn wr => ∃ n : Nat, nn = .int .i64 n ∧ n ≤ 40 ∧ n ≤ L ∧ Hid (∃ T', T' ≤ 40 * i + n ∧ Pi w wr bk T' f L (txs ts) n)) (fun nn _ => 40 - (RowKit.intOf nn).toNat)
        case atStart => exact ⟨0, rfl, by omega, by omega, ⟨T, by omega, HPi.out⟩⟩
        case round =>
          clear HPi
          obtain ⟨n, rfl, hn40, hnL, HQ⟩ := hrel
          obtain ⟨T', hT', hPi⟩ := HQ.out
          have HPi : Hid (Pi w wr bk T' f L (txs ts) n) := hPi
          clear hPi HQ
          by_cases hgo : n < L ∧ n < 40
          · obtain ⟨hnl, hn4⟩ := hgo
            have hdl : decide ((n : Int) < (L : Int)) = true := by simpa using hnl
            have HC : Hid (Calls _ _ _ _ _) := pi_read HPi.out hnl hn4
            go_wp2_with fail
            refine Calls.mono HC.out ?_
            rintro e w4 ⟨rfl, HDp⟩
            have HC2 : Hid (Calls _ _ _ _ _) := HDp.out w4 (Fr.refl _ _)
            clear HC HDp HPi
            go_wp2_with fail
            refine Calls.mono HC2.out ?_
            rintro e w5 ⟨k, M, rfl, HPt⟩
            clear HC2
            obtain ⟨w6, HW6⟩ : ∃ w6, Hid (w5.alloc (.cells #[.int .i64 ((n : Int) + 1), .slice (some ⟨k, 0, none⟩) M M] 49) = w6) := ⟨_, rfl⟩
            obtain ⟨B, HBB⟩ : ∃ B, Hid (w5.heap.size = B) := ⟨_, rfl⟩
            have hF6 : Fr [] w5 w6 := by rw [← HW6.out]; exact Fr.alloc _ _ _
            have HB6 : Hid (B2 w6 B (.int .i64 ((n : Int) + 1)) (.slice (some ⟨k, 0, none⟩) M M)) := ⟨by rw [← HW6.out, ← HBB.out]; exact heap_alloc_new _ _⟩
            have HPt6 : Hid (Pt w w6 bk T' f L (txs ts) n k M) := HPt.out.keep hF6
            clear hF6 HPt
            go_upto_region 15 with fail
            rw [HW6.out, HBB.out]
            clear HW6 HBB
            have hfrw : Fr [] w w6 := by
              obtain ⟨_, _, _, _, _, _, _, _, _, _, h1, _⟩ := HPt6.out.i
              exact h1.fr
            have hTW := HT.out _ hfrw
            have hrl : n < ts.length := by rw [← HL.out]; exact hnl
            obtain ⟨lb2, loff, e9, _, hcl⟩ := hTW.lies (by omega)
            subst e9
            have hx := hcl n hrl
            have hat := hTW.each _ (tgetD_mem ts n hrl)
            have hnum := (okL_get HOK.out n (by rw [txs_length]; exact hrl)).2
            rw [txs_getD] at hnum
            have hwse : ((txs ts).getD n Tx.zero).ws = (ts.getD n Tm.zero).ws := by rw [txs_getD]; rfl
            have HWr : Hid (M = (ts.getD n Tm.zero).ws.length ∧ WRs w6 (some ⟨k, 0, none⟩) (ts.getD n Tm.zero).ws) := ⟨by rw [← hwse]; exact HPt6.out.len, by rw [← hwse]; exact HPt6.out.wrs⟩
            obtain ⟨t, htt⟩ : ∃ t, t = ts.getD n Tm.zero := ⟨_, rfl⟩
            rw [← htt] at hx hat hnum HWr
            clear hcl htt hwse hTW hfrw
            obtain ⟨tn, xo, XM, cm, ws⟩ := t
            simp only [Tm.tx] at hnum
            have htn : tn = (n : Int) + 1 := by rw [hnum]; omega
            subst htn
            obtain ⟨x0, x1⟩ := hx
            simp only at x0 x1
            have HAt : Hid (TArg w6 ((n : Int) + 1) xo XM cm ws) := hat
            clear hat hnum
            have f0 : ∀ y : Wd16 w6, y.W.cell? ⟨B, 0, none⟩ = some (.int .i64 ((n : Int) + 1)) := fun y => (HB6.out.keep y.h).c0
            have f1 : ∀ y : Wd16 w6, y.W.cell? ⟨B, 1, none⟩ = some (.slice (some ⟨k, 0, none⟩) M M) := fun y => (HB6.out.keep y.h).c1
            have l0 : ∀ y : Wd16 w6, y.W.cell? ⟨lb2, loff + n * 2, none⟩ = some (.int .i64 ((n : Int) + 1)) := fun y => (World.cell?_of_block (y.h.block lb2 (World.block_lt_of_cell? w6 _ x0) (by simp))).trans x0
            have l1 : ∀ y : Wd16 w6, y.W.cell? ⟨lb2, loff + n * 2 + 1, none⟩ = some (.slice xo XM cm) := fun y => (World.cell?_of_block (y.h.block lb2 (World.block_lt_of_cell? w6 _ x0) (by simp))).trans x1
            have HSm : ∀ y : Wd16 w6, Calls Tryz.prog 10 #[.agg #[.int .i64 ((n : Int) + 1), .slice (some ⟨k, 0, none⟩) M M], .agg #[.int .i64 ((n : Int) + 1), .slice xo XM cm]] y.W fun e w' => e = .returned (.bool true) ∧ Fr [] y.W w' := fun y => sameTxn_any _ _ _ _ M XM M cm true ws ws y.W (HWr.out.2.keep y.h) (HAt.out.rs.keep y.h) HWr.out.1 HAt.out.len (by simp)
            clear x0 x1
            refine wp_region_wd16 (w1 := w6) (by kernel_rfl) (by kernel_rfl) (Fr.refl _ _) ?_
            repeat (go_big_quiet_step (first
              | (go_at_call 10; with_reducible refine (HSm _).mono ?_; exact fun e w3 hh => ⟨hh.1, ⟨_, Fr.then (Wd16.h _) hh.2⟩, rfl⟩)))
            refine wpQuiet_nil ?_
            rintro _ ⟨z, rfl⟩
            clear f0 f1 l0 l1 HSm
            obtain ⟨w7, hF7⟩ := z
            simp only
            have hB7 := HB6.out.keep hF7
            obtain ⟨b0, b1⟩ : _ ∧ _ := ⟨hB7.c0, hB7.c1⟩
            have HC : Hid (Calls _ _ _ _ _) := pt_txn (HPt6.out.keep hF7) (by omega) ((n : Int) + 1)
            clear hB7 hF7 HPt6 HB6 HWr HAt
            go_wp2_with fail
            refine Calls.mono HC.out ?_
            rintro e w8 ⟨rfl, HPi8⟩
            clear HC b0 b1
            go_wp2
            go_roundw
            case rel => exact ⟨n + 1, by simp, by omega, by omega, ⟨T' + 1, by omega, HPi8.out⟩⟩
            case measure => simp [RowKit.intOf]; omega
          · have HPbz : Hid (∃ T, T ≤ 40 * (i + 1) ∧ Pb w wr bk T) := by
              obtain ⟨w0, rW, hW, g, lb, ds, v, qs, mb, hw, h, _, _⟩ := HPi.out
              exact ⟨T', by omega, ⟨rW, hW, h.b, h.lw⟩, h.fr⟩
            clear HPi
            by_cases hnl : n < L
            · have hdl : decide ((n : Int) < (L : Int)) = true := by simpa using hnl
              have hd4 : decide ((n : Int) < 40) = false := by simp; omega
              go_wp2
              go_roundw
              case rel => exact ⟨i + 1, by simp, by omega, HPbz⟩
              case measure => simp [RowKit.intOf]; omega
            · have hdl : decide ((n : Int) < (L : Int)) = false := by simpa using hnl
              go_wp2
              go_roundw
              case rel => exact ⟨i + 1, by simp, by omega, HPbz⟩
              case measure => simp [RowKit.intOf]; omega
      · have hcb : ((c : Int) != 0) = true := by rw [bne_iff_ne]; omega
        have HC : Hid (Calls _ _ _ _ _) := new_no ao L cap c ts wr (HT.out _ HPb.out.fr) HL.out HBD.out hc0
        go_wp2_with fail
        refine Calls.mono HC.out ?_
        rintro e w1 ⟨rfl, hF1⟩
        have HN : Hid (Calls _ _ _ _ _) := fNew_none 0 (.slice none 0 0) 64 w1 (p := .pointer none) (Or.inl rfl)
        clear HC
        go_wp2_with fail
        refine Calls.mono HN.out ?_
        rintro e w2 ⟨rfl, hF2⟩
        have HLv : Hid (Calls _ _ _ _ _) := lives16_any w2
        go_wp2_with fail
        refine Calls.mono HLv.out ?_
        rintro e w3 ⟨rfl, hF3⟩
        go_wp2
        go_ret
        exact ⟨rfl, HPb.out.fr.then (hF1.then (hF2.then hF3))⟩
    · obtain ⟨T, hT40, ⟨⟨rW, hW, hB, hlw⟩, hfr⟩⟩ := HP.out
      have HC : Hid (Calls _ _ _ _ _) := hB.apart (by simp [Bq.lbs]) (by simp [Bq.lbs]) hlw (by simp [Bq.lbs]) HTb.out hfr
      clear hB hlw hfr HP
      go_wp2_with fail
      refine Calls.mono HC.out ?_
      rintro e w1 ⟨rfl, hF1⟩
      have HLv : Hid (Calls _ _ _ _ _) := lives16_any w1
      go_wp2_with fail
      refine Calls.mono HLv.out ?_
      rintro e w2 ⟨rfl, hF2⟩
      go_wp2
      go_ret
      exact ⟨rfl, hF1.then hF2⟩
end Go.Proofs.YtibgdfjfhjckoaaGreatDoor

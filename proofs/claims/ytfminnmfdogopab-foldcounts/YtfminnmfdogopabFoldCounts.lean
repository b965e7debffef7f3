/- For every list of transactions and every number the law FoldCounts returns true, and the list reads as it did. No conditions. -/
import Derived.Test.YtfminnmfdogopabCw7
import Derived.Test.YtfminnmfdogopabLfT
import Derived.Test.YtfminnmfdogopabAsko
namespace Go.Proofs.Ytfminnmfdogopab.foldCounts
open Go.ChangeShapes Go.WideShapes Go.ChangeAt Go.RowKit Go.Lib Go.Maps Go.Sort
set_option linter.unusedVariables false
set_option linter.unusedSimpArgs false

theorem wdrop (ws : List Wt) (k : Nat) (h : k < ws.length) : ws.drop k = ws.getD k Wt.zero :: ws.drop (k + 1) := by
  rw [List.drop_eq_getElem_cons h]
  simp [List.getD, h]
theorem later_iff (ws : List Wt) (k : Nat) (key : ByteArray) : hasKey (ws.drop (k + 1)) key = true ↔ ∃ p, k < p ∧ p < ws.length ∧ (ws.getD p Wt.zero).key = key := by
  rw [hasKey_iff]
  constructor
  · rintro ⟨y, hy, e⟩
    obtain ⟨j, hj, hje⟩ := List.mem_iff_getElem.1 hy
    have hj2 := hj
    rw [List.getElem_drop] at hje
    rw [List.length_drop] at hj2
    exact ⟨k + 1 + j, by omega, by omega, by rw [← e, ← hje]; simp [List.getD, show k + 1 + j < ws.length by omega]⟩
  · rintro ⟨p, h1, h2, e⟩
    refine ⟨ws.getD p Wt.zero, List.mem_iff_getElem.2 ⟨p - (k + 1), by rw [List.length_drop]; omega, ?_⟩, e⟩
    rw [List.getElem_drop]
    have e2 : k + 1 + (p - (k + 1)) = p := by omega
    simp [List.getD, h2, e2]
theorem TOw.capd {w0 w : World} {ro : Option Addr} {N rc : Nat} {us : List Tm} (h : TOw w0 w ro N rc us) : N ≤ rc := by
  rcases h.row.2 with ⟨e, _⟩ | ⟨g, cap, cur, hv, _, _, hc, _⟩
  · cases e; exact Nat.le_refl _
  · cases hv; exact hc
/-- A write more in the box's row: what stands behind the store. -/
theorem box_app {wb wr w' : World} {bt bb o N rc rc' xl xc : Nat} {n1 : Int} {ro ro' xo : Option Addr} {acc acc' : List Wt} (hbt : wb.heap.size ≤ bt) (hbb : bb < wb.heap.size)
    (hF : Fr [] wb wr) (hA : WOw wb wr ro N rc acc) (hB : wr.heap[bt]? = some (.cells #[.int .i64 n1, .slice ro N rc] 30 (0, 0))) (hc : wr.cell? ⟨bb, o, none⟩ = some (.slice xo xl xc))
    (hV : WOw wb w' ro' (N + 1) rc' acc') (hG : Fr (Value.slice ro N rc).ownBlock.toList wr w') :
    (w'.cell? ⟨bt, 1, none⟩ = some (.slice ro N rc) ∧ w'.frozen? ⟨bt, 1, none⟩ = false) ∧
    Hid (WOw wb (w'.setCell ⟨bt, 1, none⟩ (.slice ro' (N + 1) rc')) ro' (N + 1) rc' acc' ∧ Fr [] wb (w'.setCell ⟨bt, 1, none⟩ (.slice ro' (N + 1) rc')) ∧ (w'.setCell ⟨bt, 1, none⟩ (.slice ro' (N + 1) rc')).heap[bt]? = some (.cells #[.int .i64 n1, .slice ro' (N + 1) rc'] 30 (0, 0)) ∧ (w'.setCell ⟨bt, 1, none⟩ (.slice ro' (N + 1) rc')).cell? ⟨bb, o, none⟩ = some (.slice xo xl xc)) := by
  have hnb : bt ∉ (Value.slice ro N rc).ownBlock.toList := by
    intro hm
    obtain ⟨_, c1, e1⟩ := owns_cells hA.row (Option.mem_toList.1 hm)
    rw [hB] at e1
    simp only [Option.some.injEq, Obj.cells.injEq] at e1
    exact absurd e1.2.1 (by decide)
  have hB' := hG.keep hB hnb
  have hFw : Fr [] wb w' := hF.on hG (fun x hx => (owns_cells hA.row (Option.mem_toList.1 hx)).1)
  have hFs : Fr [] wb (w'.setCell ⟨bt, 1, none⟩ (.slice ro' (N + 1) rc')) := hFw.on (Fr.set (S := [bt]) w' ⟨bt, 1, none⟩ _ (by simp)) (by simpa using hbt)
  refine ⟨⟨by rw [cell_of_row _ _ _ _ _ _ hB']; rfl, by simp [World.frozen?, hB']⟩, ?_, hFs, row2_set1 hB', ?_⟩
  · refine hV.keepS (Fr.set (S := [bt]) w' ⟨bt, 1, none⟩ _ (by simp)) (fun k hk hm => ?_)
    obtain ⟨_, c1, e1⟩ := owns_cells hV.row hk
    simp at hm
    rw [hm, hB'] at e1
    simp only [Option.some.injEq, Obj.cells.injEq] at e1
    exact absurd e1.2.1 (by decide)
  · exact (World.cell?_of_block ((hFs.block bb hbb (by simp)).trans (hF.block bb hbb (by simp)).symm)).trans hc

set_option maxHeartbeats 16000000 in
set_option maxRecDepth 100000 in
theorem walk (ao : Option Addr) (L cap : Nat) (ts : List Tm) (u : Nat) (hu : u < 65536) (w : World) (hT : TRs w ao ts) (hLe : L = ts.length) (hcap : L ≤ cap) :
    Calls Try.prog 3 #[.slice ao L cap, .int .u16 (u : Int)] w fun e w' => e = .returned (.bool true) ∧ Fr [] w w' := by
  have HL : Hid (L = ts.length) := hLe
  have HI : Hid (∀ W, Fr [] w W → TRs W ao ts) := fun W hf => hT.keep hf
  obtain ⟨c, hc⟩ := Bad.ex (txs ts) 1
  have HC : Hid (Bad 1 (txs ts) c) := hc
  obtain ⟨Bm, HBm⟩ : ∃ Bm : Bool, Hid (Bm = true ↔ c = 0) := ⟨decide (c = 0), by show _ ↔ _; simp⟩
  clear hLe hT hc
  go_enter Try.func3, Try.ntmps3
  go_wp2_with fail
  refine (alive7_any _).mono ?_
  rintro e w1 ⟨rfl, hF1⟩
  go_wp2_with fail
  refine (txnsSizeB_any ao L cap ts _ (HI.out _ hF1) HL.out).mono ?_
  rintro e w2 ⟨N0, rfl, hN0b, hLN, hFw0, hF2⟩
  have hG2 := hF1.then hF2
  clear hFw0 hF1 hF2
  go_wp2_with fail
  refine (beyond_any w2.heap.size N0 _ (by omega) (by simp)).mono ?_
  rintro e w3 ⟨rfl, rfl⟩
  have hG3 := hG2.then (Fr.alloc [] w2 (.cells #[.int .i64 (N0 : Int)] 3))
  obtain ⟨w3, HW3⟩ : ∃ w3, Hid (w2.alloc (.cells #[.int .i64 (N0 : Int)] 3) = w3) := ⟨_, rfl⟩
  rw [HW3.out] at hG3 ⊢
  clear HW3 hG2
  obtain ⟨Bq, hBq⟩ : ∃ Bq, Bq = decide (1048576 < N0) := ⟨_, rfl⟩
  rw [← hBq]
  cases Bq with
  | true =>
    clear hBq
    go_wp2_with fail
    refine (alive7_any _).mono ?_
    rintro e w4 ⟨rfl, hF4⟩
    have hG4 := hG3.then hF4
    go_wp2
    go_ret
    exact ⟨rfl, hG4⟩
  | false =>
    have hLs : L < 1048577 := by have : ¬ (1048576 < N0) := by simpa using hBq.symm
                                 omega
    clear hBq hN0b hLN
    go_wp2_with fail
    refine (may7_any ao L cap c ts _ (HI.out _ hG3) HL.out HC.out Bm HBm.out).mono ?_
    rintro e w4 ⟨rfl, hF4⟩
    have hG4 := hG3.then hF4
    clear hG3 hF4
    cases Bm with
    | false =>
      go_wp2_with fail
      refine (alive7_any _).mono ?_
      rintro e w5 ⟨rfl, hF5⟩
      have hG5 := hG4.then hF5
      go_wp2
      go_ret
      exact ⟨rfl, hG5⟩
    | true =>
      have HOK : Hid (okL 1 (txs ts)) := HC.out.ok.1 (HBm.out.1 rfl)
      clear HC HBm
      by_cases hbig : 40 < L
      · go_wp2_with fail
        refine (alive7_any _).mono ?_
        rintro e w5 ⟨rfl, hF5⟩
        have hG5 := hG4.then hF5
        go_wp2
        go_ret
        exact ⟨rfl, hG5⟩
      · have hL40 : L ≤ 40 := by omega
        go_wp2_with fail
        go_loopw [5, 6] (fun mm ii wr => ∃ (i c : Nat) (so : Option Addr) (us : List Tm), mm = .slice so i c ∧ ii = .int .i64 i ∧ i ≤ L ∧ Hid (TOw w wr so i c us) ∧ Hid (txs us = ((txs ts).take i).map ddT) ∧ Fr [] w wr) (fun _ ii _ => L - (intOf ii).toNat)
        case atStart => exact ⟨0, 0, none, [], rfl, rfl, Nat.zero_le _, ⟨rfl, ⟨rfl, .inl ⟨rfl, rfl⟩⟩, by simp⟩, rfl, hG4⟩
        case round =>
          obtain ⟨i, c1, so, us, rfl, rfl, hiL, HTo, HUs, hFr⟩ := hrel
          obtain ⟨wb, hwb⟩ : ∃ wb, wb = wr := ⟨_, rfl⟩
          subst hwb
          by_cases hi : i < L
          · have hi' : i < ts.length := by rw [← HL.out]; omega
            obtain ⟨bb, off, eao, hbl, hcc⟩ := (HI.out _ (Fr.refl _ _)).lies (by omega)
            have hx := hcc i hi'
            have hat := (HI.out _ (Fr.refl _ _)).each _ (tgetD_mem ts i hi')
            have hm := okL_mem HOK.out (ts.getD i Tm.zero).tx (List.mem_map.2 ⟨_, tgetD_mem ts i hi', rfl⟩)
            obtain ⟨x, hxx⟩ : ∃ x, x = ts.getD i Tm.zero := ⟨_, rfl⟩
            rw [← hxx] at hx hat hm
            have HX : Hid (x = ts.getD i Tm.zero) := hxx
            clear hxx hcc
            obtain ⟨n1, xo, M, cm, ws⟩ := x
            obtain ⟨c0, c2⟩ := hx
            simp only at c0 c2
            have HML : Hid (M = ws.length) := hat.len
            have hM32 : M ≤ 32 := by rw [HML.out]; exact hm.2.2.1
            have HWR : Hid (∀ W, Fr [] w W → WRs W xo ws ∧ W.cell? ⟨bb, off + i * 2 + 1, none⟩ = some (.slice xo M cm)) := fun W hf => ⟨hat.rs.keep hf, (World.cell?_of_block (hf.block bb hbl (by simp))).trans c2⟩
            have cb : wb.cell? ⟨bb, off + i * 2, none⟩ = some (.int .i64 n1) := (World.cell?_of_block (hFr.block bb hbl (by simp))).trans c0
            clear hat hm c0 c2
            subst eao
            have eao : (some ⟨bb, off, none⟩ : Option Addr) = some ⟨bb, off, none⟩ := rfl
            go_upto_region 8 with fail
            have hFb : Fr [] wb (wb.alloc (.cells #[.int .i64 n1, .slice none 0 0] 30)) := Fr.alloc _ _ _
            have hbx := heap_alloc_new wb (.cells #[.int .i64 n1, .slice none 0 0] 30)
            obtain ⟨WZ, HWZ⟩ : ∃ WZ, Hid (wb.alloc (.cells #[.int .i64 n1, .slice none 0 0] 30) = WZ) := ⟨_, rfl⟩
            rw [HWZ.out] at hFb hbx ⊢
            obtain ⟨bt, Hbt⟩ : ∃ bt, Hid (bt = wb.heap.size) := ⟨_, rfl⟩
            rw [← Hbt.out] at hbx ⊢
            have HBX : Hid (WZ.heap[bt]? = some (.cells #[.int .i64 n1, .slice none 0 0] 30 (0, 0))) := hbx
            have Hbbw : Hid (bb < wb.heap.size) := Nat.lt_of_lt_of_le hbl hFr.size
            have Hbtw : Hid (wb.heap.size ≤ bt) := Nat.le_of_eq Hbt.out.symm
            have HFr : Hid (Fr [] w wb) := hFr
            clear hbx HWZ cb hFr
            go_wp2_with fail
            go_loopw [8] (fun kk wr => ∃ (k N rc : Nat) (ro : Option Addr) (acc : List Wt), kk = .int .i64 k ∧ k ≤ M ∧ N ≤ k ∧ Hid (WOw wb wr ro N rc acc) ∧ Hid (acc ++ dd (ws.drop k) = dd ws) ∧ Hid (Fr [] wb wr) ∧ Hid (wr.heap[bt]? = some (.cells #[.int .i64 n1, .slice ro N rc] 30 (0, 0))) ∧ wr.cell? ⟨bb, off + i * 2 + 1, none⟩ = some (.slice xo M cm)) (fun kk _ => M - (intOf kk).toNat)
            case atStart => exact ⟨0, 0, 0, none, [], rfl, Nat.zero_le _, Nat.le_refl _, ⟨rfl, ⟨rfl, .inl ⟨rfl, rfl⟩⟩⟩, (by show [] ++ dd (ws.drop 0) = dd ws; simp), hFb, HBX, (HWR.out _ (HFr.out.then hFb)).2⟩
            case round =>
              clear hFb HBX
              obtain ⟨k, N, rc, ro, acc, rfl, hkM, hNk, HA, HD, HF, HB, hcx⟩ := hrel
              obtain ⟨wk, hwk⟩ : ∃ wk, wk = wr := ⟨_, rfl⟩
              subst hwk
              by_cases hk : k < M
              · have hk' : k < ws.length := by rw [← HML.out]; exact hk
                have HDk : Hid (ws.drop k = ws.getD k Wt.zero :: ws.drop (k + 1)) := wdrop ws k hk'
                obtain ⟨y, hyy⟩ : ∃ y, y = ws.getD k Wt.zero := ⟨_, rfl⟩
                have HY : Hid (y = ws.getD k Wt.zero) := hyy
                rw [← hyy] at HDk
                clear hyy
                obtain ⟨k1, v1, p1⟩ := y
                go_wp2_with fail
                go_loopw [9, 10] (fun lb qq wr => ∃ (q : Nat) (Lb : Bool), lb = .bool Lb ∧ qq = .int .i64 q ∧ k + 1 ≤ q ∧ q ≤ M ∧ Hid (Lb = true ↔ ∃ p, k < p ∧ p < q ∧ (ws.getD p Wt.zero).key = k1) ∧ Fr [] wk wr) (fun _ qq _ => M - (intOf qq).toNat)
                case atStart => exact ⟨k + 1, false, rfl, by simp, Nat.le_refl _, hk, (by show _ ↔ _; constructor; (intro h; cases h); (rintro ⟨p, h1, h2, _⟩; omega)), Fr.refl _ _⟩
                case round =>
                  obtain ⟨q, Lb, rfl, rfl, hkq, hqM, HLb, hFq⟩ := hrel
                  have hGq : Fr [] w wr := (HFr.out.then HF.out).then hFq
                  have hcq := (HWR.out _ hGq).2
                  by_cases hq : q < M
                  · have hq' : q < ws.length := by rw [← HML.out]; exact hq
                    obtain ⟨b2, o2, e2, _, hc2⟩ := (HWR.out _ hGq).1.lies (by omega)
                    have a0 := (hc2 q hq').c0
                    have b0 := (hc2 k hk').c0
                    rw [← HY.out] at b0
                    simp only at b0
                    obtain ⟨k3, hk3⟩ : ∃ k3, k3 = (ws.getD q Wt.zero).key := ⟨_, rfl⟩
                    rw [← hk3] at a0
                    have HK3 : Hid (k3 = (ws.getD q Wt.zero).key) := hk3
                    clear hk3 hc2 hcx
                    subst e2
                    have hFq2 : ∀ j, Fr [] wk (wr.drewN j) := fun j => hFq.then (Fr.drewN _ _ _)
                    clear hFq hGq
                    cases Lb with
                    | true =>
                      have HL2 : Hid (∃ p, k < p ∧ p < q + 1 ∧ (ws.getD p Wt.zero).key = k1) := by
                        obtain ⟨p, h1, h2, h3⟩ := HLb.out.1 rfl
                        exact ⟨p, h1, by omega, h3⟩
                      go_wp2_with fail
                      go_quiet (fail)
                      go_wp2
                      exact ⟨⟨q + 1, true, rfl, by simp, by omega, by omega, ⟨fun _ => HL2.out, fun _ => rfl⟩, hFq2 _⟩, by simp [intOf]; omega⟩
                    | false =>
                      by_cases he : k3 = k1
                      · have heq : (k3.toList == k1.toList) = true := by rw [he]; simp
                        have HL2 : Hid (∃ p, k < p ∧ p < q + 1 ∧ (ws.getD p Wt.zero).key = k1) := ⟨q, by omega, by omega, HK3.out ▸ he⟩
                        go_wp2_with fail
                        go_quiet (fail)
                        go_wp2
                        exact ⟨⟨q + 1, true, rfl, by simp, by omega, by omega, ⟨fun _ => HL2.out, fun _ => rfl⟩, hFq2 _⟩, by simp [intOf]; omega⟩
                      · have heq : (k3.toList == k1.toList) = false := by rw [beq_eq_false_iff_ne]; exact fun h => he ((tl_inj _ _).1 h)
                        have HL2 : Hid (false = true ↔ ∃ p, k < p ∧ p < q + 1 ∧ (ws.getD p Wt.zero).key = k1) := by
                          refine ⟨fun h => (by cases h), ?_⟩
                          rintro ⟨p, h1, h2, h3⟩
                          by_cases hpq : p = q
                          · subst hpq; exact absurd (HK3.out.trans h3) he
                          · exact HLb.out.2 ⟨p, h1, by omega, h3⟩
                        go_wp2_with fail
                        go_quiet (fail)
                        go_wp2
                        exact ⟨⟨q + 1, false, rfl, by simp, by omega, by omega, HL2, hFq2 _⟩, by simp [intOf]; omega⟩
                  · obtain ⟨b2, o2, e2, _, hc2⟩ := (HWR.out _ hGq).1.lies (by omega)
                    obtain ⟨b0, b1, b3⟩ := hc2 k hk'
                    rw [← HY.out] at b0 b1 b3
                    simp only at b0 b1 b3
                    have HLe : Hid (Lb = true ↔ hasKey (ws.drop (k + 1)) k1 = true) := by
                      show _ ↔ _
                      rw [later_iff, HLb.out, show q = ws.length by rw [← HML.out]; omega]
                    have HAq : Hid (WOw wb wr ro N rc acc) := HA.out.keepS hFq (by simp)
                    have HGb : Hid (Fr [] wb wr) := HF.out.then hFq
                    have HBq : Hid (wr.heap[bt]? = some (.cells #[.int .i64 n1, .slice ro N rc] 30 (0, 0))) := hFq.keep HB.out (by simp)
                    clear hc2 hcx HA HF HB hFq hGq
                    subst e2
                    cases Lb with
                    | true =>
                      have HDn : Hid (acc ++ dd (ws.drop (k + 1)) = dd ws) := by
                        show _ = _
                        rw [← HD.out, HDk.out]
                        conv => rhs; rw [dd]
                        rw [if_pos (HLe.out.1 rfl)]
                      clear b0 b1 b3
                      go_wp2
                      go_roundw
                      case rel => exact ⟨k + 1, N, rc, ro, acc, by simp, by omega, by omega, HAq, HDn, HGb, HBq, hcq⟩
                      case measure => simp [intOf]; omega
                    | false =>
                      have HDn : Hid ((acc ++ [⟨k1, v1, p1⟩]) ++ dd (ws.drop (k + 1)) = dd ws) := by
                        show _ = _
                        rw [← HD.out, HDk.out]
                        conv => rhs; rw [dd]
                        rw [if_neg (fun h => by have := HLe.out.2 h; cases this)]
                        simp
                      have t1 : wr.cell? ⟨bt, 1, none⟩ = some (.slice ro N rc) := by rw [cell_of_row _ _ _ _ _ _ HBq.out]; rfl
                      have hFa : Fr [] wr (wr.alloc (.cells #[.string k1, .string v1, .bool p1] 32)) := Fr.alloc _ _ _
                      have t2 : (wr.alloc (.cells #[.string k1, .string v1, .bool p1] 32)).cell? ⟨bt, 1, none⟩ = some (.slice ro N rc) := by rw [cell_of_row _ _ _ _ _ _ (hFa.keep HBq.out (by simp))]; rfl
                      have HX : Hid (∀ W, Fr [] (wr.alloc (.cells #[.string k1, .string v1, .bool p1] 32)) W → WOw wb W ro N rc acc ∧ wb.heap.size ≤ W.heap.size ∧ ∀ j u, (wtC ⟨k1, v1, p1⟩)[j]? = some u → W.cell? ((⟨wr.heap.size, 0, none⟩ : Addr).add j) = some u) := fun W hf => by
                        refine ⟨HAq.out.keepS (hFa.then hf) (by simp), Nat.le_trans HGb.out.size (hFa.then hf).size, fun j u hu => ?_⟩
                        have hr := hf.keep (heap_alloc_new wr (.cells #[.string k1, .string v1, .bool p1] 32)) (by simp)
                        rw [Addr.add_lit, cell_of_row _ _ _ _ _ _ hr, Nat.zero_add]
                        simpa [wtC] using hu
                      have HK : Hid (∀ W, Fr [] (wr.alloc (.cells #[.string k1, .string v1, .bool p1] 32)) W → ∀ ro' rc' w', WOw wb w' ro' (N + 1) rc' (acc ++ [⟨k1, v1, p1⟩]) → Fr (Value.slice ro N rc).ownBlock.toList W w' → _) := fun W hf ro' rc' w' hV hG => box_app Hbtw.out Hbbw.out HGb.out HAq.out HBq.out hcq hV (((hFa.then hf).mono (by simp)).then hG)
                      clear hFa
                      go_upto_region 17 with fail
                      go_region_law (refine step_appW wb _ rfl (.tmp 99) (.tmp 108) rfl ro N rc acc (by simp [Act.eval]) (HX.out _ (Fr.drew _ _)).1 ⟨wr.heap.size, 0, none⟩ 1 ⟨k1, v1, p1⟩ (by simp [Act.eval]) (HX.out _ (Fr.drew _ _)).2.2 (by omega) (HX.out _ (Fr.drew _ _)).2.1 ?_; intro ro' rc' w' hV hG; obtain ⟨⟨q1, q2⟩, q3⟩ := HK.out _ (Fr.drew _ _) ro' rc' w' hV hG)
                      all_goals (go_wp2; exact ⟨⟨k + 1, N + 1, rc', ro', _, by simp, by omega, by omega, q3.out.1, HDn, q3.out.2.1, q3.out.2.2.1, q3.out.2.2.2⟩, by simp [intOf]; omega⟩)
              · obtain rfl : k = M := by omega
                have hae : acc = dd ws := by
                  have h1 := HD.out
                  rw [List.drop_eq_nil_of_le (by rw [← HML.out]; exact Nat.le_refl _)] at h1
                  simpa [dd] using h1
                have hGk : Fr [] w wk := HFr.out.then HF.out
                have hTo : TOw w wk so i c1 us := HTo.out.keepS HF.out (by simp)
                have hWp : WOw w wk ro N rc acc := HA.out.later HFr.out.size
                have t0 : wk.cell? ⟨bt, 0, none⟩ = some (.int .i64 n1) := by rw [cell_of_row _ _ _ _ _ _ HB.out]; rfl
                have t1 : wk.cell? ⟨bt, 1, none⟩ = some (.slice ro N rc) := by rw [cell_of_row _ _ _ _ _ _ HB.out]; rfl
                have HUn : Hid (txs (us ++ [⟨n1, ro, N, rc, acc⟩]) = ((txs ts).take (i + 1)).map ddT) := by
                  show _ = _
                  rw [txs_append, HUs.out, take_snoc_tx (txs ts) i (by rw [txs_length]; exact hi'), txs_getD, ← HX.out, List.map_append, hae]
                  rfl
                have HOn : Hid (∀ w8, Fr (Value.slice so i c1).ownBlock.toList wk w8 → Fr [] w w8) := fun w8 hF8 => hGk.on hF8 (fun x hx => (owns_cells hTo.row (Option.mem_toList.1 hx)).1)
                have hsz : w.heap.size ≤ wk.heap.size := hGk.size
                have HTk : Hid (TOw w wk so i c1 us) := hTo
                have HWk : Hid (WOw w wk ro N rc acc) := hWp
                clear hTo hWp HA HD HF HB HTo HUs hGk hae
                go_upto_region 18 with fail
                go_wp2_with (first
                  | (at_builtin; refine wpList_appT w wk rfl _ _ rfl so i c1 us rfl HTk.out (by omega) hsz ⟨n1, ro, N, rc, acc⟩ HWk.out rfl ?_
                     intro so3 c3 w8 hK8 hF8
                     go_frame))
                have HK8 : Hid (TOw w w8 so3 (i + 1) c3 (us ++ [⟨n1, ro, N, rc, acc⟩])) := hK8
                have hG8 := HOn.out _ hF8
                clear hK8 hF8
                go_roundw
                case rel => exact ⟨i + 1, c3, so3, _, by simp, by simp, by omega, HK8, HUn, hG8⟩
                case measure => simp [intOf]; omega
          · obtain rfl : L = i := by omega
            have HU2 : Hid (txs us = (txs ts).map ddT) := by
              show _ = _
              rw [HUs.out, List.take_of_length_le (by rw [txs_length, ← HL.out]; omega)]
            have HOK2 : Hid (okL 1 (txs us)) := by show okL _ _; rw [HU2.out]; exact okL_dd _ _ HOK.out
            have HL2 : Hid (L = us.length) := HTo.out.len
            have hcap2 : L ≤ c1 := TOw.capd HTo.out
            have HI2 : Hid (∀ W, Fr [] wb W → TRs W so us) := fun W hf => (HTo.out.rs HOK2.out (fun t ht x hx => by
              have h1 := (okL_mem HOK2.out t.tx (List.mem_map.2 ⟨t, ht, rfl⟩)).2.2.2 x hx
              exact ⟨by have := h1.2.1; omega, by have := h1.2.2.1; omega⟩) (by omega)).keep hf
            clear HTo HUs
            obtain ⟨m, hm⟩ : ∃ m, m = u % (L + 1) := ⟨_, rfl⟩
            have hmL : m ≤ L := by rw [hm]; have := Nat.mod_lt u (show 0 < L + 1 by omega); omega
            obtain ⟨ps, hps, hpl⟩ := fo_len ((txs ts).take m) (fun t ht => (okL_mem HOK.out t (List.mem_of_mem_take ht)).2.2.1)
            have HPs : Hid (Is (fo ((txs ts).take m)) ps) := hps
            have HPs2 : Hid (Is (fo ((txs us).take m)) ps) := by
              show Is _ _
              rw [HU2.out]
              exact hps.cong (fun s => (fo_dd (txs ts) s m (by rw [txs_length, ← HL.out]; exact hmL)).symm)
            have hpl2 : ps.length ≤ 6400 := by rw [List.length_take] at hpl; omega
            clear hps hpl
            have hmI : ((u : Int) % ((L : Int) + 1)) = (m : Int) := by rw [hm]; simp
            clear hm
            obtain ⟨Nx, HNx⟩ : ∃ Nx, Hid (Nx = ps.length) := ⟨_, rfl⟩
            have hNx : Nx < 1099511627776 := by rw [HNx.out]; omega
            go_wp2_with fail
            rw [hmI]
            refine (fStore_any ao L cap (m : Int) ps Nx 0 ts _ (HI.out _ hFr) HL.out hcap (by omega) (by omega) (sc_of HOK.out (by rw [txs_length, ← HL.out]; exact hmL) HPs.out) HNx.out).mono ?_
            rintro e w5 ⟨ro, rc, rfl, hE5, hF5⟩
            have HG5 : Hid (Fr [] wb w5) := hF5
            have HE5 : Hid (∀ W, Fr [] w5 W → EOut wb W ro Nx rc ps) := fun W hf => hE5.keep hf
            clear hE5 hF5
            go_wp2_with fail
            refine (fStore_any so L c1 (m : Int) ps Nx 0 us _ (HI2.out _ HG5.out) HL2.out hcap2 (by omega) (by omega) (sc_of HOK2.out (by rw [txs_length, ← HL2.out]; omega) HPs2.out) HNx.out).mono ?_
            rintro e w6 ⟨ro2, rc2, rfl, hE6, hF6⟩
            have HG6 : Hid (Fr [] wb w6) := HG5.out.then hF6
            have HSa : Hid (Calls _ _ _ _ _) := sameEntries_any ro ro2 Nx rc rc2 ps w6 ((HE5.out _ hF6).ers (by rw [← HNx.out]; exact hNx)) (hE6.ers (by rw [← HNx.out]; exact hNx)) HNx.out
            clear hE6 hF6 HE5 HG5
            go_wp2_with fail
            refine Calls.mono HSa.out ?_
            rintro e w7 ⟨rfl, hF7⟩
            have HG7 : Hid (Fr [] wb w7) := HG6.out.then hF7
            clear hF7 HSa HG6 hmI
            go_wp2_with fail
            go_loopw [16] (fun jj wr => ∃ (j : Nat), jj = .int .i64 j ∧ 2 ≤ j ∧ j ≤ L + 2 ∧ Hid (Fr [] wb wr)) (fun jj _ => L + 2 - (intOf jj).toNat)
            case atStart => exact ⟨2, by simp, by omega, by omega, HG7⟩
            case round =>
              obtain ⟨j, rfl, hj2, hjL, HFj⟩ := hrel
              by_cases hj : j ≤ L
              · obtain ⟨R, hR⟩ : ∃ R : Bool, R = true ↔ Rch (txs ts) (0 + 1) j := by classical exact ⟨decide (Rch (txs ts) (0 + 1) j), by simp⟩
                have hR2 : R = true ↔ Rch (txs us) (0 + 1) j := by rw [HU2.out, rch_dd]; exact hR
                have HCa : Hid (Calls Try.prog 10 #[.slice ao L cap, .int .i64 1, .int .i64 (j : Int)] wr _) := fChained_main ao L cap 0 j ts R wr (HI.out _ (hFr.then HFj.out)) HL.out hcap HOK.out (by omega) hj hR
                have HCb : Hid (∀ W, Fr [] wb W → Calls Try.prog 10 #[.slice so L c1, .int .i64 1, .int .i64 (j : Int)] W _) := fun W hf => fChained_main so L c1 0 j us R W (HI2.out _ hf) HL2.out hcap2 HOK2.out (by omega) (by omega) hR2
                clear hR hR2
                have hjd : decide ((j : Int) ≤ (L : Int)) = true := by simp; omega
                go_wp2_with fail
                refine Calls.mono HCa.out ?_
                rintro e wl ⟨rfl, hFl⟩
                have hGl := HFj.out.then hFl
                go_wp2_with fail
                refine Calls.mono (HCb.out _ hGl) ?_
                rintro e wn ⟨rfl, hFn⟩
                have HGn : Hid (Fr [] wb wn) := hGl.then hFn
                clear hGl hFn hFl HCa HCb
                cases R with
                | true =>
                  go_wp2
                  go_roundw
                  case rel => exact ⟨j + 1, by simp, by omega, by omega, HGn⟩
                  case measure => simp [intOf]; omega
                | false =>
                  go_wp2
                  go_roundw
                  case rel => exact ⟨j + 1, by simp, by omega, by omega, HGn⟩
                  case measure => simp [intOf]; omega
              · have hjd : decide ((j : Int) ≤ (L : Int)) = false := by simp; omega
                have hGe : Fr [] w wr := hFr.then HFj.out
                go_wp2
                go_ret
                exact ⟨by simp, hGe⟩

theorem own : ownKnob Try.prog.godebug = none := by kernel_rfl
theorem laidOut : laidOutB Try.prog = true := by kernel_rfl
set_option maxHeartbeats 4000000 in
set_option maxRecDepth 100000 in
theorem lifted (os : Os) (started : os.Started) (H : Type) (enc : TypeId × Value → H) :
    ReturnsInHanded {} Try.checked os 3 .any (Rows.foldCountsSpec.pre6 enc Try.prog Try.f3 Rows.foldCountsRow.domain false) (Rows.foldCountsSpec.post enc Try.prog Try.f3 false true false false) := by
  refine returnsInHanded_of_change_sized (C := Try.checked) own started (by kernel_rfl) Try.func3
    (ChangeSpec.witness6 (enc := enc) (C := Try.checked) false ⟨#[], #[.slice none 0 0, .int .u16 0], []⟩ 8 (by kernel_rfl) (by kernel_rfl) (by kernel_rfl) (by kernel_rfl)) ?_
  intro W base args ds gs before hval0 hW hcnd hsz0 _
  have hval : ∀ (j : Nat) t v, Try.f3.params[j]? = some t → args[j]? = some v → Value.okWide Try.prog W .any base t v := hval0
  have hsz : (DataW.weightsEach Try.prog (Try.f3.params.toList ++ Rows.foldCountsSpec.plain.varTypes Try.prog) (ds ++ gs)).all (· ≤ reachBytes) = true := hsz0
  have hW' := hW
  obtain ⟨p, q, hA0, hV, rfl, hfz, hnd⟩ := hW
  have hA : DataW.TrodAll enc Try.prog W 0 (fun _ => true) true Try.f3.params.toList args.toList ds p := hA0
  rw [Try.params3] at hA hval hsz
  obtain ⟨v0, vs0, d0, ds0, p0, q0, hargs, rfl, rfl, h0, r0⟩ := trodAll_cons hA
  obtain ⟨v1, vs1, d1, ds1, p1, q1, rfl, rfl, rfl, h1, r1⟩ := trodAll_cons r0
  obtain ⟨rfl, rfl, rfl⟩ := trodAll_nil r1
  obtain rfl : args = #[v0, v1] := by cases args; simp_all
  obtain ⟨rfl, rfl⟩ := trodVars_none hV
  have k0 := h0
  have lt0 : ∀ x ∈ p0, x.block < W.heap.size := by obtain ⟨m, hm⟩ := k0; exact DataW.trod_lt m _ _ _ hm
  obtain ⟨a0, len0, cap0, ts0, rfl, hB0, hL0, hC0⟩ : ∃ ao L cap ts, v0 = .slice ao L cap ∧ TRs W ao ts ∧ L = ts.length ∧ L ≤ cap := by
    obtain ⟨fuel, hf⟩ := h0
    obtain ⟨ao, L, cap, rfl⟩ := okWide_slice Try.undTs' (hval 0 22 v0 rfl rfl)
    exact ts_open hf (fun n hn => of_decide_eq_true (List.all_eq_true.1 hsz n (DataW.weights_mem_each (j := 0) (t := 22) rfl rfl n hn)))
  obtain ⟨n1, rfl, rfl, rfl, w1⟩ := open_int Try.underlying23 (hval 1 23 v1 rfl rfl) h1
  have b1 := bounds_u16 w1
  obtain ⟨m1, rfl⟩ : ∃ m : Nat, n1 = (m : Int) := ⟨n1.toNat, by omega⟩
  clear hA0 hval0
  refine (walk a0 len0 cap0 ts0 m1 (by omega) W hB0 hL0 hC0).mono fun e W' ⟨he, hf⟩ => ?_
  subst he
  have bel : Below W.heap.size W W' := hf.below (Nat.le_refl _) (by simp)
  exact ⟨_, rfl, _, _, _, [], _, [], hW', trodAll_mk1 (shut_bool Try.underlying4 _), (trodAll_cons_mk (Below.trod laidOut (by kernel_rfl) (of_decide_eq_true (by kernel_rfl)) k0 bel lt0) (trodAll_cons_mk (shut_int Try.underlying23 w1) trodAll_mk0)), rfl, bel.frame _, fun h => by cases h⟩

theorem over : Rows.foldCountsRow.holds Try.pinned (OpenSpec.ofChange Rows.foldCountsSpec) :=
  OpenClaim.holds_of_wide 3 Try.f3 rfl rfl rfl rfl rfl rfl rfl ⟨rfl, rfl, rfl, rfl, rfl⟩ rfl rfl rfl rfl rfl (by kernel_rfl) Try.func3 (by kernel_rfl)
    (of_decide_eq_true (by kernel_rfl)) (by unfold Func.isWrapper; first | (rw [if_pos (by decide +kernel)]; kernel_rfl) | (rw [if_neg (by decide +kernel)]; exact ⟨rfl, rfl⟩))
    (fun os started H enc _ => lifted os started H enc)
end Go.Proofs.Ytfminnmfdogopab.foldCounts
namespace Go.Proofs.Ytfminnmfdogopab
theorem foldcounts_holds : Rows.FoldCountsSaid := foldCounts.over
#print axioms foldcounts_holds
end Go.Proofs.Ytfminnmfdogopab

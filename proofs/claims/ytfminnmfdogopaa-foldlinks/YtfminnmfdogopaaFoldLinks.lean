/- For every list of transactions the law FoldLinks returns true, and the list reads as it did. No conditions. -/
import Derived.Test.YtfminnmfdogopaaMtx7
import Derived.Test.YtfminnmfdogopaaLfT
import Derived.Test.YtfminnmfdogopaaAsko
namespace Go.Proofs.Ytfminnmfdogopaa.foldLinks
open Go.ChangeShapes Go.WideShapes Go.ChangeAt Go.RowKit Go.Lib Go.Maps Go.Sort
set_option linter.unusedVariables false
set_option linter.unusedSimpArgs false

set_option maxHeartbeats 16000000 in
set_option maxRecDepth 100000 in
theorem walk (ao : Option Addr) (L cap : Nat) (ts : List Tm) (w : World) (hT : TRs w ao ts) (hLe : L = ts.length) (hcap : L ≤ cap) :
    Calls Try.prog 7 #[.slice ao L cap] w fun e w' => e = .returned (.bool true) ∧ Fr [] w w' := by
  have HL : Hid (L = ts.length) := hLe
  have HI : Hid (∀ W, Fr [] w W → TRs W ao ts) := fun W hf => hT.keep hf
  obtain ⟨c, hc⟩ := Bad.ex (txs ts) 1
  have HC : Hid (Bad 1 (txs ts) c) := hc
  obtain ⟨Bm, HBm⟩ : ∃ Bm : Bool, Hid (Bm = true ↔ c = 0) := ⟨decide (c = 0), by show _ ↔ _; simp⟩
  clear hLe hT hc
  go_enter Try.func7, Try.ntmps7
  go_wp2_with fail
  refine (alive7_any _).mono ?_
  rintro e w1 ⟨rfl, hF1⟩
  go_wp2_with fail
  refine (txnsSizeB_any ao L cap ts _ (HI.out _ hF1) HL.out).mono ?_
  rintro e w2 ⟨N0, rfl, hN0b, hLN, hFw0, hF2⟩
  have hG2 := hF1.then hF2
  clear hFw0 hF1 hF2
  go_wp2_with fail
  refine (beyond_any w2.heap.size N0 _ (by omega) (by simp)).mono ?_
  rintro e w3 ⟨rfl, rfl⟩
  have hG3 := hG2.then (Fr.alloc [] w2 (.cells #[.int .i64 (N0 : Int)] 3))
  obtain ⟨w3, HW3⟩ : ∃ w3, Hid (w2.alloc (.cells #[.int .i64 (N0 : Int)] 3) = w3) := ⟨_, rfl⟩
  rw [HW3.out] at hG3 ⊢
  clear HW3 hG2
  obtain ⟨Bq, hBq⟩ : ∃ Bq, Bq = decide (1048576 < N0) := ⟨_, rfl⟩
  rw [← hBq]
  cases Bq with
  | true =>
    clear hBq
    go_wp2_with fail
    refine (alive7_any _).mono ?_
    rintro e w4 ⟨rfl, hF4⟩
    have hG4 := hG3.then hF4
    go_wp2
    go_ret
    exact ⟨rfl, hG4⟩
  | false =>
    have hLs : L < 1048577 := by have : ¬ (1048576 < N0) := by simpa using hBq.symm
                                 omega
    clear hBq hN0b hLN
    go_wp2_with fail
    refine (may7_any ao L cap c ts _ (HI.out _ hG3) HL.out HC.out Bm HBm.out).mono ?_
    rintro e w4 ⟨rfl, hF4⟩
    have hG4 := hG3.then hF4
    clear hG3 hF4
    cases Bm with
    | false =>
      go_wp2_with fail
      refine (alive7_any _).mono ?_
      rintro e w5 ⟨rfl, hF5⟩
      have hG5 := hG4.then hF5
      go_wp2
      go_ret
      exact ⟨rfl, hG5⟩
    | true =>
      have HOK : Hid (okL 1 (txs ts)) := HC.out.ok.1 (HBm.out.1 rfl)
      clear HC HBm
      by_cases hbig : 14 < L
      · go_wp2_with fail
        refine (alive7_any _).mono ?_
        rintro e w5 ⟨rfl, hF5⟩
        have hG5 := hG4.then hF5
        go_wp2
        go_ret
        exact ⟨rfl, hG5⟩
      · have hL14 : L ≤ 14 := by omega
        have HG4 : Hid (Fr [] w w4) := hG4
        obtain ⟨i1, hi1, hy0, hy1, hy2⟩ := info_parts Try.infoBls
        obtain ⟨i0, hi0, hz0, hz1, hz2⟩ := info_parts Try.infoBl
        clear hG4 hbig hLs
        go_wp2_with (at_make; refine wpList_make_full _ rfl (.tmp 39) (.tmp 39) 58 rfl 0 59 i1 _ 1 Try.undBoolss hi1 hy0 hy1 .i64 .i64 ((L : Int) + 1) ((L : Int) + 1) (L + 1) rfl rfl (by omega) (by omega) ?b2 ?b3 ?b4 ?_)
        case b2 => rw [hy2]; omega
        case b3 => unfold maxLen; omega
        case b4 => exact Nat.zero_le _
        intro w5 hown hgrow
        obtain ⟨A, hA⟩ : ∃ A, A = w4.heap.size := ⟨_, rfl⟩
        have hF5 : Fr [] w4 w5 := Fr.grown (S := []) hgrow (by simp)
        have HM0 : Hid (Mx w4 w5 A L 1 (fun _ => 0) (Rb (txs ts))) := by
          rw [hA]
          rcases hown.2 with ⟨hv, _⟩ | ⟨g', cap', cur, hv, _, hb, _, _, hcs, ht⟩
          · cases hv
          · cases hv
            exact ⟨⟨cur, hb, by simpa using hcs, fun q a b => by omega⟩, Nat.le_refl _, fun q a b => by omega, fun q a b => by omega⟩
        rw [← hA]
        have HF5 : Hid (Fr [] w4 w5) := hF5
        clear hown hgrow hF5 hA hi1 hy0 hy1 hy2
        go_wp2_with fail
        go_loopw [5] (fun ii wr => ∃ (i : Nat) (g : Nat → Nat), ii = .int .i64 i ∧ 1 ≤ i ∧ i ≤ L + 1 ∧ Hid (Mx w4 wr A L i g (Rb (txs ts))) ∧ Hid (Fr [] w4 wr)) (fun ii _ => L + 1 - (RowKit.intOf ii).toNat)
        case atStart => exact ⟨1, _, rfl, Nat.le_refl _, by omega, HM0, HF5⟩
        case round =>
          obtain ⟨i, g, rfl, hi1, hiL, HM, HF⟩ := hrel
          by_cases hi : i ≤ L
          · obtain ⟨cA, hbA, hsA, _⟩ := HM.out.a
            have HAc : Hid (∃ v, wr.cell? ⟨A, i, none⟩ = some v) := by
              have hj : i < cA.size := by omega
              exact ⟨cA[i], by rw [cell_of_row _ _ _ _ _ _ hbA]; simp [hj]⟩
            have HbA : Hid (wr.heap[A]? = some (.cells cA 59 (0, 0))) := hbA
            have hsz4 : w4.heap.size ≤ wr.heap.size := HF.out.size
            obtain ⟨K, HK⟩ : ∃ K, Hid (i = K + 1) := ⟨i - 1, (show i = i - 1 + 1 by omega)⟩
            clear hbA hsA
            go_wp2_with (at_make; refine wpList_make_full _ rfl (.tmp 49) (.tmp 49) 59 rfl 0 4 i0 _ 1 Try.undBools hi0 hz0 hz1 .i64 .i64 ((L : Int) + 1) ((L : Int) + 1) (L + 1) rfl rfl (by omega) (by omega) ?b2 ?b3 ?b4 ?_)
            case b2 => rw [hz2]; omega
            case b3 => unfold maxLen; omega
            case b4 => exact Nat.zero_le _
            intro w6 hown hgrow
            have hF6 : Fr [] wr w6 := Fr.grown (S := []) hgrow (by simp)
            obtain ⟨hP6, hSet⟩ : MxP w4 (w6.setCell ⟨A, i, none⟩ (.slice (some ⟨wr.heap.size, 0, none⟩) (L + 1) (L + 1))) A L i (i + 1) (fun q => if q = i then wr.heap.size else g q) (Rb (txs ts)) ∧ Fr [A] w6 (w6.setCell ⟨A, i, none⟩ (.slice (some ⟨wr.heap.size, 0, none⟩) (L + 1) (L + 1))) := by
              rcases hown.2 with ⟨hv, _⟩ | ⟨g', cap', cur, hv, _, hb, _, _, hcs, ht⟩
              · cases hv
              · cases hv
                exact HM.out.begin hsz4 hi hF6 hb (by simpa using hcs)
            have HP6 : Hid (MxP w4 (w6.setCell ⟨A, i, none⟩ (.slice (some ⟨wr.heap.size, 0, none⟩) (L + 1) (L + 1))) A L i (i + 1) (fun q => if q = i then wr.heap.size else g q) (Rb (txs ts))) := hP6
            have HF6 : Hid (Fr [] w4 (w6.setCell ⟨A, i, none⟩ (.slice (some ⟨wr.heap.size, 0, none⟩) (L + 1) (L + 1)))) := (HF.out.then hF6).on hSet (by simpa using HM.out.na)
            obtain ⟨v0, hv0⟩ := HAc.out
            have cA6 : w6.cell? ⟨A, i, none⟩ = some v0 := (World.cell?_of_block (hF6.block A (lt_of_block HbA.out) (by simp))).trans hv0
            have fA6 : w6.frozen? ⟨A, i, none⟩ = false := frozen_of_row (hF6.keep HbA.out (by simp)) i
            obtain ⟨w7, HW7⟩ : ∃ w7, Hid (w6.setCell ⟨A, i, none⟩ (.slice (some ⟨wr.heap.size, 0, none⟩) (L + 1) (L + 1)) = w7) := ⟨_, rfl⟩
            rw [HW7.out] at HP6 HF6
            clear hown hgrow hF6 hP6 hSet HM HF hv0 HAc HbA
            obtain ⟨g2, hg2⟩ : ∃ g2 : Nat → Nat, g2 = fun q => if q = i then wr.heap.size else g q := ⟨_, rfl⟩
            rw [← hg2] at HP6
            clear hg2
            go_upto_region 9 with fail
            rw [HW7.out]
            clear cA6 fA6 HW7
            go_wp2_with fail
            go_loopw [6] (fun jj wr => ∃ (j : Nat), jj = .int .i64 j ∧ i + 1 ≤ j ∧ j ≤ L + 1 ∧ Hid (MxP w4 wr A L i j g2 (Rb (txs ts))) ∧ Hid (Fr [] w4 wr)) (fun jj _ => L + 1 - (RowKit.intOf jj).toNat)
            case atStart => exact ⟨i + 1, by simp, Nat.le_refl _, by omega, HP6, HF6⟩
            case round =>
              clear HP6 HF6
              obtain ⟨j, rfl, hij, hjL, HP, HF⟩ := hrel
              by_cases hj : j ≤ L
              · have HCh : Hid (Calls Try.prog 19 #[.slice ao L cap, .int .i64 (i : Int), .int .i64 (j : Int)] wr fun e w' => e = .returned (.tuple #[.bool (Rb (txs ts) i j), .int .i64 0]) ∧ Fr [] wr w') := by
                  have hK := HK.out
                  have := fChained_main ao L cap K j ts (Rb (txs ts) i j) wr (HI.out _ (HG4.out.then HF.out)) HL.out hcap HOK.out (by omega) hj (by rw [hK]; exact Rb_iff _ _ _)
                  rw [hK]
                  rw [hK] at this
                  exact this
                obtain ⟨B, hB⟩ : ∃ B, B = Rb (txs ts) i j := ⟨_, rfl⟩
                rw [← hB] at HCh
                go_wp2_with fail
                refine Calls.mono HCh.out ?_
                rintro e w8 ⟨rfl, hF8⟩
                have hP8 := HP.out.keep hF8
                have s8 := hP8.s
                obtain ⟨v1, hv1⟩ := hP8.r.any j hj
                have f1 : w8.frozen? ⟨g2 i, j, none⟩ = false := by
                  obtain ⟨cs, h1, _⟩ := hP8.r
                  exact frozen_of_row h1 j
                obtain ⟨h9, h10⟩ := hP8.put hj
                rw [← hB] at h9 h10
                have HP9 : Hid (MxP w4 (w8.setCell ⟨g2 i, j, none⟩ (.bool B)) A L i (j + 1) g2 (Rb (txs ts))) := h9
                have HF9 : Hid (Fr [] w4 (w8.setCell ⟨g2 i, j, none⟩ (.bool B))) := (HF.out.then hF8).on h10 (by simpa using HP.out.ng)
                clear hP8 h9 h10 HP HF hF8 HCh hB
                obtain ⟨gi, hgi⟩ : ∃ gi, gi = g2 i := ⟨_, rfl⟩
                rw [← hgi] at s8 hv1 f1 HP9 HF9
                clear hgi
                go_wp2_with fail
                go_roundw
                case rel => exact ⟨j + 1, by simp, by omega, by omega, HP9, HF9⟩
                case measure => simp [RowKit.intOf]; omega
              · have hjL2 : j = L + 1 := by omega
                have HM2 : Hid (Mx w4 wr A L (i + 1) g2 (Rb (txs ts))) := by
                  have := HP.out
                  rw [hjL2] at this
                  exact this.done hi1
                clear hjL2
                clear HP
                go_wp2_with fail
                go_roundw
                case rel => exact ⟨i + 1, g2, by simp, by omega, by omega, HM2, HF⟩
                case measure => simp [RowKit.intOf]; omega
          · have hiL2 : i = L + 1 := by omega
            have HMk : Hid (∀ W, Fr [] wr W → Mx w4 W A L (L + 1) g (Rb (txs ts))) := fun W hf => by
              have := HM.out.keep hf
              rw [hiL2] at this
              exact this
            have HFw : Hid (Fr [] w wr) := HG4.out.then HF.out
            obtain ⟨w6, hw6⟩ : ∃ w6, w6 = wr := ⟨_, rfl⟩
            rw [← hw6] at HMk HFw
            have HF0 : Hid (Fr [] w6 wr) := by rw [hw6]; exact Fr.refl _ _
            clear HM HF hw6 hi0 hz0 hz1 hz2 HF5 HM0 HG4 hiL2
            go_wp2_with fail
            go_loopw [9] (fun ii wr => ∃ (i : Nat), ii = .int .i64 i ∧ 1 ≤ i ∧ i ≤ L + 1 ∧ Hid (Fr [] w6 wr)) (fun ii _ => L + 1 - (RowKit.intOf ii).toNat)
            case atStart => exact ⟨1, rfl, Nat.le_refl _, by omega, HF0⟩
            case round =>
              clear HF0
              obtain ⟨i, rfl, hi1, hiL, HF⟩ := hrel
              by_cases hi : i ≤ L
              · obtain ⟨I, HIe⟩ : ∃ I, Hid (i = I + 1) := ⟨i - 1, (show i = i - 1 + 1 by omega)⟩
                have hII : (i : Int) - 1 = (I : Int) := by have := HIe.out; omega
                have hIL : I < L := by have := HIe.out; omega
                have hIt : I < ts.length := by have := HL.out; omega
                obtain ⟨bb, off, rfl, _, _⟩ := (HI.out wr (HFw.out.then HF.out)).lies (by omega)
                have HTi : Hid (∀ W, Fr [] w6 W → W.cell? ⟨bb, off + I * 2 + 1, none⟩ = some (.slice (ts.getD I Tm.zero).ao (ts.getD I Tm.zero).L (ts.getD I Tm.zero).cap) ∧ (ts.getD I Tm.zero).at W) := fun W hf => by
                  have hT := HI.out W (HFw.out.then hf)
                  obtain ⟨bb', off', e, _, hat⟩ := hT.lies (by omega)
                  cases e
                  exact ⟨(hat I hIt).c1, hT.each _ (tgetD_mem ts I hIt)⟩
                have HWi : Hid (((txs ts).getD (i - 1) Tx.zero).ws = (ts.getD I Tm.zero).ws) := by
                  rw [HIe.out, Nat.add_sub_cancel, txs_getD]
                  rfl
                have hLi : (ts.getD I Tm.zero).L ≤ 32 := by
                  have ho : okT (ts.getD I Tm.zero).n (ts.getD I Tm.zero).ws := okL_mem HOK.out (ts.getD I Tm.zero).tx (List.mem_map.2 ⟨_, tgetD_mem ts I hIt, rfl⟩)
                  rw [(HTi.out wr HF.out).2.len]
                  exact ho.2.2.1
                obtain ⟨x, hx⟩ : ∃ x, x = ts.getD I Tm.zero := ⟨_, rfl⟩
                rw [← hx] at HTi HWi hLi
                clear hx
                obtain ⟨ni, xo, Mi, cmi, wsi⟩ := x
                simp only at HTi HWi hLi
                go_wp2_with fail
                go_loopw [10] (fun jj wr => ∃ (j : Nat), jj = .int .i64 j ∧ i + 1 ≤ j ∧ j ≤ L + 1 ∧ Hid (Fr [] w6 wr)) (fun jj _ => L + 1 - (RowKit.intOf jj).toNat)
                case atStart => exact ⟨i + 1, by simp, Nat.le_refl _, by omega, HF⟩
                case round =>
                  clear HF
                  obtain ⟨j, rfl, hij, hjL, HF⟩ := hrel
                  by_cases hj : j ≤ L
                  · obtain ⟨J, HJe⟩ : ∃ J, Hid (j = J + 1) := ⟨j - 1, (show j = j - 1 + 1 by omega)⟩
                    have hJJ : (j : Int) - 1 = (J : Int) := by have := HJe.out; omega
                    have hJL : J < L := by have := HJe.out; omega
                    have hJt : J < ts.length := by have := HL.out; omega
                    have HTj : Hid (∀ W, Fr [] w6 W → W.cell? ⟨bb, off + J * 2, none⟩ = some (.int .i64 (ts.getD J Tm.zero).n) ∧ W.cell? ⟨bb, off + J * 2 + 1, none⟩ = some (.slice (ts.getD J Tm.zero).ao (ts.getD J Tm.zero).L (ts.getD J Tm.zero).cap) ∧ (ts.getD J Tm.zero).at W) := fun W hf => by
                      have hT := HI.out W (HFw.out.then hf)
                      obtain ⟨bb', off', e, _, hat⟩ := hT.lies (by omega)
                      cases e
                      exact ⟨(hat J hJt).c0, (hat J hJt).c1, hT.each _ (tgetD_mem ts J hJt)⟩
                    have HWj : Hid (((txs ts).getD (j - 1) Tx.zero).ws = (ts.getD J Tm.zero).ws) := by
                      rw [HJe.out, Nat.add_sub_cancel, txs_getD]
                      rfl
                    obtain ⟨y, hy⟩ : ∃ y, y = ts.getD J Tm.zero := ⟨_, rfl⟩
                    rw [← hy] at HTj HWj
                    clear hy
                    obtain ⟨nj, yo, Mj, cmj, wsj⟩ := y
                    simp only at HTj HWj
                    go_wp2_with fail
                    go_loopw [11, 12] (fun nn kk wr => ∃ (nb : Bool) (k : Nat), nn = .bool nb ∧ kk = .int .i64 k ∧ k ≤ Mi ∧ Hid (nb = nearB (wsi.take k) wsj) ∧ Hid (Fr [] w6 wr)) (fun _ kk _ => Mi - (RowKit.intOf kk).toNat)
                    case atStart => exact ⟨false, 0, rfl, rfl, Nat.zero_le _, rfl, HF⟩
                    case round =>
                      clear HF
                      obtain ⟨nb, k, rfl, rfl, hkM, HNb, HF⟩ := hrel
                      obtain ⟨t1, hTi⟩ := HTi.out _ HF.out
                      by_cases hk : k < Mi
                      · have hk' : k < wsi.length := by rw [← hTi.len]; exact hk
                        obtain ⟨xb, xoff, hxo, _, hxat⟩ := hTi.rs.lies (by simp only; omega)
                        simp only at hxo
                        subst hxo
                        have HKy : Hid (∀ W, Fr [] w6 W → W.cell? ⟨xb, xoff + k * 3, none⟩ = some (.string (wsi.getD k Wt.zero).key)) := fun W hf => by
                          obtain ⟨xb', xoff', e, _, hat⟩ := (HTi.out W hf).2.rs.lies (by simp only; omega)
                          cases e
                          exact (hat k hk').c0
                        have HSn : Hid (nearB (wsi.take (k + 1)) wsj = (nb || (lastW wsj (wsi.getD k Wt.zero).key).isSome)) := by
                          rw [HNb.out, show wsi.take (k + 1) = wsi.take k ++ [wsi.getD k Wt.zero] by rw [List.take_add_one]; simp [List.getD, hk']]
                          exact near_snoc _ _ _
                        obtain ⟨pk, hpk⟩ : ∃ pk, pk = (wsi.getD k Wt.zero).key := ⟨_, rfl⟩
                        rw [← hpk] at HKy HSn
                        clear hpk hxat
                        obtain ⟨R, hR⟩ : ∃ R, R = lastW wsj pk := ⟨_, rfl⟩
                        rw [← hR] at HSn
                        obtain ⟨u0, u1, _⟩ := HTj.out _ HF.out
                        have u2 := HKy.out _ HF.out
                        have z0 : wr.drew.cell? ⟨bb, off + J * 2, none⟩ = some (.int .i64 nj) := u0
                        have z1 : wr.drew.cell? ⟨bb, off + J * 2 + 1, none⟩ = some (.slice yo Mj cmj) := u1
                        have z2 : wr.drew.cell? ⟨bb, off + I * 2 + 1, none⟩ = some (.slice (some ⟨xb, xoff, none⟩) Mi cmi) := t1
                        have z3 : wr.drew.cell? ⟨xb, xoff + k * 3, none⟩ = some (.string pk) := u2
                        have hbl1 : bb < wr.heap.size := World.block_lt_of_cell? _ _ u0
                        have hbl2 : xb < wr.heap.size := World.block_lt_of_cell? _ _ u2
                        have HLa : Hid (∀ W, Fr [] w6 W → Calls Try.prog 25 #[.agg #[.int .i64 nj, .slice yo Mj cmj], .string pk] W fun e w' => e = .returned (.tuple #[.agg #[.string (R.getD ⟨⟨#[]⟩, ⟨#[]⟩, false⟩).key, .string (R.getD ⟨⟨#[]⟩, ⟨#[]⟩, false⟩).val, .bool (R.getD ⟨⟨#[]⟩, ⟨#[]⟩, false⟩).drop], .bool R.isSome]) ∧ Fr [] w6 w' ∧ Fr [] W w' ∧ w'.cell? ⟨bb, off + J * 2, none⟩ = some (.int .i64 nj) ∧ w'.cell? ⟨bb, off + J * 2 + 1, none⟩ = some (.slice yo Mj cmj) ∧ w'.cell? ⟨bb, off + I * 2 + 1, none⟩ = some (.slice (some ⟨xb, xoff, none⟩) Mi cmi) ∧ w'.cell? ⟨xb, xoff + k * 3, none⟩ = some (.string pk)) := by
                          intro W hf
                          refine (last7_any nj yo Mj cmj wsj pk R W (HTj.out W hf).2.2.rs (HTj.out W hf).2.2.len hR).mono ?_
                          rintro e w' ⟨rfl, hF⟩
                          have h2 := hf.then hF
                          exact ⟨rfl, h2, hF, (HTj.out _ h2).1, (HTj.out _ h2).2.1, (HTi.out _ h2).1, HKy.out _ h2⟩
                        obtain ⟨Rk, hRk⟩ : ∃ Rk, Rk = (R.getD ⟨⟨#[]⟩, ⟨#[]⟩, false⟩).key := ⟨_, rfl⟩
                        obtain ⟨Rv, hRv⟩ : ∃ Rv, Rv = (R.getD ⟨⟨#[]⟩, ⟨#[]⟩, false⟩).val := ⟨_, rfl⟩
                        obtain ⟨Rd, hRd⟩ : ∃ Rd, Rd = (R.getD ⟨⟨#[]⟩, ⟨#[]⟩, false⟩).drop := ⟨_, rfl⟩
                        obtain ⟨Rs, hRs⟩ : ∃ Rs, Rs = R.isSome := ⟨_, rfl⟩
                        rw [← hRk, ← hRv, ← hRd, ← hRs] at HLa
                        rw [← hRs] at HSn
                        have hFr' : Fr [] w6 wr.drew := HF.out.then (Fr.drew _ _)
                        have HLb : Hid (Calls Try.prog 25 #[.agg #[.int .i64 nj, .slice yo Mj cmj], .string pk] (wr.alloc (.cells #[.string ⟨#[]⟩, .string ⟨#[]⟩, .bool false] 53)).drew fun e w' => e = .returned (.tuple #[.agg #[.string Rk, .string Rv, .bool Rd], .bool Rs]) ∧ Fr [] w6 w' ∧ w'.cell? ⟨bb, off + J * 2, none⟩ = some (.int .i64 nj) ∧ w'.cell? ⟨bb, off + J * 2 + 1, none⟩ = some (.slice yo Mj cmj) ∧ w'.cell? ⟨bb, off + I * 2 + 1, none⟩ = some (.slice (some ⟨xb, xoff, none⟩) Mi cmi) ∧ w'.cell? ⟨xb, xoff + k * 3, none⟩ = some (.string pk) ∧ w'.heap[wr.heap.size]? = some (.cells #[.string ⟨#[]⟩, .string ⟨#[]⟩, .bool false] 53 (0, 0))) := by
                          have hFa : Fr [] w6 (wr.alloc (.cells #[.string ⟨#[]⟩, .string ⟨#[]⟩, .bool false] 53)).drew := HF.out.then ((Fr.alloc [] wr _).then (Fr.drew _ _))
                          refine (HLa.out _ hFa).mono ?_
                          rintro e w' ⟨rfl, h1, h2, h3, h4, h5, h6⟩
                          exact ⟨rfl, h1, h3, h4, h5, h6, h2.keep (show (wr.alloc (.cells #[.string ⟨#[]⟩, .string ⟨#[]⟩, .bool false] 53)).drew.heap[wr.heap.size]? = _ from heap_alloc_new wr _) (by simp)⟩
                        clear hR hRk hRv hRd hRs hTi
                        have wj1 : IntKind.i64.wrap (J : Int) = (J : Int) := by rw [IntKind.wrap_i64]; omega
                        have wi1 : IntKind.i64.wrap (I : Int) = (I : Int) := by rw [IntKind.wrap_i64]; omega
                        have bi1 : (0 : Int) ≤ (J : Int) := by omega
                        have bi2 : (J : Int) < (L : Int) := by omega
                        have bi3 : (0 : Int) ≤ (I : Int) := by omega
                        have bi4 : (I : Int) < (L : Int) := by omega
                        have bi5 : (0 : Int) ≤ (k : Int) := by omega
                        have bi6 : (k : Int) < (Mi : Int) := by omega
                        go_wp2_with fail
                        go_region_held3 (fun W => W.cell? ⟨bb, off + J * 2, none⟩ = some (.int .i64 nj) ∧ W.cell? ⟨bb, off + J * 2 + 1, none⟩ = some (.slice yo Mj cmj) ∧ W.cell? ⟨bb, off + I * 2 + 1, none⟩ = some (.slice (some ⟨xb, xoff, none⟩) Mi cmi) ∧ W.cell? ⟨xb, xoff + k * 3, none⟩ = some (.string pk)) (go_keep)
                          (first
                          | (go_at_call 25; with_reducible refine Calls.mono HLb.out ?_; rintro e w8 ⟨rfl, hG8, k0, k1, k2, k3, hbx⟩; have ne1 : ¬ bb = wr.heap.size := by omega
                             have ne2 : ¬ xb = wr.heap.size := by omega
                             have ne3 : ¬ wr.heap.size = bb := by omega
                             have ne4 : ¬ wr.heap.size = xb := by omega
                             have a0 : w8.cell? ⟨wr.heap.size, 0, none⟩ = some (.string ⟨#[]⟩) := by rw [cell_of_row _ _ _ _ _ _ hbx]; rfl
                             have a1 : w8.cell? ⟨wr.heap.size, 1, none⟩ = some (.string ⟨#[]⟩) := by rw [cell_of_row _ _ _ _ _ _ hbx]; rfl
                             have a2 : w8.cell? ⟨wr.heap.size, 2, none⟩ = some (.bool false) := by rw [cell_of_row _ _ _ _ _ _ hbx]; rfl
                             have y0 := frozen_of_row hbx 0
                             have y1 := frozen_of_row hbx 1
                             have y2 := frozen_of_row hbx 2)
                          | (go_at_call 25; with_reducible refine Calls.mono (HLa.out _ hFr') ?_; rintro e w8 ⟨rfl, hG8, _, k0, k1, k2, k3⟩; have hbx := heap_alloc_new w8 (.cells #[.string ⟨#[]⟩, .string ⟨#[]⟩, .bool false] 53)
                             have hl1 := World.block_lt_of_cell? _ _ k0
                             have hl2 := World.block_lt_of_cell? _ _ k3
                             simp only at hl1 hl2
                             have ne1 : ¬ bb = w8.heap.size := by omega
                             have ne2 : ¬ xb = w8.heap.size := by omega
                             have ne3 : ¬ w8.heap.size = bb := by omega
                             have ne4 : ¬ w8.heap.size = xb := by omega
                             have a0 : (w8.alloc (.cells #[.string ⟨#[]⟩, .string ⟨#[]⟩, .bool false] 53)).cell? ⟨w8.heap.size, 0, none⟩ = some (.string ⟨#[]⟩) := by rw [cell_of_row _ _ _ _ _ _ hbx]; rfl
                             have a1 : (w8.alloc (.cells #[.string ⟨#[]⟩, .string ⟨#[]⟩, .bool false] 53)).cell? ⟨w8.heap.size, 1, none⟩ = some (.string ⟨#[]⟩) := by rw [cell_of_row _ _ _ _ _ _ hbx]; rfl
                             have a2 : (w8.alloc (.cells #[.string ⟨#[]⟩, .string ⟨#[]⟩, .bool false] 53)).cell? ⟨w8.heap.size, 2, none⟩ = some (.bool false) := by rw [cell_of_row _ _ _ _ _ _ hbx]; rfl
                             have y0 := frozen_of_row hbx 0
                             have y1 := frozen_of_row hbx 1
                             have y2 := frozen_of_row hbx 2))
                        · have HW9 : Hid (Fr [] w6 (w8.alloc (.cells #[.string Rk, .string Rv, .bool Rd] 53))) := hG8.then (Fr.alloc [] _ _)
                          clear hbx a0 a1 a2 y0 y1 y2 k0 k1 k2 k3 z0 z1 z2 z3 u0 u1 u2 HLa HLb hFr' HNb
                          cases nb with
                          | true =>
                            go_wp2_with fail
                            go_roundw
                            case rel => exact ⟨true, k + 1, rfl, by simp, by omega, (show true = _ by rw [HSn.out]; rfl), HW9⟩
                            case measure => simp [RowKit.intOf]; omega
                          | false =>
                            go_wp2_with fail
                            go_roundw
                            case rel => exact ⟨Rs, k + 1, rfl, by simp, by omega, (show Rs = _ by rw [HSn.out]; simp), HW9⟩
                            case measure => simp [RowKit.intOf]; omega
                        · have hFs : Fr [wr.heap.size] w8 (((w8.setCell ⟨wr.heap.size, 0, none⟩ (.string Rk)).setCell ⟨wr.heap.size, 1, none⟩ (.string Rv)).setCell ⟨wr.heap.size, 2, none⟩ (.bool Rd)) := ((Fr.set _ _ _ (by simp)).then (Fr.set _ _ _ (by simp))).then (Fr.set _ _ _ (by simp))
                          have HW9 : Hid (Fr [] w6 (((w8.setCell ⟨wr.heap.size, 0, none⟩ (.string Rk)).setCell ⟨wr.heap.size, 1, none⟩ (.string Rv)).setCell ⟨wr.heap.size, 2, none⟩ (.bool Rd))) := hG8.on hFs (by intro x hx; simp at hx; have := HF.out.size; omega)
                          clear hFs
                          clear hbx a0 a1 a2 y0 y1 y2 k0 k1 k2 k3 z0 z1 z2 z3 u0 u1 u2 HLa HLb hFr' HNb
                          cases nb with
                          | true =>
                            go_wp2_with fail
                            go_roundw
                            case rel => exact ⟨true, k + 1, rfl, by simp, by omega, (show true = _ by rw [HSn.out]; rfl), HW9⟩
                            case measure => simp [RowKit.intOf]; omega
                          | false =>
                            go_wp2_with fail
                            go_roundw
                            case rel => exact ⟨Rs, k + 1, rfl, by simp, by omega, (show Rs = _ by rw [HSn.out]; simp), HW9⟩
                            case measure => simp [RowKit.intOf]; omega
                      · have hkM2 : k = Mi := by omega
                        have HNr : Hid (nb = nearB wsi wsj) := by
                          have h1 := HNb.out
                          rw [List.take_of_length_le (by have := hTi.len; simp only at this; omega)] at h1
                          exact h1
                        clear HNb hTi
                        go_wp2_with fail
                        go_loopw [15, 16] (fun bb kk wr => ∃ (vb : Bool) (q : Nat), bb = .bool vb ∧ kk = .int .i64 q ∧ i + 1 ≤ q ∧ q ≤ j ∧ Hid (vb = viaB (Rb (txs ts)) i j q) ∧ Hid (Fr [] w6 wr)) (fun _ kk _ => j - (RowKit.intOf kk).toNat)
                        case atStart => exact ⟨false, i + 1, rfl, by simp, Nat.le_refl _, hij, (via_low _ i j (i + 1) (Nat.le_refl _)).symm, HF⟩
                        case round =>
                          clear HF t1
                          obtain ⟨vb, q, rfl, rfl, hiq, hqj, HVb, HF⟩ := hrel
                          have hM := HMk.out _ HF.out
                          have s1 := hM.slice i hi1 (by omega)
                          by_cases hq : q < j
                          · have s2 := hM.slice q (by omega) (by omega)
                            have s3 := hM.bool i q hi1 (by omega) (by omega) (by omega)
                            have s4 := hM.bool q j (by omega) (by omega) hq hj
                            have HSt : Hid (viaB (Rb (txs ts)) i j (q + 1) = (vb || (Rb (txs ts) i q && Rb (txs ts) q j))) := by rw [HVb.out]; exact via_step _ i j q (by omega)
                            obtain ⟨R1, hR1⟩ : ∃ R1, R1 = Rb (txs ts) i q := ⟨_, rfl⟩
                            obtain ⟨R2, hR2⟩ : ∃ R2, R2 = Rb (txs ts) q j := ⟨_, rfl⟩
                            rw [← hR1] at s3 HSt
                            rw [← hR2] at s4 HSt
                            obtain ⟨gi, hgi⟩ : ∃ gi, gi = g i := ⟨_, rfl⟩
                            obtain ⟨gq, hgq⟩ : ∃ gq, gq = g q := ⟨_, rfl⟩
                            rw [← hgi] at s1 s3
                            rw [← hgq] at s2 s4
                            clear hR1 hR2 hgi hgq hM HVb
                            cases vb with
                            | true =>
                              go_wp2_with fail
                              go_roundw
                              case rel => exact ⟨true, q + 1, rfl, by simp, by omega, by omega, (show true = _ by rw [HSt.out]; rfl), HF⟩
                              case measure => simp [RowKit.intOf]; omega
                            | false =>
                              cases R1 with
                              | false =>
                                go_wp2_with fail
                                go_roundw
                                case rel => exact ⟨false, q + 1, rfl, by simp, by omega, by omega, (show false = _ by rw [HSt.out]; rfl), HF⟩
                                case measure => simp [RowKit.intOf]; omega
                              | true =>
                                go_wp2_with fail
                                go_roundw
                                case rel => exact ⟨R2, q + 1, rfl, by simp, by omega, by omega, (show R2 = _ by rw [HSt.out]; simp), HF⟩
                                case measure => simp [RowKit.intOf]; omega
                          · have hqj2 : q = j := by omega
                            have s3 := hM.bool i j hi1 (by omega) (by omega) hj
                            have hlk := links (txs ts) i j (by omega)
                            have hv := HVb.out
                            rw [hqj2] at hv
                            rw [HWi.out, HWj.out, ← HNr.out, ← hv] at hlk
                            clear hv
                            obtain ⟨Rij, hRij⟩ : ∃ Rij, Rij = Rb (txs ts) i j := ⟨_, rfl⟩
                            rw [← hRij] at s3 hlk
                            obtain ⟨gi, hgi⟩ : ∃ gi, gi = g i := ⟨_, rfl⟩
                            rw [← hgi] at s1 s3
                            clear hRij hgi hM HVb HNr
                            subst hlk
                            cases nb <;> cases vb <;> (
                              go_wp2_with fail
                              go_roundw
                              case rel => exact ⟨j + 1, by simp, by omega, by omega, HF⟩
                              case measure => simp [RowKit.intOf]; omega)
                  · go_wp2_with fail
                    go_roundw
                    case rel => exact ⟨i + 1, by simp, by omega, by omega, HF⟩
                    case measure => simp [RowKit.intOf]; omega
              · go_wp2
                go_ret
                exact ⟨rfl, HFw.out.then HF.out⟩

theorem own : ownKnob Try.prog.godebug = none := by kernel_rfl
theorem laidOut : laidOutB Try.prog = true := by kernel_rfl
set_option maxHeartbeats 4000000 in
set_option maxRecDepth 100000 in
theorem lifted (os : Os) (started : os.Started) (H : Type) (enc : TypeId × Value → H) :
    ReturnsInHanded {} Try.checked os 7 .any (Rows.foldLinksSpec.pre6 enc Try.prog Try.f7 Rows.foldLinksRow.domain false) (Rows.foldLinksSpec.post enc Try.prog Try.f7 false true false false) := by
  refine returnsInHanded_of_change_sized (C := Try.checked) own started (by kernel_rfl) Try.func7
    (ChangeSpec.witness6 (enc := enc) (C := Try.checked) false ⟨#[], #[.slice none 0 0], []⟩ 8 (by kernel_rfl) (by kernel_rfl) (by kernel_rfl) (by kernel_rfl)) ?_
  intro W base args ds gs before hval0 hW hcnd hsz0 _
  have hval : ∀ (j : Nat) t v, Try.f7.params[j]? = some t → args[j]? = some v → Value.okWide Try.prog W .any base t v := hval0
  have hsz : (DataW.weightsEach Try.prog (Try.f7.params.toList ++ Rows.foldLinksSpec.plain.varTypes Try.prog) (ds ++ gs)).all (· ≤ reachBytes) = true := hsz0
  have hW' := hW
  obtain ⟨p, q, hA0, hV, rfl, hfz, hnd⟩ := hW
  have hA : DataW.TrodAll enc Try.prog W 0 (fun _ => true) true Try.f7.params.toList args.toList ds p := hA0
  rw [Try.params7] at hA hval hsz
  obtain ⟨v0, vs0, d0, ds0, p0, q0, hargs, rfl, rfl, h0, r0⟩ := trodAll_cons hA
  obtain ⟨rfl, rfl, rfl⟩ := trodAll_nil r0
  obtain rfl : args = #[v0] := by cases args; simp_all
  obtain ⟨rfl, rfl⟩ := trodVars_none hV
  have k0 := h0
  have lt0 : ∀ x ∈ p0, x.block < W.heap.size := by obtain ⟨m, hm⟩ := k0; exact DataW.trod_lt m _ _ _ hm
  obtain ⟨a0, len0, cap0, ts0, rfl, hB0, hL0, hC0⟩ : ∃ ao L cap ts, v0 = .slice ao L cap ∧ TRs W ao ts ∧ L = ts.length ∧ L ≤ cap := by
    obtain ⟨fuel, hf⟩ := h0
    obtain ⟨ao, L, cap, rfl⟩ := okWide_slice Try.undTs' (hval 0 22 v0 rfl rfl)
    exact ts_open hf (fun n hn => of_decide_eq_true (List.all_eq_true.1 hsz n (DataW.weights_mem_each (j := 0) (t := 22) rfl rfl n hn)))
  clear hA0 hval0
  refine (walk a0 len0 cap0 ts0 W hB0 hL0 hC0).mono fun e W' ⟨he, hf⟩ => ?_
  subst he
  have bel : Below W.heap.size W W' := hf.below (Nat.le_refl _) (by simp)
  exact ⟨_, rfl, _, _, _, [], _, [], hW', trodAll_mk1 (shut_bool Try.underlying4 _), (trodAll_cons_mk (Below.trod laidOut (by kernel_rfl) (of_decide_eq_true (by kernel_rfl)) k0 bel lt0) trodAll_mk0), rfl, bel.frame _, fun h => by cases h⟩

theorem over : Rows.foldLinksRow.holds Try.pinned (OpenSpec.ofChange Rows.foldLinksSpec) :=
  OpenClaim.holds_of_wide 7 Try.f7 rfl rfl rfl rfl rfl rfl rfl ⟨rfl, rfl, rfl, rfl, rfl⟩ rfl rfl rfl rfl rfl (by kernel_rfl) Try.func7 (by kernel_rfl)
    (of_decide_eq_true (by kernel_rfl)) (by unfold Func.isWrapper; first | (rw [if_pos (by decide +kernel)]; kernel_rfl) | (rw [if_neg (by decide +kernel)]; exact ⟨rfl, rfl⟩))
    (fun os started H enc _ => lifted os started H enc)
end Go.Proofs.Ytfminnmfdogopaa.foldLinks
namespace Go.Proofs.Ytfminnmfdogopaa
theorem foldlinks_holds : Rows.FoldLinksSaid := foldLinks.over
#print axioms foldlinks_holds
end Go.Proofs.Ytfminnmfdogopaa

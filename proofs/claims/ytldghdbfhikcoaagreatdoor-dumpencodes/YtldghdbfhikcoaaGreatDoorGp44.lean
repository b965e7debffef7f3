/- Texts of this claim laid together, one behind the other: contracts and plain lemmas; conditions as each names them. -/
import Derived.Test.YtldghdbfhikcoaaGreatDoorGp43
import Derived.Test.YtldghdbfhikcoaaGreatDoorGp13
/- The law DumpEncodes answers true. Conditions: its argument lies as it came in; the library's table of powers lies as the program lays it. -/
namespace Go.Proofs.YtldghdbfhikcoaaGreatDoor
open BigFrame Go.ChangeShapes Go.WideShapes Go.ChangeAt Go.RowKit Go.Lib Go.Maps
set_option linter.unusedVariables false
set_option linter.unusedSimpArgs false

set_option maxHeartbeats 16000000 in
set_option maxRecDepth 100000 in
theorem dumpe (m : Int) (bo : Option Addr) (Lb cb : Nat) (bs : List Int) (ho : Option Addr) (Lh ch : Nat) (hs : List Hd) (w : World) (hm : -9223372036854775808 ≤ m ∧ m ≤ 9223372036854775807) (hI : IRs w bo bs) (hLb : Lb = bs.length) (hH : HRs w ho hs) (hLh : Lh = hs.length) (htab : Bq.Tab w) :
    Calls Tryz.prog 3 #[.agg #[.int .i64 m, .slice bo Lb cb, .slice ho Lh ch]] w fun e w' => e = .returned (.bool true) ∧ Fr [] w w' := by
  have HLh : Hid (Lh = hs.length) := hLh
  have HLb : Hid (Lb = bs.length) := hLb
  obtain ⟨w1, HW1⟩ : ∃ w1, Hid (w.alloc (.cells #[.int .i64 m, .slice bo Lb cb, .slice ho Lh ch] 25) = w1) := ⟨_, rfl⟩
  have hF1 : Fr [] w w1 := by rw [← HW1.out]; exact Fr.alloc [] w _
  have hb1 : w1.heap[w.heap.size]? = some (.cells #[.int .i64 m, .slice bo Lb cb, .slice ho Lh ch] 25 (0, 0)) := by rw [← HW1.out]; exact heap_alloc_new w _
  have HBx : Hid (∀ W, Fr [] w1 W → W.cell? ⟨w.heap.size, 0, none⟩ = some (.int .i64 m) ∧ W.cell? ⟨w.heap.size, 1, none⟩ = some (.slice bo Lb cb) ∧ W.cell? ⟨w.heap.size, 2, none⟩ = some (.slice ho Lh ch)) := fun W hf => sv_cells (hf.keep hb1 (by simp))
  have HH : Hid (∀ W, Fr [] w1 W → HRs W ho hs ∧ IRs W bo bs) := fun W hf => ⟨hH.keep (hF1.then hf), hI.keep (hF1.then hf)⟩
  have HF1 : Hid (Fr [] w w1) := hF1
  have HTab : Hid (Bq.Tab w) := htab
  obtain ⟨k0, k1, k2⟩ := HBx.out _ (Fr.refl _ _)
  obtain ⟨A, hA⟩ : ∃ A, A = w.heap.size := ⟨_, rfl⟩
  have HSz : Hid (Calls _ _ _ _ _) := savedSize_any m bo ho Lb cb Lh ch bs hs w1 (HH.out _ (Fr.refl _ _)).2 hLb (HH.out _ (Fr.refl _ _)).1 hLh
  clear hI hH hLb hLh hb1 hF1 htab
  go_enter Tryz.func3, Tryz.ntmps3
  go_upto_region 1 with fail
  rw [HW1.out]
  rw [← hA] at HBx k0 k1 k2 ⊢
  clear HW1 hA
  go_wp2_with fail
  refine Calls.mono HSz.out ?_
  rintro e w3 ⟨S, rfl, hS, hSx, hF3⟩
  obtain ⟨w4, HW4⟩ : ∃ w4, Hid (w3.alloc (.cells #[.int .i64 (S : Int)] 3) = w4) := ⟨_, rfl⟩
  have HF4 : Hid (Fr [] w1 w4) := by show Fr [] w1 w4; rw [← HW4.out]; exact hF3.then (Fr.alloc [] _ _)
  have HBe : Hid (Calls _ _ _ _ _) := beyond_any w3.heap.size S w4 (by omega) (by rw [← HW4.out]; exact cell_new1 w3 _ _)
  have HSx : Hid (S ≤ 1048576 → S = bs.length + szKs (hs.map Hd.kv)) := hSx
  clear hF3 HSz hSx
  go_wp2_with fail
  rw [HW4.out]
  refine Calls.mono HBe.out ?_
  rintro e w5 ⟨rfl, rfl⟩
  clear HW4 HBe
  obtain ⟨k0, k1, k2⟩ := HBx.out _ HF4.out
  by_cases hbig : 1048576 < S
  · rw [show decide (1048576 < S) = true by simpa using hbig]
    clear hbig
    go_wp2
    go_ret
    exact ⟨rfl, HF1.out.then HF4.out⟩
  · rw [show decide (1048576 < S) = false by simpa using hbig]
    have hz : bs.length + szKs (hs.map Hd.kv) ≤ 1048576 := by have := HSx.out (by omega); omega
    have HZ : Hid (bs.length + szKs (hs.map Hd.kv) ≤ 1048576) := hz
    obtain ⟨hf1, hf2⟩ := szKs_few (hs := hs) (by omega)
    have hLh1 : Lh < 2^21 := by have := HLh.out; omega
    have hLb1 : Lb < 2^21 := by have := HLb.out; omega
    have HFew : Hid (Few hs) := fun t ht => by
      have h1 := hf2 t ht
      have h2 := ((HH.out _ (Fr.refl _ _)).1.each t ht).len
      omega
    obtain ⟨c, ys, hT⟩ := ToldD.ex m bs (hs.map Hd.kv)
    have hyl := hT.len hz
    have HT : Hid (ToldD m bs (hs.map Hd.kv) c ys) := hT
    obtain ⟨N, hN⟩ : ∃ N, N = ys.length := ⟨_, rfl⟩
    have hN1 : N < 2^26 := by omega
    have HN : Hid (N = ys.length) := hN
    have HTw : Hid (Calls _ _ _ _ _) := twinSv_any (w := w4) m bo ho Lb cb Lh ch bs hs (HH.out _ HF4.out).2 HLb.out (HH.out _ HF4.out).1 HLh.out hLh1 HFew.out
    clear hbig hz hf1 hf2 hT hyl hN HSx hS
    go_wp2_with fail
    refine Calls.mono HTw.out ?_
    rintro e w5 ⟨bb, bh, ks, rfl, hTw, hF5⟩
    obtain ⟨w6, HW6⟩ : ∃ w6, Hid (w5.alloc (.cells #[.int .i64 m, .slice (some ⟨bb, 0, none⟩) Lb (Lb + 1), .slice (some ⟨bh, 0, none⟩) Lh (Lh + 1)] 25) = w6) := ⟨_, rfl⟩
    have hF6 : Fr [] w5 w6 := by rw [← HW6.out]; exact Fr.alloc [] w5 _
    have hb6 : w6.heap[w5.heap.size]? = some (.cells #[.int .i64 m, .slice (some ⟨bb, 0, none⟩) Lb (Lb + 1), .slice (some ⟨bh, 0, none⟩) Lh (Lh + 1)] 25 (0, 0)) := by rw [← HW6.out]; exact heap_alloc_new w5 _
    have HB6 : Hid (∀ W, Fr [] w6 W → W.cell? ⟨w5.heap.size, 0, none⟩ = some (.int .i64 m) ∧ W.cell? ⟨w5.heap.size, 1, none⟩ = some (.slice (some ⟨bb, 0, none⟩) Lb (Lb + 1)) ∧ W.cell? ⟨w5.heap.size, 2, none⟩ = some (.slice (some ⟨bh, 0, none⟩) Lh (Lh + 1))) := fun W hf => sv_cells (hf.keep hb6 (by simp))
    have HT6 : Hid (∀ W, Fr [] w6 W → TwS w4 W bs hs bb bh ks ∧ IRs W (some ⟨bb, 0, none⟩) bs ∧ HRs W (some ⟨bh, 0, none⟩) (twTs hs ks)) := fun W hf => by
      have h := hTw.keep (hF6.then hf)
      exact ⟨h, h.irs (HH.out _ HF4.out).2, h.hrs (HH.out _ HF4.out).1⟩
    have HLk : Hid (Lh = (twTs hs ks).length ∧ (twTs hs ks).map Hd.kv = hs.map Hd.kv) := ⟨by rw [twTs_length hs ks hTw.tw.len]; exact HLh.out, hTw.kv⟩
    have HF6 : Hid (Fr [] w4 w6) := hF5.then hF6
    obtain ⟨k0, k1, k2⟩ := HBx.out _ (HF4.out.then HF6.out)
    obtain ⟨j0, j1, j2⟩ := HB6.out _ (Fr.refl _ _)
    obtain ⟨B, hB⟩ : ∃ B, B = w5.heap.size := ⟨_, rfl⟩
    have HE1 : Hid (Calls _ _ _ _ _) := dencode_gen m (some ⟨bb, 0, none⟩) (some ⟨bh, 0, none⟩) Lb (Lb + 1) Lh (Lh + 1) c N bs (twTs hs ks) (hs.map Hd.kv) ys w6 (HT6.out _ (Fr.refl _ _)).2.1 HLb.out (HT6.out _ (Fr.refl _ _)).2.2 HLk.out.1 HLk.out.2 HT.out HN.out HZ.out
    clear HTw hF5 hF6 hb6 hTw
    go_upto_region 4 with fail
    rw [HW6.out]
    rw [← hB] at HB6 j0 j1 j2 ⊢
    clear HW6 hB
    go_wp2_with fail
    refine Calls.mono HE1.out ?_
    rintro e w7 ⟨a1, c1, rfl, hO1, hn1, hF7⟩
    have HF7 : Hid (Fr [] w6 w7) := hF7
    have HO1 : Hid (w7.ownsRow 0 5 1 (.slice a1 N c1) N (bts ys) ∧ (∀ k, (Value.slice a1 N c1).ownBlock = some k → w6.heap.size ≤ k)) := ⟨hO1, hn1⟩
    obtain ⟨j0, j1, j2⟩ := HB6.out _ hF7
    have HE2 : Hid (Calls _ _ _ _ _) := dencode_gen m (some ⟨bb, 0, none⟩) (some ⟨bh, 0, none⟩) Lb (Lb + 1) Lh (Lh + 1) c N bs (twTs hs ks) (hs.map Hd.kv) ys w7 (HT6.out _ hF7).2.1 HLb.out (HT6.out _ hF7).2.2 HLk.out.1 HLk.out.2 HT.out HN.out HZ.out
    clear HE1 hO1 hn1 hF7
    go_wp2_with fail
    refine Calls.mono HE2.out ?_
    rintro e w8 ⟨a2, c2, rfl, hO2, hn2, hF8⟩
    have HF8 : Hid (Fr [] w7 w8) := hF8
    have HO2 : Hid (w8.ownsRow 0 5 1 (.slice a2 N c2) N (bts ys) ∧ (∀ k, (Value.slice a2 N c2).ownBlock = some k → w7.heap.size ≤ k)) := ⟨hO2, hn2⟩
    obtain ⟨k0, k1, k2⟩ := HBx.out _ (HF4.out.then (HF6.out.then (HF7.out.then hF8)))
    have HE3 : Hid (Calls _ _ _ _ _) := ywencode_gen m bo ho Lb cb Lh ch c N bs hs ys w8 (HH.out _ (HF4.out.then (HF6.out.then (HF7.out.then hF8)))).2 HLb.out (HH.out _ (HF4.out.then (HF6.out.then (HF7.out.then hF8)))).1 HLh.out HT.out HN.out HZ.out hLh1
    clear HE2 hO2 hn2 hF8
    go_wp2_with fail
    refine Calls.mono HE3.out ?_
    rintro e w9 ⟨a3, c3, rfl, hR3, hF9⟩
    have HF69 : Hid (Fr [] w6 w9) := HF7.out.then (HF8.out.then hF9)
    have HRs : Hid (∀ W, Fr [] w9 W → Rs W a1 ys ∧ Rs W a2 ys ∧ Rs W a3 ys ∧ W.ownsRow 0 5 1 (.slice a1 N c1) N (bts ys) ∧ W.ownsRow 0 5 1 (.slice a2 N c2) N (bts ys)) := fun W hf => by
      have h1 := owns_keep HO1.out.1 (HF8.out.then (hF9.then hf)) (by simp)
      have h2 := owns_keep HO2.out.1 (hF9.then hf) (by simp)
      have hy := HN.out
      exact ⟨own_rs h1 HN.out (by omega), own_rs h2 HN.out (by omega), hR3.fr5 hf, h1, h2⟩
    clear HE3 hR3 hF9
    have hC1 : ∀ y : Wd13 w9, Calls Tryz.prog 11 #[.agg #[.int .i64 m, .slice (some ⟨bb, 0, none⟩) Lb (Lb + 1), .slice (some ⟨bh, 0, none⟩) Lh (Lh + 1)]] y.W fun e w' => e = .returned (.int .i64 (c : Int)) ∧ Fr [] y.W w' := fun y => dcheck_any m _ _ Lb (Lb + 1) Lh (Lh + 1) c bs (twTs hs ks) y.W (HT6.out _ (HF69.out.then y.h)).2.1 HLb.out (HT6.out _ (HF69.out.then y.h)).2.2 HLk.out.1 (HT.out.ck HLk.out.2)
    have hC2 : ∀ y : Wd13 w9, Calls Tryz.prog 12 #[.agg #[.int .i64 m, .slice bo Lb cb, .slice ho Lh ch]] y.W fun e w' => e = .returned (.int .i64 (c : Int)) ∧ Fr [] y.W w' := fun y => ywcheck_any m bo ho Lb cb Lh ch c bs hs y.W (HH.out _ (HF4.out.then (HF6.out.then (HF69.out.then y.h)))).2 HLb.out (HH.out _ (HF4.out.then (HF6.out.then (HF69.out.then y.h)))).1 HLh.out (HT.out.ck rfl)
    have hC3 : ∀ y : Wd13 w9, Calls Tryz.prog 13 #[.slice a1 N c1, .slice a3 N c3] y.W fun e w' => e = .returned (.bool true) ∧ Fr [] y.W w' := fun y => (same_yes a1 a3 N N c1 c3 ys ys y.W (HRs.out _ y.h).1 (HRs.out _ y.h).2.2.1 HN.out HN.out rfl).mono (fun e w' h => ⟨h.1, by obtain ⟨q, hq⟩ := h.2; rw [hq]; exact Fr.drewN _ _ _⟩)
    have hC4 : ∀ y : Wd13 w9, Calls Tryz.prog 13 #[.slice a2 N c2, .slice a3 N c3] y.W fun e w' => e = .returned (.bool true) ∧ Fr [] y.W w' := fun y => (same_yes a2 a3 N N c2 c3 ys ys y.W (HRs.out _ y.h).2.1 (HRs.out _ y.h).2.2.1 HN.out HN.out rfl).mono (fun e w' h => ⟨h.1, by obtain ⟨q, hq⟩ := h.2; rw [hq]; exact Fr.drewN _ _ _⟩)
    have hC5 : ∀ y : Wd13 w9, Calls Tryz.prog 14 #[.agg #[.int .i64 m, .slice (some ⟨bb, 0, none⟩) Lb (Lb + 1), .slice (some ⟨bh, 0, none⟩) Lh (Lh + 1)], .agg #[.int .i64 m, .slice bo Lb cb, .slice ho Lh ch]] y.W fun e w' => e = .returned (.bool true) ∧ Fr [] y.W w' := fun y => leftSv_any (w0 := w4) m bo ho Lb cb Lh ch bs hs bb bh ks (HH.out _ (HF4.out.then (HF6.out.then (HF69.out.then y.h)))).2 HLb.out (HH.out _ (HF4.out.then (HF6.out.then (HF69.out.then y.h)))).1 HLh.out hLh1 HFew.out (HT6.out _ (HF69.out.then y.h)).1
    have hb0 : ∀ y : Wd13 w9, y.W.cell? ⟨A, 0, none⟩ = some (.int .i64 m) := fun y => (HBx.out _ (HF4.out.then (HF6.out.then (HF69.out.then y.h)))).1
    have hb1 : ∀ y : Wd13 w9, y.W.cell? ⟨A, 1, none⟩ = some (.slice bo Lb cb) := fun y => (HBx.out _ (HF4.out.then (HF6.out.then (HF69.out.then y.h)))).2.1
    have hb2 : ∀ y : Wd13 w9, y.W.cell? ⟨A, 2, none⟩ = some (.slice ho Lh ch) := fun y => (HBx.out _ (HF4.out.then (HF6.out.then (HF69.out.then y.h)))).2.2
    have hb3 : ∀ y : Wd13 w9, y.W.cell? ⟨B, 0, none⟩ = some (.int .i64 m) := fun y => (HB6.out _ (HF69.out.then y.h)).1
    have hb4 : ∀ y : Wd13 w9, y.W.cell? ⟨B, 1, none⟩ = some (.slice (some ⟨bb, 0, none⟩) Lb (Lb + 1)) := fun y => (HB6.out _ (HF69.out.then y.h)).2.1
    have hb5 : ∀ y : Wd13 w9, y.W.cell? ⟨B, 2, none⟩ = some (.slice (some ⟨bh, 0, none⟩) Lh (Lh + 1)) := fun y => (HB6.out _ (HF69.out.then y.h)).2.2
    clear k0 k1 k2 j0 j1 j2
    go_upto_region 7 with fail
    refine wp_region_wd13 (w1 := w9) (by kernel_rfl) (by kernel_rfl) (Fr.refl _ _) ?_
    repeat (go_big_quiet_step (first
      | (go_at_call 11; with_reducible refine (hC1 _).mono ?_; exact fun e w3 hh => ⟨hh.1, ⟨_, Fr.then (Wd13.h _) hh.2⟩, rfl⟩)
      | (go_at_call 12; with_reducible refine (hC2 _).mono ?_; exact fun e w3 hh => ⟨hh.1, ⟨_, Fr.then (Wd13.h _) hh.2⟩, rfl⟩)
      | (go_at_call 13; with_reducible refine (hC3 _).mono ?_; exact fun e w3 hh => ⟨hh.1, ⟨_, Fr.then (Wd13.h _) hh.2⟩, rfl⟩)
      | (go_at_call 13; with_reducible refine (hC4 _).mono ?_; exact fun e w3 hh => ⟨hh.1, ⟨_, Fr.then (Wd13.h _) hh.2⟩, rfl⟩)
      | (go_at_call 14; with_reducible refine (hC5 _).mono ?_; exact fun e w3 hh => ⟨hh.1, ⟨_, Fr.then (Wd13.h _) hh.2⟩, rfl⟩)))
    refine wpQuiet_nil ?_
    rintro _ ⟨y, rfl⟩
    clear hb0 hb1 hb2 hC1 hC2 hC3 hC4 hC5 hb3 hb4 hb5
    obtain ⟨wb, hFb⟩ := y
    simp only
    have HFb : Hid (Fr [] w6 wb) := HF69.out.then hFb
    obtain ⟨wc, HWc⟩ : ∃ wc, Hid (wb.alloc (.cells Bq.newBk 48) = wc) := ⟨_, rfl⟩
    have hFc : Fr [] wb wc := by rw [← HWc.out]; exact Fr.alloc _ _ _
    obtain ⟨j0, j1, j2⟩ := HB6.out _ (HFb.out.then hFc)
    have hBk := book18 (m := m) (wS := w4) (w := wb) (w0 := w4) (Lb := Lb) (Lh := Lh) (N := N) (ys := ys) (a1 := a1) (a2 := a2) (c1 := c1) (c2 := c2) (ho := ho) (bo := bo) (wx := w4) (wy := w4) (HT6.out _ HFb.out).1 (HF6.out.then HFb.out) HLb.out HLh.out hLb1 hLh1 HFew.out (HH.out _ HF4.out).1 (HRs.out _ hFb).2.2.2.1 (HRs.out _ hFb).2.2.2.2 (by omega)
      (fun k hk hk2 => by have h1 := (HO1.out.1.lt k hk).2; have h2 := HO2.out.2 k hk2; omega)
      (fun k hk => Nat.le_trans HF6.out.size (HO1.out.2 k hk)) (fun k hk => Nat.le_trans (Nat.le_trans HF6.out.size HF7.out.size) (HO2.out.2 k hk)) (HTab.out.keep (HF1.out.then HF4.out) (by simp))
    rw [HWc.out] at hBk
    have HBk : Hid (Calls _ _ _ _ _) := hBk
    clear hBk hFb hFc
    go_upto_region 10 with fail
    rw [show wb.alloc (.cells #[.int .i64 0, .slice none 0 0, .slice none 0 0, .slice none 0 0, .slice none 0 0, .slice none 0 0, .slice none 0 0, .slice none 0 0, .slice none 0 0, .slice none 0 0, .slice none 0 0, .slice none 0 0] 48) = wc from HWc.out]
    clear HWc
    go_wp2_with fail
    refine Calls.mono HBk.out ?_
    rintro e x1 ⟨rfl, hc1⟩
    have H1 : Hid (Calls _ _ _ _ _) := hc1
    clear hc1 HBk j0 j1 j2
    go_wp2_with fail
    refine Calls.mono H1.out ?_
    rintro e x2 ⟨rfl, hc2⟩
    have H2 : Hid (Calls _ _ _ _ _) := hc2
    clear hc2 H1
    go_wp2_with fail
    refine Calls.mono H2.out ?_
    rintro e x3 ⟨rfl, hc3⟩
    have H3 : Hid (Calls _ _ _ _ _) := hc3
    clear hc3 H2
    go_wp2_with fail
    refine Calls.mono H3.out ?_
    rintro e x4 ⟨rfl, hF9⟩
    have HFe : Hid (Fr [] w x4) := HF1.out.then (HF4.out.then hF9)
    clear hF9 H3
    go_wp2
    go_ret
    exact ⟨rfl, HFe.out⟩
end Go.Proofs.YtldghdbfhikcoaaGreatDoor

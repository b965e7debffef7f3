/- The law DumpSplits answers true. Conditions: its arguments lie as they came in; the library's table of powers lies as the program lays it. -/
import Derived.Test.YtldghdbfhikcoaaGreatDoorLu18
import Derived.Test.YtldghdbfhikcoaaGreatDoorIn18
namespace Go.Proofs.YtldghdbfhikcoaaGreatDoor
open BigFrame Go.ChangeShapes Go.WideShapes Go.ChangeAt Go.RowKit Go.Lib Go.Maps
set_option linter.unusedVariables false
set_option linter.unusedSimpArgs false

set_option maxHeartbeats 16000000 in
set_option maxRecDepth 100000 in
theorem dumps (l s x q m : Int) (bo : Option Addr) (Lb cb : Nat) (bs : List Int) (ho : Option Addr) (Lh ch : Nat) (hs : List Hd) (w : World) (hCf : Cf.ok ⟨l, s, x, q⟩) (hm : -9223372036854775808 ≤ m ∧ m ≤ 9223372036854775807) (hI : IRs w bo bs) (hLb : Lb = bs.length) (hH : HRs w ho hs) (hLh : Lh = hs.length) (htab : Bq.Tab w) :
    Calls Tryz.prog 5 #[.agg #[.int .i64 l, .int .i64 s, .int .i64 x, .int .i64 q], .agg #[.int .i64 m, .slice bo Lb cb, .slice ho Lh ch]] w fun e w' => e = .returned (.bool true) ∧ Fr [] w w' := by
  have HLh : Hid (Lh = hs.length) := hLh
  have HLb : Hid (Lb = bs.length) := hLb
  obtain ⟨w1, HW1⟩ : ∃ w1, Hid ((w.alloc (.cells #[.int .i64 l, .int .i64 s, .int .i64 x, .int .i64 q] 58)).alloc (.cells #[.int .i64 m, .slice bo Lb cb, .slice ho Lh ch] 25) = w1) := ⟨_, rfl⟩
  have hF1 : Fr [] w w1 := by rw [← HW1.out]; exact (Fr.alloc [] w _).then (Fr.alloc [] _ _)
  have e1 : (w.alloc (.cells #[.int .i64 l, .int .i64 s, .int .i64 x, .int .i64 q] 58)).heap.size = w.heap.size + 1 := by simp
  have hC1 : CfM w1 w.heap.size l s x q := by rw [← HW1.out]; exact (CfM.new _ _ _ _ _ _).keep (Fr.alloc [] _ _)
  have hb1 : w1.heap[w.heap.size + 1]? = some (.cells #[.int .i64 m, .slice bo Lb cb, .slice ho Lh ch] 25 (0, 0)) := by rw [← HW1.out, ← e1]; exact heap_alloc_new _ _
  have HC1 : Hid (∀ W, Fr [] w1 W → CfM W w.heap.size l s x q) := fun W hf => hC1.keep hf
  have HBx : Hid (∀ W, Fr [] w1 W → W.cell? ⟨w.heap.size + 1, 0, none⟩ = some (.int .i64 m) ∧ W.cell? ⟨w.heap.size + 1, 1, none⟩ = some (.slice bo Lb cb) ∧ W.cell? ⟨w.heap.size + 1, 2, none⟩ = some (.slice ho Lh ch)) := fun W hf => sv_cells (hf.keep hb1 (by simp))
  have HH : Hid (∀ W, Fr [] w1 W → HRs W ho hs ∧ IRs W bo bs) := fun W hf => ⟨hH.keep (hF1.then hf), hI.keep (hF1.then hf)⟩
  have HF1 : Hid (Fr [] w w1) := hF1
  have HTab : Hid (Bq.Tab w) := htab
  obtain ⟨k0, k1, k2⟩ := HBx.out _ (Fr.refl _ _)
  obtain ⟨_, f0, f1, f2, f3⟩ := HC1.out _ (Fr.refl _ _)
  obtain ⟨A, hA⟩ : ∃ A, A = w.heap.size := ⟨_, rfl⟩
  have HSz : Hid (Calls _ _ _ _ _) := savedSize_any m bo ho Lb cb Lh ch bs hs w1 (HH.out _ (Fr.refl _ _)).2 hLb (HH.out _ (Fr.refl _ _)).1 hLh
  clear hI hH hLb hLh hb1 hF1 htab hC1 e1
  go_enter Tryz.func5, Tryz.ntmps5
  go_upto_region 1 with fail
  rw [HW1.out]
  rw [← hA] at HBx HC1 k0 k1 k2 f0 f1 f2 f3 ⊢
  clear HW1 hA
  go_wp2_with fail
  refine Calls.mono HSz.out ?_
  rintro e w3 ⟨S, rfl, hS, hSx, hF3⟩
  obtain ⟨w4, HW4⟩ : ∃ w4, Hid (w3.alloc (.cells #[.int .i64 (S : Int)] 3) = w4) := ⟨_, rfl⟩
  have HF4 : Hid (Fr [] w1 w4) := by show Fr [] w1 w4; rw [← HW4.out]; exact hF3.then (Fr.alloc [] _ _)
  have HBe : Hid (Calls _ _ _ _ _) := beyond_any w3.heap.size S w4 (by omega) (by rw [← HW4.out]; exact cell_new1 w3 _ _)
  have HSx : Hid (S ≤ 1048576 → S = bs.length + szKs (hs.map Hd.kv)) := hSx
  clear hF3 HSz hSx
  go_wp2_with fail
  rw [HW4.out]
  refine Calls.mono HBe.out ?_
  rintro e w5 ⟨rfl, rfl⟩
  clear HW4 HBe
  obtain ⟨k0, k1, k2⟩ := HBx.out _ HF4.out
  by_cases hbig : 1048576 < S
  · rw [show decide (1048576 < S) = true by simpa using hbig]
    clear hbig
    go_wp2
    go_ret
    exact ⟨rfl, HF1.out.then HF4.out⟩
  · rw [show decide (1048576 < S) = false by simpa using hbig]
    have hz : bs.length + szKs (hs.map Hd.kv) ≤ 1048576 := by have := HSx.out (by omega); omega
    obtain ⟨hf1, hf2⟩ := szKs_few (hs := hs) (by omega)
    have hLh1 : Lh ≤ 1048576 := by have := HLh.out; omega
    have hLb1 : Lb < 2^21 := by have := HLb.out; omega
    have HFv : Hid (∀ y ∈ hs, y.vs.length ≤ 1048576) := hf2
    have HFew : Hid (Few hs) := fun t ht => by
      have h1 := hf2 t ht
      have h2 := ((HH.out _ (Fr.refl _ _)).1.each t ht).len
      omega
    have HTw : Hid (Calls _ _ _ _ _) := twinSv_any (w := w4) m bo ho Lb cb Lh ch bs hs (HH.out _ HF4.out).2 HLb.out (HH.out _ HF4.out).1 HLh.out (by omega) HFew.out
    clear hbig hz hf1 hf2 HSx hS
    go_wp2_with fail
    refine Calls.mono HTw.out ?_
    rintro e w5 ⟨bb, bh, ks, rfl, hTw, hF5⟩
    obtain ⟨w6, HW6⟩ : ∃ w6, Hid (w5.alloc (.cells #[.int .i64 m, .slice (some ⟨bb, 0, none⟩) Lb (Lb + 1), .slice (some ⟨bh, 0, none⟩) Lh (Lh + 1)] 25) = w6) := ⟨_, rfl⟩
    have hF6 : Fr [] w5 w6 := by rw [← HW6.out]; exact Fr.alloc [] w5 _
    have hb6 : w6.heap[w5.heap.size]? = some (.cells #[.int .i64 m, .slice (some ⟨bb, 0, none⟩) Lb (Lb + 1), .slice (some ⟨bh, 0, none⟩) Lh (Lh + 1)] 25 (0, 0)) := by rw [← HW6.out]; exact heap_alloc_new w5 _
    have HB6 : Hid (∀ W, Fr [] w6 W → W.cell? ⟨w5.heap.size, 0, none⟩ = some (.int .i64 m) ∧ W.cell? ⟨w5.heap.size, 1, none⟩ = some (.slice (some ⟨bb, 0, none⟩) Lb (Lb + 1)) ∧ W.cell? ⟨w5.heap.size, 2, none⟩ = some (.slice (some ⟨bh, 0, none⟩) Lh (Lh + 1))) := fun W hf => sv_cells (hf.keep hb6 (by simp))
    have HT6 : Hid (∀ W, Fr [] w6 W → TwS w4 W bs hs bb bh ks ∧ IRs W (some ⟨bb, 0, none⟩) bs ∧ HRs W (some ⟨bh, 0, none⟩) (twTs hs ks)) := fun W hf => by
      have h := hTw.keep (hF6.then hf)
      exact ⟨h, h.irs (HH.out _ HF4.out).2, h.hrs (HH.out _ HF4.out).1⟩
    have HLk : Hid (Lh = (twTs hs ks).length ∧ (twTs hs ks).map Hd.kv = hs.map Hd.kv) := ⟨by rw [twTs_length hs ks hTw.tw.len]; exact HLh.out, hTw.kv⟩
    have HF6 : Hid (Fr [] w4 w6) := hF5.then hF6
    have HBas : Hid (bh < w6.heap.size ∧ (∀ k ∈ ks, k < w6.heap.size) ∧ w4.heap.size ≤ w6.heap.size) := ⟨lt_of_block (HT6.out _ (Fr.refl _ _)).1.rh, (HT6.out _ (Fr.refl _ _)).1.tw.lt, HF6.out.size⟩
    have HFt : Hid (∀ y ∈ twTs hs ks, y.vs.length ≤ 1048576) := fun y hy => by
      have h1 : y.kv ∈ hs.map Hd.kv := by rw [← HLk.out.2]; exact List.mem_map.2 ⟨y, hy, rfl⟩
      obtain ⟨z, hz, hzy⟩ := List.mem_map.1 h1
      rw [show y.vs = z.vs from (congrArg Prod.snd hzy).symm]
      exact HFv.out z hz
    obtain ⟨k0, k1, k2⟩ := HBx.out _ (HF4.out.then HF6.out)
    obtain ⟨_, f0, f1, f2, f3⟩ := HC1.out _ (HF4.out.then HF6.out)
    obtain ⟨j0, j1, j2⟩ := HB6.out _ (Fr.refl _ _)
    obtain ⟨B, hB⟩ : ∃ B, B = w5.heap.size := ⟨_, rfl⟩
    have HE1 : Hid (Calls _ _ _ _ _) := split_any l s x q m (some ⟨bb, 0, none⟩) (some ⟨bh, 0, none⟩) Lb (Lb + 1) Lh (Lh + 1) bs (twTs hs ks) w6 (HT6.out _ (Fr.refl _ _)).2.1 HLb.out (HT6.out _ (Fr.refl _ _)).2.2 HLk.out.1
    clear HTw hF5 hF6 hb6 hTw
    go_upto_region 4 with fail
    rw [HW6.out]
    rw [← hB] at HB6 j0 j1 j2 ⊢
    clear HW6 hB
    go_wp2_with fail
    refine Calls.mono HE1.out ?_
    intro e w7 hp1
    obtain ⟨E, lo, S1, lc, rs, rfl, hA1, hLs, hLr, hF7, hn1, hn2, hn3⟩ := hp1.one HFt.out hLh1
    have HF7 : Hid (Fr [] w6 w7) := hF7
    have HA1 : Hid (AnsP ⟨l, s, x, q⟩ m bs (twTs hs ks) E S1 (fun j => (rs.getD j Lr.zero).hs.map Hd.kv)) := hA1
    have HLs : Hid (∀ W, Fr [] w7 W → Bq.Lss W lo S1 lc rs ∧ LRs W lo rs) := fun W hf => ⟨hLs.keep hf, hLr.keep hf⟩
    have HNw : Hid ((∀ j, j < S1 → ∀ k, (rs.getD j Lr.zero).v.ownBlock = some k → w6.heap.size ≤ k) ∧ (∀ j, j < S1 → ∀ x ∈ (rs.getD j Lr.zero).hs, ∀ k, (Value.slice x.vo x.L x.cap).ownBlock = some k → w6.heap.size ≤ k) ∧ (∀ k, (Value.slice lo S1 lc).ownBlock = some k → w6.heap.size ≤ k)) := ⟨hn1, hn2, hn3⟩
    obtain ⟨k0, k1, k2⟩ := HBx.out _ (HF4.out.then (HF6.out.then hF7))
    obtain ⟨_, f0, f1, f2, f3⟩ := HC1.out _ (HF4.out.then (HF6.out.then hF7))
    obtain ⟨j0, j1, j2⟩ := HB6.out _ hF7
    have HE2 : Hid (Calls _ _ _ _ _) := ywsplit_any l s x q m bo ho Lb cb Lh ch bs hs w7 (HH.out _ (HF4.out.then (HF6.out.then hF7))).2 HLb.out (HH.out _ (HF4.out.then (HF6.out.then hF7))).1 HLh.out
    clear HE1 hp1 hA1 hLs hLr hn1 hn2 hn3 hF7
    go_wp2_with fail
    refine Calls.mono HE2.out ?_
    intro e w9 hp2
    obtain ⟨E2, so, S2, oc, qs, rfl, hA2, hLq, hSq, hF9⟩ := hp2.one hLh1
    obtain ⟨eE, eS, eF⟩ := HA1.out.same hA2 HLk.out.2
    subst eE
    subst eS
    have HF69 : Hid (Fr [] w6 w9) := HF7.out.then hF9
    have HF79 : Hid (Fr [] w7 w9) := hF9
    have HSS : Hid (S1 = qs.length ∧ ∀ j, j < S1 → (rs.getD j Lr.zero).hs.map hkv = (qs.getD j Lr.zero).hs.map hkv) := ⟨hSq, eF⟩
    have HLq : Hid (∀ W, Fr [] w9 W → LRs W so qs) := fun W hf => hLq.keep hf
    clear HE2 hp2 hA2 hLq hSq eF hF9
    have hee : (E != E) = false := by simp
    have HC1' : Hid (Calls _ _ _ _ _) := sameHL_any lo so S1 lc oc rs qs w9 (HLs.out _ HF79.out).2 (HLq.out _ (Fr.refl _ _)) (HLs.out _ HF79.out).1.len HSS.out.1 HSS.out.2
    clear k0 k1 k2 j0 j1 j2 f0 f1 f2 f3
    go_wp2_with fail
    refine Calls.mono HC1'.out ?_
    rintro e wa ⟨rfl, hFa⟩
    have HFa : Hid (Fr [] w9 wa) := hFa
    obtain ⟨k0, k1, k2⟩ := HBx.out _ (HF4.out.then (HF6.out.then (HF69.out.then hFa)))
    obtain ⟨j0, j1, j2⟩ := HB6.out _ (HF69.out.then hFa)
    have HC5 : Hid (Calls _ _ _ _ _) := leftSv_any (w0 := w4) m bo ho Lb cb Lh ch bs hs bb bh ks (HH.out _ (HF4.out.then (HF6.out.then (HF69.out.then hFa)))).2 HLb.out (HH.out _ (HF4.out.then (HF6.out.then (HF69.out.then hFa)))).1 HLh.out (by omega) HFew.out (HT6.out _ (HF69.out.then hFa)).1
    clear HC1' hFa
    go_wp2_with fail
    refine Calls.mono HC5.out ?_
    rintro e wb ⟨rfl, hFb0⟩
    have hFb : Fr [] w9 wb := HFa.out.then hFb0
    clear HC5 k0 k1 k2 j0 j1 j2 hFb0
    have HFb : Hid (Fr [] w6 wb) := HF69.out.then hFb
    obtain ⟨wc, HWc⟩ : ∃ wc, Hid (wb.alloc (.cells Bq.newBk 48) = wc) := ⟨_, rfl⟩
    have hFc : Fr [] wb wc := by rw [← HWc.out]; exact Fr.alloc _ _ _
    obtain ⟨j0, j1, j2⟩ := HB6.out _ (HFb.out.then hFc)
    have hBk := book18s (m := m) (wS := w4) (w := wb) (Lb := Lb) (Lh := Lh) (ho := ho) (wx := w4) (lo := lo) (S := S1) (lc := lc) (rs := rs) w6.heap.size (HT6.out _ HFb.out).1 (HF6.out.then HFb.out) HLb.out HLh.out hLb1 hLh1 HFew.out (HH.out _ HF4.out).1 (HLs.out _ (HF79.out.then hFb)).1 HBas.out.1 HBas.out.2.1 HBas.out.2.2 HNw.out.1 HNw.out.2.1 HNw.out.2.2 (HTab.out.keep (HF1.out.then HF4.out) (by simp))
    rw [HWc.out] at hBk
    have HBk : Hid (Calls _ _ _ _ _) := hBk
    clear hBk hFb hFc
    go_upto_region 9 with fail
    rw [show wb.alloc (.cells #[.int .i64 0, .slice none 0 0, .slice none 0 0, .slice none 0 0, .slice none 0 0, .slice none 0 0, .slice none 0 0, .slice none 0 0, .slice none 0 0, .slice none 0 0, .slice none 0 0, .slice none 0 0] 48) = wc from HWc.out]
    clear HWc
    go_wp2_with fail
    refine Calls.mono HBk.out ?_
    rintro e x1 ⟨rfl, hc1⟩
    have H1 : Hid (Calls _ _ _ _ _) := hc1
    clear hc1 HBk j0 j1 j2
    go_wp2_with fail
    refine Calls.mono H1.out ?_
    rintro e x2 ⟨rfl, hc2⟩
    have H2 : Hid (Calls _ _ _ _ _) := hc2
    clear hc2 H1
    go_wp2_with fail
    refine Calls.mono H2.out ?_
    rintro e x4 ⟨rfl, hF9⟩
    have HFe : Hid (Fr [] w x4) := HF1.out.then (HF4.out.then hF9)
    clear hF9 H2
    go_wp2
    go_ret
    exact ⟨rfl, HFe.out⟩
end Go.Proofs.YtldghdbfhikcoaaGreatDoor

/- The walk of the law DumpDecodes. Conditions: its argument lies as it came in; the library's table of powers lies as the program lays it. -/
import Derived.Test.YtldghdbfhikcoaaGreatDoorLv18
import Derived.Test.YtldghdbfhikcoaaGreatDoorIn18
namespace Go.Proofs.YtldghdbfhikcoaaGreatDoor
open BigFrame Go.ChangeShapes Go.WideShapes Go.ChangeAt Go.RowKit Go.Lib Go.Maps
set_option linter.unusedVariables false
set_option linter.unusedSimpArgs false

set_option maxHeartbeats 16000000 in
set_option maxRecDepth 100000 in
theorem dumpd (ao : Option Addr) (L cap : Nat) (xs : List Nat) (w : World) (hA : BArg w ao L cap xs) (htab : Bq.Tab w) :
    Calls Tryz.prog 4 #[.slice ao L cap] w fun e w' => e = .returned (.bool true) ∧ Fr [] w w' := by
  have hmost := hA.most
  have HTab : Hid (Bq.Tab w) := htab
  have HA : Hid (∀ W, Fr [] w W → BArg W ao L cap xs) := fun W hf => hA.keep hf
  obtain ⟨w1, HW1⟩ : ∃ w1, Hid (w.alloc (.cells #[.int .i64 (L : Int)] 3) = w1) := ⟨_, rfl⟩
  have HF1 : Hid (Fr [] w w1) := by show Fr [] w w1; rw [← HW1.out]; exact Fr.alloc [] _ _
  have HBe : Hid (Calls _ _ _ _ _) := beyond_any w.heap.size L w1 (by omega) (by rw [← HW1.out]; exact cell_new1 w _ _)
  clear hA htab
  go_enter Tryz.func4, Tryz.ntmps4
  go_wp2_with fail
  rw [HW1.out]
  refine Calls.mono HBe.out ?_
  rintro e w5 ⟨rfl, rfl⟩
  clear HW1 HBe
  by_cases hbig : 1048576 < L
  · rw [show decide (1048576 < L) = true by simpa using hbig]
    clear hbig
    go_wp2
    go_ret
    exact ⟨rfl, HF1.out⟩
  · rw [show decide (1048576 < L) = false by simpa using hbig]
    have hL1 : L ≤ 1048576 := by omega
    have HTw : Hid (Calls _ _ _ _ _) := twin_any ao L cap xs w1 (HA.out _ HF1.out) (by omega)
    have HLen : Hid (L = xs.length ∧ ∀ x ∈ xs, x < 256) := ⟨(HA.out _ HF1.out).len, (HA.out _ HF1.out).low⟩
    clear hbig
    go_wp2_with fail
    refine Calls.mono HTw.out ?_
    rintro e w2 ⟨tb, rfl, htb, hrow, hF2⟩
    have HR2 : Hid (∀ W, Fr [] w2 W → W.heap[tb]? = some (.cells (bts (xs ++ [77])).toArray 5 (0, 0))) := fun W hf => hf.keep hrow (by simp)
    have HF2 : Hid (Fr [] w1 w2 ∧ w1.heap.size ≤ tb) := ⟨hF2, htb⟩
    have HDe : Hid (Calls _ _ _ _ _) := ddecode_any (some ⟨tb, 0, none⟩) L (L + 1) xs w2 (twin_barg18 hrow HLen.out.1 (by omega) HLen.out.2) HLen.out.1 (by have := HLen.out.1; omega)
    clear HTw htb hrow hF2
    go_wp2_with fail
    refine Calls.mono HDe.out ?_
    rintro e w3 hP
    obtain ⟨c, m, bo, Lb, cb, ho, Lh, ch, bs, hs, rfl, hAn, hLb, hLh, hlim, hO3, hH3, hF3⟩ := hP.one HLen.out.2
    have HAn : Hid (AnsD xs c m bs (hs.map Hd.kv)) := hAn
    have HLim : Hid (∀ p ∈ hs.map Hd.kv, limK p) := hlim
    obtain ⟨w4, HW4⟩ : ∃ w4, Hid (w3.alloc (.cells #[.int .i64 m, .slice bo Lb cb, .slice ho Lh ch] 25) = w4) := ⟨_, rfl⟩
    have hF4 : Fr [] w3 w4 := by rw [← HW4.out]; exact Fr.alloc _ _ _
    have hb4 : w4.heap[w3.heap.size]? = some (.cells #[.int .i64 m, .slice bo Lb cb, .slice ho Lh ch] 25 (0, 0)) := by rw [← HW4.out]; exact heap_alloc_new w3 _
    obtain ⟨sA, hsA⟩ : ∃ sA, sA = w3.heap.size := ⟨_, rfl⟩
    rw [← hsA] at hb4
    have HF4 : Hid (Fr [] w2 w4) := hF3.then hF4
    have HS4 : Hid (∀ W, Fr [] w4 W → W.heap[sA]? = some (.cells #[.int .i64 m, .slice bo Lb cb, .slice ho Lh ch] 25 (0, 0)) ∧ IOw w2.heap.size W bo Lb cb bs ∧ HOut w2 W ho Lh ch hs) := fun W hf => ⟨hf.keep hb4 (by simp), (hO3.keepS hF4 (by simp)).keepS hf (by simp), (hH3.keep hF4).keep hf⟩
    have hFw4 : Fr [] w w4 := HF1.out.then (HF2.out.1.then HF4.out)
    have HYd : Hid (Calls _ _ _ _ _) := ydecode_any ao L cap xs w4 ⟨(HA.out _ hFw4).rs (by omega), HLen.out.2, HLen.out.1, (HA.out _ hFw4).fits⟩
    have HFw4 : Hid (Fr [] w w4) := hFw4
    clear HDe hP hAn hlim hO3 hH3 hF3 hF4 hb4 hFw4
    go_upto_region 5 with fail
    rw [HW4.out]
    rw [← hsA]
    clear HW4 hsA
    go_wp2_with fail
    refine Calls.mono HYd.out ?_
    rintro e w5 hP
    obtain ⟨c', m', bo', Lb', cb', ho', Lh', ch', bs', hs', rfl, hAn', hLb', hLh', hlim', hO5, hH5, hF5⟩ := hP.one HLen.out.2
    obtain ⟨rfl, rfl, rfl, hkv⟩ := HAn.out.uniq hAn'
    have hll : Lb' = Lb := by have h1 := hO5.len; have h2 := (HS4.out _ (Fr.refl _ _)).2.1.len; omega
    subst hll
    have hlh : Lh' = Lh := by
      have h1 := hH5.len
      have h2 := (HS4.out _ (Fr.refl _ _)).2.2.len
      have h3 := congrArg List.length hkv
      simp only [List.length_map] at h3
      omega
    subst hlh
    have HKv : Hid (hs.map Hd.kv = hs'.map Hd.kv) := hkv
    have HLim' : Hid (∀ p ∈ hs'.map Hd.kv, limK p) := hlim'
    obtain ⟨w6, HW6⟩ : ∃ w6, Hid (w5.alloc (.cells #[.int .i64 m, .slice bo' Lb' cb', .slice ho' Lh' ch'] 25) = w6) := ⟨_, rfl⟩
    have hF6 : Fr [] w5 w6 := by rw [← HW6.out]; exact Fr.alloc _ _ _
    have hb6 : w6.heap[w5.heap.size]? = some (.cells #[.int .i64 m, .slice bo' Lb' cb', .slice ho' Lh' ch'] 25 (0, 0)) := by rw [← HW6.out]; exact heap_alloc_new w5 _
    obtain ⟨sB, hsB⟩ : ∃ sB, sB = w5.heap.size := ⟨_, rfl⟩
    rw [← hsB] at hb6
    have HF6 : Hid (Fr [] w4 w6) := hF5.then hF6
    obtain ⟨hbA, hOA, hHA⟩ := HS4.out _ HF6.out
    have HSs : Hid (Calls _ _ _ _ _) := sameSv_any w6 m bo ho bo' ho' Lb' cb Lh' ch cb' ch' bs hs hs' (hOA.irs hLb') ((hO5.keepS hF6 (by simp)).irs hLb') hOA.len (hHA.rsL HLim.out hLh') ((hH5.keep hF6).rsL HLim'.out hLh') hHA.len HKv.out (by omega)
    obtain ⟨a0, a1, a2⟩ := sv_cells hbA
    obtain ⟨b0, b1, b2⟩ := sv_cells hb6
    clear HYd hP hAn' hlim' hO5 hH5 hF5 hF6 hb6 hbA hOA hHA hkv
    go_upto_region 6 with fail
    rw [HW6.out]
    rw [← hsB]
    clear HW6 hsB
    go_wp2_with fail
    refine Calls.mono HSs.out ?_
    rintro e w7 ⟨rfl, hF7⟩
    have HF7 : Hid (Fr [] w4 w7) := HF6.out.then hF7
    have HLf : Hid (Calls _ _ _ _ _) := leftBytes_any tb ao L cap xs w7 (HA.out _ (HFw4.out.then HF7.out)) (by omega) (HR2.out _ (HF4.out.then HF7.out))
    clear HSs hF7 a0 a1 a2 b0 b1 b2
    go_wp2_with fail
    refine Calls.mono HLf.out ?_
    rintro e w8 ⟨rfl, q, rfl⟩
    have HF8 : Hid (Fr [] w4 (w7.drewN q)) := HF7.out.then (Fr.drewN _ _ _)
    obtain ⟨w8, HW8⟩ : ∃ w8, Hid (w7.drewN q = w8) := ⟨_, rfl⟩
    rw [HW8.out] at HF8
    rw [HW8.out]
    clear HW8 HLf HF7 HF6
    obtain ⟨w9, HW9⟩ : ∃ w9, Hid (w8.alloc (.cells Bq.newBk 48) = w9) := ⟨_, rfl⟩
    obtain ⟨hbA, hOA, hHA⟩ := HS4.out _ HF8.out
    have hBk := book18d (m := m) (wS := w1) (w := w8) (wd := w2) (xs := xs) (L := L) (tb := tb) (HF2.out.1.then (HF4.out.then HF8.out)) HF2.out.1.size (twin_owns18 (HR2.out _ (HF4.out.then HF8.out)) HLen.out.1 (by omega)) HF2.out.2 (by omega) hOA hHA hLb' hLh' HLim.out (HTab.out.keep HF1.out (by simp))
    rw [HW9.out] at hBk
    have HBk : Hid (Calls _ _ _ _ _) := hBk
    have HA8 : Hid (sA < w8.heap.size ∧ w8.cell? ⟨sA, 0, none⟩ = some (.int .i64 m) ∧ w8.cell? ⟨sA, 1, none⟩ = some (.slice bo Lb' cb) ∧ w8.cell? ⟨sA, 2, none⟩ = some (.slice ho Lh' ch)) := ⟨lt_of_block hbA, sv_cells hbA⟩
    clear hBk hbA hOA hHA
    go_upto_region 9 with fail
    rw [show w8.alloc (.cells #[.int .i64 0, .slice none 0 0, .slice none 0 0, .slice none 0 0, .slice none 0 0, .slice none 0 0, .slice none 0 0, .slice none 0 0, .slice none 0 0, .slice none 0 0, .slice none 0 0, .slice none 0 0] 48) = w9 from HW9.out]
    clear HW9
    go_wp2_with fail
    refine Calls.mono HBk.out ?_
    rintro e x1 ⟨rfl, hcc, hc1⟩
    have H1 : Hid (Calls _ _ _ _ _) := hc1
    obtain ⟨g0, g1, g2, g3⟩ := HA8.out
    rw [hcc sA _ g0] at g1 g2 g3
    clear hc1 HBk hcc g0
    go_wp2_with fail
    refine Calls.mono H1.out ?_
    rintro e x2 ⟨rfl, hc2⟩
    have H2 : Hid (Calls _ _ _ _ _) := hc2
    clear hc2 H1 g1 g2 g3
    go_wp2_with fail
    refine Calls.mono H2.out ?_
    rintro e x4 ⟨rfl, hF9⟩
    have HFe : Hid (Fr [] w x4) := HF1.out.then hF9
    clear hF9 H2
    go_wp2
    go_ret
    exact ⟨rfl, HFe.out⟩
end Go.Proofs.YtldghdbfhikcoaaGreatDoor

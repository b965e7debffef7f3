/- What the taker of a checkpoint takes: contracts of number, text, dropped, and of the closure that takes a version. Conditions as each names them. -/
import Derived.Test.YtdojhkgnnbdfkaaGreatTk18
namespace Go.Proofs.YtdojhkgnnbdfkaaGreat
open Go.ChangeShapes Go.WideShapes Go.ChangeAt Go.RowKit Go.Lib Go.Maps
set_option linter.unusedVariables false
set_option linter.unusedSimpArgs false

theorem Rd.low {w : World} {g r : Nat} {xs : List Nat} {er : Nat} {ao : Option Addr} {cap : Nat} (h : Rd w g r xs er ao cap) : ∀ x ∈ xs, x < 256 := h.sl.low
set_option maxHeartbeats 2000000 in
set_option maxRecDepth 100000 in
theorem number_dead (t g c : Nat) (w : World) (h : Td w t g c) : Calls Tryz.prog 106 #[.pointer (some ⟨t, 0, none⟩)] w fun e w' => e = .returned (.int .i64 0) ∧ w = w' := by
  have c0 := h.tb.c0
  have HD : Hid (Calls _ _ _ _ _) := takeU_dead (.func (Fn.func 118) #[.pointer (some ⟨g, 0, none⟩)] #[]) t g c w h
  clear h
  go_enter Tryz.func106, Tryz.ntmps106
  go_wp2_with fail
  refine Calls.mono HD.out ?_
  rintro e w1 ⟨rfl, rfl⟩
  go_wp2
  go_ret
  exact ⟨rfl, rfl⟩
set_option maxHeartbeats 2000000 in
set_option maxRecDepth 100000 in
theorem number_any (t g r : Nat) (xs : List Nat) (w : World) (h : Tl w t g r xs) : Calls Tryz.prog 106 #[.pointer (some ⟨t, 0, none⟩)] w fun e w' =>
    (∃ c, dN xs = .error c ∧ e = .returned (.int .i64 0) ∧ Td w' t g c ∧ Fr [t, g] w w') ∨ (∃ n ys, dN xs = .ok (n, ys) ∧ e = .returned (.int .i64 (n : Int)) ∧ Tl w' t g r ys ∧ Fr [t, g] w w') := by
  have c0 := h.tb.c0
  obtain ⟨ao, cap, hR⟩ := h.rd
  have hV := rVar_any g r xs 0 ao cap w hR
  have hlow := hR.low
  clear hR
  rcases tk_split (shortF 0 0) refL 0 xs (short_pos xs) with ⟨c, hc, h1, hr⟩ | ⟨v, ys, h1, hv, -, hlt, hr⟩ | ⟨v, ys, h1, hv, -, hlt, hr⟩
  · rw [hr] at hV
    have HD : Hid (Calls _ _ _ _ _) := takeV_wrong (.pointer (some ⟨g, 0, none⟩)) t g r c xs w h hc hV
    have H1 : Hid (dN xs = .error c) := h1
    clear hV hlow h hr h1 hc
    go_enter Tryz.func106, Tryz.ntmps106
    go_wp2_with fail
    refine Calls.mono HD.out ?_
    rintro e w1 ⟨rfl, hT, hF⟩
    go_wp2
    go_ret
    exact Or.inl ⟨c, H1.out, rfl, hT, hF⟩
  · rw [hr] at hV
    have hbig : 65536 < v := by
      unfold refL at hv
      split at hv
      · assumption
      · exact absurd rfl hv
    have hbi : (65536 : Int) < (v : Int) := by omega
    have HD : Hid (Calls _ _ _ _ _) := takeV_good (.pointer (some ⟨g, 0, none⟩)) t g r v xs ys w h hlt hV
    have H1 : Hid (dN xs = .error 3) := by
      show dN xs = _
      unfold dN
      rw [h1]
      simp [refL, hbig]
    clear hV hlow h hr h1 hv hlt hbig
    go_enter Tryz.func106, Tryz.ntmps106
    go_wp2_with fail
    refine Calls.mono HD.out ?_
    rintro e w1 ⟨rfl, hT, hF⟩
    have df := hT.tb.f1
    have d1 := hT.tb.c1
    have HTB : Hid (TB w1 t g 0) := hT.tb
    have HF : Hid (Fr [t, g] w w1) := hF
    clear hT hF HD
    go_wp2
    go_ret
    exact Or.inl ⟨3, H1.out, rfl, ⟨HTB.out.set 3, by decide⟩, HF.out.then (Fr.set _ _ _ (by simp))⟩
  · rw [hr] at hV
    have hsm : v ≤ 65536 := by
      unfold refL at hv
      split at hv
      · exact absurd hv (by decide)
      · omega
    have hsi : (v : Int) ≤ 65536 := by omega
    have HD : Hid (Calls _ _ _ _ _) := takeV_good (.pointer (some ⟨g, 0, none⟩)) t g r v xs ys w h hlt hV
    have H1 : Hid (dN xs = .ok (v, ys)) := h1
    clear hV hlow h hr h1 hv hlt
    go_enter Tryz.func106, Tryz.ntmps106
    go_wp2_with fail
    refine Calls.mono HD.out ?_
    rintro e w1 ⟨rfl, hT, hF⟩
    have HR : Hid (Tl w1 t g r ys ∧ Fr [t, g] w w1) := ⟨hT, hF⟩
    clear hT hF HD
    go_wp2
    go_ret
    exact Or.inr ⟨v, ys, H1.out, rfl, HR.out⟩
set_option maxHeartbeats 2000000 in
set_option maxRecDepth 100000 in
theorem text1_any (t g r b1 b2 m : Nat) (xs : List Nat) (w : World) (h : Tl w t g r xs) (hb1 : w.cell? ⟨b1, 0, none⟩ = some (.pointer (some ⟨t, 0, none⟩))) (hb2 : w.cell? ⟨b2, 0, none⟩ = some (.int .i64 (m : Int))) (h1g : b1 ≠ g) (h2g : b2 ≠ g) (hl1 : b1 < w.heap.size) (hl2 : b2 < w.heap.size) (hm : m ≤ 4096) :
    Dn 129 #[.pointer (some ⟨b1, 0, none⟩), .pointer (some ⟨b2, 0, none⟩)] w (.string (rdBy (textF (m : Int)) ⟨#[]⟩ xs 0).1) g r (rdBy (textF (m : Int)) ⟨#[]⟩ xs 0).2.1 (rdBy (textF (m : Int)) ⟨#[]⟩ xs 0).2.2 := by
  show Calls _ _ _ _ _
  have c0 := h.tb.c0
  have htg := h.tg
  have htl := h.tb.lt
  have HC : Hid (∀ W, Fr [] w W → Calls Tryz.prog 130 #[.pointer (some ⟨g, 0, none⟩), .int .i64 (m : Int)] W fun e w' => e = .returned (.string (rdBy (textF (m : Int)) ⟨#[]⟩ xs 0).1) ∧ (w'.cell? ⟨b1, 0, none⟩ = some (.pointer (some ⟨t, 0, none⟩)) ∧ w'.cell? ⟨b2, 0, none⟩ = some (.int .i64 (m : Int)) ∧ w'.cell? ⟨t, 0, none⟩ = some (.pointer (some ⟨g, 0, none⟩))) ∧ Hid ((∃ ao' cap', Rd w' g r (rdBy (textF (m : Int)) ⟨#[]⟩ xs 0).2.1 (rdBy (textF (m : Int)) ⟨#[]⟩ xs 0).2.2 ao' cap') ∧ Fr [g] w w')) := by
    intro W hW
    obtain ⟨ao, cap, hR⟩ := (h.keep0 hW).rd
    refine (rText_any g r xs 0 ao cap m W hR (by omega) (by omega)).mono ?_
    rintro e w' ⟨rfl, ao', cap', hR', hF'⟩
    have hFF : Fr [g] w w' := (hW.mono (by simp)).then hF'
    exact ⟨rfl, ⟨far_cell hFF hb1 hl1 (by simpa using h1g), far_cell hFF hb2 hl2 (by simpa using h2g), far_cell hFF c0 htl (by simpa using htg)⟩, ⟨ao', cap', hR'⟩, hFF⟩
  obtain ⟨R, hR⟩ : ∃ R, R = rdBy (textF (m : Int)) ⟨#[]⟩ xs 0 := ⟨_, rfl⟩
  rw [← hR] at HC ⊢
  clear hR h
  go_enter Tryz.func129, Tryz.ntmps129
  go_wp2_with fail
  go_region_held3 (fun W => W.cell? ⟨b1, 0, none⟩ = some (.pointer (some ⟨t, 0, none⟩)) ∧ W.cell? ⟨b2, 0, none⟩ = some (.int .i64 (m : Int)) ∧ W.cell? ⟨t, 0, none⟩ = some (.pointer (some ⟨g, 0, none⟩))) (go_keep)
    (first | (go_at_call 130; with_reducible refine (HC.out _ (Fr.drew _ _)).mono ?_; rintro e w5 ⟨rfl, ⟨g0, g1, g2⟩, HR5⟩))
  go_wp2
  go_ret
  obtain ⟨⟨ao', cap', h1⟩, h2⟩ := HR5.out
  exact ⟨rfl, ao', cap', h1, h2⟩
set_option maxHeartbeats 2000000 in
set_option maxRecDepth 100000 in
theorem drop1_any (t g r b1 : Nat) (xs : List Nat) (w : World) (h : Tl w t g r xs) (hb1 : w.cell? ⟨b1, 0, none⟩ = some (.pointer (some ⟨t, 0, none⟩))) :
    Dn 131 #[.pointer (some ⟨b1, 0, none⟩)] w (.int .u64 ((rdBy (fixF 1) 0 xs 0).1 : Nat)) g r (rdBy (fixF 1) 0 xs 0).2.1 (rdBy (fixF 1) 0 xs 0).2.2 := by
  show Calls _ _ _ _ _
  have c0 := h.tb.c0
  obtain ⟨ao, cap, hR⟩ := h.rd
  have HC : Hid (Calls _ _ _ _ _) := rFixed_any g r xs 0 ao cap 1 w hR
  obtain ⟨R, hRR⟩ : ∃ R, R = rdBy (fixF 1) 0 xs 0 := ⟨_, rfl⟩
  rw [← hRR] at HC ⊢
  clear hRR h hR
  go_enter Tryz.func131, Tryz.ntmps131
  go_wp2_with fail
  refine Calls.mono HC.out ?_
  rintro e w1 ⟨rfl, h1⟩
  go_wp2
  go_ret
  exact ⟨rfl, h1⟩
set_option maxHeartbeats 2000000 in
set_option maxRecDepth 100000 in
theorem ttext_dead (t g c m : Nat) (w : World) (h : Td w t g c) (hm : m ≤ 4096) : Calls Tryz.prog 119 #[.pointer (some ⟨t, 0, none⟩), .int .i64 (m : Int)] w fun e w' => e = .returned (.string ⟨#[]⟩) ∧ Fr [] w w' := by
  have HD : Hid (∀ W fv, Fr [] w W → Calls Tryz.prog 128 #[.pointer (some ⟨t, 0, none⟩), fv] W fun e w' => e = .returned (.string ⟨#[]⟩) ∧ Fr [] w w') := fun W fv hf => (takeS_dead fv t g c W (h.keep0 hf)).mono (by rintro e w' ⟨rfl, rfl⟩; exact ⟨rfl, hf⟩)
  clear h
  go_enter Tryz.func119, Tryz.ntmps119
  go_wp2_with fail
  refine (HD.out _ _ ((Fr.alloc [] _ _).then (Fr.alloc [] _ _))).mono ?_
  rintro e w1 ⟨rfl, hF⟩
  go_wp2
  go_ret
  exact ⟨rfl, hF⟩
set_option maxHeartbeats 2000000 in
set_option maxRecDepth 100000 in
theorem ttext_any (t g r m : Nat) (xs : List Nat) (w : World) (h : Tl w t g r xs) (hm : m ≤ 4096) : Calls Tryz.prog 119 #[.pointer (some ⟨t, 0, none⟩), .int .i64 (m : Int)] w fun e w' =>
    (∃ c, dT m xs = .error c ∧ e = .returned (.string ⟨#[]⟩) ∧ Td w' t g c ∧ Fr [t, g] w w') ∨ (∃ s ys, dT m xs = .ok (s, ys) ∧ e = .returned (.string s) ∧ Tl w' t g r ys ∧ Fr [t, g] w w') := by
  have htl := h.tb.lt
  have hgl : g < w.heap.size := by obtain ⟨ao, cap, hR⟩ := h.rd; exact hR.lt
  obtain ⟨w2, HW2⟩ : ∃ w2, Hid ((w.alloc (.cells #[.pointer (some ⟨t, 0, none⟩)] 164)).alloc (.cells #[.int .i64 (m : Int)] 3) = w2) := ⟨_, rfl⟩
  have hF2 : Fr [] w w2 := by rw [← HW2.out]; exact (Fr.alloc [] _ _).then (Fr.alloc [] _ _)
  have e1 : (w.alloc (.cells #[.pointer (some ⟨t, 0, none⟩)] 164)).heap.size = w.heap.size + 1 := by simp
  have hb1 : w2.cell? ⟨w.heap.size, 0, none⟩ = some (.pointer (some ⟨t, 0, none⟩)) := by
    rw [← HW2.out]
    exact far_cell (Fr.alloc [] _ _) (cell_of_row _ _ _ _ _ _ (heap_alloc_new w _)) (by simp) (by simp)
  have hb2 : w2.cell? ⟨w.heap.size + 1, 0, none⟩ = some (.int .i64 (m : Int)) := by
    rw [← HW2.out, ← e1]
    exact cell_of_row _ _ _ _ _ _ (heap_alloc_new _ _)
  have hs2 : w2.heap.size = w.heap.size + 2 := by rw [← HW2.out]; simp
  have hT2 := h.keep0 hF2
  have hD := text1_any t g r w.heap.size (w.heap.size + 1) m xs w2 hT2 hb1 hb2 (by omega) (by omega) (by omega) (by omega) hm
  have HF2 : Hid (Fr [t, g] w w2) := hF2.mono (by simp)
  rcases tk_split (textF (m : Int)) refV ⟨#[]⟩ xs (text_pos m xs) with ⟨c, hc, h1, hr⟩ | ⟨v, ys, h1, hv, -, hlt, hr⟩ | ⟨v, ys, h1, hv, -, hlt, hr⟩
  · rw [hr] at hD
    have HD : Hid (Calls _ _ _ _ _) := takeT_wrong _ _ t g r c xs w2 hT2 hc hD
    have H1 : Hid (dT m xs = .error c) := h1
    clear h hT2 hD hr h1 hc hb1 hb2 hs2 e1 hF2 htl hgl
    go_enter Tryz.func119, Tryz.ntmps119
    go_wp2_with fail
    rw [HW2.out]
    refine Calls.mono HD.out ?_
    rintro e w3 ⟨rfl, hT, hF⟩
    go_wp2
    go_ret
    exact Or.inl ⟨c, H1.out, rfl, hT, HF2.out.then hF⟩
  · exact absurd rfl hv
  · rw [hr] at hD
    have HD : Hid (Calls _ _ _ _ _) := takeT_good _ _ t g r v xs ys w2 hT2 hlt hD
    have H1 : Hid (dT m xs = .ok (v, ys)) := h1
    clear h hT2 hD hr h1 hb1 hb2 hs2 e1 hF2 htl hgl hv hlt
    go_enter Tryz.func119, Tryz.ntmps119
    go_wp2_with fail
    rw [HW2.out]
    refine Calls.mono HD.out ?_
    rintro e w3 ⟨rfl, hT, hF⟩
    go_wp2
    go_ret
    exact Or.inr ⟨v, ys, H1.out, rfl, hT, HF2.out.then hF⟩
set_option maxHeartbeats 2000000 in
set_option maxRecDepth 100000 in
theorem drop_dead (t g c : Nat) (w : World) (h : Td w t g c) : Calls Tryz.prog 121 #[.pointer (some ⟨t, 0, none⟩)] w fun e w' => e = .returned (.bool false) ∧ Fr [] w w' := by
  have HD : Hid (∀ W fv, Fr [] w W → Calls Tryz.prog 117 #[.pointer (some ⟨t, 0, none⟩), fv] W fun e w' => e = .returned (.int .u64 0) ∧ Fr [] w w') := fun W fv hf => (takeU_dead fv t g c W (h.keep0 hf)).mono (by rintro e w' ⟨rfl, rfl⟩; exact ⟨rfl, hf⟩)
  clear h
  go_enter Tryz.func121, Tryz.ntmps121
  go_wp2_with fail
  refine (HD.out _ _ (Fr.alloc [] _ _)).mono ?_
  rintro e w1 ⟨rfl, hF⟩
  go_wp2
  go_ret
  exact ⟨rfl, hF⟩
set_option maxHeartbeats 4000000 in
set_option maxRecDepth 100000 in
theorem drop_any (t g r : Nat) (xs : List Nat) (w : World) (h : Tl w t g r xs) : Calls Tryz.prog 121 #[.pointer (some ⟨t, 0, none⟩)] w fun e w' =>
    (∃ c, dF xs = .error c ∧ e = .returned (.bool false) ∧ Td w' t g c ∧ Fr [t, g] w w') ∨ (∃ d ys, dF xs = .ok (d, ys) ∧ e = .returned (.bool (decide (d = 1))) ∧ Tl w' t g r ys ∧ Fr [t, g] w w') := by
  have htl := h.tb.lt
  have hgl : g < w.heap.size := by obtain ⟨ao, cap, hR⟩ := h.rd; exact hR.lt
  obtain ⟨w2, HW2⟩ : ∃ w2, Hid (w.alloc (.cells #[.pointer (some ⟨t, 0, none⟩)] 164) = w2) := ⟨_, rfl⟩
  have hF2 : Fr [] w w2 := by rw [← HW2.out]; exact Fr.alloc [] _ _
  have hb1 : w2.cell? ⟨w.heap.size, 0, none⟩ = some (.pointer (some ⟨t, 0, none⟩)) := by
    rw [← HW2.out]
    exact cell_of_row _ _ _ _ _ _ (heap_alloc_new w _)
  have hs2 : w.heap.size < w2.heap.size := by rw [← HW2.out]; simp
  have hT2 := h.keep0 hF2
  have hD := drop1_any t g r w.heap.size xs w2 hT2 hb1
  have HF2 : Hid (Fr [t, g] w w2) := hF2.mono (by simp)
  have HB : Hid (∀ W, Fr [t, g] w2 W → W.cell? ⟨w.heap.size, 0, none⟩ = some (.pointer (some ⟨t, 0, none⟩))) := fun W hf => far_cell hf hb1 hs2 (by simp; omega)
  rcases tk_split (fixF 1) refD 0 xs (fix_pos xs) with ⟨c, hc, h1, hr⟩ | ⟨v, ys, h1, hv, -, hlt, hr⟩ | ⟨v, ys, h1, hv, -, hlt, hr⟩
  · rw [hr] at hD
    have HD : Hid (Calls _ _ _ _ _) := takeF_wrong _ t g r c xs w2 hT2 hc hD
    have H1 : Hid (dF xs = .error c) := h1
    clear h hT2 hD hr h1 hc hb1 hs2 hF2 htl hgl
    go_enter Tryz.func121, Tryz.ntmps121
    go_wp2_with fail
    rw [HW2.out]
    refine Calls.mono HD.out ?_
    rintro e w3 ⟨rfl, hT, hF⟩
    have HR : Hid (Td w3 t g c ∧ Fr [t, g] w w3) := ⟨hT, HF2.out.then hF⟩
    clear hT hF HD
    go_wp2
    go_ret
    exact Or.inl ⟨c, H1.out, rfl, HR.out⟩
  · rw [hr] at hD
    have HD : Hid (Calls _ _ _ _ _) := takeF_good _ t g r v xs ys w2 hT2 hlt hD
    have hv2 : ¬ (v = 0 ∨ v = 1) := by
      intro hh
      unfold refD at hv
      rw [if_pos hh] at hv
      exact hv rfl
    have H1 : Hid (dF xs = .error 4) := by
      show dF xs = _
      unfold dF
      rw [h1]
      simp only [refD, if_neg hv2]
    have q0 : ((v : Int) != 0) = true := by rw [bne_iff_ne]; omega
    have q1 : ((v : Int) != 1) = true := by rw [bne_iff_ne]; omega
    have q2 : ((v : Int) == 1) = false := by rw [beq_eq_false_iff_ne]; omega
    clear h hT2 hD hr h1 hb1 hs2 hF2 htl hgl hv hlt hv2
    go_enter Tryz.func121, Tryz.ntmps121
    go_wp2_with fail
    rw [HW2.out]
    refine Calls.mono HD.out ?_
    rintro e w3 ⟨rfl, hT, hF⟩
    have cb := HB.out _ hF
    have d1 := hT.tb.c1
    have df := hT.tb.f1
    have HTB : Hid (TB w3 t g 0) := hT.tb
    have HR : Hid (Fr [t, g] w w3) := HF2.out.then hF
    clear hT hF HD
    go_wp2
    go_ret
    exact Or.inl ⟨4, H1.out, rfl, ⟨HTB.out.set 4, by decide⟩, HR.out.then (Fr.set _ _ _ (by simp))⟩
  · rw [hr] at hD
    have HD : Hid (Calls _ _ _ _ _) := takeF_good _ t g r v xs ys w2 hT2 hlt hD
    have H1 : Hid (dF xs = .ok (v, ys)) := h1
    have hv2 : v = 0 ∨ v = 1 := by
      unfold refD at hv
      split at hv
      · assumption
      · exact absurd hv (by decide)
    clear h hT2 hD hr h1 hb1 hs2 hF2 htl hgl hv hlt
    rcases hv2 with rfl | rfl
    · go_enter Tryz.func121, Tryz.ntmps121
      go_wp2_with fail
      rw [HW2.out]
      refine Calls.mono HD.out ?_
      rintro e w3 ⟨rfl, hT, hF⟩
      have HR : Hid (Tl w3 t g r ys ∧ Fr [t, g] w w3) := ⟨hT, HF2.out.then hF⟩
      clear hT hF HD
      go_wp2
      go_ret
      exact Or.inr ⟨0, ys, H1.out, rfl, HR.out⟩
    · go_enter Tryz.func121, Tryz.ntmps121
      go_wp2_with fail
      rw [HW2.out]
      refine Calls.mono HD.out ?_
      rintro e w3 ⟨rfl, hT, hF⟩
      have HR : Hid (Tl w3 t g r ys ∧ Fr [t, g] w w3) := ⟨hT, HF2.out.then hF⟩
      clear hT hF HD
      go_wp2
      go_ret
      exact Or.inr ⟨1, ys, H1.out, rfl, HR.out⟩
end Go.Proofs.YtdojhkgnnbdfkaaGreat

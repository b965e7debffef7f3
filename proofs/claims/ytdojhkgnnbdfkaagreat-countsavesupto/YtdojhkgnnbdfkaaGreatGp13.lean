/- Texts of this claim laid together, one behind the other: contracts and plain lemmas; conditions as each names them. -/
import Derived.Test.YtdojhkgnnbdfkaaGreatGp12
/- What the taker of a checkpoint takes: contracts of number, text, dropped, and of the closure that takes a version. Conditions as each names them. -/
namespace Go.Proofs.YtdojhkgnnbdfkaaGreat
open Go.ChangeShapes Go.WideShapes Go.ChangeAt Go.RowKit Go.Lib Go.Maps
set_option linter.unusedVariables false
set_option linter.unusedSimpArgs false

theorem Rd.low {w : World} {g r : Nat} {xs : List Nat} {er : Nat} {ao : Option Addr} {cap : Nat} (h : Rd w g r xs er ao cap) : ∀ x ∈ xs, x < 256 := h.sl.low
set_option maxHeartbeats 2000000 in
set_option maxRecDepth 100000 in
theorem number_dead (t g c : Nat) (w : World) (h : Td w t g c) : Calls Tryz.prog 106 #[.pointer (some ⟨t, 0, none⟩)] w fun e w' => e = .returned (.int .i64 0) ∧ w = w' := by
  have c0 := h.tb.c0
  have HD : Hid (Calls _ _ _ _ _) := takeU_dead (.func (Fn.func 118) #[.pointer (some ⟨g, 0, none⟩)] #[]) t g c w h
  clear h
  go_enter Tryz.func106, Tryz.ntmps106
  go_wp2_with fail
  refine Calls.mono HD.out ?_
  rintro e w1 ⟨rfl, rfl⟩
  go_wp2
  go_ret
  exact ⟨rfl, rfl⟩
set_option maxHeartbeats 2000000 in
set_option maxRecDepth 100000 in
theorem number_any (t g r : Nat) (xs : List Nat) (w : World) (h : Tl w t g r xs) : Calls Tryz.prog 106 #[.pointer (some ⟨t, 0, none⟩)] w fun e w' =>
    (∃ c, dN xs = .error c ∧ e = .returned (.int .i64 0) ∧ Td w' t g c ∧ Fr [t, g] w w') ∨ (∃ n ys, dN xs = .ok (n, ys) ∧ e = .returned (.int .i64 (n : Int)) ∧ Tl w' t g r ys ∧ Fr [t, g] w w') := by
  have c0 := h.tb.c0
  obtain ⟨ao, cap, hR⟩ := h.rd
  have hV := rVar_any g r xs 0 ao cap w hR
  have hlow := hR.low
  clear hR
  rcases tk_split (shortF 0 0) refL 0 xs (short_pos xs) with ⟨c, hc, h1, hr⟩ | ⟨v, ys, h1, hv, -, hlt, hr⟩ | ⟨v, ys, h1, hv, -, hlt, hr⟩
  · rw [hr] at hV
    have HD : Hid (Calls _ _ _ _ _) := takeV_wrong (.pointer (some ⟨g, 0, none⟩)) t g r c xs w h hc hV
    have H1 : Hid (dN xs = .error c) := h1
    clear hV hlow h hr h1 hc
    go_enter Tryz.func106, Tryz.ntmps106
    go_wp2_with fail
    refine Calls.mono HD.out ?_
    rintro e w1 ⟨rfl, hT, hF⟩
    go_wp2
    go_ret
    exact Or.inl ⟨c, H1.out, rfl, hT, hF⟩
  · rw [hr] at hV
    have hbig : 65536 < v := by
      unfold refL at hv
      split at hv
      · assumption
      · exact absurd rfl hv
    have hbi : (65536 : Int) < (v : Int) := by omega
    have HD : Hid (Calls _ _ _ _ _) := takeV_good (.pointer (some ⟨g, 0, none⟩)) t g r v xs ys w h hlt hV
    have H1 : Hid (dN xs = .error 3) := by
      show dN xs = _
      unfold dN
      rw [h1]
      simp [refL, hbig]
    clear hV hlow h hr h1 hv hlt hbig
    go_enter Tryz.func106, Tryz.ntmps106
    go_wp2_with fail
    refine Calls.mono HD.out ?_
    rintro e w1 ⟨rfl, hT, hF⟩
    have df := hT.tb.f1
    have d1 := hT.tb.c1
    have HTB : Hid (TB w1 t g 0) := hT.tb
    have HF : Hid (Fr [t, g] w w1) := hF
    clear hT hF HD
    go_wp2
    go_ret
    exact Or.inl ⟨3, H1.out, rfl, ⟨HTB.out.set 3, by decide⟩, HF.out.then (Fr.set _ _ _ (by simp))⟩
  · rw [hr] at hV
    have hsm : v ≤ 65536 := by
      unfold refL at hv
      split at hv
      · exact absurd hv (by decide)
      · omega
    have hsi : (v : Int) ≤ 65536 := by omega
    have HD : Hid (Calls _ _ _ _ _) := takeV_good (.pointer (some ⟨g, 0, none⟩)) t g r v xs ys w h hlt hV
    have H1 : Hid (dN xs = .ok (v, ys)) := h1
    clear hV hlow h hr h1 hv hlt
    go_enter Tryz.func106, Tryz.ntmps106
    go_wp2_with fail
    refine Calls.mono HD.out ?_
    rintro e w1 ⟨rfl, hT, hF⟩
    have HR : Hid (Tl w1 t g r ys ∧ Fr [t, g] w w1) := ⟨hT, hF⟩
    clear hT hF HD
    go_wp2
    go_ret
    exact Or.inr ⟨v, ys, H1.out, rfl, HR.out⟩
set_option maxHeartbeats 2000000 in
set_option maxRecDepth 100000 in
theorem text1_any (t g r b1 b2 m : Nat) (xs : List Nat) (w : World) (h : Tl w t g r xs) (hb1 : w.cell? ⟨b1, 0, none⟩ = some (.pointer (some ⟨t, 0, none⟩))) (hb2 : w.cell? ⟨b2, 0, none⟩ = some (.int .i64 (m : Int))) (h1g : b1 ≠ g) (h2g : b2 ≠ g) (hl1 : b1 < w.heap.size) (hl2 : b2 < w.heap.size) (hm : m ≤ 4096) :
    Dn 129 #[.pointer (some ⟨b1, 0, none⟩), .pointer (some ⟨b2, 0, none⟩)] w (.string (rdBy (textF (m : Int)) ⟨#[]⟩ xs 0).1) g r (rdBy (textF (m : Int)) ⟨#[]⟩ xs 0).2.1 (rdBy (textF (m : Int)) ⟨#[]⟩ xs 0).2.2 := by
  show Calls _ _ _ _ _
  have c0 := h.tb.c0
  have htg := h.tg
  have htl := h.tb.lt
  have HC : Hid (∀ W, Fr [] w W → Calls Tryz.prog 130 #[.pointer (some ⟨g, 0, none⟩), .int .i64 (m : Int)] W fun e w' => e = .returned (.string (rdBy (textF (m : Int)) ⟨#[]⟩ xs 0).1) ∧ (w'.cell? ⟨b1, 0, none⟩ = some (.pointer (some ⟨t, 0, none⟩)) ∧ w'.cell? ⟨b2, 0, none⟩ = some (.int .i64 (m : Int)) ∧ w'.cell? ⟨t, 0, none⟩ = some (.pointer (some ⟨g, 0, none⟩))) ∧ Hid ((∃ ao' cap', Rd w' g r (rdBy (textF (m : Int)) ⟨#[]⟩ xs 0).2.1 (rdBy (textF (m : Int)) ⟨#[]⟩ xs 0).2.2 ao' cap') ∧ Fr [g] w w')) := by
    intro W hW
    obtain ⟨ao, cap, hR⟩ := (h.keep0 hW).rd
    refine (rText_any g r xs 0 ao cap m W hR (by omega) (by omega)).mono ?_
    rintro e w' ⟨rfl, ao', cap', hR', hF'⟩
    have hFF : Fr [g] w w' := (hW.mono (by simp)).then hF'
    exact ⟨rfl, ⟨far_cell hFF hb1 hl1 (by simpa using h1g), far_cell hFF hb2 hl2 (by simpa using h2g), far_cell hFF c0 htl (by simpa using htg)⟩, ⟨ao', cap', hR'⟩, hFF⟩
  obtain ⟨R, hR⟩ : ∃ R, R = rdBy (textF (m : Int)) ⟨#[]⟩ xs 0 := ⟨_, rfl⟩
  rw [← hR] at HC ⊢
  clear hR h
  go_enter Tryz.func129, Tryz.ntmps129
  go_wp2_with fail
  go_region_held3 (fun W => W.cell? ⟨b1, 0, none⟩ = some (.pointer (some ⟨t, 0, none⟩)) ∧ W.cell? ⟨b2, 0, none⟩ = some (.int .i64 (m : Int)) ∧ W.cell? ⟨t, 0, none⟩ = some (.pointer (some ⟨g, 0, none⟩))) (go_keep)
    (first | (go_at_call 130; with_reducible refine (HC.out _ (Fr.drew _ _)).mono ?_; rintro e w5 ⟨rfl, ⟨g0, g1, g2⟩, HR5⟩))
  go_wp2
  go_ret
  obtain ⟨⟨ao', cap', h1⟩, h2⟩ := HR5.out
  exact ⟨rfl, ao', cap', h1, h2⟩
set_option maxHeartbeats 2000000 in
set_option maxRecDepth 100000 in
theorem drop1_any (t g r b1 : Nat) (xs : List Nat) (w : World) (h : Tl w t g r xs) (hb1 : w.cell? ⟨b1, 0, none⟩ = some (.pointer (some ⟨t, 0, none⟩))) :
    Dn 131 #[.pointer (some ⟨b1, 0, none⟩)] w (.int .u64 ((rdBy (fixF 1) 0 xs 0).1 : Nat)) g r (rdBy (fixF 1) 0 xs 0).2.1 (rdBy (fixF 1) 0 xs 0).2.2 := by
  show Calls _ _ _ _ _
  have c0 := h.tb.c0
  obtain ⟨ao, cap, hR⟩ := h.rd
  have HC : Hid (Calls _ _ _ _ _) := rFixed_any g r xs 0 ao cap 1 w hR
  obtain ⟨R, hRR⟩ : ∃ R, R = rdBy (fixF 1) 0 xs 0 := ⟨_, rfl⟩
  rw [← hRR] at HC ⊢
  clear hRR h hR
  go_enter Tryz.func131, Tryz.ntmps131
  go_wp2_with fail
  refine Calls.mono HC.out ?_
  rintro e w1 ⟨rfl, h1⟩
  go_wp2
  go_ret
  exact ⟨rfl, h1⟩
set_option maxHeartbeats 2000000 in
set_option maxRecDepth 100000 in
theorem ttext_dead (t g c m : Nat) (w : World) (h : Td w t g c) (hm : m ≤ 4096) : Calls Tryz.prog 119 #[.pointer (some ⟨t, 0, none⟩), .int .i64 (m : Int)] w fun e w' => e = .returned (.string ⟨#[]⟩) ∧ Fr [] w w' := by
  have HD : Hid (∀ W fv, Fr [] w W → Calls Tryz.prog 128 #[.pointer (some ⟨t, 0, none⟩), fv] W fun e w' => e = .returned (.string ⟨#[]⟩) ∧ Fr [] w w') := fun W fv hf => (takeS_dead fv t g c W (h.keep0 hf)).mono (by rintro e w' ⟨rfl, rfl⟩; exact ⟨rfl, hf⟩)
  clear h
  go_enter Tryz.func119, Tryz.ntmps119
  go_wp2_with fail
  refine (HD.out _ _ ((Fr.alloc [] _ _).then (Fr.alloc [] _ _))).mono ?_
  rintro e w1 ⟨rfl, hF⟩
  go_wp2
  go_ret
  exact ⟨rfl, hF⟩
set_option maxHeartbeats 2000000 in
set_option maxRecDepth 100000 in
theorem ttext_any (t g r m : Nat) (xs : List Nat) (w : World) (h : Tl w t g r xs) (hm : m ≤ 4096) : Calls Tryz.prog 119 #[.pointer (some ⟨t, 0, none⟩), .int .i64 (m : Int)] w fun e w' =>
    (∃ c, dT m xs = .error c ∧ e = .returned (.string ⟨#[]⟩) ∧ Td w' t g c ∧ Fr [t, g] w w') ∨ (∃ s ys, dT m xs = .ok (s, ys) ∧ e = .returned (.string s) ∧ Tl w' t g r ys ∧ Fr [t, g] w w') := by
  have htl := h.tb.lt
  have hgl : g < w.heap.size := by obtain ⟨ao, cap, hR⟩ := h.rd; exact hR.lt
  obtain ⟨w2, HW2⟩ : ∃ w2, Hid ((w.alloc (.cells #[.pointer (some ⟨t, 0, none⟩)] 164)).alloc (.cells #[.int .i64 (m : Int)] 3) = w2) := ⟨_, rfl⟩
  have hF2 : Fr [] w w2 := by rw [← HW2.out]; exact (Fr.alloc [] _ _).then (Fr.alloc [] _ _)
  have e1 : (w.alloc (.cells #[.pointer (some ⟨t, 0, none⟩)] 164)).heap.size = w.heap.size + 1 := by simp
  have hb1 : w2.cell? ⟨w.heap.size, 0, none⟩ = some (.pointer (some ⟨t, 0, none⟩)) := by
    rw [← HW2.out]
    exact far_cell (Fr.alloc [] _ _) (cell_of_row _ _ _ _ _ _ (heap_alloc_new w _)) (by simp) (by simp)
  have hb2 : w2.cell? ⟨w.heap.size + 1, 0, none⟩ = some (.int .i64 (m : Int)) := by
    rw [← HW2.out, ← e1]
    exact cell_of_row _ _ _ _ _ _ (heap_alloc_new _ _)
  have hs2 : w2.heap.size = w.heap.size + 2 := by rw [← HW2.out]; simp
  have hT2 := h.keep0 hF2
  have hD := text1_any t g r w.heap.size (w.heap.size + 1) m xs w2 hT2 hb1 hb2 (by omega) (by omega) (by omega) (by omega) hm
  have HF2 : Hid (Fr [t, g] w w2) := hF2.mono (by simp)
  rcases tk_split (textF (m : Int)) refV ⟨#[]⟩ xs (text_pos m xs) with ⟨c, hc, h1, hr⟩ | ⟨v, ys, h1, hv, -, hlt, hr⟩ | ⟨v, ys, h1, hv, -, hlt, hr⟩
  · rw [hr] at hD
    have HD : Hid (Calls _ _ _ _ _) := takeT_wrong _ _ t g r c xs w2 hT2 hc hD
    have H1 : Hid (dT m xs = .error c) := h1
    clear h hT2 hD hr h1 hc hb1 hb2 hs2 e1 hF2 htl hgl
    go_enter Tryz.func119, Tryz.ntmps119
    go_wp2_with fail
    rw [HW2.out]
    refine Calls.mono HD.out ?_
    rintro e w3 ⟨rfl, hT, hF⟩
    go_wp2
    go_ret
    exact Or.inl ⟨c, H1.out, rfl, hT, HF2.out.then hF⟩
  · exact absurd rfl hv
  · rw [hr] at hD
    have HD : Hid (Calls _ _ _ _ _) := takeT_good _ _ t g r v xs ys w2 hT2 hlt hD
    have H1 : Hid (dT m xs = .ok (v, ys)) := h1
    clear h hT2 hD hr h1 hb1 hb2 hs2 e1 hF2 htl hgl hv hlt
    go_enter Tryz.func119, Tryz.ntmps119
    go_wp2_with fail
    rw [HW2.out]
    refine Calls.mono HD.out ?_
    rintro e w3 ⟨rfl, hT, hF⟩
    go_wp2
    go_ret
    exact Or.inr ⟨v, ys, H1.out, rfl, hT, HF2.out.then hF⟩
set_option maxHeartbeats 2000000 in
set_option maxRecDepth 100000 in
theorem drop_dead (t g c : Nat) (w : World) (h : Td w t g c) : Calls Tryz.prog 121 #[.pointer (some ⟨t, 0, none⟩)] w fun e w' => e = .returned (.bool false) ∧ Fr [] w w' := by
  have HD : Hid (∀ W fv, Fr [] w W → Calls Tryz.prog 117 #[.pointer (some ⟨t, 0, none⟩), fv] W fun e w' => e = .returned (.int .u64 0) ∧ Fr [] w w') := fun W fv hf => (takeU_dead fv t g c W (h.keep0 hf)).mono (by rintro e w' ⟨rfl, rfl⟩; exact ⟨rfl, hf⟩)
  clear h
  go_enter Tryz.func121, Tryz.ntmps121
  go_wp2_with fail
  refine (HD.out _ _ (Fr.alloc [] _ _)).mono ?_
  rintro e w1 ⟨rfl, hF⟩
  go_wp2
  go_ret
  exact ⟨rfl, hF⟩
set_option maxHeartbeats 4000000 in
set_option maxRecDepth 100000 in
theorem drop_any (t g r : Nat) (xs : List Nat) (w : World) (h : Tl w t g r xs) : Calls Tryz.prog 121 #[.pointer (some ⟨t, 0, none⟩)] w fun e w' =>
    (∃ c, dF xs = .error c ∧ e = .returned (.bool false) ∧ Td w' t g c ∧ Fr [t, g] w w') ∨ (∃ d ys, dF xs = .ok (d, ys) ∧ e = .returned (.bool (decide (d = 1))) ∧ Tl w' t g r ys ∧ Fr [t, g] w w') := by
  have htl := h.tb.lt
  have hgl : g < w.heap.size := by obtain ⟨ao, cap, hR⟩ := h.rd; exact hR.lt
  obtain ⟨w2, HW2⟩ : ∃ w2, Hid (w.alloc (.cells #[.pointer (some ⟨t, 0, none⟩)] 164) = w2) := ⟨_, rfl⟩
  have hF2 : Fr [] w w2 := by rw [← HW2.out]; exact Fr.alloc [] _ _
  have hb1 : w2.cell? ⟨w.heap.size, 0, none⟩ = some (.pointer (some ⟨t, 0, none⟩)) := by
    rw [← HW2.out]
    exact cell_of_row _ _ _ _ _ _ (heap_alloc_new w _)
  have hs2 : w.heap.size < w2.heap.size := by rw [← HW2.out]; simp
  have hT2 := h.keep0 hF2
  have hD := drop1_any t g r w.heap.size xs w2 hT2 hb1
  have HF2 : Hid (Fr [t, g] w w2) := hF2.mono (by simp)
  have HB : Hid (∀ W, Fr [t, g] w2 W → W.cell? ⟨w.heap.size, 0, none⟩ = some (.pointer (some ⟨t, 0, none⟩))) := fun W hf => far_cell hf hb1 hs2 (by simp; omega)
  rcases tk_split (fixF 1) refD 0 xs (fix_pos xs) with ⟨c, hc, h1, hr⟩ | ⟨v, ys, h1, hv, -, hlt, hr⟩ | ⟨v, ys, h1, hv, -, hlt, hr⟩
  · rw [hr] at hD
    have HD : Hid (Calls _ _ _ _ _) := takeF_wrong _ t g r c xs w2 hT2 hc hD
    have H1 : Hid (dF xs = .error c) := h1
    clear h hT2 hD hr h1 hc hb1 hs2 hF2 htl hgl
    go_enter Tryz.func121, Tryz.ntmps121
    go_wp2_with fail
    rw [HW2.out]
    refine Calls.mono HD.out ?_
    rintro e w3 ⟨rfl, hT, hF⟩
    have HR : Hid (Td w3 t g c ∧ Fr [t, g] w w3) := ⟨hT, HF2.out.then hF⟩
    clear hT hF HD
    go_wp2
    go_ret
    exact Or.inl ⟨c, H1.out, rfl, HR.out⟩
  · rw [hr] at hD
    have HD : Hid (Calls _ _ _ _ _) := takeF_good _ t g r v xs ys w2 hT2 hlt hD
    have hv2 : ¬ (v = 0 ∨ v = 1) := by
      intro hh
      unfold refD at hv
      rw [if_pos hh] at hv
      exact hv rfl
    have H1 : Hid (dF xs = .error 4) := by
      show dF xs = _
      unfold dF
      rw [h1]
      simp only [refD, if_neg hv2]
    have q0 : ((v : Int) != 0) = true := by rw [bne_iff_ne]; omega
    have q1 : ((v : Int) != 1) = true := by rw [bne_iff_ne]; omega
    have q2 : ((v : Int) == 1) = false := by rw [beq_eq_false_iff_ne]; omega
    clear h hT2 hD hr h1 hb1 hs2 hF2 htl hgl hv hlt hv2
    go_enter Tryz.func121, Tryz.ntmps121
    go_wp2_with fail
    rw [HW2.out]
    refine Calls.mono HD.out ?_
    rintro e w3 ⟨rfl, hT, hF⟩
    have cb := HB.out _ hF
    have d1 := hT.tb.c1
    have df := hT.tb.f1
    have HTB : Hid (TB w3 t g 0) := hT.tb
    have HR : Hid (Fr [t, g] w w3) := HF2.out.then hF
    clear hT hF HD
    go_wp2
    go_ret
    exact Or.inl ⟨4, H1.out, rfl, ⟨HTB.out.set 4, by decide⟩, HR.out.then (Fr.set _ _ _ (by simp))⟩
  · rw [hr] at hD
    have HD : Hid (Calls _ _ _ _ _) := takeF_good _ t g r v xs ys w2 hT2 hlt hD
    have H1 : Hid (dF xs = .ok (v, ys)) := h1
    have hv2 : v = 0 ∨ v = 1 := by
      unfold refD at hv
      split at hv
      · assumption
      · exact absurd hv (by decide)
    clear h hT2 hD hr h1 hb1 hs2 hF2 htl hgl hv hlt
    rcases hv2 with rfl | rfl
    · go_enter Tryz.func121, Tryz.ntmps121
      go_wp2_with fail
      rw [HW2.out]
      refine Calls.mono HD.out ?_
      rintro e w3 ⟨rfl, hT, hF⟩
      have HR : Hid (Tl w3 t g r ys ∧ Fr [t, g] w w3) := ⟨hT, HF2.out.then hF⟩
      clear hT hF HD
      go_wp2
      go_ret
      exact Or.inr ⟨0, ys, H1.out, rfl, HR.out⟩
    · go_enter Tryz.func121, Tryz.ntmps121
      go_wp2_with fail
      rw [HW2.out]
      refine Calls.mono HD.out ?_
      rintro e w3 ⟨rfl, hT, hF⟩
      have HR : Hid (Tl w3 t g r ys ∧ Fr [t, g] w w3) := ⟨hT, HF2.out.then hF⟩
      clear hT hF HD
      go_wp2
      go_ret
      exact Or.inr ⟨1, ys, H1.out, rfl, HR.out⟩
end Go.Proofs.YtdojhkgnnbdfkaaGreat
/- The closure that takes a version off the taker. Conditions as each names them. -/
namespace Go.Proofs.YtdojhkgnnbdfkaaGreat
open Go.ChangeShapes Go.WideShapes Go.ChangeAt Go.RowKit Go.Lib Go.Maps
set_option linter.unusedVariables false
set_option linter.unusedSimpArgs false

theorem results_cell1 {fn : Func} {p : Tmp} {ty : TypeId} (h : fn.results = #[.cell p ty]) (tmps : Array Value) (P : Program) (w : World) :
    (results fn tmps).run P w = ((asAddr (tmps.getD p undef)).run P w).andThen fun a w₁ => (loadVar ty a).run P w₁ := by
  simp only [results, h]
  simp [Sem.run_bind, Result.andThen]
/-- What a version's taking answers. -/
def VerP (t g r : Nat) (xs : List Nat) (w : World) (e : Ending) (w' : World) : Prop :=
  (∃ c n, dX xs = .error c ∧ e = .returned (.agg #[.int .i64 n, .string ⟨#[]⟩, .bool false]) ∧ Td w' t g c ∧ Fr [t, g] w w') ∨ (∃ v ys, dX xs = .ok (v, ys) ∧ e = .returned (.agg #[.int .i64 v.num, .string v.val, .bool v.drop]) ∧ Tl w' t g r ys ∧ Fr [t, g] w w')
theorem dX_n {xs : List Nat} {c : Nat} (h : dN xs = .error c) : dX xs = .error c := by unfold dX; rw [h]
theorem dX_d {xs ys : List Nat} {n c : Nat} (h : dN xs = .ok (n, ys)) (h2 : dF ys = .error c) : dX xs = .error c := by unfold dX; rw [h]; simp only; unfold dXd; rw [h2]
theorem dX_1 {xs ys zs : List Nat} {n : Nat} (h : dN xs = .ok (n, ys)) (h2 : dF ys = .ok (1, zs)) : dX xs = .ok (⟨(n : Int), noS, true⟩, zs) := by unfold dX; rw [h]; simp only; unfold dXd; rw [h2]; rfl
theorem dX_v {xs ys zs : List Nat} {n d c : Nat} (h : dN xs = .ok (n, ys)) (h2 : dF ys = .ok (d, zs)) (hd : d ≠ 1) (h3 : dT 1024 zs = .error c) : dX xs = .error c := by unfold dX; rw [h]; simp only; unfold dXd; rw [h2]; simp only [if_neg hd]; unfold dXv; rw [h3]
theorem dX_ok {xs ys zs us : List Nat} {n d : Nat} {s : ByteArray} (h : dN xs = .ok (n, ys)) (h2 : dF ys = .ok (d, zs)) (hd : d ≠ 1) (h3 : dT 1024 zs = .ok (s, us)) : dX xs = .ok (⟨(n : Int), s, false⟩, us) := by unfold dX; rw [h]; simp only; unfold dXd; rw [h2]; simp only [if_neg hd]; unfold dXv; rw [h3]
/-- Behind a store of a version in a box that is neither the taker's nor the reader's. -/
theorem ver_set {w w0 W : World} {t g b0 : Nat} (h0 : Fr [] w w0) (hb0 : w0.heap[b0]? = some (.cells #[.int .i64 0, .string ⟨#[]⟩, .bool false] 74 (0, 0))) (hn : w.heap.size ≤ b0) (hbt : b0 ≠ t) (hbg : b0 ≠ g) (hW : Fr [t, g] w0 W) (a : Int) (b : ByteArray) (d : Bool) (W3 : World) (e : ((W.setCell ⟨b0, 0, none⟩ (.int .i64 a)).setCell ⟨b0, 1, none⟩ (.string b)).setCell ⟨b0, 2, none⟩ (.bool d) = W3) :
    W3.cell? ⟨b0, 0, none⟩ = some (.int .i64 a) ∧ W3.cell? ⟨b0, 1, none⟩ = some (.string b) ∧ W3.cell? ⟨b0, 2, none⟩ = some (.bool d) ∧ Fr [b0] W W3 ∧ Fr [t, g] w W3 := by
  have hr := vrow3 (hW.keep hb0 (by simp; exact ⟨hbt, hbg⟩)) (.int .i64 a) (.string b) (.bool d)
  rw [e] at hr
  have hFs : Fr [b0] W W3 := by rw [← e]; exact ((Fr.set _ _ _ (by simp)).then (Fr.set _ _ _ (by simp))).then (Fr.set _ _ _ (by simp))
  refine ⟨?_, ?_, ?_, hFs, (((h0.mono (T := [t, g]) (by simp)).then hW).trans hFs (fun _ x _ => x) (fun x hx hl => by simp at hx; omega))⟩
  · rw [cell_of_row _ _ _ _ _ _ hr]; rfl
  · rw [cell_of_row _ _ _ _ _ _ hr]; rfl
  · rw [cell_of_row _ _ _ _ _ _ hr]; rfl
theorem ver_cells {w0 W : World} {t g b0 : Nat} (hb0 : w0.heap[b0]? = some (.cells #[.int .i64 0, .string ⟨#[]⟩, .bool false] 74 (0, 0))) (hbt : b0 ≠ t) (hbg : b0 ≠ g) (hW : Fr [t, g] w0 W) :
    W.cell? ⟨b0, 0, none⟩ = some (.int .i64 0) ∧ W.cell? ⟨b0, 1, none⟩ = some (.string ⟨#[]⟩) ∧ W.cell? ⟨b0, 2, none⟩ = some (.bool false) ∧ W.frozen? ⟨b0, 0, none⟩ = false ∧ W.frozen? ⟨b0, 1, none⟩ = false ∧ W.frozen? ⟨b0, 2, none⟩ = false := by
  have hb2 := hW.keep hb0 (by simp; exact ⟨hbt, hbg⟩)
  exact ⟨by rw [cell_of_row _ _ _ _ _ _ hb2]; rfl, by rw [cell_of_row _ _ _ _ _ _ hb2]; rfl, by rw [cell_of_row _ _ _ _ _ _ hb2]; rfl, vfrozen hb2 0, vfrozen hb2 1, vfrozen hb2 2⟩
theorem Tl.off {w w' : World} {t g r b : Nat} {ys : List Nat} (h : Tl w t g r ys) (hf : Fr [b] w w') (ht : b ≠ t) (hg : b ≠ g) (hr : b ≠ r) : Tl w' t g r ys := h.keep hf (by simp; exact fun e => ht e.symm) (by simp; exact fun e => hg e.symm) (by simp; exact fun e => hr e.symm)
theorem Td.off {w w' : World} {t g c b : Nat} (h : Td w t g c) (hf : Fr [b] w w') (ht : b ≠ t) : Td w' t g c := ⟨h.tb.keep hf (by simp; exact fun e => ht e.symm), h.bad⟩
set_option maxHeartbeats 8000000 in
set_option maxRecDepth 100000 in
theorem ver_any (t g r bx : Nat) (xs : List Nat) (w : World) (h : Tl w t g r xs) (hbx : w.cell? ⟨bx, 0, none⟩ = some (.pointer (some ⟨t, 0, none⟩))) (hxt : bx ≠ t) (hxg : bx ≠ g) (hxl : bx < w.heap.size) :
    Calls Tryz.prog 120 #[.pointer (some ⟨bx, 0, none⟩)] w fun e w' => VerP t g r xs w e w' := by
  have htl := h.tb.lt
  obtain ⟨hgl, hrl⟩ : g < w.heap.size ∧ r < w.heap.size := by obtain ⟨ao, cap, hR⟩ := h.rd; exact ⟨hR.lt, hR.sl.blk⟩
  obtain ⟨w0, HW0⟩ : ∃ w0, Hid (w.alloc (.cells #[.int .i64 0, .string ⟨#[]⟩, .bool false] 74) = w0) := ⟨_, rfl⟩
  have hF0 : Fr [] w w0 := by rw [← HW0.out]; exact Fr.alloc [] w _
  have hb0 : w0.heap[w.heap.size]? = some (.cells #[.int .i64 0, .string ⟨#[]⟩, .bool false] 74 (0, 0)) := by rw [← HW0.out]; exact heap_alloc_new w _
  have hT0 := h.keep0 hF0
  have HX : Hid (∀ W, Fr [t, g] w0 W → W.cell? ⟨bx, 0, none⟩ = some (.pointer (some ⟨t, 0, none⟩))) := fun W hf => far_cell ((hF0.mono (T := [t, g]) (by simp)).then hf) hbx hxl (by simp; exact ⟨hxt, hxg⟩)
  have HZ : Hid (∀ W, Fr [t, g] w0 W → W.cell? ⟨w.heap.size, 0, none⟩ = some (.int .i64 0) ∧ W.cell? ⟨w.heap.size, 1, none⟩ = some (.string ⟨#[]⟩) ∧ W.cell? ⟨w.heap.size, 2, none⟩ = some (.bool false) ∧ W.frozen? ⟨w.heap.size, 0, none⟩ = false ∧ W.frozen? ⟨w.heap.size, 1, none⟩ = false ∧ W.frozen? ⟨w.heap.size, 2, none⟩ = false) := fun W hf => ver_cells hb0 (by omega) (by omega) hf
  have HS : Hid (∀ W, Fr [t, g] w0 W → ∀ (a : Int) (b : ByteArray) (d : Bool) (W3 : World), ((W.setCell ⟨w.heap.size, 0, none⟩ (.int .i64 a)).setCell ⟨w.heap.size, 1, none⟩ (.string b)).setCell ⟨w.heap.size, 2, none⟩ (.bool d) = W3 →
      W3.cell? ⟨w.heap.size, 0, none⟩ = some (.int .i64 a) ∧ W3.cell? ⟨w.heap.size, 1, none⟩ = some (.string b) ∧ W3.cell? ⟨w.heap.size, 2, none⟩ = some (.bool d) ∧ Fr [w.heap.size] W W3 ∧ Fr [t, g] w W3) := fun W hW a b d W3 e => ver_set hF0 hb0 (Nat.le_refl _) (by omega) (by omega) hW a b d W3 e
  have HN : Hid (w.heap.size ≠ t ∧ w.heap.size ≠ g ∧ w.heap.size ≠ r) := ⟨by omega, by omega, by omega⟩
  have HC : Hid (Calls _ _ _ _ _) := number_any t g r xs w0 hT0
  have cx := HX.out w0 (Fr.refl _ _)
  clear h hT0 hb0 htl hgl hrl hbx hxt hxg hxl hF0
  go_enter Tryz.func120, Tryz.ntmps120
  go_upto_region 1 with fail
  rw [HW0.out]
  go_wp2_with fail
  refine Calls.mono HC.out ?_
  rintro e w1 (⟨c, h1, rfl, hT1, hF1⟩ | ⟨n, ys, h1, rfl, hT1, hF1⟩)
  · have H1 : Hid (dX xs = .error c) := dX_n h1
    have cx := HX.out _ hF1
    have HF1 : Hid (Fr [t, g] w0 w1) := hF1
    have HT1 : Hid (Td w1 t g c) := hT1
    have HC2 : Hid (Calls _ _ _ _ _) := drop_dead t g c w1 hT1
    clear hT1 hF1 h1 HC
    go_wp2_with fail
    refine Calls.mono HC2.out ?_
    rintro e w2 ⟨rfl, hF2⟩
    have HT : Hid (Td w2 t g c) := HT1.out.keep0 hF2
    have HF2 : Hid (Fr [t, g] w0 w2) := HF1.out.then (hF2.mono (by simp))
    have cx := HX.out _ HF2.out
    clear HC2 HT1 hF2 HF1
    have HC3 : Hid (Calls _ _ _ _ _) := ttext_dead t g c 1024 w2 HT.out (by decide)
    go_wp2_with fail
    refine Calls.mono HC3.out ?_
    rintro e w3 ⟨rfl, hF3⟩
    have HT3 : Hid (Td w3 t g c) := HT.out.keep0 hF3
    have hG : Fr [t, g] w0 w3 := HF2.out.then (hF3.mono (by simp))
    clear HC3 HT hF3
    have HG : Hid (Fr [t, g] w0 w3) := hG
    obtain ⟨z0, z1, z2, y0, y1, y2⟩ := HZ.out _ hG
    clear hG HX
    go_wp2
    have hS := HS.out _ HG.out (0) ⟨#[]⟩ false
    obtain ⟨W3, HW3⟩ : ∃ W3, Hid (((w3.setCell ⟨w.heap.size, 0, none⟩ (.int .i64 (0))).setCell ⟨w.heap.size, 1, none⟩ (.string ⟨#[]⟩)).setCell ⟨w.heap.size, 2, none⟩ (.bool false) = W3) := ⟨_, rfl⟩
    obtain ⟨q0, q1, q2, hfs, hfin⟩ := hS _ HW3.out
    rw [HW3.out]
    have HRR : Hid (Fr [w.heap.size] w3 W3 ∧ Fr [t, g] w W3) := ⟨hfs, hfin⟩
    clear hS HS HZ hfs hfin z0 z1 z2
    refine bodyPost_ret (v := .agg #[.int .i64 (0), .string ⟨#[]⟩, .bool false]) (by rw [results_cell1 rfl]; go_simp) rfl ?_
    exact Or.inl ⟨c, 0, H1.out, rfl, HT3.out.off HRR.out.1 HN.out.1, HRR.out.2⟩
  · have H1 : Hid (dN xs = .ok (n, ys)) := h1
    have cx := HX.out _ hF1
    have HF1 : Hid (Fr [t, g] w0 w1) := hF1
    have HC2 : Hid (Calls _ _ _ _ _) := drop_any t g r ys w1 hT1
    clear hT1 hF1 h1 HC
    go_wp2_with fail
    refine Calls.mono HC2.out ?_
    rintro e w2 (⟨c, h2, rfl, hT2, hF2⟩ | ⟨d, zs, h2, rfl, hT2, hF2⟩)
    · have H2 : Hid (dX xs = .error c) := dX_d H1.out h2
      have HT : Hid (Td w2 t g c) := hT2
      have HF2 : Hid (Fr [t, g] w0 w2) := HF1.out.then hF2
      have cx := HX.out _ HF2.out
      clear HC2 hT2 hF2 HF1 h2 H1
      have HC3 : Hid (Calls _ _ _ _ _) := ttext_dead t g c 1024 w2 HT.out (by decide)
      go_wp2_with fail
      refine Calls.mono HC3.out ?_
      rintro e w3 ⟨rfl, hF3⟩
      have HT3 : Hid (Td w3 t g c) := HT.out.keep0 hF3
      have hG : Fr [t, g] w0 w3 := HF2.out.then (hF3.mono (by simp))
      clear HC3 HT hF3
      have HG : Hid (Fr [t, g] w0 w3) := hG
      obtain ⟨z0, z1, z2, y0, y1, y2⟩ := HZ.out _ hG
      clear hG HX
      go_wp2
      have hS := HS.out _ HG.out ((n : Int)) ⟨#[]⟩ false
      obtain ⟨W3, HW3⟩ : ∃ W3, Hid (((w3.setCell ⟨w.heap.size, 0, none⟩ (.int .i64 ((n : Int)))).setCell ⟨w.heap.size, 1, none⟩ (.string ⟨#[]⟩)).setCell ⟨w.heap.size, 2, none⟩ (.bool false) = W3) := ⟨_, rfl⟩
      obtain ⟨q0, q1, q2, hfs, hfin⟩ := hS _ HW3.out
      rw [HW3.out]
      have HRR : Hid (Fr [w.heap.size] w3 W3 ∧ Fr [t, g] w W3) := ⟨hfs, hfin⟩
      clear hS HS HZ hfs hfin z0 z1 z2
      refine bodyPost_ret (v := .agg #[.int .i64 ((n : Int)), .string ⟨#[]⟩, .bool false]) (by rw [results_cell1 rfl]; go_simp) rfl ?_
      exact Or.inl ⟨c, n, H2.out, rfl, HT3.out.off HRR.out.1 HN.out.1, HRR.out.2⟩
    · by_cases hd : d = 1
      · subst hd
        have H2 : Hid (dX xs = .ok (⟨(n : Int), noS, true⟩, zs)) := dX_1 H1.out h2
        have HT : Hid (Tl w2 t g r zs) := hT2
        have hG : Fr [t, g] w0 w2 := HF1.out.then hF2
        clear HC2 hT2 hF2 HF1 h2 H1
        have HG : Hid (Fr [t, g] w0 w2) := hG
        obtain ⟨z0, z1, z2, y0, y1, y2⟩ := HZ.out _ hG
        clear hG HX
        go_wp2
        have hS := HS.out _ HG.out ((n : Int)) ⟨#[]⟩ true
        obtain ⟨W3, HW3⟩ : ∃ W3, Hid (((w2.setCell ⟨w.heap.size, 0, none⟩ (.int .i64 ((n : Int)))).setCell ⟨w.heap.size, 1, none⟩ (.string ⟨#[]⟩)).setCell ⟨w.heap.size, 2, none⟩ (.bool true) = W3) := ⟨_, rfl⟩
        obtain ⟨q0, q1, q2, hfs, hfin⟩ := hS _ HW3.out
        rw [HW3.out]
        have HRR : Hid (Fr [w.heap.size] w2 W3 ∧ Fr [t, g] w W3) := ⟨hfs, hfin⟩
        clear hS HS HZ hfs hfin z0 z1 z2
        refine bodyPost_ret (v := .agg #[.int .i64 ((n : Int)), .string ⟨#[]⟩, .bool true]) (by rw [results_cell1 rfl]; go_simp) rfl ?_
        exact Or.inr ⟨⟨(n : Int), noS, true⟩, zs, H2.out, rfl, HT.out.off HRR.out.1 HN.out.1 HN.out.2.1 HN.out.2.2, HRR.out.2⟩
      · have hdf : decide (d = 1) = false := by simp [hd]
        have H2 : Hid (dF ys = .ok (d, zs)) := h2
        have HD : Hid (d ≠ 1) := hd
        have HF2 : Hid (Fr [t, g] w0 w2) := HF1.out.then hF2
        have cx := HX.out _ HF2.out
        have HC3 : Hid (Calls _ _ _ _ _) := ttext_any t g r 1024 zs w2 hT2 (by decide)
        clear HC2 hT2 hF2 HF1 h2 hd
        rw [hdf]
        clear hdf
        go_wp2_with fail
        refine Calls.mono HC3.out ?_
        rintro e w3 (⟨c, h3, rfl, hT3, hF3⟩ | ⟨s, us, h3, rfl, hT3, hF3⟩)
        · have H3 : Hid (dX xs = .error c) := dX_v H1.out H2.out HD.out h3
          have HT3 : Hid (Td w3 t g c) := hT3
          have hG : Fr [t, g] w0 w3 := HF2.out.then hF3
          clear HC3 hT3 hF3 h3 H1 H2 HD
          have HG : Hid (Fr [t, g] w0 w3) := hG
          obtain ⟨z0, z1, z2, y0, y1, y2⟩ := HZ.out _ hG
          clear hG HX
          go_wp2
          have hS := HS.out _ HG.out ((n : Int)) ⟨#[]⟩ false
          obtain ⟨W3, HW3⟩ : ∃ W3, Hid (((w3.setCell ⟨w.heap.size, 0, none⟩ (.int .i64 ((n : Int)))).setCell ⟨w.heap.size, 1, none⟩ (.string ⟨#[]⟩)).setCell ⟨w.heap.size, 2, none⟩ (.bool false) = W3) := ⟨_, rfl⟩
          obtain ⟨q0, q1, q2, hfs, hfin⟩ := hS _ HW3.out
          rw [HW3.out]
          have HRR : Hid (Fr [w.heap.size] w3 W3 ∧ Fr [t, g] w W3) := ⟨hfs, hfin⟩
          clear hS HS HZ hfs hfin z0 z1 z2
          refine bodyPost_ret (v := .agg #[.int .i64 ((n : Int)), .string ⟨#[]⟩, .bool false]) (by rw [results_cell1 rfl]; go_simp) rfl ?_
          exact Or.inl ⟨c, n, H3.out, rfl, HT3.out.off HRR.out.1 HN.out.1, HRR.out.2⟩
        · have H3 : Hid (dX xs = .ok (⟨(n : Int), s, false⟩, us)) := dX_ok H1.out H2.out HD.out h3
          have HT3 : Hid (Tl w3 t g r us) := hT3
          have hG : Fr [t, g] w0 w3 := HF2.out.then hF3
          clear HC3 hT3 hF3 h3 H1 H2 HD
          have HG : Hid (Fr [t, g] w0 w3) := hG
          obtain ⟨z0, z1, z2, y0, y1, y2⟩ := HZ.out _ hG
          clear hG HX
          go_wp2
          have hS := HS.out _ HG.out ((n : Int)) s false
          obtain ⟨W3, HW3⟩ : ∃ W3, Hid (((w3.setCell ⟨w.heap.size, 0, none⟩ (.int .i64 ((n : Int)))).setCell ⟨w.heap.size, 1, none⟩ (.string s)).setCell ⟨w.heap.size, 2, none⟩ (.bool false) = W3) := ⟨_, rfl⟩
          obtain ⟨q0, q1, q2, hfs, hfin⟩ := hS _ HW3.out
          rw [HW3.out]
          have HRR : Hid (Fr [w.heap.size] w3 W3 ∧ Fr [t, g] w W3) := ⟨hfs, hfin⟩
          clear hS HS HZ hfs hfin z0 z1 z2
          refine bodyPost_ret (v := .agg #[.int .i64 ((n : Int)), .string s, .bool false]) (by rw [results_cell1 rfl]; go_simp) rfl ?_
          exact Or.inr ⟨⟨(n : Int), s, false⟩, us, H3.out, rfl, HT3.out.off HRR.out.1 HN.out.1 HN.out.2.1 HN.out.2.2, HRR.out.2⟩
end Go.Proofs.YtdojhkgnnbdfkaaGreat

/- Texts of this claim laid together, one behind the other: contracts and plain lemmas; conditions as each names them. -/
import Derived.Test.YtpdkdgmaofhlkaaGreatDoorGp31
/- Answer, whatever the replies come to: the keys' part is asked behind the making of a box. Conditions as named. -/
namespace Go.Proofs.YtpdkdgmaofhlkaaGreatDoor
open Go.ChangeShapes Go.WideShapes Go.ChangeAt Go.RowKit Go.Lib
set_option linter.unusedVariables false
set_option linter.unusedSimpArgs false

set_option maxHeartbeats 1600000 in
set_option maxRecDepth 100000 in
theorem qAnswer_ok2 {w : World} {t : Nat} {T : Tk} (h : TkM w t T) (hn : T.n < 0) (hm : Cf.may ⟨T.l, T.s, T.x, T.q⟩) (hc : okC T.k T.key T.en) (hak : T.ak ≤ 16) (hrp : T.rp ≤ 16) (hal : T.al = true) (en : Nat) (PE PH : World → Value → Prop)
    (hE : ∀ W, Fr [] w W → Calls Tryz.prog 27 #[.pointer (some ⟨t, 21, none⟩)] W fun e w' => ∃ eo ec, e = .returned (.slice eo en ec) ∧ PE w' (.slice eo en ec) ∧ Fr [] W w')
    (hH : ∀ W, Fr [] w W → w.heap.size < W.heap.size → Calls Tryz.prog 28 #[.pointer (some ⟨t, 21, none⟩)] W fun e w' => ∃ v, e = .returned v ∧ PH w' v ∧ Fr [] W w')
    (hPE : ∀ W W' v S, PE W v → Fr S W W' → (∀ x ∈ S, w.heap.size ≤ x ∧ ∃ cs, W.heap[x]? = some (.cells cs 68 (0, 0))) → PE W' v) (hPH : ∀ W W' v, PH W v → Fr [w.heap.size] W W' → PH W' v) :
    Calls Tryz.prog 11 #[.pointer (some ⟨t, 0, none⟩)] w fun e w' => ∃ eo ec v, e = .returned (.tuple #[.agg (ansA 0 T.ma (ansOk T.k en) eo en ec T.ct), v, .int .i64 0]) ∧ PE w' (.slice eo en ec) ∧ PH w' v ∧ Fr [] w w' := by
  have hlt := h.lt
  have mixed : Tryz.prog.follows .mixedOrders = true := by kernel_rfl
  have hF := Fr.alloc [] w (.cells (ansA 0 0 false none 0 0 0) 68)
  have hk := h.keep hF (by simp)
  have HT : Hid (Calls _ _ _ _ _) := qthere_any hk hn
  have hA := qAll_any hk hn hm hc hak hrp
  rw [hal] at hA
  have HA : Hid (Calls _ _ _ _ _) := hA
  have HF : Hid (Fr _ _ _) := hF
  have HK : Hid (TkM w t T) := h
  have HE : Hid (∀ W, Fr [] w W → Calls Tryz.prog 27 #[.pointer (some ⟨t, 21, none⟩)] W fun e w' => ∃ eo ec, e = .returned (.slice eo en ec) ∧ PE w' (.slice eo en ec) ∧ (w'.heap.size ≠ t ∧ t ≠ w'.heap.size) ∧ Fr [] W w') := fun W hW => (hE W hW).mono (by
    rintro e w' ⟨eo, ec, h1, h2, h3⟩
    have a1 := hW.size
    have a2 := h3.size
    exact ⟨eo, ec, h1, h2, ⟨by omega, by omega⟩, h3⟩)
  have HH : Hid (∀ W, Fr [] w W → w.heap.size < W.heap.size → Calls Tryz.prog 28 #[.pointer (some ⟨t, 21, none⟩)] W fun e w' => ∃ v, e = .returned v ∧ PH w' v ∧ Fr [] W w') := hH
  clear h hF hk hA hE hH hm hc hal
  simp only [ansA] at HT HF HA
  go_enter Tryz.func11, Tryz.ntmps11
  go_wp2_with fail
  refine Calls.mono HT.out ?_
  rintro e w1 ⟨rfl, rfl⟩
  go_wp2_with fail
  refine Calls.mono HA.out ?_
  rintro e w1 ⟨rfl, hf1⟩
  have hr : w1.heap[w.heap.size]? = some (.cells (ansA 0 0 false none 0 0 0) 68 (0, 0)) := hf1.keep (heap_alloc_new w _) (by simp)
  have HF1 : Hid (Fr [] w w1) := HF.out.then hf1
  have HPE : Hid _ := hPE
  have HPH : Hid _ := hPH
  have HR : Hid (w1.heap[w.heap.size]? = some (.cells (ansA 0 0 false none 0 0 0) 68 (0, 0))) := hr
  obtain ⟨ma, hma⟩ : ∃ m, m = T.ma := ⟨_, rfl⟩
  obtain ⟨ct, hct⟩ : ∃ m, m = T.ct := ⟨_, rfl⟩
  have HS : Hid (∀ W, Fr [] w W → W.cell? ⟨t, 9, none⟩ = some (.int .i64 ma) ∧ W.cell? ⟨t, 23, none⟩ = some (.int .i64 ct)) := fun W hW => by
    rw [hma, hct]
    exact ⟨(HK.out.keep hW (by simp)).c9, (HK.out.keep hW (by simp)).c23⟩
  obtain ⟨c9, c23⟩ := HS.out w1 HF1.out
  have HMC : Hid (ma = T.ma ∧ ct = T.ct) := ⟨hma, hct⟩
  have n1 : w1.heap.size ≠ t := by have := HF1.out.size; omega
  have n1' : t ≠ w1.heap.size := fun e => n1 e.symm
  clear hf1 HA HT HF hr hma hct
  go_wp2_with fail
  go_region_held3 (fun w => w.cell? ⟨t, 9, none⟩ = some (.int .i64 ma) ∧ w.cell? ⟨t, 23, none⟩ = some (.int .i64 ct)) (go_keep)
    (first
      | (with_reducible refine Calls.mono (HE.out _ (HF1.out.then (Fr.drew _ _))) ?_; rintro e2 w2 ⟨eo, ec, rfl, hPE2, ⟨n2, n2'⟩, hf2⟩; have hf2' := (HF1.out.then (Fr.drew [] w1)).then hf2; obtain ⟨d9, d23⟩ := HS.out _ hf2')
      | (with_reducible refine Calls.mono (HE.out _ ((HF1.out.then (Fr.alloc _ _ _)).then (Fr.drew _ _))) ?_; rintro e2 w2 ⟨eo, ec, rfl, hPE2, ⟨n2, n2'⟩, hf2⟩; have hf2' := ((HF1.out.then (Fr.alloc [] w1 _)).then (Fr.drew [] _)).then hf2; obtain ⟨d9, d23⟩ := HS.out _ hf2'; obtain ⟨hbx, b0, b1, b2, b3, b4, y0, y1, y2, y3, y4⟩ := ans_box hf2))
  · have hX : (w2.alloc (.cells #[.int .i64 0, .int .i64 ma, .bool false, .slice eo en ec, .int .i64 ct] 68)).heap[w2.heap.size]? = some (.cells (ansA 0 ma false eo en ec ct) 68 (0, 0)) := heap_alloc_new w2 _
    have hFx := hf2'.then (Fr.alloc [] w2 (.cells #[.int .i64 0, .int .i64 ma, .bool false, .slice eo en ec, .int .i64 ct] 68))
    have hfa := ((Fr.drew [] w1).then hf2).then (Fr.alloc [] w2 (.cells #[.int .i64 0, .int .i64 ma, .bool false, .slice eo en ec, .int .i64 ct] 68))
    have hRx := hfa.keep HR.out (by simp)
    have hPx := hPE _ _ _ _ hPE2 (Fr.alloc [] w2 (.cells #[.int .i64 0, .int .i64 ma, .bool false, .slice eo en ec, .int .i64 ct] 68)) (by simp)
    obtain ⟨bx, hbxe⟩ : ∃ b, b = w2.heap.size := ⟨_, rfl⟩
    have hbx : w.heap.size < bx := by have h1 : w.heap.size < w1.heap.size := lt_of_block HR.out; have h2 : w1.heap.size ≤ w2.heap.size := hf2.size; omega
    rw [← hbxe] at hX ⊢
    clear d9 d23 n2 n2' hf2 hf2' hPE2 hfa c9 c23 n1 n1' hbxe
    generalize (w2.alloc (.cells #[.int .i64 0, .int .i64 ma, .bool false, .slice eo en ec, .int .i64 ct] 68)) = W4 at hX hFx hRx hPx ⊢
    have k3 : W4.cell? ⟨bx, 3, none⟩ = some (.slice eo en ec) := by rw [cell_of_row _ _ _ _ _ _ hX]; rfl
    have k2 : W4.cell? ⟨bx, 2, none⟩ = some (.bool false) := by rw [cell_of_row _ _ _ _ _ _ hX]; rfl
    have z2 : W4.frozen? ⟨bx, 2, none⟩ = false := by simp [World.frozen?, hX]
    have c5 := (HK.out.keep hFx (by simp)).c5
    obtain ⟨B, hB⟩ : ∃ B, B = ansOk T.k en := ⟨_, rfl⟩
    have hX5 : (W4.setCell ⟨bx, 2, none⟩ (.bool B)).heap[bx]? = some (.cells (ansA 0 ma B eo en ec ct) 68 (0, 0)) := by rw [row_put17 _ hX]; rfl
    have hf5 : Fr [bx] W4 (W4.setCell ⟨bx, 2, none⟩ (.bool B)) := Fr.set _ _ _ (by simp)
    have hR5 := hf5.keep hRx (by simp; omega)
    have hP5 := hPE _ _ _ _ hPx hf5 (fun x hx => by simp at hx; rw [hx]; exact ⟨by omega, _, hX⟩)
    have hF5 : Fr [] w (W4.setCell ⟨bx, 2, none⟩ (.bool B)) := hFx.on hf5 (fun x hx => by simp at hx; omega)
    have HB : Hid (B = ansOk T.k en) := hB
    have HBX : Hid (w.heap.size < bx) := hbx
    clear hX hFx hRx hPx hB hbx hPE hf5
    by_cases hk1 : T.k = 1
    · have hkn : (T.k != 1) = false := by simp [hk1]
      have hln : (((en : Nat) : Int) == 1) = B := by
        rw [HB.out]
        unfold ansOk
        by_cases he : en = 1
        · simp [he]
        · rw [decide_eq_false (by simp [hk1, he])]
          rw [beq_eq_false_iff_ne]
          omega
      rw [hk1] at c5
      go_upto_region 7 with fail
      generalize (W4.setCell ⟨bx, 2, none⟩ (.bool B)) = W5 at hX5 hR5 hP5 hF5 ⊢
      have a0 : W5.cell? ⟨bx, 0, none⟩ = some (.int .i64 0) := by rw [cell_of_row _ _ _ _ _ _ hX5]; rfl
      have a1 : W5.cell? ⟨bx, 1, none⟩ = some (.int .i64 ma) := by rw [cell_of_row _ _ _ _ _ _ hX5]; rfl
      have a2 : W5.cell? ⟨bx, 2, none⟩ = some (.bool B) := by rw [cell_of_row _ _ _ _ _ _ hX5]; rfl
      have a3 : W5.cell? ⟨bx, 3, none⟩ = some (.slice eo en ec) := by rw [cell_of_row _ _ _ _ _ _ hX5]; rfl
      have a4 : W5.cell? ⟨bx, 4, none⟩ = some (.int .i64 ct) := by rw [cell_of_row _ _ _ _ _ _ hX5]; rfl
      have hne : w.heap.size ≠ bx := by have := HBX.out; omega
      have hne' : bx ≠ w.heap.size := fun e => hne e.symm
      have HHq : Hid (Calls Tryz.prog 28 #[.pointer (some ⟨t, 21, none⟩)] W5.drew fun e w' => ∃ v, e = .returned v ∧ AnsH w bx PE PH (.slice eo en ec) ma B eo en ec ct w' v) := by
        refine (HH.out W5.drew (hF5.then (Fr.drew _ _)) (by have h1 := HBX.out; have h2 : bx < W5.heap.size := lt_of_block hX5; show w.heap.size < W5.heap.size; omega)).mono ?_
        rintro e6 w6 ⟨v, rfl, hPv, hf6⟩
        have hf6' : Fr [] W5 w6 := (Fr.drew [] W5).then hf6
        exact ⟨v, rfl, hf6'.keep hX5 (by simp), hf6'.keep hR5 (by simp), HPE.out _ _ _ _ hP5 hf6' (by simp), hPv, hF5.then hf6'⟩
      obtain ⟨b2, hb2⟩ : ∃ b, b = w.heap.size := ⟨_, rfl⟩
      have HB2 : Hid (b2 = w.heap.size) := hb2
      rw [← hb2] at hne hne' ⊢
      clear c5 k3 k2 z2 hX5 hR5 hP5 hF5 hb2
      go_region_held3 (fun w => w.cell? ⟨bx, 0, none⟩ = some (.int .i64 0) ∧ w.cell? ⟨bx, 1, none⟩ = some (.int .i64 ma) ∧ w.cell? ⟨bx, 2, none⟩ = some (.bool B) ∧ w.cell? ⟨bx, 3, none⟩ = some (.slice eo en ec) ∧ w.cell? ⟨bx, 4, none⟩ = some (.int .i64 ct)) (go_keep)
        (first
          | (with_reducible refine Calls.mono HHq.out ?_; rintro e6 w6 ⟨v, rfl, hZ⟩; obtain ⟨f0, f1, f2, f3, f4⟩ := hZ.ca; obtain ⟨g0, g1, g2, g3, g4, y0, y1, y2, y3, y4⟩ := hZ.cb HB2.out))
      all_goals
        obtain ⟨hfin, hP7, hV7, hF7⟩ := hZ.fin HPE.out HPH.out
        rw [← HB2.out] at hfin hP7 hV7 hF7
        have HFI : Hid (_ ∧ _ ∧ _ ∧ _) := ⟨hfin, hP7, hV7, hF7⟩
        clear hfin hP7 hV7 hF7 hZ f0 f1 f2 f3 f4 g0 g1 g2 g3 g4 y0 y1 y2 y3 y4 HHq
        go_wp2
        refine bodyPost_ret (results_ctt17 rfl _ _ _ b2 _ rfl (load_ans HFI.out.1)) rfl ?_
        obtain ⟨m1, m2⟩ := HMC.out
        rw [← m1, ← m2, ← HB.out]
        exact ⟨eo, ec, _, rfl, HFI.out.2.1, HFI.out.2.2.1, HFI.out.2.2.2⟩
    · have hkn : (T.k != 1) = true := by simp [hk1]
      have hBt : B = true := by rw [HB.out]; unfold ansOk; simp [hk1]
      subst hBt
      go_upto_region 7 with fail
      generalize (W4.setCell ⟨bx, 2, none⟩ (.bool true)) = W5 at hX5 hR5 hP5 hF5 ⊢
      have a0 : W5.cell? ⟨bx, 0, none⟩ = some (.int .i64 0) := by rw [cell_of_row _ _ _ _ _ _ hX5]; rfl
      have a1 : W5.cell? ⟨bx, 1, none⟩ = some (.int .i64 ma) := by rw [cell_of_row _ _ _ _ _ _ hX5]; rfl
      have a2 : W5.cell? ⟨bx, 2, none⟩ = some (.bool true) := by rw [cell_of_row _ _ _ _ _ _ hX5]; rfl
      have a3 : W5.cell? ⟨bx, 3, none⟩ = some (.slice eo en ec) := by rw [cell_of_row _ _ _ _ _ _ hX5]; rfl
      have a4 : W5.cell? ⟨bx, 4, none⟩ = some (.int .i64 ct) := by rw [cell_of_row _ _ _ _ _ _ hX5]; rfl
      have hne : w.heap.size ≠ bx := by have := HBX.out; omega
      have hne' : bx ≠ w.heap.size := fun e => hne e.symm
      have HHq : Hid (Calls Tryz.prog 28 #[.pointer (some ⟨t, 21, none⟩)] W5.drew fun e w' => ∃ v, e = .returned v ∧ AnsH w bx PE PH (.slice eo en ec) ma true eo en ec ct w' v) := by
        refine (HH.out W5.drew (hF5.then (Fr.drew _ _)) (by have h1 := HBX.out; have h2 : bx < W5.heap.size := lt_of_block hX5; show w.heap.size < W5.heap.size; omega)).mono ?_
        rintro e6 w6 ⟨v, rfl, hPv, hf6⟩
        have hf6' : Fr [] W5 w6 := (Fr.drew [] W5).then hf6
        exact ⟨v, rfl, hf6'.keep hX5 (by simp), hf6'.keep hR5 (by simp), HPE.out _ _ _ _ hP5 hf6' (by simp), hPv, hF5.then hf6'⟩
      obtain ⟨b2, hb2⟩ : ∃ b, b = w.heap.size := ⟨_, rfl⟩
      have HB2 : Hid (b2 = w.heap.size) := hb2
      rw [← hb2] at hne hne' ⊢
      clear c5 k3 k2 z2 hX5 hR5 hP5 hF5 hb2
      go_region_held3 (fun w => w.cell? ⟨bx, 0, none⟩ = some (.int .i64 0) ∧ w.cell? ⟨bx, 1, none⟩ = some (.int .i64 ma) ∧ w.cell? ⟨bx, 2, none⟩ = some (.bool true) ∧ w.cell? ⟨bx, 3, none⟩ = some (.slice eo en ec) ∧ w.cell? ⟨bx, 4, none⟩ = some (.int .i64 ct)) (go_keep)
        (first
          | (with_reducible refine Calls.mono HHq.out ?_; rintro e6 w6 ⟨v, rfl, hZ⟩; obtain ⟨f0, f1, f2, f3, f4⟩ := hZ.ca; obtain ⟨g0, g1, g2, g3, g4, y0, y1, y2, y3, y4⟩ := hZ.cb HB2.out))
      all_goals
        obtain ⟨hfin, hP7, hV7, hF7⟩ := hZ.fin HPE.out HPH.out
        rw [← HB2.out] at hfin hP7 hV7 hF7
        have HFI : Hid (_ ∧ _ ∧ _ ∧ _) := ⟨hfin, hP7, hV7, hF7⟩
        clear hfin hP7 hV7 hF7 hZ f0 f1 f2 f3 f4 g0 g1 g2 g3 g4 y0 y1 y2 y3 y4 HHq
        go_wp2
        refine bodyPost_ret (results_ctt17 rfl _ _ _ b2 _ rfl (load_ans HFI.out.1)) rfl ?_
        obtain ⟨m1, m2⟩ := HMC.out
        rw [← m1, ← m2, ← HB.out]
        exact ⟨eo, ec, _, rfl, HFI.out.2.1, HFI.out.2.2.1, HFI.out.2.2.2⟩
  · have hX : (((((w2.setCell ⟨w1.heap.size, 0, none⟩ (.int .i64 0)).setCell ⟨w1.heap.size, 1, none⟩ (.int .i64 ma)).setCell ⟨w1.heap.size, 2, none⟩ (.bool false)).setCell ⟨w1.heap.size, 3, none⟩ (.slice eo en ec)).setCell ⟨w1.heap.size, 4, none⟩ (.int .i64 ct)).heap[w1.heap.size]? = some (.cells (ansA 0 ma false eo en ec ct) 68 (0, 0)) := by
      rw [row_put17 _ (row_put17 _ (row_put17 _ (row_put17 _ (row_put17 _ hbx))))]; rfl
    have hfs : Fr [w1.heap.size] w2 (((((w2.setCell ⟨w1.heap.size, 0, none⟩ (.int .i64 0)).setCell ⟨w1.heap.size, 1, none⟩ (.int .i64 ma)).setCell ⟨w1.heap.size, 2, none⟩ (.bool false)).setCell ⟨w1.heap.size, 3, none⟩ (.slice eo en ec)).setCell ⟨w1.heap.size, 4, none⟩ (.int .i64 ct)) := ((((Fr.set _ _ _ (by simp)).then (Fr.set _ _ _ (by simp))).then (Fr.set _ _ _ (by simp))).then (Fr.set _ _ _ (by simp))).then (Fr.set _ _ _ (by simp))
    have hw1 : w.heap.size < w1.heap.size := lt_of_block HR.out
    have hFx := hf2'.on hfs (fun x hx => by simp at hx; omega)
    have hfa := ((Fr.alloc [] w1 _).then (Fr.drew [] _)).then hf2
    have hRx := hfs.keep (hfa.keep HR.out (by simp)) (by simp; omega)
    have hPx := hPE _ _ _ _ hPE2 hfs (fun x hx => by simp at hx; rw [hx]; exact ⟨by omega, _, hbx⟩)
    obtain ⟨bx, hbxe⟩ : ∃ b, b = w1.heap.size := ⟨_, rfl⟩
    rw [← hbxe] at hX hFx hRx hPx ⊢
    have hbx2 : w.heap.size < bx := by omega
    clear d9 d23 n2 n2' hf2 hf2' hPE2 hfa hfs c9 c23 n1 n1' hbxe hbx b0 b1 b2 b3 b4 y0 y1 y2 y3 y4
    have hbx := hbx2
    clear hbx2
    generalize (((((w2.setCell ⟨bx, 0, none⟩ (.int .i64 0)).setCell ⟨bx, 1, none⟩ (.int .i64 ma)).setCell ⟨bx, 2, none⟩ (.bool false)).setCell ⟨bx, 3, none⟩ (.slice eo en ec)).setCell ⟨bx, 4, none⟩ (.int .i64 ct)) = W4 at hX hFx hRx hPx ⊢
    have k3 : W4.cell? ⟨bx, 3, none⟩ = some (.slice eo en ec) := by rw [cell_of_row _ _ _ _ _ _ hX]; rfl
    have k2 : W4.cell? ⟨bx, 2, none⟩ = some (.bool false) := by rw [cell_of_row _ _ _ _ _ _ hX]; rfl
    have z2 : W4.frozen? ⟨bx, 2, none⟩ = false := by simp [World.frozen?, hX]
    have c5 := (HK.out.keep hFx (by simp)).c5
    obtain ⟨B, hB⟩ : ∃ B, B = ansOk T.k en := ⟨_, rfl⟩
    have hX5 : (W4.setCell ⟨bx, 2, none⟩ (.bool B)).heap[bx]? = some (.cells (ansA 0 ma B eo en ec ct) 68 (0, 0)) := by rw [row_put17 _ hX]; rfl
    have hf5 : Fr [bx] W4 (W4.setCell ⟨bx, 2, none⟩ (.bool B)) := Fr.set _ _ _ (by simp)
    have hR5 := hf5.keep hRx (by simp; omega)
    have hP5 := hPE _ _ _ _ hPx hf5 (fun x hx => by simp at hx; rw [hx]; exact ⟨by omega, _, hX⟩)
    have hF5 : Fr [] w (W4.setCell ⟨bx, 2, none⟩ (.bool B)) := hFx.on hf5 (fun x hx => by simp at hx; omega)
    have HB : Hid (B = ansOk T.k en) := hB
    have HBX : Hid (w.heap.size < bx) := hbx
    clear hX hFx hRx hPx hB hbx hPE hf5
    by_cases hk1 : T.k = 1
    · have hkn : (T.k != 1) = false := by simp [hk1]
      have hln : (((en : Nat) : Int) == 1) = B := by
        rw [HB.out]
        unfold ansOk
        by_cases he : en = 1
        · simp [he]
        · rw [decide_eq_false (by simp [hk1, he])]
          rw [beq_eq_false_iff_ne]
          omega
      rw [hk1] at c5
      go_upto_region 7 with fail
      generalize (W4.setCell ⟨bx, 2, none⟩ (.bool B)) = W5 at hX5 hR5 hP5 hF5 ⊢
      have a0 : W5.cell? ⟨bx, 0, none⟩ = some (.int .i64 0) := by rw [cell_of_row _ _ _ _ _ _ hX5]; rfl
      have a1 : W5.cell? ⟨bx, 1, none⟩ = some (.int .i64 ma) := by rw [cell_of_row _ _ _ _ _ _ hX5]; rfl
      have a2 : W5.cell? ⟨bx, 2, none⟩ = some (.bool B) := by rw [cell_of_row _ _ _ _ _ _ hX5]; rfl
      have a3 : W5.cell? ⟨bx, 3, none⟩ = some (.slice eo en ec) := by rw [cell_of_row _ _ _ _ _ _ hX5]; rfl
      have a4 : W5.cell? ⟨bx, 4, none⟩ = some (.int .i64 ct) := by rw [cell_of_row _ _ _ _ _ _ hX5]; rfl
      have hne : w.heap.size ≠ bx := by have := HBX.out; omega
      have hne' : bx ≠ w.heap.size := fun e => hne e.symm
      have HHq : Hid (Calls Tryz.prog 28 #[.pointer (some ⟨t, 21, none⟩)] W5.drew fun e w' => ∃ v, e = .returned v ∧ AnsH w bx PE PH (.slice eo en ec) ma B eo en ec ct w' v) := by
        refine (HH.out W5.drew (hF5.then (Fr.drew _ _)) (by have h1 := HBX.out; have h2 : bx < W5.heap.size := lt_of_block hX5; show w.heap.size < W5.heap.size; omega)).mono ?_
        rintro e6 w6 ⟨v, rfl, hPv, hf6⟩
        have hf6' : Fr [] W5 w6 := (Fr.drew [] W5).then hf6
        exact ⟨v, rfl, hf6'.keep hX5 (by simp), hf6'.keep hR5 (by simp), HPE.out _ _ _ _ hP5 hf6' (by simp), hPv, hF5.then hf6'⟩
      obtain ⟨b2, hb2⟩ : ∃ b, b = w.heap.size := ⟨_, rfl⟩
      have HB2 : Hid (b2 = w.heap.size) := hb2
      rw [← hb2] at hne hne' ⊢
      clear c5 k3 k2 z2 hX5 hR5 hP5 hF5 hb2
      go_region_held3 (fun w => w.cell? ⟨bx, 0, none⟩ = some (.int .i64 0) ∧ w.cell? ⟨bx, 1, none⟩ = some (.int .i64 ma) ∧ w.cell? ⟨bx, 2, none⟩ = some (.bool B) ∧ w.cell? ⟨bx, 3, none⟩ = some (.slice eo en ec) ∧ w.cell? ⟨bx, 4, none⟩ = some (.int .i64 ct)) (go_keep)
        (first
          | (with_reducible refine Calls.mono HHq.out ?_; rintro e6 w6 ⟨v, rfl, hZ⟩; obtain ⟨f0, f1, f2, f3, f4⟩ := hZ.ca; obtain ⟨g0, g1, g2, g3, g4, y0, y1, y2, y3, y4⟩ := hZ.cb HB2.out))
      all_goals
        obtain ⟨hfin, hP7, hV7, hF7⟩ := hZ.fin HPE.out HPH.out
        rw [← HB2.out] at hfin hP7 hV7 hF7
        have HFI : Hid (_ ∧ _ ∧ _ ∧ _) := ⟨hfin, hP7, hV7, hF7⟩
        clear hfin hP7 hV7 hF7 hZ f0 f1 f2 f3 f4 g0 g1 g2 g3 g4 y0 y1 y2 y3 y4 HHq
        go_wp2
        refine bodyPost_ret (results_ctt17 rfl _ _ _ b2 _ rfl (load_ans HFI.out.1)) rfl ?_
        obtain ⟨m1, m2⟩ := HMC.out
        rw [← m1, ← m2, ← HB.out]
        exact ⟨eo, ec, _, rfl, HFI.out.2.1, HFI.out.2.2.1, HFI.out.2.2.2⟩
    · have hkn : (T.k != 1) = true := by simp [hk1]
      have hBt : B = true := by rw [HB.out]; unfold ansOk; simp [hk1]
      subst hBt
      go_upto_region 7 with fail
      generalize (W4.setCell ⟨bx, 2, none⟩ (.bool true)) = W5 at hX5 hR5 hP5 hF5 ⊢
      have a0 : W5.cell? ⟨bx, 0, none⟩ = some (.int .i64 0) := by rw [cell_of_row _ _ _ _ _ _ hX5]; rfl
      have a1 : W5.cell? ⟨bx, 1, none⟩ = some (.int .i64 ma) := by rw [cell_of_row _ _ _ _ _ _ hX5]; rfl
      have a2 : W5.cell? ⟨bx, 2, none⟩ = some (.bool true) := by rw [cell_of_row _ _ _ _ _ _ hX5]; rfl
      have a3 : W5.cell? ⟨bx, 3, none⟩ = some (.slice eo en ec) := by rw [cell_of_row _ _ _ _ _ _ hX5]; rfl
      have a4 : W5.cell? ⟨bx, 4, none⟩ = some (.int .i64 ct) := by rw [cell_of_row _ _ _ _ _ _ hX5]; rfl
      have hne : w.heap.size ≠ bx := by have := HBX.out; omega
      have hne' : bx ≠ w.heap.size := fun e => hne e.symm
      have HHq : Hid (Calls Tryz.prog 28 #[.pointer (some ⟨t, 21, none⟩)] W5.drew fun e w' => ∃ v, e = .returned v ∧ AnsH w bx PE PH (.slice eo en ec) ma true eo en ec ct w' v) := by
        refine (HH.out W5.drew (hF5.then (Fr.drew _ _)) (by have h1 := HBX.out; have h2 : bx < W5.heap.size := lt_of_block hX5; show w.heap.size < W5.heap.size; omega)).mono ?_
        rintro e6 w6 ⟨v, rfl, hPv, hf6⟩
        have hf6' : Fr [] W5 w6 := (Fr.drew [] W5).then hf6
        exact ⟨v, rfl, hf6'.keep hX5 (by simp), hf6'.keep hR5 (by simp), HPE.out _ _ _ _ hP5 hf6' (by simp), hPv, hF5.then hf6'⟩
      obtain ⟨b2, hb2⟩ : ∃ b, b = w.heap.size := ⟨_, rfl⟩
      have HB2 : Hid (b2 = w.heap.size) := hb2
      rw [← hb2] at hne hne' ⊢
      clear c5 k3 k2 z2 hX5 hR5 hP5 hF5 hb2
      go_region_held3 (fun w => w.cell? ⟨bx, 0, none⟩ = some (.int .i64 0) ∧ w.cell? ⟨bx, 1, none⟩ = some (.int .i64 ma) ∧ w.cell? ⟨bx, 2, none⟩ = some (.bool true) ∧ w.cell? ⟨bx, 3, none⟩ = some (.slice eo en ec) ∧ w.cell? ⟨bx, 4, none⟩ = some (.int .i64 ct)) (go_keep)
        (first
          | (with_reducible refine Calls.mono HHq.out ?_; rintro e6 w6 ⟨v, rfl, hZ⟩; obtain ⟨f0, f1, f2, f3, f4⟩ := hZ.ca; obtain ⟨g0, g1, g2, g3, g4, y0, y1, y2, y3, y4⟩ := hZ.cb HB2.out))
      all_goals
        obtain ⟨hfin, hP7, hV7, hF7⟩ := hZ.fin HPE.out HPH.out
        rw [← HB2.out] at hfin hP7 hV7 hF7
        have HFI : Hid (_ ∧ _ ∧ _ ∧ _) := ⟨hfin, hP7, hV7, hF7⟩
        clear hfin hP7 hV7 hF7 hZ f0 f1 f2 f3 f4 g0 g1 g2 g3 g4 y0 y1 y2 y3 y4 HHq
        go_wp2
        refine bodyPost_ret (results_ctt17 rfl _ _ _ b2 _ rfl (load_ans HFI.out.1)) rfl ?_
        obtain ⟨m1, m2⟩ := HMC.out
        rw [← m1, ← m2, ← HB.out]
        exact ⟨eo, ec, _, rfl, HFI.out.2.1, HFI.out.2.2.1, HFI.out.2.2.2⟩
end Go.Proofs.YtpdkdgmaofhlkaaGreatDoor
/- A reply as a plain thing, and what a task answers of its replies. Conditions as each names them. -/
namespace Go.Proofs.YtpdkdgmaofhlkaaGreatDoor
open Go.ChangeShapes Go.WideShapes Go.ChangeAt Go.RowKit Go.Lib Go.Sort
set_option linter.unusedVariables false
set_option linter.unusedSimpArgs false

/-- A reply, and what its lists hold. -/
structure Rx where
  r : Rp
  es : List Ey
  hs : List Hd
def Rx.zero : Rx := ⟨⟨0, false, none, 0, 0, none, 0, 0, 0⟩, [], []⟩
/-- Its lists can be read. -/
structure RxB (w : World) (x : Rx) : Prop where
  re : RrE w x.r.eo x.es
  le : x.r.el = x.es.length
  me : x.r.el ≤ 4194304
  rh : RdH w x.r.ho x.hs
  lh : x.r.hl = x.hs.length
  mh : x.r.hl ≤ 4194304
theorem RxB.keep {w w' : World} {x : Rx} (h : RxB w x) (hf : Fr [] w w') : RxB w' x := ⟨h.re.keep hf, h.le, h.me, h.rh.keep hf, h.lh, h.mh⟩
def rxC (xs : List Rx) : List Value := xs.flatMap fun x => x.r.c
theorem rxC_snoc (xs : List Rx) (x : Rx) : rxC (xs ++ [x]) = rxC xs ++ x.r.a.toList := by simp [rxC, Rp.c, Rp.a]
theorem rxC_get : ∀ (xs : List Rx) (i j : Nat), i < xs.length → j < 5 → (rxC xs)[i * 5 + j]? = ((xs.getD i Rx.zero).r.c)[j]?
  | [], i, j, h, _ => by simp at h
  | x :: xs, 0, j, _, hj => by
    have : (rxC (x :: xs)) = x.r.c ++ rxC xs := by simp [rxC]
    rw [this, List.getElem?_append_left (by simp [Rp.c]; omega)]
    simp
  | x :: xs, i + 1, j, h, hj => by
    have : (rxC (x :: xs)) = x.r.c ++ rxC xs := by simp [rxC]
    rw [this, List.getElem?_append_right (by simp [Rp.c]; omega), show (i + 1) * 5 + j - x.r.c.length = i * 5 + j by simp [Rp.c]; omega, rxC_get xs i j (by simpa using h) hj]
    simp
/-- What the replies come to. -/
def ansE (k : Int) (xs : List Rx) : List Ey := if k = 1 then xs.flatMap (fun x => if x.es.length = 1 then x.es else []) else if k = 2 then sortB Ey.key (xs.flatMap Rx.es) else []
def ansH (k : Int) (xs : List Rx) : List Hd := if k = 4 then sortB Hd.key (xs.flatMap Rx.hs) else []
def ansC (k : Int) (xs : List Rx) : Int := if k = 3 then xs.foldl (fun a x => wrap64 (a + x.r.ct)) 0 else 0
def ansB (k : Int) (xs : List Rx) : Bool := if k = 1 then xs.foldl (fun _ x => decide (x.es.length = 1)) true else true
/-- What Answer answers where all replies are there. -/
theorem rx_take (xs : List Rx) (i : Nat) (h : i < xs.length) : xs.take (i + 1) = xs.take i ++ [xs.getD i Rx.zero] := by
  rw [List.take_add_one]
  simp [List.getD, h]
theorem rx_mem (xs : List Rx) (i : Nat) (h : i < xs.length) : xs.getD i Rx.zero ∈ xs := by simp [List.getD, h]
end Go.Proofs.YtpdkdgmaofhlkaaGreatDoor

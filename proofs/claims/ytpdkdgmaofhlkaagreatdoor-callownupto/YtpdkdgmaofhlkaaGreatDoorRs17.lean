/- What the statements' helpers TwinResp and LeftResp answer. No conditions. -/
import Derived.Test.YtpdkdgmaofhlkaaGreatDoorAj17
namespace Go.Proofs.YtpdkdgmaofhlkaaGreatDoor
open Go.ChangeShapes Go.WideShapes Go.ChangeAt Go.RowKit Go.Lib
set_option linter.unusedVariables false
set_option linter.unusedSimpArgs false

theorem HRs.lfew {w : World} {ao : Option Addr} {hs : List Hd} (h : HRs w ao hs) : Few hs := fun t ht => by
  have h1 := (h.each t ht).len
  have h2 := (h.each t ht).rs.few
  omega
/-- A reply's twin. -/
structure TwR (w0 w : World) (r : Rp) (es : List Ey) (hs : List Hd) (be bh : Nat) (ks : List Nat) : Prop where
  ne : w0.heap.size ≤ be
  nh : w0.heap.size ≤ bh
  apart : be ≠ bh
  re : w.heap[be]? = some (.cells (eysC (es ++ [spE])).toArray 102 (0, 0))
  rh : w.heap[bh]? = some (.cells (hdsC (twTs hs ks ++ [spT])).toArray 97 (0, 0))
  tw : Twd w0 w hs ks
def twRp (r : Rp) (be bh : Nat) : Rp := ⟨r.to_, r.ok, some ⟨be, 0, none⟩, r.el, r.el + 1, some ⟨bh, 0, none⟩, r.hl, r.hl + 1, r.ct⟩
theorem TwR.keep {w0 w w' : World} {r : Rp} {es : List Ey} {hs : List Hd} {be bh : Nat} {ks : List Nat} (h : TwR w0 w r es hs be bh ks) (hf : Fr [] w w') : TwR w0 w' r es hs be bh ks := ⟨h.ne, h.nh, h.apart, hf.keep h.re (by simp), hf.keep h.rh (by simp), h.tw.keep hf (by simp)⟩
theorem rp_cells {W : World} {b : Nat} {v0 v1 v2 v3 v4 : Value} {ty : TypeId} (h : W.heap[b]? = some (.cells #[v0, v1, v2, v3, v4] ty (0, 0))) : W.cell? ⟨b, 0, none⟩ = some v0 ∧ W.cell? ⟨b, 1, none⟩ = some v1 ∧ W.cell? ⟨b, 2, none⟩ = some v2 ∧ W.cell? ⟨b, 3, none⟩ = some v3 ∧ W.cell? ⟨b, 4, none⟩ = some v4 := by
  refine ⟨?_, ?_, ?_, ?_, ?_⟩ <;> (rw [cell_of_row _ _ _ _ _ _ h]; rfl)
-- twinR
set_option maxHeartbeats 4000000 in
set_option maxRecDepth 100000 in
theorem twinR_any {w : World} {r : Rp} {es : List Ey} {hs : List Hd} (h : RpB w r es hs) : Calls Tryz.prog 8 #[.agg r.a] w fun e w' => ∃ be bh ks, e = .returned (.agg (twRp r be bh).a) ∧ TwR w w' r es hs be bh ks ∧ Fr [] w w' := by
  have hE : ∀ W, Fr [] w W → Calls Tryz.prog 22 #[.slice r.eo r.el r.ec] W fun e w' => ∃ b, e = .returned (.slice (some ⟨b, 0, none⟩) r.el (r.el + 1)) ∧ W.heap.size ≤ b ∧ w'.heap[b]? = some (.cells (eysC (es ++ [spE])).toArray 102 (0, 0)) ∧ Fr [] W w' := fun W hW => twinEs_any r.eo r.el r.ec es W (h.ye.keep hW) h.el (by have := h.ye.few; have := h.el; omega)
  have hH : ∀ W, Fr [] w W → Calls Tryz.prog 23 #[.slice r.ho r.hl r.hc] W fun e w' => ∃ b ks, e = .returned (.slice (some ⟨b, 0, none⟩) r.hl (r.hl + 1)) ∧ W.heap.size ≤ b ∧ w'.heap[b]? = some (.cells (hdsC (twTs hs ks ++ [spT])).toArray 97 (0, 0)) ∧ Twd W w' hs ks ∧ Fr [] W w' := fun W hW => twinHs_any r.ho r.hl r.hc hs W (h.yh.keep hW) h.hl (by have := h.yh.few; have := h.hl; omega) h.yh.lfew
  clear h
  obtain ⟨a, b, c, d, e, f, g, i, j⟩ := r
  simp only [Rp.a, twRp] at hE hH ⊢
  obtain ⟨w0, HW0⟩ : ∃ w0, Hid ((w.alloc (.cells #[.int .i64 a, .bool b, .slice c d e, .slice f g i, .int .i64 j] 53)).alloc (.cells #[.int .i64 0, .bool false, .slice none 0 0, .slice none 0 0, .int .i64 0] 53) = w0) := ⟨_, rfl⟩
  have hF0 : Fr [] w w0 := by rw [← HW0.out]; exact (Fr.alloc [] w _).then (Fr.alloc [] _ _)
  have hb0 : w0.heap[w.heap.size]? = some (.cells #[.int .i64 a, .bool b, .slice c d e, .slice f g i, .int .i64 j] 53 (0, 0)) := by rw [← HW0.out]; exact (Fr.alloc [] _ _).keep (heap_alloc_new w _) (by simp)
  have hb1 : w0.heap[w.heap.size + 1]? = some (.cells #[.int .i64 0, .bool false, .slice none 0 0, .slice none 0 0, .int .i64 0] 53 (0, 0)) := by
    rw [← HW0.out]
    have := heap_alloc_new (w.alloc (.cells #[.int .i64 a, .bool b, .slice c d e, .slice f g i, .int .i64 j] 53)) (.cells #[.int .i64 0, .bool false, .slice none 0 0, .slice none 0 0, .int .i64 0] 53)
    simpa using this
  have hs0 : w0.heap.size = w.heap.size + 2 := by rw [← HW0.out]; simp
  have hcell : ∀ W, Fr [] w0 W → W.cell? ⟨w.heap.size, 0, none⟩ = some (.int .i64 a) ∧ W.cell? ⟨w.heap.size, 1, none⟩ = some (.bool b) ∧ W.cell? ⟨w.heap.size, 2, none⟩ = some (.slice c d e) ∧ W.cell? ⟨w.heap.size, 3, none⟩ = some (.slice f g i) ∧ W.cell? ⟨w.heap.size, 4, none⟩ = some (.int .i64 j) ∧ W.cell? ⟨w.heap.size + 1, 0, none⟩ = some (.int .i64 0) ∧ W.cell? ⟨w.heap.size + 1, 1, none⟩ = some (.bool false) ∧ W.cell? ⟨w.heap.size + 1, 2, none⟩ = some (.slice none 0 0) ∧ W.cell? ⟨w.heap.size + 1, 3, none⟩ = some (.slice none 0 0) ∧ W.cell? ⟨w.heap.size + 1, 4, none⟩ = some (.int .i64 0) ∧ W.frozen? ⟨w.heap.size + 1, 0, none⟩ = false ∧ W.frozen? ⟨w.heap.size + 1, 1, none⟩ = false ∧ W.frozen? ⟨w.heap.size + 1, 2, none⟩ = false ∧ W.frozen? ⟨w.heap.size + 1, 3, none⟩ = false ∧ W.frozen? ⟨w.heap.size + 1, 4, none⟩ = false := by
    intro W hf
    have q1 := hf.keep hb0 (by simp)
    have q2 := hf.keep hb1 (by simp)
    obtain ⟨x0, x1, x2, x3, x4⟩ := rp_cells q1
    obtain ⟨y0, y1, y2, y3, y4⟩ := rp_cells q2
    exact ⟨x0, x1, x2, x3, x4, y0, y1, y2, y3, y4, by simp [World.frozen?, q2], by simp [World.frozen?, q2], by simp [World.frozen?, q2], by simp [World.frozen?, q2], by simp [World.frozen?, q2]⟩
  have HE : Hid (∀ W, Fr [] w0 W → Calls Tryz.prog 22 #[.slice c d e] W fun e' w' => ∃ be, e' = .returned (.slice (some ⟨be, 0, none⟩) d (d + 1)) ∧ Hid (W.heap.size ≤ be ∧ w'.heap[be]? = some (.cells (eysC (es ++ [spE])).toArray 102 (0, 0))) ∧ Fr [] w0 w' ∧ w'.cell? ⟨w.heap.size, 0, none⟩ = some (.int .i64 a) ∧ w'.cell? ⟨w.heap.size, 1, none⟩ = some (.bool b) ∧ w'.cell? ⟨w.heap.size, 2, none⟩ = some (.slice c d e) ∧ w'.cell? ⟨w.heap.size, 3, none⟩ = some (.slice f g i) ∧ w'.cell? ⟨w.heap.size, 4, none⟩ = some (.int .i64 j) ∧ w'.cell? ⟨w.heap.size + 1, 0, none⟩ = some (.int .i64 0) ∧ w'.cell? ⟨w.heap.size + 1, 1, none⟩ = some (.bool false) ∧ w'.cell? ⟨w.heap.size + 1, 2, none⟩ = some (.slice none 0 0) ∧ w'.cell? ⟨w.heap.size + 1, 3, none⟩ = some (.slice none 0 0) ∧ w'.cell? ⟨w.heap.size + 1, 4, none⟩ = some (.int .i64 0) ∧ w'.frozen? ⟨w.heap.size + 1, 0, none⟩ = false ∧ w'.frozen? ⟨w.heap.size + 1, 1, none⟩ = false ∧ w'.frozen? ⟨w.heap.size + 1, 2, none⟩ = false ∧ w'.frozen? ⟨w.heap.size + 1, 3, none⟩ = false ∧ w'.frozen? ⟨w.heap.size + 1, 4, none⟩ = false) := fun W hW => (hE W (hF0.then hW)).mono (by
    rintro e' w' ⟨b', h1, h2, h3, h4⟩
    exact ⟨b', h1, ⟨h2, h3⟩, hW.then h4, hcell _ (hW.then h4)⟩)
  have HH : Hid (∀ W, Fr [] w0 W → Calls Tryz.prog 23 #[.slice f g i] W fun e' w' => ∃ bh ks, e' = .returned (.slice (some ⟨bh, 0, none⟩) g (g + 1)) ∧ Hid (W.heap.size ≤ bh ∧ w'.heap[bh]? = some (.cells (hdsC (twTs hs ks ++ [spT])).toArray 97 (0, 0)) ∧ Twd W w' hs ks ∧ Fr [] W w') ∧ w'.cell? ⟨w.heap.size, 0, none⟩ = some (.int .i64 a) ∧ w'.cell? ⟨w.heap.size, 1, none⟩ = some (.bool b) ∧ w'.cell? ⟨w.heap.size, 2, none⟩ = some (.slice c d e) ∧ w'.cell? ⟨w.heap.size, 3, none⟩ = some (.slice f g i) ∧ w'.cell? ⟨w.heap.size, 4, none⟩ = some (.int .i64 j) ∧ w'.cell? ⟨w.heap.size + 1, 0, none⟩ = some (.int .i64 0) ∧ w'.cell? ⟨w.heap.size + 1, 1, none⟩ = some (.bool false) ∧ w'.cell? ⟨w.heap.size + 1, 2, none⟩ = some (.slice none 0 0) ∧ w'.cell? ⟨w.heap.size + 1, 3, none⟩ = some (.slice none 0 0) ∧ w'.cell? ⟨w.heap.size + 1, 4, none⟩ = some (.int .i64 0) ∧ w'.frozen? ⟨w.heap.size + 1, 0, none⟩ = false ∧ w'.frozen? ⟨w.heap.size + 1, 1, none⟩ = false ∧ w'.frozen? ⟨w.heap.size + 1, 2, none⟩ = false ∧ w'.frozen? ⟨w.heap.size + 1, 3, none⟩ = false ∧ w'.frozen? ⟨w.heap.size + 1, 4, none⟩ = false) := fun W hW => (hH W (hF0.then hW)).mono (by
    rintro e' w' ⟨b', ks, h1, h2, h3, h4, h5⟩
    exact ⟨b', ks, h1, ⟨h2, h3, h4, h5⟩, hcell _ (hW.then h5)⟩)
  have HC : Hid (∀ W, Fr [] w0 W → W.heap[w.heap.size + 1]? = some (.cells #[.int .i64 0, .bool false, .slice none 0 0, .slice none 0 0, .int .i64 0] 53 (0, 0))) := fun W hf => hf.keep hb1 (by simp)
  obtain ⟨k0, k1, k2, k3, k4, k5, k6, k7, k8, k9, k10, k11, k12, k13, k14⟩ := hcell _ (Fr.drew [] w0)
  have HD : Hid (Fr [] w0 w0.drew) := Fr.drew [] w0
  have HFw : Hid (Fr [] w w0 ∧ w0.heap.size = w.heap.size + 2) := ⟨hF0, hs0⟩
  clear hcell hb0 hb1 hE hH hF0 hs0
  go_enter Tryz.func8, Tryz.ntmps8
  go_upto_region 1 with fail
  rw [HW0.out]
  clear HW0
  go_loud (go_region_held3 (fun W => W.cell? ⟨w.heap.size, 0, none⟩ = some (.int .i64 a) ∧ W.cell? ⟨w.heap.size, 1, none⟩ = some (.bool b) ∧ W.cell? ⟨w.heap.size, 2, none⟩ = some (.slice c d e) ∧ W.cell? ⟨w.heap.size, 3, none⟩ = some (.slice f g i) ∧ W.cell? ⟨w.heap.size, 4, none⟩ = some (.int .i64 j)) (go_keep)
    (first
    | (go_at_call 22; with_reducible refine (HE.out _ HD.out).mono ?_; rintro e1 w1 ⟨be, rfl, HB1, hF1, l0, l1, l2, l3, l4, l5, l6, l7, l8, l9, l10, l11, l12, l13, l14⟩)
    | (go_at_call 23; with_reducible refine (HH.out _ hF1).mono ?_; rintro e2 w2 ⟨bh, ks, rfl, HB2, m0, m1, m2, m3, m4, m5, m6, m7, m8, m9, m10, m11, m12, m13, m14⟩)))
  have hFs : Fr [w.heap.size + 1] w2 (((((w2.setCell ⟨w.heap.size + 1, 0, none⟩ (.int .i64 a)).setCell ⟨w.heap.size + 1, 1, none⟩ (.bool b)).setCell ⟨w.heap.size + 1, 2, none⟩ (.slice (some ⟨be, 0, none⟩) d (d + 1))).setCell ⟨w.heap.size + 1, 3, none⟩ (.slice (some ⟨bh, 0, none⟩) g (g + 1))).setCell ⟨w.heap.size + 1, 4, none⟩ (.int .i64 j)) := ((((Fr.set w2 ⟨w.heap.size + 1, 0, none⟩ _ (by simp)).then (Fr.set _ ⟨w.heap.size + 1, 1, none⟩ _ (by simp))).then (Fr.set _ ⟨w.heap.size + 1, 2, none⟩ _ (by simp))).then (Fr.set _ ⟨w.heap.size + 1, 3, none⟩ _ (by simp))).then (Fr.set _ ⟨w.heap.size + 1, 4, none⟩ _ (by simp))
  have HR : Hid (TwR w (((((w2.setCell ⟨w.heap.size + 1, 0, none⟩ (.int .i64 a)).setCell ⟨w.heap.size + 1, 1, none⟩ (.bool b)).setCell ⟨w.heap.size + 1, 2, none⟩ (.slice (some ⟨be, 0, none⟩) d (d + 1))).setCell ⟨w.heap.size + 1, 3, none⟩ (.slice (some ⟨bh, 0, none⟩) g (g + 1))).setCell ⟨w.heap.size + 1, 4, none⟩ (.int .i64 j)) ⟨a, b, c, d, e, f, g, i, j⟩ es hs be bh ks ∧ Fr [] w (((((w2.setCell ⟨w.heap.size + 1, 0, none⟩ (.int .i64 a)).setCell ⟨w.heap.size + 1, 1, none⟩ (.bool b)).setCell ⟨w.heap.size + 1, 2, none⟩ (.slice (some ⟨be, 0, none⟩) d (d + 1))).setCell ⟨w.heap.size + 1, 3, none⟩ (.slice (some ⟨bh, 0, none⟩) g (g + 1))).setCell ⟨w.heap.size + 1, 4, none⟩ (.int .i64 j))) := by
    obtain ⟨g1, g2⟩ := HB1.out
    obtain ⟨g3, g4, g5, g6⟩ := HB2.out
    obtain ⟨g7, g8⟩ := HFw.out
    have g9 : w0.drew.heap.size = w0.heap.size := rfl
    have g10 : be < w1.heap.size := lt_of_block g2
    have g11 : w0.heap.size ≤ w1.heap.size := hF1.size
    have g12 := g6.keep g2 (by simp)
    refine ⟨⟨by omega, by omega, by omega, hFs.keep g12 (by simp; omega), hFs.keep g4 (by simp; omega), ?_⟩, (g7.then (hF1.then g6)).on hFs (by intro x hx; simp at hx; omega)⟩
    refine ⟨g5.len, fun k hk => by have := g5.new k hk; omega, fun i' t' k' ht' hk' => ?_, g5.apart⟩
    have := g5.new k' (List.mem_of_getElem? hk')
    exact hFs.keep (g5.row i' t' k' ht' hk') (by simp; omega)
  clear hFs HB1 HB2 hF1 HE HH HC HD HFw
  go_wp2
  refine bodyPost_ret (v := (.agg #[.int .i64 a, .bool b, .slice (some ⟨be, 0, none⟩) d (d + 1), .slice (some ⟨bh, 0, none⟩) g (g + 1), .int .i64 j])) (by rw [Bq.res_c1 rfl]; go_simp) rfl ⟨be, bh, ks, rfl, HR.out.1, HR.out.2⟩
end Go.Proofs.YtpdkdgmaofhlkaaGreatDoor

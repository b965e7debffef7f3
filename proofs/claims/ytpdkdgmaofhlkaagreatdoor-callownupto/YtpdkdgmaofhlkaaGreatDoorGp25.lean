/- Texts of this claim laid together, one behind the other: contracts and plain lemmas; conditions as each names them. -/
import Derived.Test.YtpdkdgmaofhlkaaGreatDoorGp24
import Derived.Test.YtpdkdgmaofhlkaaGreatDoorGp20
import Derived.BigQuiet
/- What the statements' helpers TwinResp and LeftResp answer. No conditions. -/
namespace Go.Proofs.YtpdkdgmaofhlkaaGreatDoor
open Go.ChangeShapes Go.WideShapes Go.ChangeAt Go.RowKit Go.Lib
set_option linter.unusedVariables false
set_option linter.unusedSimpArgs false

theorem HRs.lfew {w : World} {ao : Option Addr} {hs : List Hd} (h : HRs w ao hs) : Few hs := fun t ht => by
  have h1 := (h.each t ht).len
  have h2 := (h.each t ht).rs.few
  omega
/-- A reply's twin. -/
structure TwR (w0 w : World) (r : Rp) (es : List Ey) (hs : List Hd) (be bh : Nat) (ks : List Nat) : Prop where
  ne : w0.heap.size ≤ be
  nh : w0.heap.size ≤ bh
  apart : be ≠ bh
  re : w.heap[be]? = some (.cells (eysC (es ++ [spE])).toArray 102 (0, 0))
  rh : w.heap[bh]? = some (.cells (hdsC (twTs hs ks ++ [spT])).toArray 97 (0, 0))
  tw : Twd w0 w hs ks
def twRp (r : Rp) (be bh : Nat) : Rp := ⟨r.to_, r.ok, some ⟨be, 0, none⟩, r.el, r.el + 1, some ⟨bh, 0, none⟩, r.hl, r.hl + 1, r.ct⟩
theorem TwR.keep {w0 w w' : World} {r : Rp} {es : List Ey} {hs : List Hd} {be bh : Nat} {ks : List Nat} (h : TwR w0 w r es hs be bh ks) (hf : Fr [] w w') : TwR w0 w' r es hs be bh ks := ⟨h.ne, h.nh, h.apart, hf.keep h.re (by simp), hf.keep h.rh (by simp), h.tw.keep hf (by simp)⟩
theorem rp_cells {W : World} {b : Nat} {v0 v1 v2 v3 v4 : Value} {ty : TypeId} (h : W.heap[b]? = some (.cells #[v0, v1, v2, v3, v4] ty (0, 0))) : W.cell? ⟨b, 0, none⟩ = some v0 ∧ W.cell? ⟨b, 1, none⟩ = some v1 ∧ W.cell? ⟨b, 2, none⟩ = some v2 ∧ W.cell? ⟨b, 3, none⟩ = some v3 ∧ W.cell? ⟨b, 4, none⟩ = some v4 := by
  refine ⟨?_, ?_, ?_, ?_, ?_⟩ <;> (rw [cell_of_row _ _ _ _ _ _ h]; rfl)
-- twinR
set_option maxHeartbeats 4000000 in
set_option maxRecDepth 100000 in
theorem twinR_any {w : World} {r : Rp} {es : List Ey} {hs : List Hd} (h : RpB w r es hs) : Calls Tryz.prog 8 #[.agg r.a] w fun e w' => ∃ be bh ks, e = .returned (.agg (twRp r be bh).a) ∧ TwR w w' r es hs be bh ks ∧ Fr [] w w' := by
  have hE : ∀ W, Fr [] w W → Calls Tryz.prog 22 #[.slice r.eo r.el r.ec] W fun e w' => ∃ b, e = .returned (.slice (some ⟨b, 0, none⟩) r.el (r.el + 1)) ∧ W.heap.size ≤ b ∧ w'.heap[b]? = some (.cells (eysC (es ++ [spE])).toArray 102 (0, 0)) ∧ Fr [] W w' := fun W hW => twinEs_any r.eo r.el r.ec es W (h.ye.keep hW) h.el (by have := h.ye.few; have := h.el; omega)
  have hH : ∀ W, Fr [] w W → Calls Tryz.prog 23 #[.slice r.ho r.hl r.hc] W fun e w' => ∃ b ks, e = .returned (.slice (some ⟨b, 0, none⟩) r.hl (r.hl + 1)) ∧ W.heap.size ≤ b ∧ w'.heap[b]? = some (.cells (hdsC (twTs hs ks ++ [spT])).toArray 97 (0, 0)) ∧ Twd W w' hs ks ∧ Fr [] W w' := fun W hW => twinHs_any r.ho r.hl r.hc hs W (h.yh.keep hW) h.hl (by have := h.yh.few; have := h.hl; omega) h.yh.lfew
  clear h
  obtain ⟨a, b, c, d, e, f, g, i, j⟩ := r
  simp only [Rp.a, twRp] at hE hH ⊢
  obtain ⟨w0, HW0⟩ : ∃ w0, Hid ((w.alloc (.cells #[.int .i64 a, .bool b, .slice c d e, .slice f g i, .int .i64 j] 53)).alloc (.cells #[.int .i64 0, .bool false, .slice none 0 0, .slice none 0 0, .int .i64 0] 53) = w0) := ⟨_, rfl⟩
  have hF0 : Fr [] w w0 := by rw [← HW0.out]; exact (Fr.alloc [] w _).then (Fr.alloc [] _ _)
  have hb0 : w0.heap[w.heap.size]? = some (.cells #[.int .i64 a, .bool b, .slice c d e, .slice f g i, .int .i64 j] 53 (0, 0)) := by rw [← HW0.out]; exact (Fr.alloc [] _ _).keep (heap_alloc_new w _) (by simp)
  have hb1 : w0.heap[w.heap.size + 1]? = some (.cells #[.int .i64 0, .bool false, .slice none 0 0, .slice none 0 0, .int .i64 0] 53 (0, 0)) := by
    rw [← HW0.out]
    have := heap_alloc_new (w.alloc (.cells #[.int .i64 a, .bool b, .slice c d e, .slice f g i, .int .i64 j] 53)) (.cells #[.int .i64 0, .bool false, .slice none 0 0, .slice none 0 0, .int .i64 0] 53)
    simpa using this
  have hs0 : w0.heap.size = w.heap.size + 2 := by rw [← HW0.out]; simp
  have hcell : ∀ W, Fr [] w0 W → W.cell? ⟨w.heap.size, 0, none⟩ = some (.int .i64 a) ∧ W.cell? ⟨w.heap.size, 1, none⟩ = some (.bool b) ∧ W.cell? ⟨w.heap.size, 2, none⟩ = some (.slice c d e) ∧ W.cell? ⟨w.heap.size, 3, none⟩ = some (.slice f g i) ∧ W.cell? ⟨w.heap.size, 4, none⟩ = some (.int .i64 j) ∧ W.cell? ⟨w.heap.size + 1, 0, none⟩ = some (.int .i64 0) ∧ W.cell? ⟨w.heap.size + 1, 1, none⟩ = some (.bool false) ∧ W.cell? ⟨w.heap.size + 1, 2, none⟩ = some (.slice none 0 0) ∧ W.cell? ⟨w.heap.size + 1, 3, none⟩ = some (.slice none 0 0) ∧ W.cell? ⟨w.heap.size + 1, 4, none⟩ = some (.int .i64 0) ∧ W.frozen? ⟨w.heap.size + 1, 0, none⟩ = false ∧ W.frozen? ⟨w.heap.size + 1, 1, none⟩ = false ∧ W.frozen? ⟨w.heap.size + 1, 2, none⟩ = false ∧ W.frozen? ⟨w.heap.size + 1, 3, none⟩ = false ∧ W.frozen? ⟨w.heap.size + 1, 4, none⟩ = false := by
    intro W hf
    have q1 := hf.keep hb0 (by simp)
    have q2 := hf.keep hb1 (by simp)
    obtain ⟨x0, x1, x2, x3, x4⟩ := rp_cells q1
    obtain ⟨y0, y1, y2, y3, y4⟩ := rp_cells q2
    exact ⟨x0, x1, x2, x3, x4, y0, y1, y2, y3, y4, by simp [World.frozen?, q2], by simp [World.frozen?, q2], by simp [World.frozen?, q2], by simp [World.frozen?, q2], by simp [World.frozen?, q2]⟩
  have HE : Hid (∀ W, Fr [] w0 W → Calls Tryz.prog 22 #[.slice c d e] W fun e' w' => ∃ be, e' = .returned (.slice (some ⟨be, 0, none⟩) d (d + 1)) ∧ Hid (W.heap.size ≤ be ∧ w'.heap[be]? = some (.cells (eysC (es ++ [spE])).toArray 102 (0, 0))) ∧ Fr [] w0 w' ∧ w'.cell? ⟨w.heap.size, 0, none⟩ = some (.int .i64 a) ∧ w'.cell? ⟨w.heap.size, 1, none⟩ = some (.bool b) ∧ w'.cell? ⟨w.heap.size, 2, none⟩ = some (.slice c d e) ∧ w'.cell? ⟨w.heap.size, 3, none⟩ = some (.slice f g i) ∧ w'.cell? ⟨w.heap.size, 4, none⟩ = some (.int .i64 j) ∧ w'.cell? ⟨w.heap.size + 1, 0, none⟩ = some (.int .i64 0) ∧ w'.cell? ⟨w.heap.size + 1, 1, none⟩ = some (.bool false) ∧ w'.cell? ⟨w.heap.size + 1, 2, none⟩ = some (.slice none 0 0) ∧ w'.cell? ⟨w.heap.size + 1, 3, none⟩ = some (.slice none 0 0) ∧ w'.cell? ⟨w.heap.size + 1, 4, none⟩ = some (.int .i64 0) ∧ w'.frozen? ⟨w.heap.size + 1, 0, none⟩ = false ∧ w'.frozen? ⟨w.heap.size + 1, 1, none⟩ = false ∧ w'.frozen? ⟨w.heap.size + 1, 2, none⟩ = false ∧ w'.frozen? ⟨w.heap.size + 1, 3, none⟩ = false ∧ w'.frozen? ⟨w.heap.size + 1, 4, none⟩ = false) := fun W hW => (hE W (hF0.then hW)).mono (by
    rintro e' w' ⟨b', h1, h2, h3, h4⟩
    exact ⟨b', h1, ⟨h2, h3⟩, hW.then h4, hcell _ (hW.then h4)⟩)
  have HH : Hid (∀ W, Fr [] w0 W → Calls Tryz.prog 23 #[.slice f g i] W fun e' w' => ∃ bh ks, e' = .returned (.slice (some ⟨bh, 0, none⟩) g (g + 1)) ∧ Hid (W.heap.size ≤ bh ∧ w'.heap[bh]? = some (.cells (hdsC (twTs hs ks ++ [spT])).toArray 97 (0, 0)) ∧ Twd W w' hs ks ∧ Fr [] W w') ∧ w'.cell? ⟨w.heap.size, 0, none⟩ = some (.int .i64 a) ∧ w'.cell? ⟨w.heap.size, 1, none⟩ = some (.bool b) ∧ w'.cell? ⟨w.heap.size, 2, none⟩ = some (.slice c d e) ∧ w'.cell? ⟨w.heap.size, 3, none⟩ = some (.slice f g i) ∧ w'.cell? ⟨w.heap.size, 4, none⟩ = some (.int .i64 j) ∧ w'.cell? ⟨w.heap.size + 1, 0, none⟩ = some (.int .i64 0) ∧ w'.cell? ⟨w.heap.size + 1, 1, none⟩ = some (.bool false) ∧ w'.cell? ⟨w.heap.size + 1, 2, none⟩ = some (.slice none 0 0) ∧ w'.cell? ⟨w.heap.size + 1, 3, none⟩ = some (.slice none 0 0) ∧ w'.cell? ⟨w.heap.size + 1, 4, none⟩ = some (.int .i64 0) ∧ w'.frozen? ⟨w.heap.size + 1, 0, none⟩ = false ∧ w'.frozen? ⟨w.heap.size + 1, 1, none⟩ = false ∧ w'.frozen? ⟨w.heap.size + 1, 2, none⟩ = false ∧ w'.frozen? ⟨w.heap.size + 1, 3, none⟩ = false ∧ w'.frozen? ⟨w.heap.size + 1, 4, none⟩ = false) := fun W hW => (hH W (hF0.then hW)).mono (by
    rintro e' w' ⟨b', ks, h1, h2, h3, h4, h5⟩
    exact ⟨b', ks, h1, ⟨h2, h3, h4, h5⟩, hcell _ (hW.then h5)⟩)
  have HC : Hid (∀ W, Fr [] w0 W → W.heap[w.heap.size + 1]? = some (.cells #[.int .i64 0, .bool false, .slice none 0 0, .slice none 0 0, .int .i64 0] 53 (0, 0))) := fun W hf => hf.keep hb1 (by simp)
  obtain ⟨k0, k1, k2, k3, k4, k5, k6, k7, k8, k9, k10, k11, k12, k13, k14⟩ := hcell _ (Fr.drew [] w0)
  have HD : Hid (Fr [] w0 w0.drew) := Fr.drew [] w0
  have HFw : Hid (Fr [] w w0 ∧ w0.heap.size = w.heap.size + 2) := ⟨hF0, hs0⟩
  clear hcell hb0 hb1 hE hH hF0 hs0
  go_enter Tryz.func8, Tryz.ntmps8
  go_upto_region 1 with fail
  rw [HW0.out]
  clear HW0
  go_loud (go_region_held3 (fun W => W.cell? ⟨w.heap.size, 0, none⟩ = some (.int .i64 a) ∧ W.cell? ⟨w.heap.size, 1, none⟩ = some (.bool b) ∧ W.cell? ⟨w.heap.size, 2, none⟩ = some (.slice c d e) ∧ W.cell? ⟨w.heap.size, 3, none⟩ = some (.slice f g i) ∧ W.cell? ⟨w.heap.size, 4, none⟩ = some (.int .i64 j)) (go_keep)
    (first
    | (go_at_call 22; with_reducible refine (HE.out _ HD.out).mono ?_; rintro e1 w1 ⟨be, rfl, HB1, hF1, l0, l1, l2, l3, l4, l5, l6, l7, l8, l9, l10, l11, l12, l13, l14⟩)
    | (go_at_call 23; with_reducible refine (HH.out _ hF1).mono ?_; rintro e2 w2 ⟨bh, ks, rfl, HB2, m0, m1, m2, m3, m4, m5, m6, m7, m8, m9, m10, m11, m12, m13, m14⟩)))
  have hFs : Fr [w.heap.size + 1] w2 (((((w2.setCell ⟨w.heap.size + 1, 0, none⟩ (.int .i64 a)).setCell ⟨w.heap.size + 1, 1, none⟩ (.bool b)).setCell ⟨w.heap.size + 1, 2, none⟩ (.slice (some ⟨be, 0, none⟩) d (d + 1))).setCell ⟨w.heap.size + 1, 3, none⟩ (.slice (some ⟨bh, 0, none⟩) g (g + 1))).setCell ⟨w.heap.size + 1, 4, none⟩ (.int .i64 j)) := ((((Fr.set w2 ⟨w.heap.size + 1, 0, none⟩ _ (by simp)).then (Fr.set _ ⟨w.heap.size + 1, 1, none⟩ _ (by simp))).then (Fr.set _ ⟨w.heap.size + 1, 2, none⟩ _ (by simp))).then (Fr.set _ ⟨w.heap.size + 1, 3, none⟩ _ (by simp))).then (Fr.set _ ⟨w.heap.size + 1, 4, none⟩ _ (by simp))
  have HR : Hid (TwR w (((((w2.setCell ⟨w.heap.size + 1, 0, none⟩ (.int .i64 a)).setCell ⟨w.heap.size + 1, 1, none⟩ (.bool b)).setCell ⟨w.heap.size + 1, 2, none⟩ (.slice (some ⟨be, 0, none⟩) d (d + 1))).setCell ⟨w.heap.size + 1, 3, none⟩ (.slice (some ⟨bh, 0, none⟩) g (g + 1))).setCell ⟨w.heap.size + 1, 4, none⟩ (.int .i64 j)) ⟨a, b, c, d, e, f, g, i, j⟩ es hs be bh ks ∧ Fr [] w (((((w2.setCell ⟨w.heap.size + 1, 0, none⟩ (.int .i64 a)).setCell ⟨w.heap.size + 1, 1, none⟩ (.bool b)).setCell ⟨w.heap.size + 1, 2, none⟩ (.slice (some ⟨be, 0, none⟩) d (d + 1))).setCell ⟨w.heap.size + 1, 3, none⟩ (.slice (some ⟨bh, 0, none⟩) g (g + 1))).setCell ⟨w.heap.size + 1, 4, none⟩ (.int .i64 j))) := by
    obtain ⟨g1, g2⟩ := HB1.out
    obtain ⟨g3, g4, g5, g6⟩ := HB2.out
    obtain ⟨g7, g8⟩ := HFw.out
    have g9 : w0.drew.heap.size = w0.heap.size := rfl
    have g10 : be < w1.heap.size := lt_of_block g2
    have g11 : w0.heap.size ≤ w1.heap.size := hF1.size
    have g12 := g6.keep g2 (by simp)
    refine ⟨⟨by omega, by omega, by omega, hFs.keep g12 (by simp; omega), hFs.keep g4 (by simp; omega), ?_⟩, (g7.then (hF1.then g6)).on hFs (by intro x hx; simp at hx; omega)⟩
    refine ⟨g5.len, fun k hk => by have := g5.new k hk; omega, fun i' t' k' ht' hk' => ?_, g5.apart⟩
    have := g5.new k' (List.mem_of_getElem? hk')
    exact hFs.keep (g5.row i' t' k' ht' hk') (by simp; omega)
  clear hFs HB1 HB2 hF1 HE HH HC HD HFw
  go_wp2
  refine bodyPost_ret (v := (.agg #[.int .i64 a, .bool b, .slice (some ⟨be, 0, none⟩) d (d + 1), .slice (some ⟨bh, 0, none⟩) g (g + 1), .int .i64 j])) (by rw [Bq.res_c1 rfl]; go_simp) rfl ⟨be, bh, ks, rfl, HR.out.1, HR.out.2⟩
end Go.Proofs.YtpdkdgmaofhlkaaGreatDoor
/- The document's task that is not there; two answers of nothing are the same; how a task that is not there stands. No conditions. -/
namespace Go.Proofs.YtpdkdgmaofhlkaaGreatDoor
open Go.ChangeShapes Go.WideShapes Go.ChangeAt Go.RowKit Go.Lib
set_option linter.unusedVariables false
set_option linter.unusedSimpArgs false

set_option maxHeartbeats 1000000 in
theorem nine_fin {W : World} {b : Nat} {u0 u1 u2 u3 u4 u5 u6 u7 u8 v0 v1 v2 v3 v4 v5 v6 v7 v8 : Value} {ty : TypeId} (h : W.heap[b]? = some (.cells #[u0, u1, u2, u3, u4, u5, u6, u7, u8] ty (0, 0))) : (((((((((W.setCell ⟨b, 0, none⟩ v0).setCell ⟨b, 1, none⟩ v1).setCell ⟨b, 2, none⟩ v2).setCell ⟨b, 3, none⟩ v3).setCell ⟨b, 4, none⟩ v4).setCell ⟨b, 5, none⟩ v5).setCell ⟨b, 6, none⟩ v6).setCell ⟨b, 7, none⟩ v7).setCell ⟨b, 8, none⟩ v8).heap[b]? = some (.cells #[v0, v1, v2, v3, v4, v5, v6, v7, v8] ty (0, 0)) ∧ Fr [b] W (((((((((W.setCell ⟨b, 0, none⟩ v0).setCell ⟨b, 1, none⟩ v1).setCell ⟨b, 2, none⟩ v2).setCell ⟨b, 3, none⟩ v3).setCell ⟨b, 4, none⟩ v4).setCell ⟨b, 5, none⟩ v5).setCell ⟨b, 6, none⟩ v6).setCell ⟨b, 7, none⟩ v7).setCell ⟨b, 8, none⟩ v8) := by
  have h0 : (W.setCell ⟨b, 0, none⟩ v0).heap[b]? = some (.cells #[v0, u1, u2, u3, u4, u5, u6, u7, u8] ty (0, 0)) := by rw [row_put17 _ h]; rfl
  have h1 : ((W.setCell ⟨b, 0, none⟩ v0).setCell ⟨b, 1, none⟩ v1).heap[b]? = some (.cells #[v0, v1, u2, u3, u4, u5, u6, u7, u8] ty (0, 0)) := by rw [row_put17 _ h0]; rfl
  have h2 : (((W.setCell ⟨b, 0, none⟩ v0).setCell ⟨b, 1, none⟩ v1).setCell ⟨b, 2, none⟩ v2).heap[b]? = some (.cells #[v0, v1, v2, u3, u4, u5, u6, u7, u8] ty (0, 0)) := by rw [row_put17 _ h1]; rfl
  have h3 : ((((W.setCell ⟨b, 0, none⟩ v0).setCell ⟨b, 1, none⟩ v1).setCell ⟨b, 2, none⟩ v2).setCell ⟨b, 3, none⟩ v3).heap[b]? = some (.cells #[v0, v1, v2, v3, u4, u5, u6, u7, u8] ty (0, 0)) := by rw [row_put17 _ h2]; rfl
  have h4 : (((((W.setCell ⟨b, 0, none⟩ v0).setCell ⟨b, 1, none⟩ v1).setCell ⟨b, 2, none⟩ v2).setCell ⟨b, 3, none⟩ v3).setCell ⟨b, 4, none⟩ v4).heap[b]? = some (.cells #[v0, v1, v2, v3, v4, u5, u6, u7, u8] ty (0, 0)) := by rw [row_put17 _ h3]; rfl
  have h5 : ((((((W.setCell ⟨b, 0, none⟩ v0).setCell ⟨b, 1, none⟩ v1).setCell ⟨b, 2, none⟩ v2).setCell ⟨b, 3, none⟩ v3).setCell ⟨b, 4, none⟩ v4).setCell ⟨b, 5, none⟩ v5).heap[b]? = some (.cells #[v0, v1, v2, v3, v4, v5, u6, u7, u8] ty (0, 0)) := by rw [row_put17 _ h4]; rfl
  have h6 : (((((((W.setCell ⟨b, 0, none⟩ v0).setCell ⟨b, 1, none⟩ v1).setCell ⟨b, 2, none⟩ v2).setCell ⟨b, 3, none⟩ v3).setCell ⟨b, 4, none⟩ v4).setCell ⟨b, 5, none⟩ v5).setCell ⟨b, 6, none⟩ v6).heap[b]? = some (.cells #[v0, v1, v2, v3, v4, v5, v6, u7, u8] ty (0, 0)) := by rw [row_put17 _ h5]; rfl
  have h7 : ((((((((W.setCell ⟨b, 0, none⟩ v0).setCell ⟨b, 1, none⟩ v1).setCell ⟨b, 2, none⟩ v2).setCell ⟨b, 3, none⟩ v3).setCell ⟨b, 4, none⟩ v4).setCell ⟨b, 5, none⟩ v5).setCell ⟨b, 6, none⟩ v6).setCell ⟨b, 7, none⟩ v7).heap[b]? = some (.cells #[v0, v1, v2, v3, v4, v5, v6, v7, u8] ty (0, 0)) := by rw [row_put17 _ h6]; rfl
  have h8 : (((((((((W.setCell ⟨b, 0, none⟩ v0).setCell ⟨b, 1, none⟩ v1).setCell ⟨b, 2, none⟩ v2).setCell ⟨b, 3, none⟩ v3).setCell ⟨b, 4, none⟩ v4).setCell ⟨b, 5, none⟩ v5).setCell ⟨b, 6, none⟩ v6).setCell ⟨b, 7, none⟩ v7).setCell ⟨b, 8, none⟩ v8).heap[b]? = some (.cells #[v0, v1, v2, v3, v4, v5, v6, v7, v8] ty (0, 0)) := by rw [row_put17 _ h7]; rfl
  have f0 : Fr [b] W (W.setCell ⟨b, 0, none⟩ v0) := Fr.set W ⟨b, 0, none⟩ v0 (by simp)
  have f1 : Fr [b] W ((W.setCell ⟨b, 0, none⟩ v0).setCell ⟨b, 1, none⟩ v1) := f0.then (Fr.set (W.setCell ⟨b, 0, none⟩ v0) ⟨b, 1, none⟩ v1 (by simp))
  have f2 : Fr [b] W (((W.setCell ⟨b, 0, none⟩ v0).setCell ⟨b, 1, none⟩ v1).setCell ⟨b, 2, none⟩ v2) := f1.then (Fr.set ((W.setCell ⟨b, 0, none⟩ v0).setCell ⟨b, 1, none⟩ v1) ⟨b, 2, none⟩ v2 (by simp))
  have f3 : Fr [b] W ((((W.setCell ⟨b, 0, none⟩ v0).setCell ⟨b, 1, none⟩ v1).setCell ⟨b, 2, none⟩ v2).setCell ⟨b, 3, none⟩ v3) := f2.then (Fr.set (((W.setCell ⟨b, 0, none⟩ v0).setCell ⟨b, 1, none⟩ v1).setCell ⟨b, 2, none⟩ v2) ⟨b, 3, none⟩ v3 (by simp))
  have f4 : Fr [b] W (((((W.setCell ⟨b, 0, none⟩ v0).setCell ⟨b, 1, none⟩ v1).setCell ⟨b, 2, none⟩ v2).setCell ⟨b, 3, none⟩ v3).setCell ⟨b, 4, none⟩ v4) := f3.then (Fr.set ((((W.setCell ⟨b, 0, none⟩ v0).setCell ⟨b, 1, none⟩ v1).setCell ⟨b, 2, none⟩ v2).setCell ⟨b, 3, none⟩ v3) ⟨b, 4, none⟩ v4 (by simp))
  have f5 : Fr [b] W ((((((W.setCell ⟨b, 0, none⟩ v0).setCell ⟨b, 1, none⟩ v1).setCell ⟨b, 2, none⟩ v2).setCell ⟨b, 3, none⟩ v3).setCell ⟨b, 4, none⟩ v4).setCell ⟨b, 5, none⟩ v5) := f4.then (Fr.set (((((W.setCell ⟨b, 0, none⟩ v0).setCell ⟨b, 1, none⟩ v1).setCell ⟨b, 2, none⟩ v2).setCell ⟨b, 3, none⟩ v3).setCell ⟨b, 4, none⟩ v4) ⟨b, 5, none⟩ v5 (by simp))
  have f6 : Fr [b] W (((((((W.setCell ⟨b, 0, none⟩ v0).setCell ⟨b, 1, none⟩ v1).setCell ⟨b, 2, none⟩ v2).setCell ⟨b, 3, none⟩ v3).setCell ⟨b, 4, none⟩ v4).setCell ⟨b, 5, none⟩ v5).setCell ⟨b, 6, none⟩ v6) := f5.then (Fr.set ((((((W.setCell ⟨b, 0, none⟩ v0).setCell ⟨b, 1, none⟩ v1).setCell ⟨b, 2, none⟩ v2).setCell ⟨b, 3, none⟩ v3).setCell ⟨b, 4, none⟩ v4).setCell ⟨b, 5, none⟩ v5) ⟨b, 6, none⟩ v6 (by simp))
  have f7 : Fr [b] W ((((((((W.setCell ⟨b, 0, none⟩ v0).setCell ⟨b, 1, none⟩ v1).setCell ⟨b, 2, none⟩ v2).setCell ⟨b, 3, none⟩ v3).setCell ⟨b, 4, none⟩ v4).setCell ⟨b, 5, none⟩ v5).setCell ⟨b, 6, none⟩ v6).setCell ⟨b, 7, none⟩ v7) := f6.then (Fr.set (((((((W.setCell ⟨b, 0, none⟩ v0).setCell ⟨b, 1, none⟩ v1).setCell ⟨b, 2, none⟩ v2).setCell ⟨b, 3, none⟩ v3).setCell ⟨b, 4, none⟩ v4).setCell ⟨b, 5, none⟩ v5).setCell ⟨b, 6, none⟩ v6) ⟨b, 7, none⟩ v7 (by simp))
  have f8 : Fr [b] W (((((((((W.setCell ⟨b, 0, none⟩ v0).setCell ⟨b, 1, none⟩ v1).setCell ⟨b, 2, none⟩ v2).setCell ⟨b, 3, none⟩ v3).setCell ⟨b, 4, none⟩ v4).setCell ⟨b, 5, none⟩ v5).setCell ⟨b, 6, none⟩ v6).setCell ⟨b, 7, none⟩ v7).setCell ⟨b, 8, none⟩ v8) := f7.then (Fr.set ((((((((W.setCell ⟨b, 0, none⟩ v0).setCell ⟨b, 1, none⟩ v1).setCell ⟨b, 2, none⟩ v2).setCell ⟨b, 3, none⟩ v3).setCell ⟨b, 4, none⟩ v4).setCell ⟨b, 5, none⟩ v5).setCell ⟨b, 6, none⟩ v6).setCell ⟨b, 7, none⟩ v7) ⟨b, 8, none⟩ v8 (by simp))
  exact ⟨h8, f8⟩
theorem rq_cells {W : World} {b : Nat} {v0 v1 v2 v3 v4 v5 v6 v7 v8 : Value} {ty : TypeId} (h : W.heap[b]? = some (.cells #[v0, v1, v2, v3, v4, v5, v6, v7, v8] ty (0, 0))) : W.cell? ⟨b, 0, none⟩ = some v0 ∧ W.cell? ⟨b, 1, none⟩ = some v1 ∧ W.cell? ⟨b, 2, none⟩ = some v2 ∧ W.cell? ⟨b, 3, none⟩ = some v3 ∧ W.cell? ⟨b, 4, none⟩ = some v4 ∧ W.cell? ⟨b, 5, none⟩ = some v5 ∧ W.cell? ⟨b, 6, none⟩ = some v6 ∧ W.cell? ⟨b, 7, none⟩ = some v7 ∧ W.cell? ⟨b, 8, none⟩ = some v8 := by
  refine ⟨?_, ?_, ?_, ?_, ?_, ?_, ?_, ?_, ?_⟩ <;> (rw [cell_of_row _ _ _ _ _ _ h]; rfl)
theorem an_cells {W : World} {b : Nat} {v0 v1 v2 v3 v4 : Value} {ty : TypeId} (h : W.heap[b]? = some (.cells #[v0, v1, v2, v3, v4] ty (0, 0))) : W.cell? ⟨b, 0, none⟩ = some v0 ∧ W.cell? ⟨b, 1, none⟩ = some v1 ∧ W.cell? ⟨b, 2, none⟩ = some v2 ∧ W.cell? ⟨b, 3, none⟩ = some v3 ∧ W.cell? ⟨b, 4, none⟩ = some v4 := by
  refine ⟨?_, ?_, ?_, ?_, ?_⟩ <;> (rw [cell_of_row _ _ _ _ _ _ h]; rfl)
end Go.Proofs.YtpdkdgmaofhlkaaGreatDoor
/- Asks of a task that is not there. No conditions. -/
namespace Go.Proofs.YtpdkdgmaofhlkaaGreatDoor
open Go.ChangeShapes Go.WideShapes Go.ChangeAt Go.RowKit Go.Lib
set_option linter.unusedVariables false
set_option linter.unusedSimpArgs false

def Aj.v (a : Aj) : Array Value := #[.int .u8 a.k, .int .i64 a.ma, .int .i64 a.le, .slice a.bo a.bl a.bc, .int .i64 a.r.to_, .bool a.r.ok, .slice a.r.eo a.r.el a.r.ec, .slice a.r.ho a.r.hl a.r.hc, .int .i64 a.r.ct]
end Go.Proofs.YtpdkdgmaofhlkaaGreatDoor
/- A reply's twin that is being written over. No conditions. -/
namespace Go.Proofs.YtpdkdgmaofhlkaaGreatDoor
open Go.ChangeShapes Go.WideShapes Go.ChangeAt Go.RowKit Go.Lib
set_option linter.unusedVariables false
set_option linter.unusedSimpArgs false

theorem ty_ne17 {W : World} {b b' : Nat} {cs cs' : Array Value} {t t' : TypeId} (h : W.heap[b]? = some (.cells cs t (0, 0))) (h' : W.heap[b']? = some (.cells cs' t' (0, 0))) (ht : t ≠ t') : b ≠ b' := by
  rintro rfl
  rw [h] at h'
  simp only [Option.some.injEq, Obj.cells.injEq] at h'
  exact ht h'.2.1
theorem put_two {W : World} {b o : Nat} {cs : Array Value} {ty : TypeId} (v0 v1 : Value) (h : W.heap[b]? = some (.cells cs ty (0, 0))) (ho : o + 1 < cs.size) :
    (∃ u, W.cell? ⟨b, o, none⟩ = some u) ∧ (∃ u, W.cell? ⟨b, o + 1, none⟩ = some u) ∧ W.frozen? ⟨b, o, none⟩ = false ∧ W.frozen? ⟨b, o + 1, none⟩ = false ∧
    (∃ cs' : Array Value, ((W.setCell ⟨b, o, none⟩ v0).setCell ⟨b, o + 1, none⟩ v1).heap[b]? = some (.cells cs' ty (0, 0)) ∧ cs'.size = cs.size ∧ ∀ j, j ≠ o → j ≠ o + 1 → cs'[j]? = cs[j]?) ∧
    Fr [b] W ((W.setCell ⟨b, o, none⟩ v0).setCell ⟨b, o + 1, none⟩ v1) := by
  refine ⟨?_, ?_, by simp [World.frozen?, h], by simp [World.frozen?, h], ⟨_, row_put17 _ (row_put17 _ h), by simp, ?_⟩, (Fr.set W ⟨b, o, none⟩ v0 (by simp)).then (Fr.set _ ⟨b, o + 1, none⟩ v1 (by simp))⟩
  · rw [cell_of_row _ _ _ _ _ _ h]
    exact ⟨cs[o]'(by omega), by rw [Array.getElem?_eq_getElem]⟩
  · rw [cell_of_row _ _ _ _ _ _ h]
    exact ⟨cs[o + 1]'(by omega), by rw [Array.getElem?_eq_getElem]⟩
  · intro j h1 h2
    rw [Array.getElem?_setIfInBounds_ne (by omega), Array.getElem?_setIfInBounds_ne (by omega)]
theorem put_three {W : World} {b o : Nat} {cs : Array Value} {ty : TypeId} (v0 v1 v2 : Value) (h : W.heap[b]? = some (.cells cs ty (0, 0))) (ho : o + 2 < cs.size) :
    (∃ u, W.cell? ⟨b, o, none⟩ = some u) ∧ (∃ u, W.cell? ⟨b, o + 1, none⟩ = some u) ∧ (∃ u, W.cell? ⟨b, o + 2, none⟩ = some u) ∧ W.frozen? ⟨b, o, none⟩ = false ∧ W.frozen? ⟨b, o + 1, none⟩ = false ∧ W.frozen? ⟨b, o + 2, none⟩ = false ∧
    (∃ cs' : Array Value, (((W.setCell ⟨b, o, none⟩ v0).setCell ⟨b, o + 1, none⟩ v1).setCell ⟨b, o + 2, none⟩ v2).heap[b]? = some (.cells cs' ty (0, 0)) ∧ cs'.size = cs.size) ∧
    Fr [b] W (((W.setCell ⟨b, o, none⟩ v0).setCell ⟨b, o + 1, none⟩ v1).setCell ⟨b, o + 2, none⟩ v2) := by
  refine ⟨?_, ?_, ?_, by simp [World.frozen?, h], by simp [World.frozen?, h], by simp [World.frozen?, h], ⟨_, row_put17 _ (row_put17 _ (row_put17 _ h)), by simp⟩, ((Fr.set W ⟨b, o, none⟩ v0 (by simp)).then (Fr.set _ ⟨b, o + 1, none⟩ v1 (by simp))).then (Fr.set _ ⟨b, o + 2, none⟩ v2 (by simp))⟩
  · rw [cell_of_row _ _ _ _ _ _ h]
    exact ⟨cs[o]'(by omega), by rw [Array.getElem?_eq_getElem]⟩
  · rw [cell_of_row _ _ _ _ _ _ h]
    exact ⟨cs[o + 1]'(by omega), by rw [Array.getElem?_eq_getElem]⟩
  · rw [cell_of_row _ _ _ _ _ _ h]
    exact ⟨cs[o + 2]'(by omega), by rw [Array.getElem?_eq_getElem]⟩
/-- The keys' twins from the i-th on stand; the versions' rows are as long as they were. -/
structure Ov (w wr : World) (g bh : Nat) (hs : List Hd) (ks : List Nat) (hl : Nat) (bx : Array Value) (i : Nat) : Prop where
  fr : Fr [] w wr
  gn : w.heap.size ≤ g
  hn : w.heap.size ≤ bh
  bxr : wr.heap[g]? = some (.cells bx 53 (0, 0))
  rh : ∃ cs : Array Value, wr.heap[bh]? = some (.cells cs 97 (0, 0)) ∧ cs.size = (hl + 1) * 2 ∧ ∀ j, i ≤ j → j < hl → cs[j * 2 + 1]? = some (.slice (some ⟨ks.getD j 0, 0, none⟩) (hs.getD j Hd.zero).L ((hs.getD j Hd.zero).L + 1))
  rv : ∀ j, j < hl → w.heap.size ≤ ks.getD j 0 ∧ ∃ cs : Array Value, wr.heap[ks.getD j 0]? = some (.cells cs 134 (0, 0)) ∧ cs.size = ((hs.getD j Hd.zero).L + 1) * 3
theorem Ov.ver {w wr : World} {g bh : Nat} {hs : List Hd} {ks : List Nat} {hl : Nat} {bx : Array Value} {i : Nat} (h : Ov w wr g bh hs ks hl bx i) (hi : i < hl) (k : Nat) (hk : k < (hs.getD i Hd.zero).L) (v0 v1 v2 : Value) :
    (∃ u, wr.cell? ⟨ks.getD i 0, k * 3, none⟩ = some u) ∧ (∃ u, wr.cell? ⟨ks.getD i 0, k * 3 + 1, none⟩ = some u) ∧ (∃ u, wr.cell? ⟨ks.getD i 0, k * 3 + 2, none⟩ = some u) ∧ wr.frozen? ⟨ks.getD i 0, k * 3, none⟩ = false ∧ wr.frozen? ⟨ks.getD i 0, k * 3 + 1, none⟩ = false ∧ wr.frozen? ⟨ks.getD i 0, k * 3 + 2, none⟩ = false ∧
    Ov w (((wr.setCell ⟨ks.getD i 0, k * 3, none⟩ v0).setCell ⟨ks.getD i 0, k * 3 + 1, none⟩ v1).setCell ⟨ks.getD i 0, k * 3 + 2, none⟩ v2) g bh hs ks hl bx i := by
  obtain ⟨hnw, cs, hr, hsz⟩ := h.rv i hi
  obtain ⟨p1, p2, p3, p4, p5, p6, ⟨cs', q1, q2⟩, hF⟩ := put_three v0 v1 v2 hr (show k * 3 + 2 < cs.size by rw [hsz]; omega)
  refine ⟨p1, p2, p3, p4, p5, p6, h.fr.on hF (fun x hx => by rw [List.mem_singleton.1 hx]; omega), h.gn, h.hn, hF.keep h.bxr (by simp; exact ty_ne17 h.bxr hr (by decide)), ?_, fun j hj => ?_⟩
  · obtain ⟨c2, r1, r2, r3⟩ := h.rh
    exact ⟨c2, hF.keep r1 (by simp; exact ty_ne17 r1 hr (by decide)), r2, r3⟩
  · obtain ⟨s1, c3, s2, s3⟩ := h.rv j hj
    refine ⟨s1, ?_⟩
    by_cases he : ks.getD j 0 = ks.getD i 0
    · rw [he] at s2 ⊢
      rw [hr] at s2
      simp only [Option.some.injEq, Obj.cells.injEq] at s2
      exact ⟨cs', q1, by rw [q2, s2.1]; exact s3⟩
    · exact ⟨c3, hF.keep s2 (by simpa using he), s3⟩
theorem Ov.clr {w wr : World} {g bh : Nat} {hs : List Hd} {ks : List Nat} {hl : Nat} {bx : Array Value} {i : Nat} (h : Ov w wr g bh hs ks hl bx i) (hi : i < hl) (v0 v1 : Value) :
    (∃ u, wr.cell? ⟨bh, i * 2, none⟩ = some u) ∧ (∃ u, wr.cell? ⟨bh, i * 2 + 1, none⟩ = some u) ∧ wr.frozen? ⟨bh, i * 2, none⟩ = false ∧ wr.frozen? ⟨bh, i * 2 + 1, none⟩ = false ∧
    Ov w ((wr.setCell ⟨bh, i * 2, none⟩ v0).setCell ⟨bh, i * 2 + 1, none⟩ v1) g bh hs ks hl bx (i + 1) := by
  obtain ⟨cs, hr, hsz, hc⟩ := h.rh
  obtain ⟨p1, p2, p3, p4, ⟨cs', q1, q2, q3⟩, hF⟩ := put_two v0 v1 hr (show i * 2 + 1 < cs.size by rw [hsz]; omega)
  have hhn := h.hn
  refine ⟨p1, p2, p3, p4, h.fr.on hF (fun x hx => by simp at hx; omega), h.gn, h.hn, hF.keep h.bxr (by simp; exact ty_ne17 h.bxr hr (by decide)), ⟨cs', q1, by rw [q2]; exact hsz, fun j hj1 hj2 => ?_⟩, fun j hj => ?_⟩
  · rw [q3 _ (by omega) (by omega)]
    exact hc j (by omega) hj2
  · obtain ⟨s1, c3, s2, s3⟩ := h.rv j hj
    exact ⟨s1, c3, hF.keep s2 (by simp; exact ty_ne17 s2 hr (by decide)), s3⟩
theorem Ov.cell {w wr : World} {g bh : Nat} {hs : List Hd} {ks : List Nat} {hl : Nat} {bx : Array Value} {i : Nat} (h : Ov w wr g bh hs ks hl bx i) (hi : i < hl) : wr.cell? ⟨bh, i * 2 + 1, none⟩ = some (.slice (some ⟨ks.getD i 0, 0, none⟩) (hs.getD i Hd.zero).L ((hs.getD i Hd.zero).L + 1)) := by
  obtain ⟨cs, hr, hsz, hc⟩ := h.rh
  rw [cell_of_row _ _ _ _ _ _ hr]
  exact hc i (Nat.le_refl _) hi
theorem Ov.begin {w w0 w4 w5 : World} {r : Rp} {es : List Ey} {hs : List Hd} {be bh g : Nat} {ks : List Nat} {bx : Array Value} (hw : w.heap.size ≤ w0.heap.size) (hT : TwR w0 w4 r es hs be bh ks) (hH : ∀ t ∈ hs, t.L = t.vs.length) (hl : r.hl = hs.length) (hf : Fr [] w w4) (hg : w4.heap[g]? = some (.cells bx 53 (0, 0))) (hgn : w.heap.size ≤ g) (h5 : Fr [be] w4 w5) : Ov w w5 g bh hs ks r.hl bx 0 := by
  have n1 := hT.ne
  have n2 := hT.nh
  refine ⟨hf.on h5 (fun x hx => by simp at hx; omega), hgn, by omega, h5.keep hg (by simp; exact ty_ne17 hg hT.re (by decide)), ⟨_, h5.keep hT.rh (by simp; exact fun e => hT.apart e.symm), ?_, fun j _ hj => ?_⟩, fun j hj => ?_⟩
  · have := hdsC_length (twTs hs ks ++ [spT])
    rw [List.length_append, twTs_length _ _ hT.tw.len] at this
    simp only [List.length_cons, List.length_nil] at this
    rw [hl]
    simpa using this
  · have hj' : j < hs.length := by omega
    have hlen := twTs_length hs ks hT.tw.len
    have h1 := (hdsC_get (twTs hs ks ++ [spT]) j (by rw [List.length_append, hlen]; omega)).2
    have h2 : (twTs hs ks ++ [spT]).getD j Hd.zero = twT (hs.getD j Hd.zero) (ks.getD j 0) := by
      have hk : j < ks.length := by rw [hT.tw.len]; exact hj'
      simp [List.getD, twTs, List.getElem?_append_left (show j < (List.zipWith twT hs ks).length by simp; omega), List.getElem?_zipWith, hj', hk]
    rw [h2] at h1
    simpa [twT] using h1
  · have hj' : j < hs.length := by omega
    have hk : j < ks.length := by rw [hT.tw.len]; exact hj'
    have e1 : hs[j]? = some (hs.getD j Hd.zero) := by simp [List.getD, hj']
    have e2 : ks[j]? = some (ks.getD j 0) := by simp [List.getD, hk]
    have hrow := hT.tw.row j _ _ e1 e2
    have hnew := hT.tw.new _ (List.mem_of_getElem? e2)
    refine ⟨by omega, _, h5.keep hrow (by simp; exact ty_ne17 hrow hT.re (by decide)), ?_⟩
    have h3 := vnsC_length ((hs.getD j Hd.zero).vs ++ [spV])
    rw [List.length_append] at h3
    simp only [List.length_cons, List.length_nil] at h3
    rw [hH _ (List.mem_of_getElem? e1)]
    simpa using h3
end Go.Proofs.YtpdkdgmaofhlkaaGreatDoor
/- A reply handed to a task that is not there. No conditions. -/
namespace Go.Proofs.YtpdkdgmaofhlkaaGreatDoor
open Go.ChangeShapes Go.WideShapes Go.ChangeAt Go.RowKit Go.Lib
set_option linter.unusedVariables false
set_option linter.unusedSimpArgs false
end Go.Proofs.YtpdkdgmaofhlkaaGreatDoor

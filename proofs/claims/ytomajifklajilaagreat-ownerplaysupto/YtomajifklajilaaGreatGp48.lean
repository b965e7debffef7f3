/- Texts of this claim laid together, one behind the other: contracts and plain lemmas; conditions as each names them. -/
import Derived.Test.YtomajifklajilaaGreatGp43
/- The document's Serve of a get. Conditions as each names them. -/
namespace Go.Proofs.YtomajifklajilaaGreat
open Go.ChangeShapes Go.WideShapes Go.ChangeAt Go.RowKit Go.Lib Go.Maps
set_option linter.unusedVariables false
set_option linter.unusedSimpArgs false
section
variable {w : World} {yb C n c : Nat} {s lo : Option Addr} {xs : List Rv} {xf xn : Int} {xa xb : ByteArray} {xd : Bool} {xc xe : ByteArray} {xo : Option Addr} {xl xm : Nat}
set_option maxHeartbeats 4000000 in
set_option maxRecDepth 100000 in
theorem yoserve_2A (h : YoM w yb s C lo n c (⟨2, xf, xn, xa, xb, xd, xc, xe, xo, xl, xm⟩ :: xs)) (hd0 : c = 1) (Pd : ByteArray → Bool → World → World → Prop)
    (hD : ∀ W o2, Fr [yb] w W → w.heap.size < W.heap.size → YoM W yb s C o2 (n - 1) (c - 1) xs → qb o2 = qb lo → Calls Tryz.prog 35 #[.pointer s, .string xc, .int .i64 xn] W fun e w' => ∃ v ok, e = .returned (.tuple #[.string v, .bool ok]) ∧ Pd v ok W w' ∧ W.heap.size ≤ w'.heap.size ∧ (∀ j, w.heap.size ≤ j → j < W.heap.size → w'.heap[j]? = W.heap[j]?) ∧ w'.heap[yb]? = W.heap[yb]?) :
    Calls Tryz.prog 14 #[.pointer (some ⟨yb, 0, none⟩)] w fun e w2 => ∃ v ok eo el ec W w' o2, e = .returned (.tuple #[.agg #[.int .i64 xf, .bool ok, .slice eo el ec, .slice none 0 0, .int .i64 0], .int .i64 0]) ∧ Fr [yb] w W ∧ w.heap.size < W.heap.size ∧ YoM W yb s C o2 (n - 1) (c - 1) xs ∧ qb o2 = qb lo ∧ Pd v ok W w' ∧ W.heap.size ≤ w'.heap.size ∧ ((ok = false ∧ eo = none ∧ el = 0 ∧ ec = 0) ∨ (ok = true ∧ ∃ E, eo = some ⟨E, 0, none⟩ ∧ el = 1 ∧ ec = 1 ∧ w'.heap.size ≤ E ∧ w2.heap[E]? = some (.cells #[.string xc, .string v] 67 (0, 0)))) ∧ ∃ T, Fr T w' w2 ∧ ∀ j ∈ T, w.heap.size ≤ j ∧ j < W.heap.size := by
  obtain ⟨b, off, rfl, hat, hq⟩ := h.q.first
  have hnl : n = xs.length + 1 := by have := h.q.len; simpa using this
  have hnc := h.q.fit
  obtain ⟨q, HNq⟩ : ∃ q, Hid (n = q + 1) := ⟨n - 1, (show n = n - 1 + 1 by omega)⟩
  have hn1 : n = q + 1 := HNq.out
  have hcap := h.cap
  have hfew := h.few
  subst hn1
  subst hd0
  obtain rfl : q = 0 := by omega
  have hqd : 0 ≤ 0 := by omega
  have hq2 : QV w (some ⟨b, off, none⟩) 0 0 xs := ⟨by omega, hqd, Or.inr (by obtain ⟨cu, hcu⟩ := h.q.blk (b := b) rfl; have hx : xs = [] := List.eq_nil_of_length_eq_zero (by omega); subst hx; rcases h.q.row with ⟨e, _⟩ | ⟨b1, o1, c1, e, k1, k2, _⟩; (simp at e); (cases e; exact ⟨b, off, c1, rfl, k1, by omega, fun j v hj => by simp [vals] at hj⟩))⟩
  have hne : b ≠ yb := fun e => h.ne (by simp [qb, e])
  obtain ⟨cur, hcur⟩ := h.q.blk (b := b) rfl
  have hbl := lt_of_block hcur
  have hyl := h.lt
  obtain ⟨wa, HWa⟩ : ∃ wa, Hid (w.alloc (.cells #[.int .i64 0, .bool false, .slice none 0 0, .slice none 0 0, .int .i64 0] 56) = wa) := ⟨_, rfl⟩
  have hFa : Fr [] w wa := by rw [← HWa.out]; exact Fr.alloc _ _ _
  have hra : wa.heap[w.heap.size]? = some (.cells #[.int .i64 0, .bool false, .slice none 0 0, .slice none 0 0, .int .i64 0] 56 (0, 0)) := by rw [← HWa.out]; exact heap_alloc_new _ _
  obtain ⟨R, HR⟩ : ∃ R, Hid (w.heap.size = R) := ⟨_, rfl⟩
  rw [HR.out] at hra
  have hya := h.same hFa
  have c2 := hya.c2
  obtain ⟨wb, HWb⟩ : ∃ wb, Hid (wa.alloc (.cells #[.int .u8 0, .int .i64 0, .int .i64 0, .string ⟨#[]⟩, .string ⟨#[]⟩, .bool false, .string ⟨#[]⟩, .string ⟨#[]⟩, .slice none 0 0] 36) = wb) := ⟨_, rfl⟩
  have hFb : Fr [] wa wb := by rw [← HWb.out]; exact Fr.alloc _ _ _
  have hrb : wb.heap[wa.heap.size]? = some (.cells #[.int .u8 0, .int .i64 0, .int .i64 0, .string ⟨#[]⟩, .string ⟨#[]⟩, .bool false, .string ⟨#[]⟩, .string ⟨#[]⟩, .slice none 0 0] 36 (0, 0)) := by rw [← HWb.out]; exact heap_alloc_new _ _
  obtain ⟨T, HT⟩ : ∃ T, Hid (wa.heap.size = T) := ⟨_, rfl⟩
  rw [HT.out] at hrb
  have HN : Hid (w.heap.size ≤ R ∧ R < T ∧ yb < R ∧ b < R) := ⟨by have := HR.out; omega, by have := HT.out; have := lt_of_block hra; omega, by have := HR.out; omega, by have := HR.out; omega⟩
  have HB : Hid (YoM wb yb s C (some ⟨b, off, none⟩) (0 + 1) (0 + 1) (⟨2, xf, xn, xa, xb, xd, xc, xe, xo, xl, xm⟩ :: xs) ∧ QV wb (some ⟨b, off, none⟩) 0 0 xs ∧ wb.heap[R]? = some (.cells #[.int .i64 0, .bool false, .slice none 0 0, .slice none 0 0, .int .i64 0] 56 (0, 0)) ∧ wb.heap[T]? = some (.cells #[.int .u8 0, .int .i64 0, .int .i64 0, .string ⟨#[]⟩, .string ⟨#[]⟩, .bool false, .string ⟨#[]⟩, .string ⟨#[]⟩, .slice none 0 0] 36 (0, 0)) ∧ Fr [] w wb) := ⟨hya.same hFb, (hq2.keep hFa (by simp)).keep hFb (by simp), hFb.keep hra (by simp), hrb, hFa.then hFb⟩
  have hkeep : ∀ j, wa.cell? ⟨b, j, none⟩ = w.cell? ⟨b, j, none⟩ := fun j => World.cell?_of_block (hFa.block b hbl (by simp))
  have x0 : wa.cell? ⟨b, off, none⟩ = some (.int .u8 2) := (hkeep _).trans (hat 0 _ rfl)
  have x1 : wa.cell? ⟨b, off + 1, none⟩ = some (.int .i64 xf) := (hkeep _).trans (hat 1 _ rfl)
  have x2 : wa.cell? ⟨b, off + 2, none⟩ = some (.int .i64 xn) := (hkeep _).trans (hat 2 _ rfl)
  have x3 : wa.cell? ⟨b, off + 3, none⟩ = some (.string xa) := (hkeep _).trans (hat 3 _ rfl)
  have x4 : wa.cell? ⟨b, off + 4, none⟩ = some (.string xb) := (hkeep _).trans (hat 4 _ rfl)
  have x5 : wa.cell? ⟨b, off + 5, none⟩ = some (.bool xd) := (hkeep _).trans (hat 5 _ rfl)
  have x6 : wa.cell? ⟨b, off + 6, none⟩ = some (.string xc) := (hkeep _).trans (hat 6 _ rfl)
  have x7 : wa.cell? ⟨b, off + 7, none⟩ = some (.string xe) := (hkeep _).trans (hat 7 _ rfl)
  have x8 : wa.cell? ⟨b, off + 8, none⟩ = some (.slice xo xl xm) := (hkeep _).trans (hat 8 _ rfl)
  have HX := (show Hid _ from And.intro x0 (And.intro x1 (And.intro x2 (And.intro x3 (And.intro x4 (And.intro x5 (And.intro x6 (And.intro x7 x8))))))))
  have HC2 := (show Hid _ from c2)
  clear x0 x1 x2 x3 x4 x5 x6 x7 x8 c2 hkeep hat hq hq2 hya hFa hra hFb hrb hcur hbl hyl h hnl hnc
  have HDD : Hid (∀ W o2, Fr [yb] w W → w.heap.size < W.heap.size → YoM W yb s C o2 0 0 xs → qb o2 = some b → Calls Tryz.prog 35 #[.pointer s, .string xc, .int .i64 xn] W fun e w' => ∃ v ok, e = .returned (.tuple #[.string v, .bool ok]) ∧ Pd v ok W w' ∧ W.heap.size ≤ w'.heap.size ∧ (∀ j, w.heap.size ≤ j → j < W.heap.size → w'.heap[j]? = W.heap[j]?) ∧ w'.heap[yb]? = W.heap[yb]?) := fun W o2 a1 a2 a3 a4 => hD W o2 a1 a2 (by simpa using a3) (by simpa [qb] using a4)
  clear hD
  go_enter Tryz.func14, Tryz.ntmps14
  go_upto_region 1 with fail
  rw [HWa.out, HR.out]
  have c2 := HC2.out
  go_upto_region 5 with fail
  obtain ⟨x0, x1, x2, x3, x4, x5, x6, x7, x8⟩ := HX.out
  go_upto_region 6 with (first
    | (rw [HWb.out, HT.out]; refine wpList_storeRow rfl 36 _ _ rfl T #[.int .u8 2, .int .i64 xf, .int .i64 xn, .string xa, .string xb, .bool xd, .string xc, .string xe, .slice xo xl xm] rfl rfl 36 _ HB.out.2.2.2.1 (by kernel_rfl) rfl (rv_one ⟨2, xf, xn, xa, xb, xd, xc, xe, xo, xl, xm⟩) ?_; intro w3 HR3 hf3; go_frame)
    | fail)
  have hN := HN.out
  have hy3 : YoM w3 yb s C (some ⟨b, off, none⟩) (0 + 1) (0 + 1) (⟨2, xf, xn, xa, xb, xd, xc, xe, xo, xl, xm⟩ :: xs) := HB.out.1.keep hf3 (by simp; omega) (by intro k hk; simp [qb] at hk; simp; omega)
  have hq3 : QV w3 (some ⟨b, off, none⟩) 0 0 xs := HB.out.2.1.keep hf3 (by intro k hk; simp [qb] at hk; simp; omega)
  have hr3 := hf3.keep HB.out.2.2.1 (by simp; omega)
  have hF3 : Fr [] w w3 := HB.out.2.2.2.2.on hf3 (by intro y hy; simp at hy; omega)
  have e2 := hy3.c2
  have z2 : w3.frozen? ⟨yb, 2, none⟩ = false := by simp [World.frozen?, hy3.row]
  have f4 : Fr [yb] w3 (w3.setCell ⟨yb, 2, none⟩ (.slice (some ⟨b, off, none⟩) 0 0)) := Fr.set _ _ _ (by simp)
  have r4 := qrow_setCell (j := 2) (.slice (some ⟨b, off, none⟩) 0 0) hy3.row
  have R4 : Hid (YoM (w3.setCell ⟨yb, 2, none⟩ (.slice (some ⟨b, off, none⟩) 0 0)) yb s C (some ⟨b, off, none⟩) 0 0 xs ∧ (w3.setCell ⟨yb, 2, none⟩ (.slice (some ⟨b, off, none⟩) 0 0)).heap[R]? = some (.cells #[.int .i64 0, .bool false, .slice none 0 0, .slice none 0 0, .int .i64 0] 56 (0, 0)) ∧ (w3.setCell ⟨yb, 2, none⟩ (.slice (some ⟨b, off, none⟩) 0 0)).heap[T]? = some (.cells #[.int .u8 2, .int .i64 xf, .int .i64 xn, .string xa, .string xb, .bool xd, .string xc, .string xe, .slice xo xl xm] 36 (0, 0)) ∧ Fr [yb] w (w3.setCell ⟨yb, 2, none⟩ (.slice (some ⟨b, off, none⟩) 0 0))) := ⟨⟨r4, hq3.keep f4 (by intro k hk; simp [qb] at hk; simp; omega), fun e => hne (by simpa [qb] using e), hcap, by omega⟩, f4.keep hr3 (by simp; omega), f4.keep HR3.out (by simp; omega), (hF3.mono (by simp)).then f4⟩
  clear hy3 hq3 hr3 hF3 f4 r4 x0 x1 x2 x3 x4 x5 x6 x7 x8 HX HC2 c2 hf3
  go_upto_region 7 with fail
  obtain ⟨w4, HW4⟩ : ∃ w4, Hid (w3.setCell ⟨yb, 2, none⟩ (.slice (some ⟨b, off, none⟩) 0 0) = w4) := ⟨_, rfl⟩
  rw [HW4.out] at R4 ⊢
  clear e2 z2 HR3 HB
  have t1 : w4.cell? ⟨T, 1, none⟩ = some (.int .i64 xf) := by rw [cell_of_row _ _ _ _ _ _ R4.out.2.2.1]; rfl
  have hru := heap_alloc_new w4 (.cells #[.int .i64 0, .bool false, .slice none 0 0, .slice none 0 0, .int .i64 0] 56)
  have hFu : Fr [] w4 (w4.alloc (.cells #[.int .i64 0, .bool false, .slice none 0 0, .slice none 0 0, .int .i64 0] 56)) := Fr.alloc _ _ _
  obtain ⟨U, HU⟩ : ∃ U, Hid (w4.heap.size = U) := ⟨_, rfl⟩
  rw [HU.out] at hru
  have HNu : Hid (T < U) := by show _ < _; rw [← HU.out]; exact lt_of_block R4.out.2.2.1
  obtain ⟨w5, HW5⟩ : ∃ w5, Hid (w4.alloc (.cells #[.int .i64 0, .bool false, .slice none 0 0, .slice none 0 0, .int .i64 0] 56) = w5) := ⟨_, rfl⟩
  rw [HW5.out] at hru hFu
  have R5 : Hid (YoM w5 yb s C (some ⟨b, off, none⟩) 0 0 xs ∧ w5.heap[R]? = some (.cells #[.int .i64 0, .bool false, .slice none 0 0, .slice none 0 0, .int .i64 0] 56 (0, 0)) ∧ w5.heap[T]? = some (.cells #[.int .u8 2, .int .i64 xf, .int .i64 xn, .string xa, .string xb, .bool xd, .string xc, .string xe, .slice xo xl xm] 36 (0, 0)) ∧ Fr [yb] w w5 ∧ w5.heap[U]? = some (.cells #[.int .i64 0, .bool false, .slice none 0 0, .slice none 0 0, .int .i64 0] 56 (0, 0))) := ⟨R4.out.1.same hFu, hFu.keep R4.out.2.1 (by simp), hFu.keep R4.out.2.2.1 (by simp), R4.out.2.2.2.then (hFu.mono (by simp)), hru⟩
  clear hru hFu
  go_upto_region 8 with (first
    | (rw [HW5.out, HU.out]; refine wpList_storeRow rfl 56 _ _ rfl U #[.int .i64 xf, .bool true, .slice none 0 0, .slice none 0 0, .int .i64 0] rfl rfl 56 _ R5.out.2.2.2.2 (by kernel_rfl) rfl (rs_one _ _ _ _ _ _ _ _ _) ?_; intro w6 HR6 hf6; go_frame)
    | fail)
  have hNu := HNu.out
  have R6 : Hid (YoM w6 yb s C (some ⟨b, off, none⟩) 0 0 xs ∧ w6.heap[R]? = some (.cells #[.int .i64 0, .bool false, .slice none 0 0, .slice none 0 0, .int .i64 0] 56 (0, 0)) ∧ w6.heap[T]? = some (.cells #[.int .u8 2, .int .i64 xf, .int .i64 xn, .string xa, .string xb, .bool xd, .string xc, .string xe, .slice xo xl xm] 36 (0, 0)) ∧ Fr [yb] w w6 ∧ w6.heap[U]? = some (.cells #[.int .i64 xf, .bool true, .slice none 0 0, .slice none 0 0, .int .i64 0] 56 (0, 0))) := ⟨R5.out.1.keep hf6 (by simp; omega) (by intro k hk; simp [qb] at hk; simp; omega), hf6.keep R5.out.2.1 (by simp; omega), hf6.keep R5.out.2.2.1 (by simp; omega), R5.out.2.2.2.1.trans hf6 (fun y hy _ => hy) (by intro y hy hl; simp at hy; omega), HR6.out⟩
  clear hf6 R5 R4 t1 HR6 HW5 HU
  have t0 : w6.cell? ⟨T, 0, none⟩ = some (.int .u8 2) := by rw [cell_of_row _ _ _ _ _ _ R6.out.2.2.1]; rfl
  go_upto_region 13 with fail
  have s0 := R6.out.1.c0
  have t2 : w6.cell? ⟨T, 2, none⟩ = some (.int .i64 xn) := by rw [cell_of_row _ _ _ _ _ _ R6.out.2.2.1]; rfl
  have t6 : w6.cell? ⟨T, 6, none⟩ = some (.string xc) := by rw [cell_of_row _ _ _ _ _ _ R6.out.2.2.1]; rfl
  have hUl := lt_of_block R6.out.2.2.2.2
  have HL : Hid (U < w6.heap.size ∧ w.heap.size ≤ R) := ⟨hUl, hN.1⟩
  have HDd : Hid (∀ W, Fr [] w6 W → Calls Tryz.prog 35 #[.pointer s, .string xc, .int .i64 xn] W fun e w' => ∃ v ok, e = .returned (.tuple #[.string v, .bool ok]) ∧ (w'.cell? ⟨yb, 0, none⟩ = some (.pointer s) ∧ w'.cell? ⟨T, 2, none⟩ = some (.int .i64 xn) ∧ w'.cell? ⟨T, 6, none⟩ = some (.string xc) ∧ w'.cell? ⟨U, 1, none⟩ = some (.bool true) ∧ w'.frozen? ⟨U, 1, none⟩ = false) ∧ Hid (∃ W o2, Fr [yb] w W ∧ w.heap.size < W.heap.size ∧ YoM W yb s C o2 0 0 xs ∧ qb o2 = some b ∧ Pd v ok W w' ∧ W.heap.size ≤ w'.heap.size ∧ U < W.heap.size ∧ w'.heap[R]? = some (.cells #[.int .i64 0, .bool false, .slice none 0 0, .slice none 0 0, .int .i64 0] 56 (0, 0)) ∧ w'.heap[U]? = some (.cells #[.int .i64 xf, .bool true, .slice none 0 0, .slice none 0 0, .int .i64 0] 56 (0, 0)) ∧ w'.heap[T]? = some (.cells #[.int .u8 2, .int .i64 xf, .int .i64 xn, .string xa, .string xb, .bool xd, .string xc, .string xe, .slice xo xl xm] 36 (0, 0)))) := fun W hf => by
    have hsz := hf.size
    refine (HDD.out W (some ⟨b, off, none⟩) (R6.out.2.2.2.1.then (hf.mono (by simp))) (by have := HL.out; omega) (R6.out.1.same hf) rfl).mono ?_
    rintro e w' ⟨v, ok, rfl, k1, k2, k3, k4⟩
    have y1 : w'.heap[yb]? = _ := k4.trans (hf.keep R6.out.1.row (by simp))
    have hl := HL.out
    have y2 : w'.heap[T]? = _ := (k3 T (by omega) (by omega)).trans (hf.keep R6.out.2.2.1 (by simp))
    have y3 : w'.heap[U]? = _ := (k3 U (by omega) (by omega)).trans (hf.keep R6.out.2.2.2.2 (by simp))
    have y4 : w'.heap[R]? = _ := (k3 R (by omega) (by omega)).trans (hf.keep R6.out.2.1 (by simp))
    refine ⟨v, ok, rfl, ⟨by rw [cell_of_row _ _ _ _ _ _ y1]; rfl, by rw [cell_of_row _ _ _ _ _ _ y2]; rfl, by rw [cell_of_row _ _ _ _ _ _ y2]; rfl, by rw [cell_of_row _ _ _ _ _ _ y3]; rfl, by simp [World.frozen?, y3]⟩, ⟨W, some ⟨b, off, none⟩, R6.out.2.2.2.1.then (hf.mono (by simp)), by omega, R6.out.1.same hf, rfl, k1, k2, by omega, y4, y3, y2⟩⟩
  have hUy : U ≠ yb := by omega
  have hUT : U ≠ T := by omega
  go_region_held3 (fun W => W.cell? ⟨yb, 0, none⟩ = some (.pointer s) ∧ W.cell? ⟨T, 2, none⟩ = some (.int .i64 xn) ∧ W.cell? ⟨T, 6, none⟩ = some (.string xc)) (go_keep)
    (first
      | (with_reducible refine Calls.mono (HDd.out _ (Fr.drew _ _)) ?_; rintro e w7 ⟨v, ok, rfl, ⟨y0, y2, y3, y4, fz⟩, HP⟩))
  have hP := HP.out
  obtain ⟨_, _, _, _, _, _, _, _, _, y5, y6, y7⟩ := hP
  have f8 : Fr [U] w7 (w7.setCell ⟨U, 1, none⟩ (.bool ok)) := Fr.set _ _ _ (by simp)
  have r8 := qrow_setCell (j := 1) (.bool ok) y6
  have H8 : Hid ((w7.setCell ⟨U, 1, none⟩ (.bool ok)).heap[U]? = some (.cells #[.int .i64 xf, .bool ok, .slice none 0 0, .slice none 0 0, .int .i64 0] 56 (0, 0)) ∧ Fr [U] w7 (w7.setCell ⟨U, 1, none⟩ (.bool ok)) ∧ (w7.setCell ⟨U, 1, none⟩ (.bool ok)).heap[R]? = some (.cells #[.int .i64 0, .bool false, .slice none 0 0, .slice none 0 0, .int .i64 0] 56 (0, 0)) ∧ (w7.setCell ⟨U, 1, none⟩ (.bool ok)).heap[T]? = some (.cells #[.int .u8 2, .int .i64 xf, .int .i64 xn, .string xa, .string xb, .bool xd, .string xc, .string xe, .slice xo xl xm] 36 (0, 0))) := ⟨r8, f8, f8.keep y5 (by simp; omega), f8.keep y7 (by simp; omega)⟩
  obtain ⟨w8, HW8⟩ : ∃ w8, Hid (w7.setCell ⟨U, 1, none⟩ (.bool ok) = w8) := ⟨_, rfl⟩
  go_upto_region 15 with fail
  rw [HW8.out] at H8 ⊢
  clear r8 f8 y5 y6 y7 y0 y2 y3 y4 fz s0 t2 t6 t0 HDd HDD R6 HW8
  cases ok with
  | false =>
    have H8 : Hid (_ ∧ _ ∧ _) := ⟨H8.out.1, H8.out.2.1, H8.out.2.2.1⟩
    have b0 : w8.cell? ⟨U, 0, none⟩ = some (.int .i64 xf) := by rw [cell_of_row _ _ _ _ _ _ H8.out.1]; rfl
    have b1 : w8.cell? ⟨U, 1, none⟩ = some (.bool false) := by rw [cell_of_row _ _ _ _ _ _ H8.out.1]; rfl
    have b2 : w8.cell? ⟨U, 2, none⟩ = some (.slice none 0 0) := by rw [cell_of_row _ _ _ _ _ _ H8.out.1]; rfl
    have b3 : w8.cell? ⟨U, 3, none⟩ = some (.slice none 0 0) := by rw [cell_of_row _ _ _ _ _ _ H8.out.1]; rfl
    have b4 : w8.cell? ⟨U, 4, none⟩ = some (.int .i64 0) := by rw [cell_of_row _ _ _ _ _ _ H8.out.1]; rfl
    go_wp2_with (first
      | (refine wpList_storeRow rfl 56 _ _ rfl R #[.int .i64 xf, .bool false, .slice none 0 0, .slice none 0 0, .int .i64 0] rfl rfl 56 _ H8.out.2.2 (by kernel_rfl) rfl (rs_one _ _ _ _ _ _ _ _ _) ?_; intro w9 HR9 hf9; go_frame)
      | fail)
    refine bodyPost_ret (results_ct_row rfl _ _ _ _ _ rfl (load_resp HR9.out)) rfl ?_
    obtain ⟨W, o2, g1, g2, g3, g4, g5, g6, g7, _, _, _⟩ := HP.out
    have hl := HL.out
    refine ⟨v, false, none, 0, 0, W, w7, o2, rfl, g1, g2, by simpa using g3, by simpa [qb] using g4, g5, g6, Or.inl ⟨rfl, rfl, rfl, rfl⟩, [R, U], (H8.out.2.1.mono (by intro y hy _; simp at hy ⊢; exact Or.inr hy)).then (hf9.mono (by intro y hy _; simp at hy ⊢; exact Or.inl hy)), fun j hj => ?_⟩
    simp only [List.mem_cons, List.not_mem_nil, or_false] at hj
    omega
  | true =>
    have t6 : w8.cell? ⟨T, 6, none⟩ = some (.string xc) := by rw [cell_of_row _ _ _ _ _ _ H8.out.2.2.2]; rfl
    have hFe := Fr.alloc [] w8 (.cells #[.string xc, .string v] 67)
    have hre := heap_alloc_new w8 (.cells #[.string xc, .string v] 67)
    have hU9 := hFe.keep H8.out.1 (by simp)
    have u2 : (w8.alloc (.cells #[.string xc, .string v] 67)).cell? ⟨U, 2, none⟩ = some (.slice none 0 0) := by rw [cell_of_row _ _ _ _ _ _ hU9]; rfl
    have z2 : (w8.alloc (.cells #[.string xc, .string v] 67)).frozen? ⟨U, 2, none⟩ = false := by simp [World.frozen?, hU9]
    have hUl8 := lt_of_block H8.out.1
    have hE8 := H8.out.2.1.size
    have fe : Fr [U] (w8.alloc (.cells #[.string xc, .string v] 67)) ((w8.alloc (.cells #[.string xc, .string v] 67)).setCell ⟨U, 2, none⟩ (.slice (some ⟨w8.heap.size, 0, none⟩) 1 1)) := Fr.set _ _ _ (by simp)
    have re := qrow_setCell (j := 2) (.slice (some ⟨w8.heap.size, 0, none⟩) 1 1) hU9
    have He : Hid (((w8.alloc (.cells #[.string xc, .string v] 67)).setCell ⟨U, 2, none⟩ (.slice (some ⟨w8.heap.size, 0, none⟩) 1 1)).heap[U]? = some (.cells #[.int .i64 xf, .bool true, .slice (some ⟨w8.heap.size, 0, none⟩) 1 1, .slice none 0 0, .int .i64 0] 56 (0, 0)) ∧ Fr [U] w7 ((w8.alloc (.cells #[.string xc, .string v] 67)).setCell ⟨U, 2, none⟩ (.slice (some ⟨w8.heap.size, 0, none⟩) 1 1)) ∧ ((w8.alloc (.cells #[.string xc, .string v] 67)).setCell ⟨U, 2, none⟩ (.slice (some ⟨w8.heap.size, 0, none⟩) 1 1)).heap[R]? = some (.cells #[.int .i64 0, .bool false, .slice none 0 0, .slice none 0 0, .int .i64 0] 56 (0, 0)) ∧ ((w8.alloc (.cells #[.string xc, .string v] 67)).setCell ⟨U, 2, none⟩ (.slice (some ⟨w8.heap.size, 0, none⟩) 1 1)).heap[w8.heap.size]? = some (.cells #[.string xc, .string v] 67 (0, 0))) := ⟨re, H8.out.2.1.then ((hFe.mono (by simp)).then fe), fe.keep (hFe.keep H8.out.2.2.1 (by simp)) (by simp; omega), fe.keep hre (by simp; omega)⟩
    obtain ⟨E, HE⟩ : ∃ E, Hid (w8.heap.size = E ∧ U < E ∧ w7.heap.size ≤ E) := ⟨_, ⟨rfl, hUl8, hE8⟩⟩
    clear hFe hre hU9 re fe hUl8 hE8
    go_upto_region 23 with fail
    generalize hw10 : World.setCell _ _ _ = w10 at He ⊢
    clear hw10 u2 z2 t6
    rw [HE.out.1] at He ⊢
    clear H8
    have H8 : Hid (_ ∧ _ ∧ _) := ⟨He.out.1, He.out.2.1, He.out.2.2.1⟩
    have b0 : w10.cell? ⟨U, 0, none⟩ = some (.int .i64 xf) := by rw [cell_of_row _ _ _ _ _ _ H8.out.1]; rfl
    have b1 : w10.cell? ⟨U, 1, none⟩ = some (.bool true) := by rw [cell_of_row _ _ _ _ _ _ H8.out.1]; rfl
    have b2 : w10.cell? ⟨U, 2, none⟩ = some (.slice (some ⟨E, 0, none⟩) 1 1) := by rw [cell_of_row _ _ _ _ _ _ H8.out.1]; rfl
    have b3 : w10.cell? ⟨U, 3, none⟩ = some (.slice none 0 0) := by rw [cell_of_row _ _ _ _ _ _ H8.out.1]; rfl
    have b4 : w10.cell? ⟨U, 4, none⟩ = some (.int .i64 0) := by rw [cell_of_row _ _ _ _ _ _ H8.out.1]; rfl
    go_wp2_with (first
      | (refine wpList_storeRow rfl 56 _ _ rfl R #[.int .i64 xf, .bool true, .slice (some ⟨E, 0, none⟩) 1 1, .slice none 0 0, .int .i64 0] rfl rfl 56 _ H8.out.2.2 (by kernel_rfl) rfl (rs_one _ _ _ _ _ _ _ _ _) ?_; intro w9 HR9 hf9; go_frame)
      | fail)
    refine bodyPost_ret (results_ct_row rfl _ _ _ _ _ rfl (load_resp HR9.out)) rfl ?_
    obtain ⟨W, o2, g1, g2, g3, g4, g5, g6, g7, _, _, _⟩ := HP.out
    have hl := HL.out
    refine ⟨v, true, some ⟨E, 0, none⟩, 1, 1, W, w7, o2, rfl, g1, g2, by simpa using g3, by simpa [qb] using g4, g5, g6, Or.inr ⟨rfl, E, rfl, rfl, rfl, HE.out.2.2, hf9.keep He.out.2.2.2 (by have := HE.out.2.1; simp; omega)⟩, [R, U], (H8.out.2.1.mono (by intro y hy _; simp at hy ⊢; exact Or.inr hy)).then (hf9.mono (by intro y hy _; simp at hy ⊢; exact Or.inl hy)), fun j hj => ?_⟩
    simp only [List.mem_cons, List.not_mem_nil, or_false] at hj
    omega
set_option maxHeartbeats 4000000 in
set_option maxRecDepth 100000 in
theorem yoserve_2B (h : YoM w yb s C lo n c (⟨2, xf, xn, xa, xb, xd, xc, xe, xo, xl, xm⟩ :: xs)) (hd0 : c ≠ 1) (Pd : ByteArray → Bool → World → World → Prop)
    (hD : ∀ W o2, Fr [yb] w W → w.heap.size < W.heap.size → YoM W yb s C o2 (n - 1) (c - 1) xs → qb o2 = qb lo → Calls Tryz.prog 35 #[.pointer s, .string xc, .int .i64 xn] W fun e w' => ∃ v ok, e = .returned (.tuple #[.string v, .bool ok]) ∧ Pd v ok W w' ∧ W.heap.size ≤ w'.heap.size ∧ (∀ j, w.heap.size ≤ j → j < W.heap.size → w'.heap[j]? = W.heap[j]?) ∧ w'.heap[yb]? = W.heap[yb]?) :
    Calls Tryz.prog 14 #[.pointer (some ⟨yb, 0, none⟩)] w fun e w2 => ∃ v ok eo el ec W w' o2, e = .returned (.tuple #[.agg #[.int .i64 xf, .bool ok, .slice eo el ec, .slice none 0 0, .int .i64 0], .int .i64 0]) ∧ Fr [yb] w W ∧ w.heap.size < W.heap.size ∧ YoM W yb s C o2 (n - 1) (c - 1) xs ∧ qb o2 = qb lo ∧ Pd v ok W w' ∧ W.heap.size ≤ w'.heap.size ∧ ((ok = false ∧ eo = none ∧ el = 0 ∧ ec = 0) ∨ (ok = true ∧ ∃ E, eo = some ⟨E, 0, none⟩ ∧ el = 1 ∧ ec = 1 ∧ w'.heap.size ≤ E ∧ w2.heap[E]? = some (.cells #[.string xc, .string v] 67 (0, 0)))) ∧ ∃ T, Fr T w' w2 ∧ ∀ j ∈ T, w.heap.size ≤ j ∧ j < W.heap.size := by
  obtain ⟨b, off, rfl, hat, hq⟩ := h.q.first
  have hnl : n = xs.length + 1 := by have := h.q.len; simpa using this
  have hnc := h.q.fit
  obtain ⟨q, HNq⟩ : ∃ q, Hid (n = q + 1) := ⟨n - 1, (show n = n - 1 + 1 by omega)⟩
  have hn1 : n = q + 1 := HNq.out
  have hcap := h.cap
  have hfew := h.few
  subst hn1
  obtain ⟨d, HD⟩ : ∃ d, c = d + 1 := ⟨c - 1, by omega⟩
  subst HD
  have hd1 : ¬ d = 0 := by omega
  have hqd : q ≤ d := by omega
  have hq2 : QV w (some ⟨b, off + 9, none⟩) q d xs := by simpa using hq
  have hne : b ≠ yb := fun e => h.ne (by simp [qb, e])
  obtain ⟨cur, hcur⟩ := h.q.blk (b := b) rfl
  have hbl := lt_of_block hcur
  have hyl := h.lt
  obtain ⟨wa, HWa⟩ : ∃ wa, Hid (w.alloc (.cells #[.int .i64 0, .bool false, .slice none 0 0, .slice none 0 0, .int .i64 0] 56) = wa) := ⟨_, rfl⟩
  have hFa : Fr [] w wa := by rw [← HWa.out]; exact Fr.alloc _ _ _
  have hra : wa.heap[w.heap.size]? = some (.cells #[.int .i64 0, .bool false, .slice none 0 0, .slice none 0 0, .int .i64 0] 56 (0, 0)) := by rw [← HWa.out]; exact heap_alloc_new _ _
  obtain ⟨R, HR⟩ : ∃ R, Hid (w.heap.size = R) := ⟨_, rfl⟩
  rw [HR.out] at hra
  have hya := h.same hFa
  have c2 := hya.c2
  obtain ⟨wb, HWb⟩ : ∃ wb, Hid (wa.alloc (.cells #[.int .u8 0, .int .i64 0, .int .i64 0, .string ⟨#[]⟩, .string ⟨#[]⟩, .bool false, .string ⟨#[]⟩, .string ⟨#[]⟩, .slice none 0 0] 36) = wb) := ⟨_, rfl⟩
  have hFb : Fr [] wa wb := by rw [← HWb.out]; exact Fr.alloc _ _ _
  have hrb : wb.heap[wa.heap.size]? = some (.cells #[.int .u8 0, .int .i64 0, .int .i64 0, .string ⟨#[]⟩, .string ⟨#[]⟩, .bool false, .string ⟨#[]⟩, .string ⟨#[]⟩, .slice none 0 0] 36 (0, 0)) := by rw [← HWb.out]; exact heap_alloc_new _ _
  obtain ⟨T, HT⟩ : ∃ T, Hid (wa.heap.size = T) := ⟨_, rfl⟩
  rw [HT.out] at hrb
  have HN : Hid (w.heap.size ≤ R ∧ R < T ∧ yb < R ∧ b < R) := ⟨by have := HR.out; omega, by have := HT.out; have := lt_of_block hra; omega, by have := HR.out; omega, by have := HR.out; omega⟩
  have HB : Hid (YoM wb yb s C (some ⟨b, off, none⟩) (q + 1) (d + 1) (⟨2, xf, xn, xa, xb, xd, xc, xe, xo, xl, xm⟩ :: xs) ∧ QV wb (some ⟨b, off + 9, none⟩) q d xs ∧ wb.heap[R]? = some (.cells #[.int .i64 0, .bool false, .slice none 0 0, .slice none 0 0, .int .i64 0] 56 (0, 0)) ∧ wb.heap[T]? = some (.cells #[.int .u8 0, .int .i64 0, .int .i64 0, .string ⟨#[]⟩, .string ⟨#[]⟩, .bool false, .string ⟨#[]⟩, .string ⟨#[]⟩, .slice none 0 0] 36 (0, 0)) ∧ Fr [] w wb) := ⟨hya.same hFb, (hq2.keep hFa (by simp)).keep hFb (by simp), hFb.keep hra (by simp), hrb, hFa.then hFb⟩
  have hkeep : ∀ j, wa.cell? ⟨b, j, none⟩ = w.cell? ⟨b, j, none⟩ := fun j => World.cell?_of_block (hFa.block b hbl (by simp))
  have x0 : wa.cell? ⟨b, off, none⟩ = some (.int .u8 2) := (hkeep _).trans (hat 0 _ rfl)
  have x1 : wa.cell? ⟨b, off + 1, none⟩ = some (.int .i64 xf) := (hkeep _).trans (hat 1 _ rfl)
  have x2 : wa.cell? ⟨b, off + 2, none⟩ = some (.int .i64 xn) := (hkeep _).trans (hat 2 _ rfl)
  have x3 : wa.cell? ⟨b, off + 3, none⟩ = some (.string xa) := (hkeep _).trans (hat 3 _ rfl)
  have x4 : wa.cell? ⟨b, off + 4, none⟩ = some (.string xb) := (hkeep _).trans (hat 4 _ rfl)
  have x5 : wa.cell? ⟨b, off + 5, none⟩ = some (.bool xd) := (hkeep _).trans (hat 5 _ rfl)
  have x6 : wa.cell? ⟨b, off + 6, none⟩ = some (.string xc) := (hkeep _).trans (hat 6 _ rfl)
  have x7 : wa.cell? ⟨b, off + 7, none⟩ = some (.string xe) := (hkeep _).trans (hat 7 _ rfl)
  have x8 : wa.cell? ⟨b, off + 8, none⟩ = some (.slice xo xl xm) := (hkeep _).trans (hat 8 _ rfl)
  have HX := (show Hid _ from And.intro x0 (And.intro x1 (And.intro x2 (And.intro x3 (And.intro x4 (And.intro x5 (And.intro x6 (And.intro x7 x8))))))))
  have HC2 := (show Hid _ from c2)
  clear x0 x1 x2 x3 x4 x5 x6 x7 x8 c2 hkeep hat hq hq2 hya hFa hra hFb hrb hcur hbl hyl h hnl hnc
  have HDD : Hid (∀ W o2, Fr [yb] w W → w.heap.size < W.heap.size → YoM W yb s C o2 q d xs → qb o2 = some b → Calls Tryz.prog 35 #[.pointer s, .string xc, .int .i64 xn] W fun e w' => ∃ v ok, e = .returned (.tuple #[.string v, .bool ok]) ∧ Pd v ok W w' ∧ W.heap.size ≤ w'.heap.size ∧ (∀ j, w.heap.size ≤ j → j < W.heap.size → w'.heap[j]? = W.heap[j]?) ∧ w'.heap[yb]? = W.heap[yb]?) := fun W o2 a1 a2 a3 a4 => hD W o2 a1 a2 (by simpa using a3) (by simpa [qb] using a4)
  clear hD
  go_enter Tryz.func14, Tryz.ntmps14
  go_upto_region 1 with fail
  rw [HWa.out, HR.out]
  have c2 := HC2.out
  go_upto_region 5 with fail
  obtain ⟨x0, x1, x2, x3, x4, x5, x6, x7, x8⟩ := HX.out
  go_upto_region 6 with (first
    | (rw [HWb.out, HT.out]; refine wpList_storeRow rfl 36 _ _ rfl T #[.int .u8 2, .int .i64 xf, .int .i64 xn, .string xa, .string xb, .bool xd, .string xc, .string xe, .slice xo xl xm] rfl rfl 36 _ HB.out.2.2.2.1 (by kernel_rfl) rfl (rv_one ⟨2, xf, xn, xa, xb, xd, xc, xe, xo, xl, xm⟩) ?_; intro w3 HR3 hf3; go_frame)
    | fail)
  have hN := HN.out
  have hy3 : YoM w3 yb s C (some ⟨b, off, none⟩) (q + 1) (d + 1) (⟨2, xf, xn, xa, xb, xd, xc, xe, xo, xl, xm⟩ :: xs) := HB.out.1.keep hf3 (by simp; omega) (by intro k hk; simp [qb] at hk; simp; omega)
  have hq3 : QV w3 (some ⟨b, off + 9, none⟩) q d xs := HB.out.2.1.keep hf3 (by intro k hk; simp [qb] at hk; simp; omega)
  have hr3 := hf3.keep HB.out.2.2.1 (by simp; omega)
  have hF3 : Fr [] w w3 := HB.out.2.2.2.2.on hf3 (by intro y hy; simp at hy; omega)
  have e2 := hy3.c2
  have z2 : w3.frozen? ⟨yb, 2, none⟩ = false := by simp [World.frozen?, hy3.row]
  have f4 : Fr [yb] w3 (w3.setCell ⟨yb, 2, none⟩ (.slice (some ⟨b, off + 9, none⟩) q d)) := Fr.set _ _ _ (by simp)
  have r4 := qrow_setCell (j := 2) (.slice (some ⟨b, off + 9, none⟩) q d) hy3.row
  have R4 : Hid (YoM (w3.setCell ⟨yb, 2, none⟩ (.slice (some ⟨b, off + 9, none⟩) q d)) yb s C (some ⟨b, off + 9, none⟩) q d xs ∧ (w3.setCell ⟨yb, 2, none⟩ (.slice (some ⟨b, off + 9, none⟩) q d)).heap[R]? = some (.cells #[.int .i64 0, .bool false, .slice none 0 0, .slice none 0 0, .int .i64 0] 56 (0, 0)) ∧ (w3.setCell ⟨yb, 2, none⟩ (.slice (some ⟨b, off + 9, none⟩) q d)).heap[T]? = some (.cells #[.int .u8 2, .int .i64 xf, .int .i64 xn, .string xa, .string xb, .bool xd, .string xc, .string xe, .slice xo xl xm] 36 (0, 0)) ∧ Fr [yb] w (w3.setCell ⟨yb, 2, none⟩ (.slice (some ⟨b, off + 9, none⟩) q d))) := ⟨⟨r4, hq3.keep f4 (by intro k hk; simp [qb] at hk; simp; omega), fun e => hne (by simpa [qb] using e), hcap, by omega⟩, f4.keep hr3 (by simp; omega), f4.keep HR3.out (by simp; omega), (hF3.mono (by simp)).then f4⟩
  clear hy3 hq3 hr3 hF3 f4 r4 x0 x1 x2 x3 x4 x5 x6 x7 x8 HX HC2 c2 hf3
  go_upto_region 7 with fail
  obtain ⟨w4, HW4⟩ : ∃ w4, Hid (w3.setCell ⟨yb, 2, none⟩ (.slice (some ⟨b, off + 9, none⟩) q d) = w4) := ⟨_, rfl⟩
  rw [HW4.out] at R4 ⊢
  clear e2 z2 HR3 HB
  have t1 : w4.cell? ⟨T, 1, none⟩ = some (.int .i64 xf) := by rw [cell_of_row _ _ _ _ _ _ R4.out.2.2.1]; rfl
  have hru := heap_alloc_new w4 (.cells #[.int .i64 0, .bool false, .slice none 0 0, .slice none 0 0, .int .i64 0] 56)
  have hFu : Fr [] w4 (w4.alloc (.cells #[.int .i64 0, .bool false, .slice none 0 0, .slice none 0 0, .int .i64 0] 56)) := Fr.alloc _ _ _
  obtain ⟨U, HU⟩ : ∃ U, Hid (w4.heap.size = U) := ⟨_, rfl⟩
  rw [HU.out] at hru
  have HNu : Hid (T < U) := by show _ < _; rw [← HU.out]; exact lt_of_block R4.out.2.2.1
  obtain ⟨w5, HW5⟩ : ∃ w5, Hid (w4.alloc (.cells #[.int .i64 0, .bool false, .slice none 0 0, .slice none 0 0, .int .i64 0] 56) = w5) := ⟨_, rfl⟩
  rw [HW5.out] at hru hFu
  have R5 : Hid (YoM w5 yb s C (some ⟨b, off + 9, none⟩) q d xs ∧ w5.heap[R]? = some (.cells #[.int .i64 0, .bool false, .slice none 0 0, .slice none 0 0, .int .i64 0] 56 (0, 0)) ∧ w5.heap[T]? = some (.cells #[.int .u8 2, .int .i64 xf, .int .i64 xn, .string xa, .string xb, .bool xd, .string xc, .string xe, .slice xo xl xm] 36 (0, 0)) ∧ Fr [yb] w w5 ∧ w5.heap[U]? = some (.cells #[.int .i64 0, .bool false, .slice none 0 0, .slice none 0 0, .int .i64 0] 56 (0, 0))) := ⟨R4.out.1.same hFu, hFu.keep R4.out.2.1 (by simp), hFu.keep R4.out.2.2.1 (by simp), R4.out.2.2.2.then (hFu.mono (by simp)), hru⟩
  clear hru hFu
  go_upto_region 8 with (first
    | (rw [HW5.out, HU.out]; refine wpList_storeRow rfl 56 _ _ rfl U #[.int .i64 xf, .bool true, .slice none 0 0, .slice none 0 0, .int .i64 0] rfl rfl 56 _ R5.out.2.2.2.2 (by kernel_rfl) rfl (rs_one _ _ _ _ _ _ _ _ _) ?_; intro w6 HR6 hf6; go_frame)
    | fail)
  have hNu := HNu.out
  have R6 : Hid (YoM w6 yb s C (some ⟨b, off + 9, none⟩) q d xs ∧ w6.heap[R]? = some (.cells #[.int .i64 0, .bool false, .slice none 0 0, .slice none 0 0, .int .i64 0] 56 (0, 0)) ∧ w6.heap[T]? = some (.cells #[.int .u8 2, .int .i64 xf, .int .i64 xn, .string xa, .string xb, .bool xd, .string xc, .string xe, .slice xo xl xm] 36 (0, 0)) ∧ Fr [yb] w w6 ∧ w6.heap[U]? = some (.cells #[.int .i64 xf, .bool true, .slice none 0 0, .slice none 0 0, .int .i64 0] 56 (0, 0))) := ⟨R5.out.1.keep hf6 (by simp; omega) (by intro k hk; simp [qb] at hk; simp; omega), hf6.keep R5.out.2.1 (by simp; omega), hf6.keep R5.out.2.2.1 (by simp; omega), R5.out.2.2.2.1.trans hf6 (fun y hy _ => hy) (by intro y hy hl; simp at hy; omega), HR6.out⟩
  clear hf6 R5 R4 t1 HR6 HW5 HU
  have t0 : w6.cell? ⟨T, 0, none⟩ = some (.int .u8 2) := by rw [cell_of_row _ _ _ _ _ _ R6.out.2.2.1]; rfl
  go_upto_region 13 with fail
  have s0 := R6.out.1.c0
  have t2 : w6.cell? ⟨T, 2, none⟩ = some (.int .i64 xn) := by rw [cell_of_row _ _ _ _ _ _ R6.out.2.2.1]; rfl
  have t6 : w6.cell? ⟨T, 6, none⟩ = some (.string xc) := by rw [cell_of_row _ _ _ _ _ _ R6.out.2.2.1]; rfl
  have hUl := lt_of_block R6.out.2.2.2.2
  have HL : Hid (U < w6.heap.size ∧ w.heap.size ≤ R) := ⟨hUl, hN.1⟩
  have HDd : Hid (∀ W, Fr [] w6 W → Calls Tryz.prog 35 #[.pointer s, .string xc, .int .i64 xn] W fun e w' => ∃ v ok, e = .returned (.tuple #[.string v, .bool ok]) ∧ (w'.cell? ⟨yb, 0, none⟩ = some (.pointer s) ∧ w'.cell? ⟨T, 2, none⟩ = some (.int .i64 xn) ∧ w'.cell? ⟨T, 6, none⟩ = some (.string xc) ∧ w'.cell? ⟨U, 1, none⟩ = some (.bool true) ∧ w'.frozen? ⟨U, 1, none⟩ = false) ∧ Hid (∃ W o2, Fr [yb] w W ∧ w.heap.size < W.heap.size ∧ YoM W yb s C o2 q d xs ∧ qb o2 = some b ∧ Pd v ok W w' ∧ W.heap.size ≤ w'.heap.size ∧ U < W.heap.size ∧ w'.heap[R]? = some (.cells #[.int .i64 0, .bool false, .slice none 0 0, .slice none 0 0, .int .i64 0] 56 (0, 0)) ∧ w'.heap[U]? = some (.cells #[.int .i64 xf, .bool true, .slice none 0 0, .slice none 0 0, .int .i64 0] 56 (0, 0)) ∧ w'.heap[T]? = some (.cells #[.int .u8 2, .int .i64 xf, .int .i64 xn, .string xa, .string xb, .bool xd, .string xc, .string xe, .slice xo xl xm] 36 (0, 0)))) := fun W hf => by
    have hsz := hf.size
    refine (HDD.out W (some ⟨b, off + 9, none⟩) (R6.out.2.2.2.1.then (hf.mono (by simp))) (by have := HL.out; omega) (R6.out.1.same hf) rfl).mono ?_
    rintro e w' ⟨v, ok, rfl, k1, k2, k3, k4⟩
    have y1 : w'.heap[yb]? = _ := k4.trans (hf.keep R6.out.1.row (by simp))
    have hl := HL.out
    have y2 : w'.heap[T]? = _ := (k3 T (by omega) (by omega)).trans (hf.keep R6.out.2.2.1 (by simp))
    have y3 : w'.heap[U]? = _ := (k3 U (by omega) (by omega)).trans (hf.keep R6.out.2.2.2.2 (by simp))
    have y4 : w'.heap[R]? = _ := (k3 R (by omega) (by omega)).trans (hf.keep R6.out.2.1 (by simp))
    refine ⟨v, ok, rfl, ⟨by rw [cell_of_row _ _ _ _ _ _ y1]; rfl, by rw [cell_of_row _ _ _ _ _ _ y2]; rfl, by rw [cell_of_row _ _ _ _ _ _ y2]; rfl, by rw [cell_of_row _ _ _ _ _ _ y3]; rfl, by simp [World.frozen?, y3]⟩, ⟨W, some ⟨b, off + 9, none⟩, R6.out.2.2.2.1.then (hf.mono (by simp)), by omega, R6.out.1.same hf, rfl, k1, k2, by omega, y4, y3, y2⟩⟩
  have hUy : U ≠ yb := by omega
  have hUT : U ≠ T := by omega
  go_region_held3 (fun W => W.cell? ⟨yb, 0, none⟩ = some (.pointer s) ∧ W.cell? ⟨T, 2, none⟩ = some (.int .i64 xn) ∧ W.cell? ⟨T, 6, none⟩ = some (.string xc)) (go_keep)
    (first
      | (with_reducible refine Calls.mono (HDd.out _ (Fr.drew _ _)) ?_; rintro e w7 ⟨v, ok, rfl, ⟨y0, y2, y3, y4, fz⟩, HP⟩))
  have hP := HP.out
  obtain ⟨_, _, _, _, _, _, _, _, _, y5, y6, y7⟩ := hP
  have f8 : Fr [U] w7 (w7.setCell ⟨U, 1, none⟩ (.bool ok)) := Fr.set _ _ _ (by simp)
  have r8 := qrow_setCell (j := 1) (.bool ok) y6
  have H8 : Hid ((w7.setCell ⟨U, 1, none⟩ (.bool ok)).heap[U]? = some (.cells #[.int .i64 xf, .bool ok, .slice none 0 0, .slice none 0 0, .int .i64 0] 56 (0, 0)) ∧ Fr [U] w7 (w7.setCell ⟨U, 1, none⟩ (.bool ok)) ∧ (w7.setCell ⟨U, 1, none⟩ (.bool ok)).heap[R]? = some (.cells #[.int .i64 0, .bool false, .slice none 0 0, .slice none 0 0, .int .i64 0] 56 (0, 0)) ∧ (w7.setCell ⟨U, 1, none⟩ (.bool ok)).heap[T]? = some (.cells #[.int .u8 2, .int .i64 xf, .int .i64 xn, .string xa, .string xb, .bool xd, .string xc, .string xe, .slice xo xl xm] 36 (0, 0))) := ⟨r8, f8, f8.keep y5 (by simp; omega), f8.keep y7 (by simp; omega)⟩
  obtain ⟨w8, HW8⟩ : ∃ w8, Hid (w7.setCell ⟨U, 1, none⟩ (.bool ok) = w8) := ⟨_, rfl⟩
  go_upto_region 15 with fail
  rw [HW8.out] at H8 ⊢
  clear r8 f8 y5 y6 y7 y0 y2 y3 y4 fz s0 t2 t6 t0 HDd HDD R6 HW8
  cases ok with
  | false =>
    have H8 : Hid (_ ∧ _ ∧ _) := ⟨H8.out.1, H8.out.2.1, H8.out.2.2.1⟩
    have b0 : w8.cell? ⟨U, 0, none⟩ = some (.int .i64 xf) := by rw [cell_of_row _ _ _ _ _ _ H8.out.1]; rfl
    have b1 : w8.cell? ⟨U, 1, none⟩ = some (.bool false) := by rw [cell_of_row _ _ _ _ _ _ H8.out.1]; rfl
    have b2 : w8.cell? ⟨U, 2, none⟩ = some (.slice none 0 0) := by rw [cell_of_row _ _ _ _ _ _ H8.out.1]; rfl
    have b3 : w8.cell? ⟨U, 3, none⟩ = some (.slice none 0 0) := by rw [cell_of_row _ _ _ _ _ _ H8.out.1]; rfl
    have b4 : w8.cell? ⟨U, 4, none⟩ = some (.int .i64 0) := by rw [cell_of_row _ _ _ _ _ _ H8.out.1]; rfl
    go_wp2_with (first
      | (refine wpList_storeRow rfl 56 _ _ rfl R #[.int .i64 xf, .bool false, .slice none 0 0, .slice none 0 0, .int .i64 0] rfl rfl 56 _ H8.out.2.2 (by kernel_rfl) rfl (rs_one _ _ _ _ _ _ _ _ _) ?_; intro w9 HR9 hf9; go_frame)
      | fail)
    refine bodyPost_ret (results_ct_row rfl _ _ _ _ _ rfl (load_resp HR9.out)) rfl ?_
    obtain ⟨W, o2, g1, g2, g3, g4, g5, g6, g7, _, _, _⟩ := HP.out
    have hl := HL.out
    refine ⟨v, false, none, 0, 0, W, w7, o2, rfl, g1, g2, by simpa using g3, by simpa [qb] using g4, g5, g6, Or.inl ⟨rfl, rfl, rfl, rfl⟩, [R, U], (H8.out.2.1.mono (by intro y hy _; simp at hy ⊢; exact Or.inr hy)).then (hf9.mono (by intro y hy _; simp at hy ⊢; exact Or.inl hy)), fun j hj => ?_⟩
    simp only [List.mem_cons, List.not_mem_nil, or_false] at hj
    omega
  | true =>
    have t6 : w8.cell? ⟨T, 6, none⟩ = some (.string xc) := by rw [cell_of_row _ _ _ _ _ _ H8.out.2.2.2]; rfl
    have hFe := Fr.alloc [] w8 (.cells #[.string xc, .string v] 67)
    have hre := heap_alloc_new w8 (.cells #[.string xc, .string v] 67)
    have hU9 := hFe.keep H8.out.1 (by simp)
    have u2 : (w8.alloc (.cells #[.string xc, .string v] 67)).cell? ⟨U, 2, none⟩ = some (.slice none 0 0) := by rw [cell_of_row _ _ _ _ _ _ hU9]; rfl
    have z2 : (w8.alloc (.cells #[.string xc, .string v] 67)).frozen? ⟨U, 2, none⟩ = false := by simp [World.frozen?, hU9]
    have hUl8 := lt_of_block H8.out.1
    have hE8 := H8.out.2.1.size
    have fe : Fr [U] (w8.alloc (.cells #[.string xc, .string v] 67)) ((w8.alloc (.cells #[.string xc, .string v] 67)).setCell ⟨U, 2, none⟩ (.slice (some ⟨w8.heap.size, 0, none⟩) 1 1)) := Fr.set _ _ _ (by simp)
    have re := qrow_setCell (j := 2) (.slice (some ⟨w8.heap.size, 0, none⟩) 1 1) hU9
    have He : Hid (((w8.alloc (.cells #[.string xc, .string v] 67)).setCell ⟨U, 2, none⟩ (.slice (some ⟨w8.heap.size, 0, none⟩) 1 1)).heap[U]? = some (.cells #[.int .i64 xf, .bool true, .slice (some ⟨w8.heap.size, 0, none⟩) 1 1, .slice none 0 0, .int .i64 0] 56 (0, 0)) ∧ Fr [U] w7 ((w8.alloc (.cells #[.string xc, .string v] 67)).setCell ⟨U, 2, none⟩ (.slice (some ⟨w8.heap.size, 0, none⟩) 1 1)) ∧ ((w8.alloc (.cells #[.string xc, .string v] 67)).setCell ⟨U, 2, none⟩ (.slice (some ⟨w8.heap.size, 0, none⟩) 1 1)).heap[R]? = some (.cells #[.int .i64 0, .bool false, .slice none 0 0, .slice none 0 0, .int .i64 0] 56 (0, 0)) ∧ ((w8.alloc (.cells #[.string xc, .string v] 67)).setCell ⟨U, 2, none⟩ (.slice (some ⟨w8.heap.size, 0, none⟩) 1 1)).heap[w8.heap.size]? = some (.cells #[.string xc, .string v] 67 (0, 0))) := ⟨re, H8.out.2.1.then ((hFe.mono (by simp)).then fe), fe.keep (hFe.keep H8.out.2.2.1 (by simp)) (by simp; omega), fe.keep hre (by simp; omega)⟩
    obtain ⟨E, HE⟩ : ∃ E, Hid (w8.heap.size = E ∧ U < E ∧ w7.heap.size ≤ E) := ⟨_, ⟨rfl, hUl8, hE8⟩⟩
    clear hFe hre hU9 re fe hUl8 hE8
    go_upto_region 23 with fail
    generalize hw10 : World.setCell _ _ _ = w10 at He ⊢
    clear hw10 u2 z2 t6
    rw [HE.out.1] at He ⊢
    clear H8
    have H8 : Hid (_ ∧ _ ∧ _) := ⟨He.out.1, He.out.2.1, He.out.2.2.1⟩
    have b0 : w10.cell? ⟨U, 0, none⟩ = some (.int .i64 xf) := by rw [cell_of_row _ _ _ _ _ _ H8.out.1]; rfl
    have b1 : w10.cell? ⟨U, 1, none⟩ = some (.bool true) := by rw [cell_of_row _ _ _ _ _ _ H8.out.1]; rfl
    have b2 : w10.cell? ⟨U, 2, none⟩ = some (.slice (some ⟨E, 0, none⟩) 1 1) := by rw [cell_of_row _ _ _ _ _ _ H8.out.1]; rfl
    have b3 : w10.cell? ⟨U, 3, none⟩ = some (.slice none 0 0) := by rw [cell_of_row _ _ _ _ _ _ H8.out.1]; rfl
    have b4 : w10.cell? ⟨U, 4, none⟩ = some (.int .i64 0) := by rw [cell_of_row _ _ _ _ _ _ H8.out.1]; rfl
    go_wp2_with (first
      | (refine wpList_storeRow rfl 56 _ _ rfl R #[.int .i64 xf, .bool true, .slice (some ⟨E, 0, none⟩) 1 1, .slice none 0 0, .int .i64 0] rfl rfl 56 _ H8.out.2.2 (by kernel_rfl) rfl (rs_one _ _ _ _ _ _ _ _ _) ?_; intro w9 HR9 hf9; go_frame)
      | fail)
    refine bodyPost_ret (results_ct_row rfl _ _ _ _ _ rfl (load_resp HR9.out)) rfl ?_
    obtain ⟨W, o2, g1, g2, g3, g4, g5, g6, g7, _, _, _⟩ := HP.out
    have hl := HL.out
    refine ⟨v, true, some ⟨E, 0, none⟩, 1, 1, W, w7, o2, rfl, g1, g2, by simpa using g3, by simpa [qb] using g4, g5, g6, Or.inr ⟨rfl, E, rfl, rfl, rfl, HE.out.2.2, hf9.keep He.out.2.2.2 (by have := HE.out.2.1; simp; omega)⟩, [R, U], (H8.out.2.1.mono (by intro y hy _; simp at hy ⊢; exact Or.inr hy)).then (hf9.mono (by intro y hy _; simp at hy ⊢; exact Or.inl hy)), fun j hj => ?_⟩
    simp only [List.mem_cons, List.not_mem_nil, or_false] at hj
    omega
end
end Go.Proofs.YtomajifklajilaaGreat

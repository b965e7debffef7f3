/- Serve of a request of kind 3, by what the deed does. Conditions as each names them. -/
import Derived.Test.YtakbodlicfmkjaaGreatSv15
namespace Go.Proofs.YtakbodlicfmkjaaGreat.O
open Go.ChangeShapes Go.WideShapes Go.ChangeAt Go.RowKit Go.Lib
set_option linter.unusedVariables false
set_option linter.unusedSimpArgs false
section
variable {w : World} {ob g C : Nat} {s : Addr} {pb : Option Nat} {xs : List Rv}
set_option maxHeartbeats 4000000 in
set_option maxRecDepth 100000 in
theorem oserve_3 {xf xn : Int} {xa xb : ByteArray} {xd : Bool} {xc xe : ByteArray} {xo : Option Addr} {xl xm : Nat} (h : OwQ w ob g s pb C (⟨3, xf, xn, xa, xb, xd, xc, xe, xo, xl, xm⟩ :: xs)) (Pd : Bool → Option Addr → Nat → Nat → Option Addr → Nat → Nat → Int → World → World → Prop)
    (hD : ∀ W Q, Fr (Rg.own g pb) w W → w.heap.size < W.heap.size → OwQ W ob g s pb C xs → W.cell? ⟨Q, 0, none⟩ = some (.pointer (some s)) → Calls Tryz.prog 314 #[.agg #[.int .u8 3, .int .i64 xf, .int .i64 xn, .string xa, .string xb, .bool xd, .string xc, .string xe, .slice xo xl xm], .pointer (some ⟨Q, 0, none⟩)] W fun e w' => ∃ ok eo el ec ho hl hc c, e = .returned (.agg #[.int .i64 0, .bool ok, .slice eo el ec, .slice ho hl hc, .int .i64 c]) ∧ Pd ok eo el ec ho hl hc c W w' ∧ W.heap.size ≤ w'.heap.size ∧ (∀ j, w.heap.size ≤ j → j < W.heap.size → w'.heap[j]? = W.heap[j]?) ∧ w'.heap[ob]? = W.heap[ob]?) :
    Calls Tryz.prog 305 #[.pointer (some ⟨ob, 0, none⟩)] w fun e w2 => ∃ ok eo el ec ho hl hc c W w', e = .returned (.tuple #[.agg #[.int .i64 xf, .bool ok, .slice eo el ec, .slice ho hl hc, .int .i64 c], .int .i64 0]) ∧ Fr (Rg.own g pb) w W ∧ w.heap.size < W.heap.size ∧ OwQ W ob g s pb C xs ∧ Pd ok eo el ec ho hl hc c W w' ∧ W.heap.size ≤ w'.heap.size ∧ ∃ T, Fr T w' w2 ∧ ∀ j ∈ T, w.heap.size ≤ j ∧ j < W.heap.size := by
  obtain ⟨wz, HWz⟩ : ∃ wz, Hid (w.alloc (.cells #[.int .i64 0, .bool false, .slice none 0 0, .slice none 0 0, .int .i64 0] 398) = wz) := ⟨_, rfl⟩
  have hF0 : Fr [] w wz := by rw [← HWz.out]; exact Fr.alloc [] w _
  have hrow : wz.heap[w.heap.size]? = some (.cells #[.int .i64 0, .bool false, .slice none 0 0, .slice none 0 0, .int .i64 0] 398 (0, 0)) := by rw [← HWz.out]; exact heap_alloc_new w _
  obtain ⟨Z, HZ⟩ : ∃ Z, Hid (w.heap.size = Z) := ⟨_, rfl⟩
  have HT : Hid (Calls _ _ _ _ _) := othere_any (h.same hF0)
  have HK : Hid (Calls _ _ _ _ _) := gtake_any ⟨3, xf, xn, xa, xb, xd, xc, xe, xo, xl, xm⟩ wz (h.same hF0).rg
  have c1 := (h.same hF0).c1
  have HF0 : Hid (Fr [] w wz) := hF0
  have HZs : Hid (w.heap.size < wz.heap.size) := lt_of_block hrow
  have HB : Hid (∀ W, Fr (Rg.own g pb) wz W → Rg W g pb C xs false → OwQ W ob g s pb C xs) := fun W hf hr => ⟨hf.keep (h.same hF0).box h.no, hr⟩
  have HR0 : Hid (∀ W, Fr (Rg.own g pb) wz W → W.heap[w.heap.size]? = some (.cells #[.int .i64 0, .bool false, .slice none 0 0, .slice none 0 0, .int .i64 0] 398 (0, 0))) := fun W hf => hf.keep hrow (ring_not (h.same hF0).rg hrow (by decide) (by decide))
  have HD := (show Hid _ from hD)
  have HOz : Hid (ob < w.heap.size) := h.lt
  rw [HZ.out] at hrow
  clear h hF0 hrow hD
  simp only [Rv.v] at HK
  go_enter Tryz.func305, Tryz.ntmps305
  go_wp2_with fail
  rw [HWz.out]
  refine Calls.mono HT.out ?_
  rintro e w1 ⟨rfl, rfl⟩
  go_wp2_with fail
  refine Calls.mono HK.out ?_
  rintro e w1 ⟨rfl, hR1, hF1⟩
  have hr4 := heap_alloc_new w1 (.cells #[.int .u8 0, .int .i64 0, .int .i64 0, .string ⟨#[]⟩, .string ⟨#[]⟩, .bool false, .string ⟨#[]⟩, .string ⟨#[]⟩, .slice none 0 0] 278)
  have hQ1 := HB.out w1 hF1 hR1
  clear HT HK c1
  go_upto_region 4 with (first
    | (refine wpList_storeRow rfl 278 (.tmp 4) (.tmp 17) rfl w1.heap.size #[.int .u8 3, .int .i64 xf, .int .i64 xn, .string xa, .string xb, .bool xd, .string xc, .string xe, .slice xo xl xm] rfl rfl 278 _ hr4 (by kernel_rfl) rfl (rv_one ⟨3, xf, xn, xa, xb, xd, xc, xe, xo, xl, xm⟩) ?_; intro w2 HR2 hf2; go_frame)
    | fail)
  have hG12 : Fr [] w1 w2 := (Fr.alloc [] w1 _).on hf2 (by intro y hy; simp at hy; omega)
  obtain ⟨Z4, HZ4⟩ : ∃ Z4, Hid (w1.heap.size = Z4) := ⟨_, rfl⟩
  have HG2 : Hid (Fr (Rg.own g pb) wz w2) := hF1.then (hG12.mono (by simp))
  have hQ2 := hQ1.same hG12
  have HQ2 := (show Hid _ from hQ2)
  have HZ4s : Hid (wz.heap.size ≤ Z4 ∧ Z4 < w2.heap.size) := ⟨by have := hF1.size; rw [← HZ4.out]; exact this, by rw [← HZ4.out]; exact lt_of_block HR2.out⟩
  rw [HZ4.out] at HR2
  have hoz : ob ≠ Z4 := by have := HZ4s.out.1; have := HOz.out; have := HZs.out; omega
  have HS : Hid (∀ S W, Fr S w2 W → ob ∉ S → Z4 ∉ S → (W.cell? ⟨ob, 0, none⟩ = some (.pointer (some s)) ∧ W.cell? ⟨Z4, 0, none⟩ = some (.int .u8 3) ∧ W.cell? ⟨Z4, 1, none⟩ = some (.int .i64 xf) ∧ W.cell? ⟨Z4, 2, none⟩ = some (.int .i64 xn) ∧ W.cell? ⟨Z4, 3, none⟩ = some (.string xa) ∧ W.cell? ⟨Z4, 4, none⟩ = some (.string xb) ∧ W.cell? ⟨Z4, 5, none⟩ = some (.bool xd) ∧ W.cell? ⟨Z4, 6, none⟩ = some (.string xc) ∧ W.cell? ⟨Z4, 7, none⟩ = some (.string xe) ∧ W.cell? ⟨Z4, 8, none⟩ = some (.slice xo xl xm))) := fun S W hf ho hz => by
    have h1 := hf.keep HQ2.out.box ho
    have hz := RvAt.ofRow (x := ⟨3, xf, xn, xa, xb, xd, xc, xe, xo, xl, xm⟩) (hf.keep HR2.out hz)
    exact ⟨by rw [cell_of_row _ _ _ _ _ _ h1]; rfl, hz.c0, hz.c1, hz.c2, hz.c3, hz.c4, hz.c5, hz.c6, hz.c7, hz.c8⟩
  clear hr4 hQ1 hf2 hG12 hR1 hF1 hQ2
  go_upto_region 6 with fail
  rw [HZ4.out]
  clear HZ4
  obtain ⟨c0, z0, z1, z2, z3, z4, z5, z6, z7, z8⟩ := HS.out [] w2 (Fr.refl _ _) (by simp) (by simp)
  obtain ⟨HDd⟩ : Nonempty (Hid (∀ W, Fr [] w2 W → Calls _ _ _ _ _)) := ⟨fun W hf => odeeds_any (some s) W⟩
  have HZr := (show Hid _ from HR0.out w2 HG2.out)
  have hix : ∀ W Q, (Instr.index 405 (.agg #[.nilFunc, .func (Fn.func 310) #[] #[.pointer (some ⟨Q, 0, none⟩)], .func (Fn.func 312) #[] #[.pointer (some ⟨Q, 0, none⟩)], .func (Fn.func 314) #[] #[.pointer (some ⟨Q, 0, none⟩)], .func (Fn.func 316) #[] #[.pointer (some ⟨Q, 0, none⟩)], .func (Fn.func 318) #[] #[.pointer (some ⟨Q, 0, none⟩)]]) (.int .u8 3)).run Tryz.prog W = .ok (.func (Fn.func 314) #[] #[.pointer (some ⟨Q, 0, none⟩)]) W := fun W Q => idx_3 Q W
  obtain ⟨m1, m2, m3, m4⟩ : ob ≠ w2.heap.size ∧ w2.heap.size ≠ ob ∧ Z4 ≠ w2.heap.size ∧ w2.heap.size ≠ Z4 := (by have := HG2.out.size; have := HZs.out; have := HOz.out; have := HZ4s.out.2; omega)
  go_region_held3 (fun W => W.cell? ⟨ob, 0, none⟩ = some (.pointer (some s)) ∧ W.cell? ⟨Z4, 0, none⟩ = some (.int .u8 3) ∧ W.cell? ⟨Z4, 1, none⟩ = some (.int .i64 xf) ∧ W.cell? ⟨Z4, 2, none⟩ = some (.int .i64 xn) ∧ W.cell? ⟨Z4, 3, none⟩ = some (.string xa) ∧ W.cell? ⟨Z4, 4, none⟩ = some (.string xb) ∧ W.cell? ⟨Z4, 5, none⟩ = some (.bool xd) ∧ W.cell? ⟨Z4, 6, none⟩ = some (.string xc) ∧ W.cell? ⟨Z4, 7, none⟩ = some (.string xe) ∧ W.cell? ⟨Z4, 8, none⟩ = some (.slice xo xl xm)) (go_keep)
    (first
      | (go_at_call 308; with_reducible refine Calls.mono (odeeds_any (some s) w2.drew) ?_; rintro e w5 ⟨Q, rfl, hQw, hQr, hF5⟩; have hF5' : Fr [] w2 w5 := (Fr.drew [] w2).then hF5; obtain ⟨d0, y0, y1, y2, y3, y4, y5, y6, y7, y8⟩ := HS.out [] w5 hF5' (by simp) (by simp))
      | (go_at_call 308; with_reducible refine Calls.mono (odeeds_any (some s) (w2.alloc (.cells #[.int .i64 0, .bool false, .slice none 0 0, .slice none 0 0, .int .i64 0] 398)).drew) ?_; rintro e w5 ⟨Q, rfl, hQw, hQr, hF5⟩; have hF5' : Fr [] w2 w5 := ((Fr.alloc [] w2 _).then (Fr.drew [] _)).then hF5; have hT5 : w5.heap[w2.heap.size]? = some (.cells #[.int .i64 0, .bool false, .slice none 0 0, .slice none 0 0, .int .i64 0] 398 (0, 0)) := hF5.keep ((drew_heap _ _).trans (heap_alloc_new w2 _)) (by simp); obtain ⟨d0, y0, y1, y2, y3, y4, y5, y6, y7, y8⟩ := HS.out [] w5 hF5' (by simp) (by simp))
      | (go_at_call 314; have hT6 := hT5; with_reducible refine Calls.mono (HD.out w5 Q (((HF0.out.mono (by simp)).then HG2.out).then (hF5'.mono (by simp))) (by have h1 := HZs.out; have h2 := HG2.out.size; have h3 := hF5'.size; omega) (HQ2.out.same hF5') (by simp [World.cell?, hQr])) ?_; rintro e w6 ⟨ok, eo, el, ec, ho, hl, hc, c, rfl, hP6, hs6, hn6, ho6⟩; obtain ⟨p0, q0, q1, q2, q3, q4, q5, q6, q7, q8⟩ := keepS hn6 ho6 (by have := HZ4s.out.1; have := HZs.out; omega) (by have := HZ4s.out.2; have h3 := hF5'.size; omega) d0 y0 y1 y2 y3 y4 y5 y6 y7 y8; obtain ⟨hrT, t0, t1, t2, t3, t4, tf⟩ := keepT hn6 (by have := HG2.out.size; have := HZs.out; omega) hT5; obtain ⟨n1, n2, n3, n4⟩ : ob ≠ w2.heap.size ∧ w2.heap.size ≠ ob ∧ Z4 ≠ w2.heap.size ∧ w2.heap.size ≠ Z4 := (by have := HG2.out.size; have := HZs.out; have := HOz.out; have := HZ4s.out.2; omega))
      | (go_at_call 314; with_reducible refine Calls.mono (HD.out w5 Q (((HF0.out.mono (by simp)).then HG2.out).then (hF5'.mono (by simp))) (by have h1 := HZs.out; have h2 := HG2.out.size; have h3 := hF5'.size; omega) (HQ2.out.same hF5') (by simp [World.cell?, hQr])) ?_; rintro e w6 ⟨ok, eo, el, ec, ho, hl, hc, c, rfl, hP6, hs6, hn6, ho6⟩; obtain ⟨p0, q0, q1, q2, q3, q4, q5, q6, q7, q8⟩ := keepS hn6 ho6 (by have := HZ4s.out.1; have := HZs.out; omega) (by have := HZ4s.out.2; have h3 := hF5'.size; omega) d0 y0 y1 y2 y3 y4 y5 y6 y7 y8; obtain ⟨n1, n2, n3, n4⟩ : ob ≠ w6.heap.size ∧ w6.heap.size ≠ ob ∧ Z4 ≠ w6.heap.size ∧ w6.heap.size ≠ Z4 := (by have := HG2.out.size; have := HZs.out; have := HOz.out; have := HZ4s.out.2; have := hF5'.size; omega))
      | (go_at_call 314; with_reducible refine Calls.mono (HD.out (w5.alloc (.cells #[.int .i64 0, .bool false, .slice none 0 0, .slice none 0 0, .int .i64 0] 398)) Q ((((HF0.out.mono (by simp)).then HG2.out).then (hF5'.mono (by simp))).then (Fr.alloc _ _ _)) (by have h1 := HZs.out; have h2 := HG2.out.size; have h3 := hF5'.size; simp; omega) (HQ2.out.same (hF5'.then (Fr.alloc [] _ _))) (Lib.cell?_alloc_some _ (by simp [World.cell?, hQr]))) ?_; rintro e w6 ⟨ok, eo, el, ec, ho, hl, hc, c, rfl, hP6, hs6, hn6, ho6⟩; obtain ⟨p0, q0, q1, q2, q3, q4, q5, q6, q7, q8⟩ := keepS hn6 ho6 (by have := HZ4s.out.1; have := HZs.out; omega) (by have := HZ4s.out.2; have h3 := hF5'.size; simp; omega) (Lib.cell?_alloc_some _ d0) (Lib.cell?_alloc_some _ y0) (Lib.cell?_alloc_some _ y1) (Lib.cell?_alloc_some _ y2) (Lib.cell?_alloc_some _ y3) (Lib.cell?_alloc_some _ y4) (Lib.cell?_alloc_some _ y5) (Lib.cell?_alloc_some _ y6) (Lib.cell?_alloc_some _ y7) (Lib.cell?_alloc_some _ y8); obtain ⟨hrT, t0, t1, t2, t3, t4, tf⟩ := keepT hn6 (by have h1 := HZs.out; have h2 := HG2.out.size; have h3 := hF5'.size; omega) (heap_alloc_new w5 _); obtain ⟨n1, n2, n3, n4⟩ : ob ≠ w5.heap.size ∧ w5.heap.size ≠ ob ∧ Z4 ≠ w5.heap.size ∧ w5.heap.size ≠ Z4 := (by have := HG2.out.size; have := HZs.out; have := HOz.out; have := HZ4s.out.2; have := hF5'.size; omega)))
  all_goals (first
    | (have k := sets5_row (.int .i64 0) (.bool ok) (.slice eo el ec) (.slice ho hl hc) (.int .i64 c) (b := w5.heap.size) hrT.out
       obtain ⟨T6, HT6⟩ : ∃ T6, Hid (w5.heap.size = T6) := ⟨_, rfl⟩
       obtain ⟨r4, rz⟩ := sv_pack (hF5'.then (Fr.alloc [] _ _)) hn6 (by have := HZ4s.out.1; have := HZs.out; omega) HR2.out HZr.out
       have H7 : Hid (∃ T Wc, (Fr (Rg.own g pb) w Wc ∧ w.heap.size < Wc.heap.size ∧ OwQ Wc ob g s pb C xs ∧ Pd ok eo el ec ho hl hc c Wc w6 ∧ Wc.heap.size ≤ w6.heap.size) ∧ Fr T w6 _ ∧ (∀ j ∈ T, w.heap.size ≤ j ∧ j < Wc.heap.size) ∧ (T6 < Wc.heap.size ∨ w6.heap.size ≤ T6)) := ⟨[w5.heap.size], w5.alloc (.cells #[.int .i64 0, .bool false, .slice none 0 0, .slice none 0 0, .int .i64 0] 398), ⟨((((HF0.out.mono (by simp)).then HG2.out).then (hF5'.mono (by simp))).then (Fr.alloc _ _ _)), (by have h1 := HZs.out; have h2 := HG2.out.size; have h3 := hF5'.size; simp; omega), (HQ2.out.same (hF5'.then (Fr.alloc [] _ _))), hP6, hs6⟩, k.2, by intro j hj; simp at hj; subst hj; have h1 := HZs.out; have h2 := HG2.out.size; have h3 := hF5'.size; simp; omega, Or.inl (by rw [← HT6.out]; simp)⟩
       have R7 : Hid (_ ∧ _ ∧ _) := ⟨k.1, k.2.keep r4 (by simp; exact n3), k.2.keep rz (by simp; have h1 := HZs.out; have h2 := HG2.out.size; have h3 := hF5'.size; omega)⟩
       have N7 : Hid (Z4 ≠ w5.heap.size ∧ w.heap.size ≠ w5.heap.size ∧ w.heap.size ≤ w5.heap.size) := ⟨n3, by have h1 := HZs.out; have h2 := HG2.out.size; have h3 := hF5'.size; omega, by have h1 := HZs.out; have h2 := HG2.out.size; have h3 := hF5'.size; omega⟩
       clear k r4 rz c0 z0 z1 z2 z3 z4 z5 z6 z7 z8 d0 y0 y1 y2 y3 y4 y5 y6 y7 y8 p0 q0 q1 q2 q3 q4 q5 q6 q7 q8 t0 t1 t2 t3 t4 tf
       generalize World.setCell _ _ _ = w7 at H7 R7 ⊢
       rw [HT6.out] at R7 N7 ⊢)
    | (have k := sets5_row (.int .i64 0) (.bool ok) (.slice eo el ec) (.slice ho hl hc) (.int .i64 c) (b := w2.heap.size) hrT.out
       obtain ⟨T6, HT6⟩ : ∃ T6, Hid (w2.heap.size = T6) := ⟨_, rfl⟩
       obtain ⟨r4, rz⟩ := sv_pack hF5' hn6 (by have := HZ4s.out.1; have := HZs.out; omega) HR2.out HZr.out
       have H7 : Hid (∃ T Wc, (Fr (Rg.own g pb) w Wc ∧ w.heap.size < Wc.heap.size ∧ OwQ Wc ob g s pb C xs ∧ Pd ok eo el ec ho hl hc c Wc w6 ∧ Wc.heap.size ≤ w6.heap.size) ∧ Fr T w6 _ ∧ (∀ j ∈ T, w.heap.size ≤ j ∧ j < Wc.heap.size) ∧ (T6 < Wc.heap.size ∨ w6.heap.size ≤ T6)) := ⟨[w2.heap.size], w5, ⟨((HF0.out.mono (by simp)).then HG2.out).then (hF5'.mono (by simp)), (by have h1 := HZs.out; have h2 := HG2.out.size; have h3 := hF5'.size; omega), (HQ2.out.same hF5'), hP6, hs6⟩, k.2, by intro j hj; simp at hj; subst hj; have h1 := HZs.out; have h2 := HG2.out.size; have h3 := lt_of_block hT5; omega, Or.inl (by rw [← HT6.out]; exact lt_of_block hT5)⟩
       have R7 : Hid (_ ∧ _ ∧ _) := ⟨k.1, k.2.keep r4 (by simp; exact n3), k.2.keep rz (by simp; have h1 := HZs.out; have h2 := HG2.out.size; have h3 := hF5'.size; omega)⟩
       have N7 : Hid (Z4 ≠ w2.heap.size ∧ w.heap.size ≠ w2.heap.size ∧ w.heap.size ≤ w2.heap.size) := ⟨n3, by have h1 := HZs.out; have h2 := HG2.out.size; have h3 := hF5'.size; omega, by have h1 := HZs.out; have h2 := HG2.out.size; have h3 := hF5'.size; omega⟩
       clear k r4 rz c0 z0 z1 z2 z3 z4 z5 z6 z7 z8 d0 y0 y1 y2 y3 y4 y5 y6 y7 y8 p0 q0 q1 q2 q3 q4 q5 q6 q7 q8 t0 t1 t2 t3 t4 tf
       generalize World.setCell _ _ _ = w7 at H7 R7 ⊢
       rw [HT6.out] at R7 N7 ⊢)
    | (have k1 := heap_alloc_new w6 (.cells #[.int .i64 0, .bool ok, .slice eo el ec, .slice ho hl hc, .int .i64 c] 398)
       obtain ⟨T6, HT6⟩ : ∃ T6, Hid (w6.heap.size = T6) := ⟨_, rfl⟩
       have k2 := Fr.alloc [] w6 (.cells #[.int .i64 0, .bool ok, .slice eo el ec, .slice ho hl hc, .int .i64 c] 398)
       obtain ⟨r4, rz⟩ := sv_pack hF5' hn6 (by have := HZ4s.out.1; have := HZs.out; omega) HR2.out HZr.out
       have H7 : Hid (∃ T Wc, (Fr (Rg.own g pb) w Wc ∧ w.heap.size < Wc.heap.size ∧ OwQ Wc ob g s pb C xs ∧ Pd ok eo el ec ho hl hc c Wc w6 ∧ Wc.heap.size ≤ w6.heap.size) ∧ Fr T w6 _ ∧ (∀ j ∈ T, w.heap.size ≤ j ∧ j < Wc.heap.size) ∧ (T6 < Wc.heap.size ∨ w6.heap.size ≤ T6)) := ⟨[], w5, ⟨((HF0.out.mono (by simp)).then HG2.out).then (hF5'.mono (by simp)), (by have h1 := HZs.out; have h2 := HG2.out.size; have h3 := hF5'.size; omega), (HQ2.out.same hF5'), hP6, hs6⟩, k2, by simp, Or.inr (by rw [← HT6.out]; exact Nat.le_refl _)⟩
       have R7 : Hid (_ ∧ _ ∧ _) := ⟨k1, k2.keep r4 (by simp), k2.keep rz (by simp)⟩
       have N7 : Hid (Z4 ≠ w6.heap.size ∧ w.heap.size ≠ w6.heap.size ∧ w.heap.size ≤ w6.heap.size) := ⟨n3, by have h1 := HZs.out; have h2 := HG2.out.size; have h3 := hF5'.size; omega, by have h1 := HZs.out; have h2 := HG2.out.size; have h3 := hF5'.size; omega⟩
       clear k1 k2 r4 rz c0 z0 z1 z2 z3 z4 z5 z6 z7 z8 d0 y0 y1 y2 y3 y4 y5 y6 y7 y8 p0 q0 q1 q2 q3 q4 q5 q6 q7 q8
       generalize World.alloc _ _ = w7 at H7 R7 ⊢
       rw [HT6.out] at R7 N7 ⊢))
  all_goals (
    have hN7 := N7.out.1
    have hN8 : T6 ≠ Z4 := fun e => hN7 e.symm
    have a1 : w7.cell? ⟨Z4, 1, none⟩ = some (.int .i64 xf) := by rw [cell_of_row _ _ _ _ _ _ R7.out.2.1]; rfl
    have a2 : w7.cell? ⟨T6, 0, none⟩ = some (.int .i64 0) := by rw [cell_of_row _ _ _ _ _ _ R7.out.1]; rfl
    have a3 : w7.frozen? ⟨T6, 0, none⟩ = false := by simp [World.frozen?, R7.out.1]
    have r8 := vrow_setCell (j := 0) (.int .i64 xf) R7.out.1
    have f8 : Fr [T6] w7 (w7.setCell ⟨T6, 0, none⟩ (.int .i64 xf)) := Fr.set _ _ _ (by simp)
    have rz := f8.keep R7.out.2.2 (by simp; exact N7.out.2.1)
    have R8 := (show Hid (_ ∧ _ ∧ _) from ⟨r8, f8, rz⟩)
    clear r8 f8 rz
    go_upto_region 8 with fail
    generalize World.setCell _ _ _ = w8 at R8 ⊢
    have b0 : w8.cell? ⟨T6, 0, none⟩ = some (.int .i64 xf) := by rw [cell_of_row _ _ _ _ _ _ R8.out.1]; rfl
    have b1 : w8.cell? ⟨T6, 1, none⟩ = some (.bool ok) := by rw [cell_of_row _ _ _ _ _ _ R8.out.1]; rfl
    have b2 : w8.cell? ⟨T6, 2, none⟩ = some (.slice eo el ec) := by rw [cell_of_row _ _ _ _ _ _ R8.out.1]; rfl
    have b3 : w8.cell? ⟨T6, 3, none⟩ = some (.slice ho hl hc) := by rw [cell_of_row _ _ _ _ _ _ R8.out.1]; rfl
    have b4 : w8.cell? ⟨T6, 4, none⟩ = some (.int .i64 c) := by rw [cell_of_row _ _ _ _ _ _ R8.out.1]; rfl
    clear a1 a2 a3
    go_wp2_with (first
      | (refine wpList_storeRow rfl 398 (.tmp 2) (.tmp 35) rfl w.heap.size #[.int .i64 xf, .bool ok, .slice eo el ec, .slice ho hl hc, .int .i64 c] rfl rfl 398 _ R8.out.2.2 (by kernel_rfl) rfl (rs_one _ _ _ _ _ _ _ _ _) ?_; intro w9 HR9 hf9; go_frame)
      | fail)
    refine bodyPost_ret (results_ct_row rfl _ _ _ _ _ rfl (load_resp HR9.out)) rfl ?_
    obtain ⟨T, Wc, ⟨g1, g2, g3, g4, g5⟩, g6, g7, g8⟩ := H7.out
    have g9 : Fr [w.heap.size, T6] w7 w9 := (R8.out.2.1.mono (by intro y hy _; simp at hy ⊢; exact Or.inr hy)).then (hf9.mono (by intro y hy _; simp at hy ⊢; exact Or.inl hy))
    refine ⟨ok, eo, el, ec, ho, hl, hc, c, Wc, w6, rfl, g1, g2, g3, g4, g5, ?_⟩
    rcases g8 with g8 | g8
    · refine ⟨w.heap.size :: T6 :: T, (g6.mono (by intro y hy _; simp; exact Or.inr (Or.inr hy))).then (g9.mono (by intro y hy _; simp at hy ⊢; rcases hy with hy | hy <;> simp [hy])), fun j hj => ?_⟩
      simp only [List.mem_cons] at hj
      rcases hj with rfl | rfl | hj
      · exact ⟨Nat.le_refl _, g2⟩
      · exact ⟨N7.out.2.2, g8⟩
      · exact g7 j hj
    · refine ⟨w.heap.size :: T, g6.trans g9 (by intro y hy _; simp; exact Or.inr hy) (by intro y hy hl; simp at hy ⊢; rcases hy with hy | hy <;> first | exact Or.inl hy | omega), fun j hj => ?_⟩
      simp only [List.mem_cons] at hj
      rcases hj with rfl | hj
      · exact ⟨Nat.le_refl _, g2⟩
      · exact g7 j hj)
end
end Go.Proofs.YtakbodlicfmkjaaGreat.O

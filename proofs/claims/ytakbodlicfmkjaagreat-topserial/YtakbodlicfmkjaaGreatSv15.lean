/- Serve, by what the deed does. Conditions as each names them. -/
import Derived.Test.YtakbodlicfmkjaaGreatOw15
namespace Go.Proofs.YtakbodlicfmkjaaGreat.O
open Go.ChangeShapes Go.WideShapes Go.ChangeAt Go.RowKit Go.Lib
set_option linter.unusedVariables false
set_option linter.unusedSimpArgs false
theorem idx_1 (Q : Nat) (W : World) : (Instr.index 405 (.agg #[.nilFunc, .func (Fn.func 310) #[] #[.pointer (some ⟨Q, 0, none⟩)], .func (Fn.func 312) #[] #[.pointer (some ⟨Q, 0, none⟩)], .func (Fn.func 314) #[] #[.pointer (some ⟨Q, 0, none⟩)], .func (Fn.func 316) #[] #[.pointer (some ⟨Q, 0, none⟩)], .func (Fn.func 318) #[] #[.pointer (some ⟨Q, 0, none⟩)]]) (.int .u8 1)).run Tryz.prog W = .ok (.func (Fn.func 310) #[] #[.pointer (some ⟨Q, 0, none⟩)]) W := by kernel_rfl
theorem idx_2 (Q : Nat) (W : World) : (Instr.index 405 (.agg #[.nilFunc, .func (Fn.func 310) #[] #[.pointer (some ⟨Q, 0, none⟩)], .func (Fn.func 312) #[] #[.pointer (some ⟨Q, 0, none⟩)], .func (Fn.func 314) #[] #[.pointer (some ⟨Q, 0, none⟩)], .func (Fn.func 316) #[] #[.pointer (some ⟨Q, 0, none⟩)], .func (Fn.func 318) #[] #[.pointer (some ⟨Q, 0, none⟩)]]) (.int .u8 2)).run Tryz.prog W = .ok (.func (Fn.func 312) #[] #[.pointer (some ⟨Q, 0, none⟩)]) W := by kernel_rfl
theorem idx_3 (Q : Nat) (W : World) : (Instr.index 405 (.agg #[.nilFunc, .func (Fn.func 310) #[] #[.pointer (some ⟨Q, 0, none⟩)], .func (Fn.func 312) #[] #[.pointer (some ⟨Q, 0, none⟩)], .func (Fn.func 314) #[] #[.pointer (some ⟨Q, 0, none⟩)], .func (Fn.func 316) #[] #[.pointer (some ⟨Q, 0, none⟩)], .func (Fn.func 318) #[] #[.pointer (some ⟨Q, 0, none⟩)]]) (.int .u8 3)).run Tryz.prog W = .ok (.func (Fn.func 314) #[] #[.pointer (some ⟨Q, 0, none⟩)]) W := by kernel_rfl
theorem idx_4 (Q : Nat) (W : World) : (Instr.index 405 (.agg #[.nilFunc, .func (Fn.func 310) #[] #[.pointer (some ⟨Q, 0, none⟩)], .func (Fn.func 312) #[] #[.pointer (some ⟨Q, 0, none⟩)], .func (Fn.func 314) #[] #[.pointer (some ⟨Q, 0, none⟩)], .func (Fn.func 316) #[] #[.pointer (some ⟨Q, 0, none⟩)], .func (Fn.func 318) #[] #[.pointer (some ⟨Q, 0, none⟩)]]) (.int .u8 4)).run Tryz.prog W = .ok (.func (Fn.func 316) #[] #[.pointer (some ⟨Q, 0, none⟩)]) W := by kernel_rfl
theorem idx_5 (Q : Nat) (W : World) : (Instr.index 405 (.agg #[.nilFunc, .func (Fn.func 310) #[] #[.pointer (some ⟨Q, 0, none⟩)], .func (Fn.func 312) #[] #[.pointer (some ⟨Q, 0, none⟩)], .func (Fn.func 314) #[] #[.pointer (some ⟨Q, 0, none⟩)], .func (Fn.func 316) #[] #[.pointer (some ⟨Q, 0, none⟩)], .func (Fn.func 318) #[] #[.pointer (some ⟨Q, 0, none⟩)]]) (.int .u8 5)).run Tryz.prog W = .ok (.func (Fn.func 318) #[] #[.pointer (some ⟨Q, 0, none⟩)]) W := by kernel_rfl
section
variable {w : World} {ob g C : Nat} {s : Addr} {pb : Option Nat} {xs : List Rv}
theorem keepS {w W w6 : World} {ob Z4 : Nat} {v : Value} {v0 v1 v2 v3 v4 v5 v6 v7 v8 : Value} (hn : ∀ j, w.heap.size ≤ j → j < W.heap.size → w6.heap[j]? = W.heap[j]?) (ho : w6.heap[ob]? = W.heap[ob]?) (h1 : w.heap.size ≤ Z4) (h2 : Z4 < W.heap.size) (d0 : W.cell? ⟨ob, 0, none⟩ = some v)
    (y0 : W.cell? ⟨Z4, 0, none⟩ = some v0) (y1 : W.cell? ⟨Z4, 1, none⟩ = some v1) (y2 : W.cell? ⟨Z4, 2, none⟩ = some v2) (y3 : W.cell? ⟨Z4, 3, none⟩ = some v3) (y4 : W.cell? ⟨Z4, 4, none⟩ = some v4) (y5 : W.cell? ⟨Z4, 5, none⟩ = some v5) (y6 : W.cell? ⟨Z4, 6, none⟩ = some v6) (y7 : W.cell? ⟨Z4, 7, none⟩ = some v7) (y8 : W.cell? ⟨Z4, 8, none⟩ = some v8) :
    w6.cell? ⟨ob, 0, none⟩ = some v ∧ w6.cell? ⟨Z4, 0, none⟩ = some v0 ∧ w6.cell? ⟨Z4, 1, none⟩ = some v1 ∧ w6.cell? ⟨Z4, 2, none⟩ = some v2 ∧ w6.cell? ⟨Z4, 3, none⟩ = some v3 ∧ w6.cell? ⟨Z4, 4, none⟩ = some v4 ∧ w6.cell? ⟨Z4, 5, none⟩ = some v5 ∧ w6.cell? ⟨Z4, 6, none⟩ = some v6 ∧ w6.cell? ⟨Z4, 7, none⟩ = some v7 ∧ w6.cell? ⟨Z4, 8, none⟩ = some v8 := by
  have hb := hn Z4 h1 h2
  exact ⟨(World.cell?_of_block ho).trans d0, (World.cell?_of_block hb).trans y0, (World.cell?_of_block hb).trans y1, (World.cell?_of_block hb).trans y2, (World.cell?_of_block hb).trans y3, (World.cell?_of_block hb).trans y4, (World.cell?_of_block hb).trans y5, (World.cell?_of_block hb).trans y6, (World.cell?_of_block hb).trans y7, (World.cell?_of_block hb).trans y8⟩
theorem sets5_row {W : World} {b : Nat} {t : TypeId} {u0 u1 u2 u3 u4 : Value} (v0 v1 v2 v3 v4 : Value) (h : W.heap[b]? = some (.cells #[u0, u1, u2, u3, u4] t (0, 0))) : (((((W.setCell ⟨b, 0, none⟩ v0).setCell ⟨b, 1, none⟩ v1).setCell ⟨b, 2, none⟩ v2).setCell ⟨b, 3, none⟩ v3).setCell ⟨b, 4, none⟩ v4).heap[b]? = some (.cells #[v0, v1, v2, v3, v4] t (0, 0)) ∧ Fr [b] W (((((W.setCell ⟨b, 0, none⟩ v0).setCell ⟨b, 1, none⟩ v1).setCell ⟨b, 2, none⟩ v2).setCell ⟨b, 3, none⟩ v3).setCell ⟨b, 4, none⟩ v4) := by
  obtain ⟨h1, h2⟩ := setCells_row [v0, v1, v2, v3, v4] 0 W _ h (by simp)
  exact ⟨h1.trans (by simp [splice]), h2⟩
theorem sv_pack {w w2 Wc w6 : World} {Z4 : Nat} {A B : Obj} (hFc : Fr [] w2 Wc) (hn6 : ∀ j, w.heap.size ≤ j → j < Wc.heap.size → w6.heap[j]? = Wc.heap[j]?) (hZ4 : w.heap.size ≤ Z4) (r4 : w2.heap[Z4]? = some A) (rz : w2.heap[w.heap.size]? = some B) : w6.heap[Z4]? = some A ∧ w6.heap[w.heap.size]? = some B := by
  have lt : ∀ j (o : Obj), w2.heap[j]? = some o → j < w2.heap.size := fun j o h => by
    rcases Nat.lt_or_ge j w2.heap.size with h1 | h1
    · exact h1
    · rw [Array.getElem?_eq_none h1] at h; cases h
  have hs := hFc.size
  have a := lt _ _ r4
  have b := lt _ _ rz
  exact ⟨(hn6 _ hZ4 (by omega)).trans ((hFc.block _ a (by simp)).trans r4), (hn6 _ (Nat.le_refl _) (by omega)).trans ((hFc.block _ b (by simp)).trans rz)⟩
theorem keepT {w W w6 : World} {T : Nat} (hn : ∀ j, w.heap.size ≤ j → j < W.heap.size → w6.heap[j]? = W.heap[j]?) (h1 : w.heap.size ≤ T) (h2 : W.heap[T]? = some (.cells #[.int .i64 0, .bool false, .slice none 0 0, .slice none 0 0, .int .i64 0] 398 (0, 0))) :
    Hid (w6.heap[T]? = some (.cells #[.int .i64 0, .bool false, .slice none 0 0, .slice none 0 0, .int .i64 0] 398 (0, 0))) ∧ w6.cell? ⟨T, 0, none⟩ = some (.int .i64 0) ∧ w6.cell? ⟨T, 1, none⟩ = some (.bool false) ∧ w6.cell? ⟨T, 2, none⟩ = some (.slice none 0 0) ∧ w6.cell? ⟨T, 3, none⟩ = some (.slice none 0 0) ∧ w6.cell? ⟨T, 4, none⟩ = some (.int .i64 0) ∧ ∀ j, w6.frozen? ⟨T, j, none⟩ = false := by
  have hr := (hn T h1 (lt_of_block h2)).trans h2
  refine ⟨hr, ?_, ?_, ?_, ?_, ?_, fun j => by simp [World.frozen?, hr]⟩ <;> (rw [cell_of_row _ _ _ _ _ _ hr]; rfl)
set_option maxHeartbeats 2000000 in
set_option maxRecDepth 100000 in
theorem oserve_nil (h : OwQ w ob g s pb C []) : Calls Tryz.prog 305 #[.pointer (some ⟨ob, 0, none⟩)] w fun e w' => e = .returned (.tuple #[.agg #[.int .i64 0, .bool false, .slice none 0 0, .slice none 0 0, .int .i64 0], .int .i64 9]) ∧ Fr [] w w' := by
  obtain ⟨wz, HWz⟩ : ∃ wz, Hid (w.alloc (.cells #[.int .i64 0, .bool false, .slice none 0 0, .slice none 0 0, .int .i64 0] 398) = wz) := ⟨_, rfl⟩
  have hF0 : Fr [] w wz := by rw [← HWz.out]; exact Fr.alloc [] w _
  have hrow : wz.heap[w.heap.size]? = some (.cells #[.int .i64 0, .bool false, .slice none 0 0, .slice none 0 0, .int .i64 0] 398 (0, 0)) := by rw [← HWz.out]; exact heap_alloc_new w _
  obtain ⟨Z, HZ⟩ : ∃ Z, Hid (w.heap.size = Z) := ⟨_, rfl⟩
  rw [HZ.out] at hrow
  have HT : Hid (Calls _ _ _ _ _) := othere_any (h.same hF0)
  have HK : Hid (Calls _ _ _ _ _) := gtake_nil wz (h.same hF0).rg
  have c1 := (h.same hF0).c1
  have HF0 : Hid (Fr [] w wz) := hF0
  have HR0 : Hid (∀ S W, Fr S wz W → Z ∉ S → W.heap[Z]? = some (.cells #[.int .i64 0, .bool false, .slice none 0 0, .slice none 0 0, .int .i64 0] 398 (0, 0))) := fun S W hf hn => hf.keep hrow hn
  have HZw : Hid (w.heap.size ≤ Z) := by show _ ≤ _; rw [HZ.out]; omega
  clear h hF0 hrow
  simp only [Rv.v, Rv.zero] at HK
  go_enter Tryz.func305, Tryz.ntmps305
  go_wp2_with fail
  rw [HWz.out]
  refine Calls.mono HT.out ?_
  rintro e w1 ⟨rfl, rfl⟩
  go_wp2_with fail
  refine Calls.mono HK.out ?_
  rintro e w1 ⟨rfl, hF1⟩
  have hr4 := heap_alloc_new w1 (.cells #[.int .u8 0, .int .i64 0, .int .i64 0, .string ⟨#[]⟩, .string ⟨#[]⟩, .bool false, .string ⟨#[]⟩, .string ⟨#[]⟩, .slice none 0 0] 278)
  clear HT HK c1
  go_upto_region 4 with (first
    | (refine wpList_storeRow rfl 278 (.tmp 4) (.tmp 17) rfl w1.heap.size #[.int .u8 0, .int .i64 0, .int .i64 0, .string ⟨#[]⟩, .string ⟨#[]⟩, .bool false, .string ⟨#[]⟩, .string ⟨#[]⟩, .slice none 0 0] rfl rfl 278 _ hr4 (by kernel_rfl) rfl (rv_one Rv.zero) ?_; intro w2 HR2 hf2; go_frame)
    | fail)
  have hG2 : Fr [] wz w2 := hF1.then ((Fr.alloc [] w1 _).on hf2 (by intro y hy; simp at hy; omega))
  have hrz := HR0.out _ _ hG2 (by simp)
  go_wp2_with (first
    | (rw [HZ.out]; refine wpList_storeRow rfl 398 (.tmp 2) (.tmp 21) rfl Z #[.int .i64 0, .bool false, .slice none 0 0, .slice none 0 0, .int .i64 0] rfl rfl 398 _ hrz (by kernel_rfl) rfl (rs_one _ _ _ _ _ _ _ _ _) ?_; intro w3 HR3 hf3; go_frame)
    | fail)
  refine bodyPost_ret (results_ct_row rfl _ _ _ _ _ rfl (load_resp HR3.out)) rfl ?_
  exact ⟨rfl, (HF0.out.then hG2).on hf3 (by intro y hy; simp at hy; have := HZw.out; omega)⟩
end
end Go.Proofs.YtakbodlicfmkjaaGreat.O

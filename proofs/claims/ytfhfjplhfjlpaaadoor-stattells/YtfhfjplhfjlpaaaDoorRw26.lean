/- The rows of all fields: the array of pointers and functions. No conditions. -/
import Derived.Test.YtfhfjplhfjlpaaaDoorBz26
import Derived.Laws.EntriesVeiled
namespace Go.Proofs.YtfhfjplhfjlpaaaDoor
open Go.ChangeShapes Go.WideShapes Go.ChangeAt Go.RowKit Go.Lib
set_option linter.unusedVariables false
set_option linter.unusedSimpArgs false

/-- The rows over the stats at sb and the box at Q. -/
def rwA (sb Q : Nat) : Array Value := #[.pointer (some ⟨sb, 0, none⟩), .func (Fn.func 54) #[] #[], .pointer (some ⟨sb, 1, none⟩), .func (Fn.func 55) #[] #[], .pointer (some ⟨sb, 2, none⟩), .func (Fn.func 57) #[] #[], .pointer (some ⟨sb, 3, none⟩), .func (Fn.func 58) #[] #[.pointer (some ⟨Q, 0, none⟩)], .pointer (some ⟨sb, 4, none⟩), .func (Fn.func 60) #[] #[]]
theorem rwA_one (sb Q : Nat) : (rwA sb Q).all (·.oneCell') = true := by simp [rwA, Value.oneCell']
theorem load_rows {w : World} {g sb Q : Nat} (h : w.heap[g]? = some (.cells (rwA sb Q) 62 (0, 0))) : (loadVar 62 ⟨g, 0, none⟩).run Tryd.prog w = .ok (.agg (rwA sb Q)) w :=
  run_loadVar_row (P := Tryd.prog) _ g _ 62 _ _ (.array 5 61) h (by kernel_rfl) rfl (by kernel_rfl)
theorem row_putj {w : World} {k j : Nat} {ty : TypeId} {cs : Array Value} {v : Value} (h : w.heap[k]? = some (.cells cs ty (0, 0))) : (w.setCell ⟨k, j, none⟩ v).heap[k]? = some (.cells (cs.setIfInBounds j v) ty (0, 0)) := by
  show (w.heap.modify k _)[k]? = _
  rw [Array.getElem?_modify, if_pos rfl, h]
  rfl
theorem row_put10 {w : World} {B : Nat} {ty : TypeId} {x0 x1 x2 x3 x4 x5 x6 x7 x8 x9 : Value} (h : w.heap[B]? = some (.cells #[x0, x1, x2, x3, x4, x5, x6, x7, x8, x9] ty (0, 0))) (v0 v1 v2 v3 v4 v5 v6 v7 v8 v9 : Value) :
    ((((((((((w.setCell ⟨B, 0, none⟩ v0).setCell ⟨B, 1, none⟩ v1).setCell ⟨B, 2, none⟩ v2).setCell ⟨B, 3, none⟩ v3).setCell ⟨B, 4, none⟩ v4).setCell ⟨B, 5, none⟩ v5).setCell ⟨B, 6, none⟩ v6).setCell ⟨B, 7, none⟩ v7).setCell ⟨B, 8, none⟩ v8).setCell ⟨B, 9, none⟩ v9).heap[B]? = some (.cells #[v0, v1, v2, v3, v4, v5, v6, v7, v8, v9] ty (0, 0)) := by
  have hh := row_putj (v := v9) (j := 9) (row_putj (v := v8) (j := 8) (row_putj (v := v7) (j := 7) (row_putj (v := v6) (j := 6) (row_putj (v := v5) (j := 5) (row_putj (v := v4) (j := 4) (row_putj (v := v3) (j := 3) (row_putj (v := v2) (j := 2) (row_putj (v := v1) (j := 1) (row_putj (v := v0) (j := 0) h)))))))))
  simp only [List.setIfInBounds_toArray, List.set_cons_succ, List.set_cons_zero] at hh
  exact hh
theorem fr_put10 {w : World} {B : Nat} (v0 v1 v2 v3 v4 v5 v6 v7 v8 v9 : Value) :
    Fr [B] w ((((((((((w.setCell ⟨B, 0, none⟩ v0).setCell ⟨B, 1, none⟩ v1).setCell ⟨B, 2, none⟩ v2).setCell ⟨B, 3, none⟩ v3).setCell ⟨B, 4, none⟩ v4).setCell ⟨B, 5, none⟩ v5).setCell ⟨B, 6, none⟩ v6).setCell ⟨B, 7, none⟩ v7).setCell ⟨B, 8, none⟩ v8).setCell ⟨B, 9, none⟩ v9) := by
  have f : ∀ (W : World) (j : Nat) (v : Value), Fr [B] W (W.setCell ⟨B, j, none⟩ v) := fun W j v => Fr.set _ _ _ (by simp)
  exact (((((((((f _ _ _).then (f _ _ _)).then (f _ _ _)).then (f _ _ _)).then (f _ _ _)).then (f _ _ _)).then (f _ _ _)).then (f _ _ _)).then (f _ _ _)).then (f _ _ _)
set_option maxHeartbeats 4000000 in
set_option maxRecDepth 100000 in
theorem rows_any (sb g L : Nat) (w : World) : Calls Tryd.prog 15 #[.pointer (some ⟨sb, 0, none⟩), .slice (some ⟨g, 0, none⟩) L L] w fun e w' => ∃ Q, e = .returned (.agg (rwA sb Q)) ∧ w.heap.size ≤ Q ∧ w'.heap[Q]? = some (.cells #[.slice (some ⟨g, 0, none⟩) L L] 57 (0, 0)) ∧ Fr [] w w' := by
  obtain ⟨wb, HW⟩ : ∃ wb, Hid ((w.alloc (.cells #[.slice (some ⟨g, 0, none⟩) L L] 57)).alloc (.cells #[.pointer none, .nilFunc, .pointer none, .nilFunc, .pointer none, .nilFunc, .pointer none, .nilFunc, .pointer none, .nilFunc] 62) = wb) := ⟨_, rfl⟩
  have hQ : wb.heap[w.heap.size]? = some (.cells #[.slice (some ⟨g, 0, none⟩) L L] 57 (0, 0)) := by rw [← HW.out]; exact (Fr.alloc [] _ _).keep (heap_alloc_new w _) (by simp)
  have hr : wb.heap[w.heap.size + 1]? = some (.cells #[.pointer none, .nilFunc, .pointer none, .nilFunc, .pointer none, .nilFunc, .pointer none, .nilFunc, .pointer none, .nilFunc] 62 (0, 0)) := by
    rw [← HW.out, show w.heap.size + 1 = (w.alloc (.cells #[.slice (some ⟨g, 0, none⟩) L L] 57)).heap.size by simp]
    exact heap_alloc_new _ _
  have HF : Hid (Fr [] w wb) := by rw [← HW.out]; exact (Fr.alloc [] w _).then (Fr.alloc _ _ _)
  obtain ⟨b, HB⟩ : ∃ b, Hid (w.heap.size = b) := ⟨_, rfl⟩
  rw [HB.out] at hQ hr
  have HQ : Hid (_ = _) := hQ
  have HR : Hid (_ = _) := hr
  have c0 : wb.cell? ⟨b + 1, 0, none⟩ = some (.pointer none) := by rw [cell_of_row _ _ _ _ _ _ hr]; rfl
  have c1 : wb.cell? ⟨b + 1, 1, none⟩ = some .nilFunc := by rw [cell_of_row _ _ _ _ _ _ hr]; rfl
  have c2 : wb.cell? ⟨b + 1, 2, none⟩ = some (.pointer none) := by rw [cell_of_row _ _ _ _ _ _ hr]; rfl
  have c3 : wb.cell? ⟨b + 1, 3, none⟩ = some .nilFunc := by rw [cell_of_row _ _ _ _ _ _ hr]; rfl
  have c4 : wb.cell? ⟨b + 1, 4, none⟩ = some (.pointer none) := by rw [cell_of_row _ _ _ _ _ _ hr]; rfl
  have c5 : wb.cell? ⟨b + 1, 5, none⟩ = some .nilFunc := by rw [cell_of_row _ _ _ _ _ _ hr]; rfl
  have c6 : wb.cell? ⟨b + 1, 6, none⟩ = some (.pointer none) := by rw [cell_of_row _ _ _ _ _ _ hr]; rfl
  have c7 : wb.cell? ⟨b + 1, 7, none⟩ = some .nilFunc := by rw [cell_of_row _ _ _ _ _ _ hr]; rfl
  have c8 : wb.cell? ⟨b + 1, 8, none⟩ = some (.pointer none) := by rw [cell_of_row _ _ _ _ _ _ hr]; rfl
  have c9 : wb.cell? ⟨b + 1, 9, none⟩ = some .nilFunc := by rw [cell_of_row _ _ _ _ _ _ hr]; rfl
  have hfz : ∀ j, wb.frozen? ⟨b + 1, j, none⟩ = false := fun j => by simp [World.frozen?, hr]
  clear hQ hr
  go_enter Tryd.func15, Tryd.ntmps15
  go_upto_region 1 with fail
  rw [HW.out, HB.out]
  go_wp2_with fail
  go_region
  have hrow := (Fr.drew [] _).keep (row_put10 HR.out (.pointer (some ⟨sb, 0, none⟩)) (.func (Fn.func 54) #[] #[]) (.pointer (some ⟨sb, 1, none⟩)) (.func (Fn.func 55) #[] #[]) (.pointer (some ⟨sb, 2, none⟩)) (.func (Fn.func 57) #[] #[]) (.pointer (some ⟨sb, 3, none⟩)) (.func (Fn.func 58) #[] #[.pointer (some ⟨b, 0, none⟩)]) (.pointer (some ⟨sb, 4, none⟩)) (.func (Fn.func 60) #[] #[])) (by simp)
  have hfr := (fr_put10 (w := wb) (B := b + 1) (.pointer (some ⟨sb, 0, none⟩)) (.func (Fn.func 54) #[] #[]) (.pointer (some ⟨sb, 1, none⟩)) (.func (Fn.func 55) #[] #[]) (.pointer (some ⟨sb, 2, none⟩)) (.func (Fn.func 57) #[] #[]) (.pointer (some ⟨sb, 3, none⟩)) (.func (Fn.func 58) #[] #[.pointer (some ⟨b, 0, none⟩)]) (.pointer (some ⟨sb, 4, none⟩)) (.func (Fn.func 60) #[] #[])).then (Fr.drew [b + 1] _)
  generalize World.drew _ = w3 at hrow hfr ⊢
  have HR3 : Hid (w3.heap[b + 1]? = some (.cells (rwA sb b) 62 (0, 0))) := hrow
  have HF3 : Hid (Fr [b + 1] wb w3) := hfr
  clear hrow hfr c0 c1 c2 c3 c4 c5 c6 c7 c8 c9 hfz
  go_wp2_with fail
  refine bodyPost_ret (results_c_row rfl _ _ _ (b + 1) _ rfl (load_rows HR3.out)) rfl ?_
  refine ⟨b, rfl, by have := HB.out; omega, HF3.out.keep HQ.out (by simp), HF.out.on HF3.out (by intro y hy; have := HB.out; simp at hy; omega)⟩
end Go.Proofs.YtfhfjplhfjlpaaaDoor

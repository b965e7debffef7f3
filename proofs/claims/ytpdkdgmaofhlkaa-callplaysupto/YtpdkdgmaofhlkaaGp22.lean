/- Texts of this claim laid together, one behind the other: contracts and plain lemmas; conditions as each names them. -/
import Derived.Test.YtpdkdgmaofhlkaaGp21
import Derived.BigQuiet
/- The document's task that is not there; two answers of nothing are the same; how a task that is not there stands. No conditions. -/
namespace Go.Proofs.Ytpdkdgmaofhlkaa
open Go.ChangeShapes Go.WideShapes Go.ChangeAt Go.RowKit Go.Lib
set_option linter.unusedVariables false
set_option linter.unusedSimpArgs false

theorem ybegin_nil (ma le : Int) (v : Value) (w : World) : Calls Try.prog 26 #[.pointer none, .int .i64 ma, .int .i64 le, v] w fun e w' => e = .returned (.int .i64 2) ∧ w = w' := by
  go_enter Try.func26, Try.ntmps26
  go_wp2
  go_ret
  exact ⟨rfl, rfl⟩
theorem ysent_nil (w : World) : Calls Try.prog 31 #[.pointer none] w fun e w' => e = .returned (.int .i64 2) ∧ w = w' := by
  go_enter Try.func31, Try.ntmps31
  go_wp2
  go_ret
  exact ⟨rfl, rfl⟩
theorem ygot_nil (r : Rp) (w : World) : Calls Try.prog 29 #[.pointer none, .agg r.a] w fun e w' => e = .returned (.int .i64 2) ∧ Fr [] w w' := by
  obtain ⟨a, b, c, d, e, f, g, i, j⟩ := r
  simp only [Rp.a]
  have HF : Hid (Fr [] w (w.alloc (.cells #[.int .i64 a, .bool b, .slice c d e, .slice f g i, .int .i64 j] 46))) := Fr.alloc [] w _
  go_enter Try.func29, Try.ntmps29
  go_wp2
  go_ret
  exact ⟨rfl, HF.out⟩
theorem ymark_nil (w : World) : Calls Try.prog 36 #[.pointer none] w fun e w' => e = .returned (.tuple #[.int .i64 0, .bool false]) ∧ w = w' := by
  go_enter Try.func36, Try.ntmps36
  go_wp2
  go_ret2
  exact ⟨rfl, rfl⟩
theorem yall_nil (w : World) : Calls Try.prog 33 #[.pointer none] w fun e w' => e = .returned (.bool false) ∧ Fr [] w w' := by
  go_enter Try.func33, Try.ntmps33
  go_wp2_with fail
  go_quiet (fail)
  go_wp2
  go_ret
  exact ⟨rfl, Fr.drewN _ _ _⟩
set_option maxHeartbeats 1000000 in
theorem nine_fin {W : World} {b : Nat} {u0 u1 u2 u3 u4 u5 u6 u7 u8 v0 v1 v2 v3 v4 v5 v6 v7 v8 : Value} {ty : TypeId} (h : W.heap[b]? = some (.cells #[u0, u1, u2, u3, u4, u5, u6, u7, u8] ty (0, 0))) : (((((((((W.setCell ⟨b, 0, none⟩ v0).setCell ⟨b, 1, none⟩ v1).setCell ⟨b, 2, none⟩ v2).setCell ⟨b, 3, none⟩ v3).setCell ⟨b, 4, none⟩ v4).setCell ⟨b, 5, none⟩ v5).setCell ⟨b, 6, none⟩ v6).setCell ⟨b, 7, none⟩ v7).setCell ⟨b, 8, none⟩ v8).heap[b]? = some (.cells #[v0, v1, v2, v3, v4, v5, v6, v7, v8] ty (0, 0)) ∧ Fr [b] W (((((((((W.setCell ⟨b, 0, none⟩ v0).setCell ⟨b, 1, none⟩ v1).setCell ⟨b, 2, none⟩ v2).setCell ⟨b, 3, none⟩ v3).setCell ⟨b, 4, none⟩ v4).setCell ⟨b, 5, none⟩ v5).setCell ⟨b, 6, none⟩ v6).setCell ⟨b, 7, none⟩ v7).setCell ⟨b, 8, none⟩ v8) := by
  have h0 : (W.setCell ⟨b, 0, none⟩ v0).heap[b]? = some (.cells #[v0, u1, u2, u3, u4, u5, u6, u7, u8] ty (0, 0)) := by rw [row_put17 _ h]; rfl
  have h1 : ((W.setCell ⟨b, 0, none⟩ v0).setCell ⟨b, 1, none⟩ v1).heap[b]? = some (.cells #[v0, v1, u2, u3, u4, u5, u6, u7, u8] ty (0, 0)) := by rw [row_put17 _ h0]; rfl
  have h2 : (((W.setCell ⟨b, 0, none⟩ v0).setCell ⟨b, 1, none⟩ v1).setCell ⟨b, 2, none⟩ v2).heap[b]? = some (.cells #[v0, v1, v2, u3, u4, u5, u6, u7, u8] ty (0, 0)) := by rw [row_put17 _ h1]; rfl
  have h3 : ((((W.setCell ⟨b, 0, none⟩ v0).setCell ⟨b, 1, none⟩ v1).setCell ⟨b, 2, none⟩ v2).setCell ⟨b, 3, none⟩ v3).heap[b]? = some (.cells #[v0, v1, v2, v3, u4, u5, u6, u7, u8] ty (0, 0)) := by rw [row_put17 _ h2]; rfl
  have h4 : (((((W.setCell ⟨b, 0, none⟩ v0).setCell ⟨b, 1, none⟩ v1).setCell ⟨b, 2, none⟩ v2).setCell ⟨b, 3, none⟩ v3).setCell ⟨b, 4, none⟩ v4).heap[b]? = some (.cells #[v0, v1, v2, v3, v4, u5, u6, u7, u8] ty (0, 0)) := by rw [row_put17 _ h3]; rfl
  have h5 : ((((((W.setCell ⟨b, 0, none⟩ v0).setCell ⟨b, 1, none⟩ v1).setCell ⟨b, 2, none⟩ v2).setCell ⟨b, 3, none⟩ v3).setCell ⟨b, 4, none⟩ v4).setCell ⟨b, 5, none⟩ v5).heap[b]? = some (.cells #[v0, v1, v2, v3, v4, v5, u6, u7, u8] ty (0, 0)) := by rw [row_put17 _ h4]; rfl
  have h6 : (((((((W.setCell ⟨b, 0, none⟩ v0).setCell ⟨b, 1, none⟩ v1).setCell ⟨b, 2, none⟩ v2).setCell ⟨b, 3, none⟩ v3).setCell ⟨b, 4, none⟩ v4).setCell ⟨b, 5, none⟩ v5).setCell ⟨b, 6, none⟩ v6).heap[b]? = some (.cells #[v0, v1, v2, v3, v4, v5, v6, u7, u8] ty (0, 0)) := by rw [row_put17 _ h5]; rfl
  have h7 : ((((((((W.setCell ⟨b, 0, none⟩ v0).setCell ⟨b, 1, none⟩ v1).setCell ⟨b, 2, none⟩ v2).setCell ⟨b, 3, none⟩ v3).setCell ⟨b, 4, none⟩ v4).setCell ⟨b, 5, none⟩ v5).setCell ⟨b, 6, none⟩ v6).setCell ⟨b, 7, none⟩ v7).heap[b]? = some (.cells #[v0, v1, v2, v3, v4, v5, v6, v7, u8] ty (0, 0)) := by rw [row_put17 _ h6]; rfl
  have h8 : (((((((((W.setCell ⟨b, 0, none⟩ v0).setCell ⟨b, 1, none⟩ v1).setCell ⟨b, 2, none⟩ v2).setCell ⟨b, 3, none⟩ v3).setCell ⟨b, 4, none⟩ v4).setCell ⟨b, 5, none⟩ v5).setCell ⟨b, 6, none⟩ v6).setCell ⟨b, 7, none⟩ v7).setCell ⟨b, 8, none⟩ v8).heap[b]? = some (.cells #[v0, v1, v2, v3, v4, v5, v6, v7, v8] ty (0, 0)) := by rw [row_put17 _ h7]; rfl
  have f0 : Fr [b] W (W.setCell ⟨b, 0, none⟩ v0) := Fr.set W ⟨b, 0, none⟩ v0 (by simp)
  have f1 : Fr [b] W ((W.setCell ⟨b, 0, none⟩ v0).setCell ⟨b, 1, none⟩ v1) := f0.then (Fr.set (W.setCell ⟨b, 0, none⟩ v0) ⟨b, 1, none⟩ v1 (by simp))
  have f2 : Fr [b] W (((W.setCell ⟨b, 0, none⟩ v0).setCell ⟨b, 1, none⟩ v1).setCell ⟨b, 2, none⟩ v2) := f1.then (Fr.set ((W.setCell ⟨b, 0, none⟩ v0).setCell ⟨b, 1, none⟩ v1) ⟨b, 2, none⟩ v2 (by simp))
  have f3 : Fr [b] W ((((W.setCell ⟨b, 0, none⟩ v0).setCell ⟨b, 1, none⟩ v1).setCell ⟨b, 2, none⟩ v2).setCell ⟨b, 3, none⟩ v3) := f2.then (Fr.set (((W.setCell ⟨b, 0, none⟩ v0).setCell ⟨b, 1, none⟩ v1).setCell ⟨b, 2, none⟩ v2) ⟨b, 3, none⟩ v3 (by simp))
  have f4 : Fr [b] W (((((W.setCell ⟨b, 0, none⟩ v0).setCell ⟨b, 1, none⟩ v1).setCell ⟨b, 2, none⟩ v2).setCell ⟨b, 3, none⟩ v3).setCell ⟨b, 4, none⟩ v4) := f3.then (Fr.set ((((W.setCell ⟨b, 0, none⟩ v0).setCell ⟨b, 1, none⟩ v1).setCell ⟨b, 2, none⟩ v2).setCell ⟨b, 3, none⟩ v3) ⟨b, 4, none⟩ v4 (by simp))
  have f5 : Fr [b] W ((((((W.setCell ⟨b, 0, none⟩ v0).setCell ⟨b, 1, none⟩ v1).setCell ⟨b, 2, none⟩ v2).setCell ⟨b, 3, none⟩ v3).setCell ⟨b, 4, none⟩ v4).setCell ⟨b, 5, none⟩ v5) := f4.then (Fr.set (((((W.setCell ⟨b, 0, none⟩ v0).setCell ⟨b, 1, none⟩ v1).setCell ⟨b, 2, none⟩ v2).setCell ⟨b, 3, none⟩ v3).setCell ⟨b, 4, none⟩ v4) ⟨b, 5, none⟩ v5 (by simp))
  have f6 : Fr [b] W (((((((W.setCell ⟨b, 0, none⟩ v0).setCell ⟨b, 1, none⟩ v1).setCell ⟨b, 2, none⟩ v2).setCell ⟨b, 3, none⟩ v3).setCell ⟨b, 4, none⟩ v4).setCell ⟨b, 5, none⟩ v5).setCell ⟨b, 6, none⟩ v6) := f5.then (Fr.set ((((((W.setCell ⟨b, 0, none⟩ v0).setCell ⟨b, 1, none⟩ v1).setCell ⟨b, 2, none⟩ v2).setCell ⟨b, 3, none⟩ v3).setCell ⟨b, 4, none⟩ v4).setCell ⟨b, 5, none⟩ v5) ⟨b, 6, none⟩ v6 (by simp))
  have f7 : Fr [b] W ((((((((W.setCell ⟨b, 0, none⟩ v0).setCell ⟨b, 1, none⟩ v1).setCell ⟨b, 2, none⟩ v2).setCell ⟨b, 3, none⟩ v3).setCell ⟨b, 4, none⟩ v4).setCell ⟨b, 5, none⟩ v5).setCell ⟨b, 6, none⟩ v6).setCell ⟨b, 7, none⟩ v7) := f6.then (Fr.set (((((((W.setCell ⟨b, 0, none⟩ v0).setCell ⟨b, 1, none⟩ v1).setCell ⟨b, 2, none⟩ v2).setCell ⟨b, 3, none⟩ v3).setCell ⟨b, 4, none⟩ v4).setCell ⟨b, 5, none⟩ v5).setCell ⟨b, 6, none⟩ v6) ⟨b, 7, none⟩ v7 (by simp))
  have f8 : Fr [b] W (((((((((W.setCell ⟨b, 0, none⟩ v0).setCell ⟨b, 1, none⟩ v1).setCell ⟨b, 2, none⟩ v2).setCell ⟨b, 3, none⟩ v3).setCell ⟨b, 4, none⟩ v4).setCell ⟨b, 5, none⟩ v5).setCell ⟨b, 6, none⟩ v6).setCell ⟨b, 7, none⟩ v7).setCell ⟨b, 8, none⟩ v8) := f7.then (Fr.set ((((((((W.setCell ⟨b, 0, none⟩ v0).setCell ⟨b, 1, none⟩ v1).setCell ⟨b, 2, none⟩ v2).setCell ⟨b, 3, none⟩ v3).setCell ⟨b, 4, none⟩ v4).setCell ⟨b, 5, none⟩ v5).setCell ⟨b, 6, none⟩ v6).setCell ⟨b, 7, none⟩ v7) ⟨b, 8, none⟩ v8 (by simp))
  exact ⟨h8, f8⟩
theorem ynext_nil (w : World) : Calls Try.prog 32 #[.pointer none] w fun e w' => e = .returned (.tuple #[.int .i64 0, Rv.v Rv.zero, .bool false]) ∧ Fr [] w w' := by
  go_enter Try.func32, Try.ntmps32
  go_wp2_with fail
  go_quiet (fail)
  go_wp2
  have hB : ((w.alloc (.cells #[.int .u8 0, .int .i64 0, .int .i64 0, .string ⟨#[]⟩, .string ⟨#[]⟩, .bool false, .string ⟨#[]⟩, .string ⟨#[]⟩, .slice none 0 0] 55)).drewN nq).heap[w.heap.size]? = some (.cells #[.int .u8 0, .int .i64 0, .int .i64 0, .string ⟨#[]⟩, .string ⟨#[]⟩, .bool false, .string ⟨#[]⟩, .string ⟨#[]⟩, .slice none 0 0] 55 (0, 0)) := (Fr.drewN [] _ _).keep (heap_alloc_new w _) (by simp)
  have hA : Fr [] w ((w.alloc (.cells #[.int .u8 0, .int .i64 0, .int .i64 0, .string ⟨#[]⟩, .string ⟨#[]⟩, .bool false, .string ⟨#[]⟩, .string ⟨#[]⟩, .slice none 0 0] 55)).drewN nq) := (Fr.alloc [] w _).then (Fr.drewN _ _ _)
  generalize ((w.alloc (.cells #[.int .u8 0, .int .i64 0, .int .i64 0, .string ⟨#[]⟩, .string ⟨#[]⟩, .bool false, .string ⟨#[]⟩, .string ⟨#[]⟩, .slice none 0 0] 55)).drewN nq) = W at hA hB ⊢
  have hN := nine_fin (v0 := .int .u8 0) (v1 := .int .i64 0) (v2 := .int .i64 0) (v3 := .string ⟨#[]⟩) (v4 := .string ⟨#[]⟩) (v5 := .bool false) (v6 := .string ⟨#[]⟩) (v7 := .string ⟨#[]⟩) (v8 := .slice none 0 0) hB
  refine bodyPost_ret (results_tct17 rfl _ _ _ w.heap.size _ rfl (load_req Rv.zero hN.1)) rfl ?_
  exact ⟨rfl, hA.on hN.2 (by intro x hx; simp at hx; omega)⟩
theorem yanswer_nil (w : World) : Calls Try.prog 34 #[.pointer none] w fun e w' => e = .returned (.tuple #[.agg (ansA 0 0 false none 0 0 0), .slice none 0 0, .int .i64 2]) ∧ Fr [] w w' := by
  have HF : Hid (Fr [] w (w.alloc (.cells (ansA 0 0 false none 0 0 0) 72))) := Fr.alloc [] w _
  simp only [ansA] at HF
  go_enter Try.func34, Try.ntmps34
  go_wp2
  refine bodyPost_ret (results_ctt17 rfl _ _ _ w.heap.size _ rfl (load_ans (heap_alloc_new w _))) rfl ?_
  exact ⟨rfl, HF.out⟩
theorem rq_cells {W : World} {b : Nat} {v0 v1 v2 v3 v4 v5 v6 v7 v8 : Value} {ty : TypeId} (h : W.heap[b]? = some (.cells #[v0, v1, v2, v3, v4, v5, v6, v7, v8] ty (0, 0))) : W.cell? ⟨b, 0, none⟩ = some v0 ∧ W.cell? ⟨b, 1, none⟩ = some v1 ∧ W.cell? ⟨b, 2, none⟩ = some v2 ∧ W.cell? ⟨b, 3, none⟩ = some v3 ∧ W.cell? ⟨b, 4, none⟩ = some v4 ∧ W.cell? ⟨b, 5, none⟩ = some v5 ∧ W.cell? ⟨b, 6, none⟩ = some v6 ∧ W.cell? ⟨b, 7, none⟩ = some v7 ∧ W.cell? ⟨b, 8, none⟩ = some v8 := by
  refine ⟨?_, ?_, ?_, ?_, ?_, ?_, ?_, ?_, ?_⟩ <;> (rw [cell_of_row _ _ _ _ _ _ h]; rfl)
theorem an_cells {W : World} {b : Nat} {v0 v1 v2 v3 v4 : Value} {ty : TypeId} (h : W.heap[b]? = some (.cells #[v0, v1, v2, v3, v4] ty (0, 0))) : W.cell? ⟨b, 0, none⟩ = some v0 ∧ W.cell? ⟨b, 1, none⟩ = some v1 ∧ W.cell? ⟨b, 2, none⟩ = some v2 ∧ W.cell? ⟨b, 3, none⟩ = some v3 ∧ W.cell? ⟨b, 4, none⟩ = some v4 := by
  refine ⟨?_, ?_, ?_, ?_, ?_⟩ <;> (rw [cell_of_row _ _ _ _ _ _ h]; rfl)
theorem sameEs_none (w : World) : Calls Try.prog 61 #[.slice none 0 0, .slice none 0 0] w fun e w' => e = .returned (.bool true) ∧ w = w' := by
  go_enter Try.func61, Try.ntmps61
  go_wp2_with fail
  go_loopw [5] (fun ii wr => ii = .int .i64 0 ∧ w = wr) (fun _ _ => 0)
  case atStart => exact ⟨rfl, rfl⟩
  case round =>
    obtain ⟨rfl, rfl⟩ := hrel
    go_wp2
    go_ret
    exact ⟨rfl, rfl⟩
theorem sameHs_none (w : World) : Calls Try.prog 38 #[.slice none 0 0, .slice none 0 0] w fun e w' => e = .returned (.bool true) ∧ w = w' := by
  go_enter Try.func38, Try.ntmps38
  go_wp2_with fail
  go_loopw [5] (fun ii wr => ii = .int .i64 0 ∧ w = wr) (fun _ _ => 0)
  case atStart => exact ⟨rfl, rfl⟩
  case round =>
    obtain ⟨rfl, rfl⟩ := hrel
    go_wp2
    go_ret
    exact ⟨rfl, rfl⟩
theorem sameAns_none (w : World) : Calls Try.prog 37 #[.agg (ansA 0 0 false none 0 0 0), .agg (ansA 0 0 false none 0 0 0)] w fun e w' => e = .returned (.bool true) ∧ Fr [] w w' := by
  have HF : Hid (Fr [] w ((w.alloc (.cells (ansA 0 0 false none 0 0 0) 72)).alloc (.cells (ansA 0 0 false none 0 0 0) 72))) := (Fr.alloc [] w _).then (Fr.alloc [] _ _)
  have HS : Hid (∀ W, Calls Try.prog 61 #[.slice none 0 0, .slice none 0 0] W fun e w' => e = .returned (.bool true) ∧ W = w') := fun W => sameEs_none W
  simp only [ansA] at HF ⊢
  go_enter Try.func37, Try.ntmps37
  go_wp2_with fail
  refine (HS.out _).mono ?_
  rintro e w1 ⟨rfl, rfl⟩
  go_wp2
  go_ret
  exact ⟨rfl, HF.out⟩
set_option maxHeartbeats 4000000 in
set_option maxRecDepth 100000 in
theorem stands_no {p : Value} {w : World} (h : NoT p w) : Calls Try.prog 13 #[p, .pointer none] w fun e w' => e = .returned (.bool true) ∧ Fr [] w w' := by
  have HX : Hid (Calls Try.prog 15 #[p] w fun e w' => ∃ ro rc, e = .returned (.tuple #[.int .i64 0, .agg #[.int .u8 0, .int .i64 0, .int .i64 0, .string ⟨#[]⟩, .string ⟨#[]⟩, .bool false, .string ⟨#[]⟩, .string ⟨#[]⟩, .slice ro 0 rc], .bool false]) ∧ Fr [] w w') := (qNext_no h).mono (by rintro e w' ⟨ro, rc, h1, _, h3⟩; exact ⟨ro, rc, h1, h3⟩)
  have HY : Hid (∀ W, Calls Try.prog 32 #[.pointer none] W fun e w' => e = .returned (.tuple #[.int .i64 0, .agg #[.int .u8 0, .int .i64 0, .int .i64 0, .string ⟨#[]⟩, .string ⟨#[]⟩, .bool false, .string ⟨#[]⟩, .string ⟨#[]⟩, .slice none 0 0], .bool false]) ∧ Fr [] W w') := fun W => ynext_nil W
  have HSR : Hid (∀ ro rc W, Calls Try.prog 16 #[.agg #[.int .u8 0, .int .i64 0, .int .i64 0, .string ⟨#[]⟩, .string ⟨#[]⟩, .bool false, .string ⟨#[]⟩, .string ⟨#[]⟩, .slice ro 0 rc], .agg #[.int .u8 0, .int .i64 0, .int .i64 0, .string ⟨#[]⟩, .string ⟨#[]⟩, .bool false, .string ⟨#[]⟩, .string ⟨#[]⟩, .slice none 0 0]] W fun e w' => e = .returned (.bool true) ∧ Fr [] W w') := fun ro rc W => sameRq_any ⟨0, 0, 0, ⟨#[]⟩, ⟨#[]⟩, ro, 0, rc⟩ ⟨0, 0, 0, ⟨#[]⟩, ⟨#[]⟩, none, 0, 0⟩ [] W ⟨rfl, rfl, rfl, rfl, rfl, rfl⟩ ⟨fun h => by simp at h, by simp⟩ ⟨fun h => by simp at h, by simp⟩ rfl (by show (0 : Nat) < _; decide)
  have HA : Hid (∀ W, Fr [] w W → Calls Try.prog 17 #[p] W fun e w' => e = .returned (.bool false) ∧ W = w') := fun W hW => qAll_no (h.keep hW)
  have HYA : Hid (∀ W, Calls Try.prog 33 #[.pointer none] W fun e w' => e = .returned (.bool false) ∧ Fr [] W w') := fun W => yall_nil W
  have HN : Hid (∀ W, Fr [] w W → Calls Try.prog 22 #[p] W fun e w' => e = .returned (.tuple #[.agg #[.int .i64 0, .int .i64 0, .bool false, .slice none 0 0, .int .i64 0], .slice none 0 0, .int .i64 2]) ∧ Fr [] W w') := fun W hW => qAnswer_no (h.keep hW)
  have HYN : Hid (∀ W, Calls Try.prog 34 #[.pointer none] W fun e w' => e = .returned (.tuple #[.agg #[.int .i64 0, .int .i64 0, .bool false, .slice none 0 0, .int .i64 0], .slice none 0 0, .int .i64 2]) ∧ Fr [] W w') := fun W => yanswer_nil W
  have HM : Hid (∀ W, Fr [] w W → Calls Try.prog 35 #[p] W fun e w' => e = .returned (.tuple #[.int .i64 0, .bool false]) ∧ W = w') := fun W hW => qmark_no (h.keep hW)
  have HYM : Hid (∀ W, Calls Try.prog 36 #[.pointer none] W fun e w' => e = .returned (.tuple #[.int .i64 0, .bool false]) ∧ W = w') := fun W => ymark_nil W
  have HSA : Hid (∀ W, Calls Try.prog 37 #[.agg #[.int .i64 0, .int .i64 0, .bool false, .slice none 0 0, .int .i64 0], .agg #[.int .i64 0, .int .i64 0, .bool false, .slice none 0 0, .int .i64 0]] W fun e w' => e = .returned (.bool true) ∧ Fr [] W w') := fun W => sameAns_none W
  have HSH : Hid (∀ W, Calls Try.prog 38 #[.slice none 0 0, .slice none 0 0] W fun e w' => e = .returned (.bool true) ∧ W = w') := fun W => sameHs_none W
  obtain ⟨o, rfl⟩ := h.ptr
  clear h
  go_enter Try.func13, Try.ntmps13
  go_wp2_with fail
  refine HX.out.mono ?_
  rintro e w1 ⟨ro, rc, rfl, hf1⟩
  have HF1 : Hid (Fr [] w (w1.alloc (.cells #[.int .u8 0, .int .i64 0, .int .i64 0, .string ⟨#[]⟩, .string ⟨#[]⟩, .bool false, .string ⟨#[]⟩, .string ⟨#[]⟩, .slice ro 0 rc] 55))) := hf1.then (Fr.alloc [] w1 _)
  clear hf1 HX
  go_wp2_with fail
  refine (HY.out _).mono ?_
  rintro e w2 ⟨rfl, hf2⟩
  have hb : (w2.alloc (.cells #[.int .u8 0, .int .i64 0, .int .i64 0, .string ⟨#[]⟩, .string ⟨#[]⟩, .bool false, .string ⟨#[]⟩, .string ⟨#[]⟩, .slice none 0 0] 55)).heap[w1.heap.size]? = some (.cells #[.int .u8 0, .int .i64 0, .int .i64 0, .string ⟨#[]⟩, .string ⟨#[]⟩, .bool false, .string ⟨#[]⟩, .string ⟨#[]⟩, .slice ro 0 rc] 55 (0, 0)) := (hf2.then (Fr.alloc [] w2 _)).keep (heap_alloc_new w1 _) (by simp)
  have HF2 : Hid (Fr [] w (w2.alloc (.cells #[.int .u8 0, .int .i64 0, .int .i64 0, .string ⟨#[]⟩, .string ⟨#[]⟩, .bool false, .string ⟨#[]⟩, .string ⟨#[]⟩, .slice none 0 0] 55))) := (HF1.out.then hf2).then (Fr.alloc [] w2 _)
  obtain ⟨p0, p1, p2, p3, p4, p5, p6, p7, p8⟩ := rq_cells hb
  clear hb hf2 HY
  go_wp2_with fail
  refine (HSR.out _ _ _).mono ?_
  rintro e w3 ⟨rfl, hf3⟩
  have HF3 : Hid (Fr [] w w3) := HF2.out.then hf3
  clear p0 p1 p2 p3 p4 p5 p6 p7 p8 hf3 HSR HF1 HF2
  go_wp2_with fail
  refine (HA.out _ HF3.out).mono ?_
  rintro e w4 ⟨rfl, rfl⟩
  go_wp2_with fail
  refine (HYA.out _).mono ?_
  rintro e w5 ⟨rfl, hf5⟩
  have HF5 : Hid (Fr [] w w5) := HF3.out.then hf5
  clear hf5 HA HYA
  go_wp2_with fail
  refine (HN.out _ HF5.out).mono ?_
  rintro e w6 ⟨rfl, hf6⟩
  have HF6 : Hid (Fr [] w (w6.alloc (.cells #[.int .i64 0, .int .i64 0, .bool false, .slice none 0 0, .int .i64 0] 72))) := (HF5.out.then hf6).then (Fr.alloc [] w6 _)
  clear hf6 HN
  go_wp2_with fail
  refine (HYN.out _).mono ?_
  rintro e w7 ⟨rfl, hf7⟩
  have hb : (w7.alloc (.cells #[.int .i64 0, .int .i64 0, .bool false, .slice none 0 0, .int .i64 0] 72)).heap[w6.heap.size]? = some (.cells #[.int .i64 0, .int .i64 0, .bool false, .slice none 0 0, .int .i64 0] 72 (0, 0)) := (hf7.then (Fr.alloc [] w7 _)).keep (heap_alloc_new w6 _) (by simp)
  have HF7 : Hid (Fr [] w (w7.alloc (.cells #[.int .i64 0, .int .i64 0, .bool false, .slice none 0 0, .int .i64 0] 72))) := (HF6.out.then hf7).then (Fr.alloc [] w7 _)
  obtain ⟨p0, p1, p2, p3, p4⟩ := an_cells hb
  clear hb hf7 HYN HF6
  go_wp2_with fail
  refine (HM.out _ HF7.out).mono ?_
  rintro e w8 ⟨rfl, rfl⟩
  go_wp2_with fail
  refine (HYM.out _).mono ?_
  rintro e w8 ⟨rfl, rfl⟩
  go_wp2_with fail
  refine (HSA.out _).mono ?_
  rintro e w9 ⟨rfl, hf9⟩
  have HF9 : Hid (Fr [] w w9) := HF7.out.then hf9
  clear p0 p1 p2 p3 p4 hf9 HSA HF7
  go_wp2_with fail
  refine (HSH.out _).mono ?_
  rintro e w10 ⟨rfl, rfl⟩
  go_wp2
  go_ret
  exact ⟨rfl, HF9.out⟩
end Go.Proofs.Ytpdkdgmaofhlkaa
/- The document's task in memory; its Mark, All, Sent. Conditions as each names them. -/
namespace Go.Proofs.Ytpdkdgmaofhlkaa
open Go.ChangeShapes Go.WideShapes Go.ChangeAt Go.RowKit Go.Lib
set_option linter.unusedVariables false
set_option linter.unusedSimpArgs false

/-- The document's task as it lies: its shards, its requests, its replies are slices. -/
structure Yt where
  n : Int
  l : Int
  s : Int
  x : Int
  q : Int
  k : Int
  key : ByteArray
  en : ByteArray
  bg : Bool
  ma : Int
  so : Option Addr
  sl : Nat
  sc : Nat
  ro : Option Addr
  rl : Nat
  rc : Nat
  ak : Nat
  po : Option Addr
  pl : Nat
  pc : Nat
def Yt.row (T : Yt) : Array Value := #[.int .i64 T.n, .int .i64 T.l, .int .i64 T.s, .int .i64 T.x, .int .i64 T.q, .int .u8 T.k, .string T.key, .string T.en, .bool T.bg, .int .i64 T.ma, .slice T.so T.sl T.sc, .slice T.ro T.rl T.rc, .int .i64 (T.ak : Int), .slice T.po T.pl T.pc]
def YtM (w : World) (t : Nat) (T : Yt) : Prop := w.heap[t]? = some (.cells T.row 79 (0, 0))
theorem YtM.keep {S : List Nat} {w w' : World} {t : Nat} {T : Yt} (h : YtM w t T) (hf : Fr S w w') (hn : t ∉ S) : YtM w' t T := hf.keep h hn
theorem YtM.c8 {w : World} {t : Nat} {T : Yt} (h : YtM w t T) : w.cell? ⟨t, 8, none⟩ = some (.bool T.bg) := by rw [cell_of_row _ _ _ _ _ _ h]; rfl
theorem YtM.c9 {w : World} {t : Nat} {T : Yt} (h : YtM w t T) : w.cell? ⟨t, 9, none⟩ = some (.int .i64 T.ma) := by rw [cell_of_row _ _ _ _ _ _ h]; rfl
theorem YtM.c10 {w : World} {t : Nat} {T : Yt} (h : YtM w t T) : w.cell? ⟨t, 10, none⟩ = some (.slice T.so T.sl T.sc) := by rw [cell_of_row _ _ _ _ _ _ h]; rfl
theorem YtM.c11 {w : World} {t : Nat} {T : Yt} (h : YtM w t T) : w.cell? ⟨t, 11, none⟩ = some (.slice T.ro T.rl T.rc) := by rw [cell_of_row _ _ _ _ _ _ h]; rfl
theorem YtM.c12 {w : World} {t : Nat} {T : Yt} (h : YtM w t T) : w.cell? ⟨t, 12, none⟩ = some (.int .i64 (T.ak : Int)) := by rw [cell_of_row _ _ _ _ _ _ h]; rfl
theorem YtM.c13 {w : World} {t : Nat} {T : Yt} (h : YtM w t T) : w.cell? ⟨t, 13, none⟩ = some (.slice T.po T.pl T.pc) := by rw [cell_of_row _ _ _ _ _ _ h]; rfl
theorem YtM.fz {w : World} {t : Nat} {T : Yt} (h : YtM w t T) (j : Nat) : w.frozen? ⟨t, j, none⟩ = false := by unfold YtM at h; simp [World.frozen?, h]
set_option maxHeartbeats 1000000 in
theorem ymark_any {w : World} {t : Nat} {T : Yt} (h : YtM w t T) (hm : T.bg = false → T.ma = 0) : Calls Try.prog 36 #[.pointer (some ⟨t, 0, none⟩)] w fun e w' => e = .returned (.tuple #[.int .i64 T.ma, .bool T.bg]) ∧ w = w' := by
  have c8 := h.c8
  have c9 := h.c9
  clear h
  obtain ⟨n, l, s, x, q, k, key, en, bg, ma, so, sl, sc, ro, rl, rc, ak, po, pl, pc⟩ := T
  simp only at c8 c9 hm ⊢
  cases bg with
  | true =>
    clear hm
    go_enter Try.func36, Try.ntmps36
    go_wp2
    refine bodyPost_ret (results_tmp2 rfl _ _ _) rfl ?_
    exact ⟨rfl, rfl⟩
  | false =>
    obtain rfl := hm rfl
    go_enter Try.func36, Try.ntmps36
    go_wp2
    refine bodyPost_ret (results_tmp2 rfl _ _ _) rfl ?_
    exact ⟨rfl, rfl⟩
def Yt.al (T : Yt) : Bool := T.bg && ((T.ak : Int) == (T.rl : Int)) && ((T.pl : Int) == (T.ak : Int))
set_option maxHeartbeats 1000000 in
theorem yall_any {w : World} {t : Nat} {T : Yt} (h : YtM w t T) : Calls Try.prog 33 #[.pointer (some ⟨t, 0, none⟩)] w fun e w' => e = .returned (.bool T.al) ∧ Fr [] w w' := by
  have c8 := h.c8
  have c11 := h.c11
  have c12 := h.c12
  have c13 := h.c13
  clear h
  obtain ⟨n, l, s, x, q, k, key, en, bg, ma, so, sl, sc, ro, rl, rc, ak, po, pl, pc⟩ := T
  simp only [Yt.al] at c8 c11 c12 c13 ⊢
  cases bg with
  | false =>
    go_enter Try.func33, Try.ntmps33
    go_wp2_with fail
    go_quiet (fail)
    go_wp2
    go_ret
    exact ⟨by simp, Fr.drewN _ _ _⟩
  | true =>
    cases h1 : ((ak : Int) == (rl : Int)) with
    | false =>
      go_enter Try.func33, Try.ntmps33
      go_wp2_with fail
      go_quiet (fail)
      go_wp2
      go_ret
      exact ⟨by simp, Fr.drewN _ _ _⟩
    | true =>
      go_enter Try.func33, Try.ntmps33
      go_wp2_with fail
      go_quiet (fail)
      go_wp2
      go_ret
      exact ⟨by simp, Fr.drewN _ _ _⟩
set_option maxHeartbeats 1000000 in
theorem ysent_any {w : World} {t : Nat} {T : Yt} (h : YtM w t T) (hlt : T.ak < T.rl) (hrl : T.rl ≤ 16) : Calls Try.prog 31 #[.pointer (some ⟨t, 0, none⟩)] w fun e w' => e = .returned (.int .i64 0) ∧ YtM w' t { T with ak := T.ak + 1 } ∧ Fr [t] w w' := by
  have c11 := h.c11
  have c12 := h.c12
  have z12 := h.fz 12
  have HK : Hid (YtM w t T) := h
  clear h
  obtain ⟨n, l, s, x, q, k, key, en, bg, ma, so, sl, sc, ro, rl, rc, ak, po, pl, pc⟩ := T
  simp only at c11 c12 hlt hrl ⊢
  have hg : decide ((rl : Int) ≤ (ak : Int)) = false := by simp; omega
  go_enter Try.func31, Try.ntmps31
  go_wp2_with fail
  go_quiet (fail)
  have HD : Hid (Fr [] w (w.drewN nq)) := Fr.drewN _ _ _
  go_wp2
  go_ret
  have h2 := HK.out.keep HD.out (by simp)
  exact ⟨rfl, row_put17 (j := 12) (.int .i64 ((ak : Int) + 1)) h2, (HD.out.mono (by intro x hx; simp at hx)).then (Fr.set _ _ _ (by simp))⟩
set_option maxHeartbeats 1000000 in
theorem ysent_idle {w : World} {t : Nat} {T : Yt} (h : YtM w t T) (hlt : T.rl ≤ T.ak) (hrl : T.ak ≤ 16) : Calls Try.prog 31 #[.pointer (some ⟨t, 0, none⟩)] w fun e w' => e = .returned (.int .i64 9) ∧ Fr [] w w' := by
  have c11 := h.c11
  have c12 := h.c12
  clear h
  obtain ⟨n, l, s, x, q, k, key, en, bg, ma, so, sl, sc, ro, rl, rc, ak, po, pl, pc⟩ := T
  simp only at c11 c12 hlt hrl ⊢
  have hg : decide ((rl : Int) ≤ (ak : Int)) = true := by simp; omega
  go_enter Try.func31, Try.ntmps31
  go_wp2_with fail
  go_quiet (fail)
  have HD : Hid (Fr [] w (w.drewN nq)) := Fr.drewN _ _ _
  go_wp2
  go_ret
  exact ⟨rfl, HD.out⟩
end Go.Proofs.Ytpdkdgmaofhlkaa

/- What the source's texts lean on, without the reading of logs: transactions in blocks of their own. Conditions as each names them. -/
import Derived.Test.YtakbodlicfmkjaaGreatTm
import Derived.Test.YtakbodlicfmkjaaGreatChk6
namespace Go.Proofs.YtakbodlicfmkjaaGreat.F
open Go.ChangeShapes Go.WideShapes Go.ChangeAt Go.RowKit Go.Lib
set_option linter.unusedVariables false

theorem info_parts2 {P : Program} {t : TypeId} {z : Value} {n : Nat} (h : (P.info? t).map (fun i => (i.zero, i.size)) = some (some z, n)) : ∃ i, P.info? t = some i ∧ i.zero = some z ∧ i.size = n := by
  cases hi : P.info? t with
  | none => rw [hi] at h; cases h
  | some i =>
    rw [hi] at h
    simp only [Option.map_some, Option.some.injEq, Prod.mk.injEq] at h
    exact ⟨i, rfl, h.1, h.2⟩
theorem Tryz.infoWt : (Tryz.prog.info? 56).map (fun i => (i.zero, i.size)) = some (some (.agg #[.string ⟨#[]⟩, .string ⟨#[]⟩, .bool false]), 3) := by kernel_rfl
theorem Tryz.bytesWt : ((Tryz.prog.info? 56).map (fun i => decide (i.bytes ≤ 64))) = some true := by kernel_rfl
theorem Tryz.undWs : Tryz.prog.underlying 57 = some (.slice 56) := by kernel_rfl
/-- A row of writes in a block of its own: those that are there, and others behind. -/
structure Ww (w : World) (k : Nat) (ds : List Wt) (R : List Value) : Prop where
  box : w.heap[k]? = some (.cells (wtsC ds ++ R).toArray 56 (0, 0))
theorem made_row {w' : World} {b C : Nat} {ys : List Value} (h : w'.ownsRow 0 56 3 (.slice (some ⟨b, 0, none⟩) C C) C ys) : ∃ R : List Value, R.length = C * 3 ∧ Ww w' b [] R := by
  have hl := h.1
  rcases h.2 with ⟨hh, _⟩ | ⟨g', cap', cur, hh, hb, hg, hnc, hcm, hcs, ht⟩
  · cases hh
  · cases hh
    exact ⟨cur.toList, by simpa using hcs, ⟨by simpa [wtsC] using hg⟩⟩
/-- A transaction's struct in a block of its own. -/
structure B2 (w : World) (b : Nat) (u v : Value) : Prop where
  box : w.heap[b]? = some (.cells #[u, v] 59 (0, 0))
theorem B2.lt {w : World} {b : Nat} {u v : Value} (h : B2 w b u v) : b < w.heap.size := lt_of_block h.box
theorem B2.c0 {w : World} {b : Nat} {u v : Value} (h : B2 w b u v) : w.cell? ⟨b, 0, none⟩ = some u := by simp [World.cell?, h.box]
theorem B2.c1 {w : World} {b : Nat} {u v : Value} (h : B2 w b u v) : w.cell? ⟨b, 1, none⟩ = some v := by simp [World.cell?, h.box]
theorem B2.f0 {w : World} {b : Nat} {u v : Value} (h : B2 w b u v) : w.frozen? ⟨b, 0, none⟩ = false := by simp [World.frozen?, h.box]
theorem B2.f1 {w : World} {b : Nat} {u v : Value} (h : B2 w b u v) : w.frozen? ⟨b, 1, none⟩ = false := by simp [World.frozen?, h.box]
theorem B2.keep {w w' : World} {b : Nat} {u v : Value} (h : B2 w b u v) (hf : Fr [] w w') : B2 w' b u v := ⟨hf.keep h.box (by simp)⟩
theorem B2.keepS {S : List Nat} {w w' : World} {b : Nat} {u v : Value} (h : B2 w b u v) (hf : Fr S w w') (hn : b ∉ S) : B2 w' b u v := ⟨hf.keep h.box hn⟩
theorem _root_.Go.Proofs.YtakbodlicfmkjaaGreat.Fr.box2 (w1 : World) (b : Nat) (u v : Value) : Fr [b] w1 ((w1.setCell ⟨b, 0, none⟩ u).setCell ⟨b, 1, none⟩ v) := (Fr.set w1 ⟨b, 0, none⟩ u (by simp)).then (Fr.set _ ⟨b, 1, none⟩ v (by simp))
theorem Tryz.infoT : (Tryz.prog.info? 59).map (fun i => (i.zero, i.size, i.bytes)) = some (some (.agg #[.int .i64 0, .slice none 0 0]), 2, 32) := by kernel_rfl
theorem Tryz.undTs : Tryz.prog.underlying 24 = some (.slice 59) := by kernel_rfl
theorem okT_few {n : Int} {ws : List Wt} (h : okT n ws) : ws.length ≤ 140737488355328 ∧ ∀ x ∈ ws, x.key.size ≤ 140737488355328 ∧ x.val.size ≤ 140737488355328 := by
  refine ⟨by have := h.2.2.1; omega, fun x hx => ?_⟩
  obtain ⟨_, a, b, _⟩ := h.2.2.2 x hx
  exact ⟨by omega, by omega⟩
theorem _root_.Go.Proofs.YtakbodlicfmkjaaGreat.WRs.of_ok {w : World} {k : Nat} {n : Int} {ws : List Wt} (h : okT n ws) (hr : w.heap[k]? = some (.cells (wtsC ws).toArray 56 (0, 0))) : WRs w (some ⟨k, 0, none⟩) ws :=
  WRs.of_row (rest := []) (t := 56) (f := (0, 0)) (by rw [List.append_nil]; exact hr) (okT_few h).1 (okT_few h).2
theorem three_setCell2 {w : World} {b : Nat} {u v x y : Value} {t : TypeId} (h : w.heap[b]? = some (.cells #[u, v, x] t (0, 0))) : (w.setCell ⟨b, 2, none⟩ y).heap[b]? = some (.cells #[u, v, y] t (0, 0)) := by
  have hlt := lt_of_block h
  have h' : w.heap[b] = .cells #[u, v, x] t (0, 0) := by simpa [Array.getElem?_eq_getElem hlt] using h
  show (w.heap.modify b _)[b]? = _
  rw [Array.getElem?_eq_getElem (by simpa using hlt), Array.getElem_modify_self, h']
  rfl
/-- A transaction that was told: its writes lie in a block of their own, made since w0. -/
def Tnew (w0 w : World) (t : Tm) : Prop := ∃ k, t.ao = some ⟨k, 0, none⟩ ∧ t.cap = t.L ∧ t.L = t.ws.length ∧ w0.heap.size ≤ k ∧ w.heap[k]? = some (.cells (wtsC t.ws).toArray 56 (0, 0)) ∧ okT t.n t.ws
theorem Tnew.at {w0 w : World} {t : Tm} (h : Tnew w0 w t) : t.at w := by
  obtain ⟨k, e1, e2, e3, _, hr, hok⟩ := h
  refine ⟨by rw [e1]; exact WRs.of_ok hok hr, e3, ?_, ?_⟩
  · have := hok.1; omega
  · have := hok.2.1; omega
theorem Tnew.keepS {S : List Nat} {w0 w w' : World} {t : Tm} (h : Tnew w0 w t) (hf : Fr S w w') (hS : ∀ k, w.heap[k]? = some (.cells (wtsC t.ws).toArray 56 (0, 0)) → k ∉ S) : Tnew w0 w' t := by
  obtain ⟨k, e1, e2, e3, hk, hr, hok⟩ := h
  exact ⟨k, e1, e2, e3, hk, hf.keep hr (hS k hr), hok⟩
end Go.Proofs.YtakbodlicfmkjaaGreat.F

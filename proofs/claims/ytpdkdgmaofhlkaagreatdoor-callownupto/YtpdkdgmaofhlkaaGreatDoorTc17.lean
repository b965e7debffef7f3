/- Comparing texts; rows of things of two cells each as the library's sort has them. Conditions as each names them. -/
import Derived.Test.YtpdkdgmaofhlkaaGreatDoorMi17
import Derived.Test.YtpdkdgmaofhlkaaGreatDoorCp17
import Derived.Test.YtpdkdgmaofhlkaaGreatDoorSb17E
import Derived.Test.YtpdkdgmaofhlkaaGreatDoorSb17H
import Derived.Shelf.Small.Strs
import Derived.Shelf.Lay
import Derived.Ground.NamesProg
namespace Go.Proofs
open Go.Shelf Go.RowKit Go.Lib Go.Sort
shelf_lay Lays.n106 Nm 106 at Tryz as Tryz.strCmp
end Go.Proofs
namespace Go.Proofs.YtpdkdgmaofhlkaaGreatDoor
open Go.ChangeShapes Go.WideShapes Go.ChangeAt Go.RowKit Go.Lib Go.Sort Go.Shelf
set_option linter.unusedVariables false
set_option linter.unusedSimpArgs false
set_option linter.unusedSectionVars false

theorem scmp_any (x y : ByteArray) (W : World) : Calls Tryz.prog 111 #[.string x, .string y] W fun e w' => e = .returned (.int .i64 (Lib.compareBytes x.data.toList y.data.toList)) ∧ W = w' := by
  have hcon := Any.strings_Compare Tryz.strCmp x y W
  change Calls Tryz.prog 111 _ _ _ at hcon
  refine hcon.mono ?_
  rintro e w' ⟨rfl, rfl⟩
  exact ⟨rfl, rfl⟩
section
variable {α : Type} [Inhabited α] (enc : α → List Value)
theorem flat_at (h2 : ∀ x, ∃ a b, enc x = [a, b]) : ∀ (ps : List α) (t : Nat), t < ps.length * 2 → (ps.flatMap enc)[t]? = some ((enc ps[t / 2]!)[t % 2]!)
  | [], t, h => by simp at h
  | p :: ps, 0, h => by obtain ⟨a, b, e⟩ := h2 p; simp [e]
  | p :: ps, 1, h => by obtain ⟨a, b, e⟩ := h2 p; simp [e]
  | p :: ps, (t + 2), h => by
    have ih := flat_at h2 ps t (by simp at h; omega)
    obtain ⟨a, b, e⟩ := h2 p
    have e1 : (t + 2) / 2 = t / 2 + 1 := by omega
    have e2 : (t + 2) % 2 = t % 2 := by omega
    rw [e1, e2]
    have e3 : ((p :: ps).flatMap enc)[t + 2]? = (ps.flatMap enc)[t]? := by simp [e]
    rw [e3, ih]
    simp
theorem flat_len (h2 : ∀ x, ∃ a b, enc x = [a, b]) (ps : List α) : (ps.flatMap enc).length = ps.length * 2 := by
  induction ps with
  | nil => rfl
  | cons p ps ih =>
    obtain ⟨a, b, e⟩ := h2 p
    rw [List.flatMap_cons, List.length_append, ih, e]
    simp
    omega
theorem flat_is (h2 : ∀ x, ∃ a b, enc x = [a, b]) (ps : List α) : flatK enc 2 ps.toArray = (ps.flatMap enc).toArray := by
  apply Array.ext_getElem?
  intro t
  by_cases h : t < ps.length * 2
  · have h1 : t < (flatK enc 2 ps.toArray).size := by rw [size_flatK]; simpa using h
    have h3 := get_flatK enc 2 ps.toArray t (by simpa using h)
    rw [getElem!_pos _ t h1] at h3
    rw [Array.getElem?_eq_getElem h1, h3, List.getElem?_toArray, flat_at enc h2 ps t h]
    simp
  · rw [Array.getElem?_eq_none (by rw [size_flatK]; simp; omega), Array.getElem?_eq_none (by simp [flat_len enc h2]; omega)]
theorem holds_is (h2 : ∀ x, ∃ a b, enc x = [a, b]) {w : World} {g : Nat} {cur : Array Value} {e : TypeId} {ps : List α} (hb : w.heap[g]? = some (.cells cur e (0, 0))) (ht : cur.toList.take (ps.length * 2) = ps.flatMap enc) : HoldsK enc 2 w g 0 ps.toArray := by
  unfold HoldsK
  rw [flat_is enc h2]
  intro j hj
  have hj' : j < ps.length * 2 := by rw [List.size_toArray, flat_len enc h2] at hj; exact hj
  refine ⟨?_, by simp [World.frozen?, hb]⟩
  have h1 : (cur.toList.take (ps.length * 2))[j]? = (ps.flatMap enc)[j]? := by rw [ht]
  rw [List.getElem?_take_of_lt hj'] at h1
  rw [cell_of_row _ _ _ _ _ _ hb, Nat.zero_add, ← Array.getElem?_toList, h1]
  have hl : j < (ps.flatMap enc).length := by rw [flat_len enc h2]; omega
  generalize ps.flatMap enc = q at hl ⊢
  simp [hl]
theorem heap_sorted {w : World} {g n : Nat} {os : Array Obj} {cur : Array Value} {e : TypeId} {fr : Nat × Nat} (d : Array α) (hb : w.heap[g]? = some (.cells cur e fr)) :
    (sortWorldK enc 2 w g 0 n d os).heap[g]? = some (.cells (putCells id 0 (flatK enc 2 d) cur) e fr) := by
  have hg : g < w.heap.size := (Array.getElem?_eq_some_iff.1 hb).1
  unfold sortWorldK putRowK
  rw [heap_grow_old _ _ (by simpa using hg)]
  simp [putRow, mapBlock, Sort.ahead, Array.getElem?_modify, hb, onCells]
theorem grown_sorted {w : World} {g n : Nat} {os : Array Obj} (d : Array α) : w.grownBy (sortWorldK enc 2 w g 0 n d os) (some g) := by
  unfold sortWorldK putRowK
  refine ⟨rfl, rfl, rfl, by simp, fun k hk hne => ?_⟩
  rw [heap_grow_old _ _ (by simpa using hk)]
  have : g ≠ k := fun e => hne (by rw [e])
  simp [putRow, mapBlock, Sort.ahead, Array.getElem?_modify, this]
theorem take_put (cur : Array Value) (vs : List Value) (h : vs.length ≤ cur.size) : (putCells id 0 vs.toArray cur).toList.take vs.length = vs := by
  apply List.ext_getElem?
  intro j
  by_cases hj : j < vs.length
  · rw [List.getElem?_take_of_lt hj, Array.getElem?_toList]
    simp [putCells, hj, show j < cur.size by omega]
  · rw [List.getElem?_take_eq_none (by omega), List.getElem?_eq_none (by omega)]
/-- A cell of another block, in every world that the sort passes through. -/
theorem cell_sorted {w : World} {g kb n : Nat} {os : Array Obj} (d : Array α) {v : Value} (hne : kb ≠ g) (hc : w.cell? ⟨kb, 0, none⟩ = some v) (hlt : kb < w.heap.size) : (sortWorldK enc 2 w g 0 n d os).cell? ⟨kb, 0, none⟩ = some v := by
  have h := Fr.grown (S := [g]) (grown_sorted enc (w := w) (g := g) (n := n) (os := os) d) (by intro k hk _; cases hk; simp)
  exact (World.cell?_of_block (h.block kb hlt (by simpa using hne))).trans hc
/-- A row that the sort has put into order. -/
theorem row_sorted (h2 : ∀ x, ∃ a b, enc x = [a, b]) {w w' : World} {base g cap : Nat} {t : TypeId} {ps qs : List α} {d' : Array α} (h : w.ownsRow base t 2 (.slice (some ⟨g, 0, none⟩) ps.length cap) ps.length (ps.flatMap enc)) (hd : d'.toList = qs) (hz : d'.size = ps.length) (hS : SWK enc 2 w g 0 d' w') :
    w'.ownsRow base t 2 (.slice (some ⟨g, 0, none⟩) ps.length cap) ps.length (qs.flatMap enc) ∧ Fr [g] w w' := by
  obtain ⟨hl, hr⟩ := h
  rcases hr with ⟨hh, _⟩ | ⟨g', cap', cur, hh, hbase, hb, h1, h2', h3, h4⟩
  · cases hh
  cases hh
  obtain ⟨n, os, rfl⟩ := hS
  have hql : qs.length = ps.length := by rw [← hd]; simpa using hz
  refine ⟨⟨?_, .inr ⟨g, cap, _, rfl, hbase, heap_sorted enc d' hb, h1, h2', by simp [putCells, h3], ?_⟩⟩, Fr.grown (grown_sorted enc d') (by intro k hk _; cases hk; simp)⟩
  · rw [flat_len enc h2, hql]
  · have e1 : flatK enc 2 d' = (qs.flatMap enc).toArray := by
      rw [← hd, ← flat_is enc h2]
    have e2 : ps.length * 2 = (qs.flatMap enc).length := by rw [flat_len enc h2, hql]
    rw [e1, e2]
    exact take_put cur _ (by rw [flat_len enc h2, hql, h3]; omega)
end
instance : Inhabited Ey := ⟨Ey.zero⟩
instance : Inhabited Hd := ⟨Hd.zero⟩
theorem eysC_flat : ∀ xs : List Ey, eysC xs = xs.flatMap eyC
  | [] => rfl
  | x :: xs => by rw [eysC, eysC_flat xs, List.flatMap_cons]
theorem hdsC_flat (xs : List Hd) : hdsC xs = xs.flatMap hdC := rfl
end Go.Proofs.YtpdkdgmaofhlkaaGreatDoor

/- Numbers in a row; named: which versions are named. Conditions as each names them. -/
import Derived.Test.YtdojhkgnnbdfkaaGreatVr
import Derived.OwnWalk
namespace Go.Proofs.YtdojhkgnnbdfkaaGreat
open Go.ChangeShapes Go.WideShapes Go.ChangeAt Go.RowKit Go.Lib
set_option linter.unusedVariables false
set_option linter.unusedSimpArgs false
/-- The slice at ao reads as the numbers ns. -/
structure IRs (w : World) (ao : Option Addr) (ns : List Int) : Prop where
  lies : 0 < ns.length → ∃ b off, ao = some ⟨b, off, none⟩ ∧ b < w.heap.size ∧ ∀ i, i < ns.length → w.cell? ⟨b, off + i, none⟩ = some (.int .i64 (ns.getD i 0))
  few : ns.length ≤ 17592186044416
theorem IRs.keepS {S : List Nat} {w w' : World} {ao : Option Addr} {ns : List Int} (h : IRs w ao ns) (hf : Fr S w w') (hn : 0 < ns.length → ∀ a, ao = some a → a.block ∉ S) : IRs w' ao ns := by
  refine ⟨fun h0 => ?_, h.few⟩
  obtain ⟨b, off, e, hb, hc⟩ := h.lies h0
  exact ⟨b, off, e, Nat.lt_of_lt_of_le hb hf.size, fun i hi => (World.cell?_of_block (hf.block b hb (hn h0 _ e))).trans (hc i hi)⟩
theorem IRs.keep {w w' : World} {ao : Option Addr} {ns : List Int} (h : IRs w ao ns) (hf : Fr [] w w') : IRs w' ao ns := h.keepS hf (by simp)
theorem itake_snoc (ns : List Int) (i : Nat) (h : i < ns.length) : ns.take (i + 1) = ns.take i ++ [ns.getD i 0] := by
  rw [List.take_add_one]
  simp [List.getD, h]
/-- Of each version: is its number one of these? -/
def mkB (vs : List Vn) (ns : List Int) : List Value := vs.map fun v => .bool (decide (v.num ∈ ns))
theorem mkB_length (vs : List Vn) (ns : List Int) : (mkB vs ns).length = vs.length := by simp [mkB]
theorem mkB_get (vs : List Vn) (ns : List Int) (i : Nat) (h : i < vs.length) : (mkB vs ns)[i]? = some (.bool (decide ((vs.getD i Vn.zero).num ∈ ns))) := by
  simp [mkB, List.getD, h]
theorem mkB_same {vs : List Vn} {ns : List Int} {n : Int} (h : ∀ y ∈ vs, y.num ≠ n) : mkB vs (ns ++ [n]) = mkB vs ns := by
  unfold mkB
  refine List.map_congr_left fun v hv => ?_
  have := h v hv
  congr 2
  simp [List.mem_append, this]
theorem mkB_step {vs : List Vn} (hR : Ris vs) {ns : List Int} {n : Int} {d : Nat} (hd : d < vs.length) (e : (vs.getD d Vn.zero).num = n) : mkB vs (ns ++ [n]) = (mkB vs ns).set d (.bool true) := by
  apply List.ext_getElem?
  intro i
  by_cases hi : i < vs.length
  · rw [mkB_get _ _ _ hi, List.getElem?_set, mkB_length, mkB_get _ _ _ hi]
    by_cases hid : d = i
    · subst hid
      rw [if_pos rfl, if_pos hd, e]
      simp
    · rw [if_neg hid]
      have hne : (vs.getD i Vn.zero).num ≠ n := by
        rw [← e]
        rcases Nat.lt_trichotomy i d with h | h | h
        · have := ris_get hR h hd; omega
        · omega
        · have := ris_get hR h hi; omega
      congr 2
      simp only [List.mem_append, List.mem_singleton, hne, or_false]
  · rw [List.getElem?_eq_none (by rw [mkB_length]; omega), List.getElem?_eq_none (by rw [List.length_set, mkB_length]; omega)]
theorem vrow_setCell {w : World} {b j : Nat} {cs : Array Value} {t : TypeId} (x : Value) (h : w.heap[b]? = some (.cells cs t (0, 0))) : (w.setCell ⟨b, j, none⟩ x).heap[b]? = some (.cells (cs.setIfInBounds j x) t (0, 0)) := by
  have hlt := lt_of_block h
  have h' : w.heap[b] = .cells cs t (0, 0) := by simpa [Array.getElem?_eq_getElem hlt] using h
  show (w.heap.modify b _)[b]? = _
  rw [Array.getElem?_eq_getElem (by simpa using hlt), Array.getElem_modify_self, h']
  rfl
/-- A row of bools of one's own. -/
structure BRow (w : World) (g L : Nat) (bs : List Value) : Prop where
  row : ∃ cur, w.heap[g]? = some (.cells cur 4 (0, 0)) ∧ cur.toList = bs
  len : bs.length = L
theorem BRow.keep {S : List Nat} {w w' : World} {g L : Nat} {bs : List Value} (h : BRow w g L bs) (hf : Fr S w w') (hn : g ∉ S) : BRow w' g L bs := by
  obtain ⟨cur, h1, h2⟩ := h.row
  exact ⟨⟨cur, hf.keep h1 hn, h2⟩, h.len⟩
theorem BRow.put {w : World} {g L : Nat} {bs : List Value} (h : BRow w g L bs) (j : Nat) (x : Value) : BRow (w.setCell ⟨g, j, none⟩ x) g L (bs.set j x) := by
  obtain ⟨cur, h1, h2⟩ := h.row
  exact ⟨⟨_, vrow_setCell x h1, by rw [Array.toList_setIfInBounds, h2]⟩, by rw [List.length_set]; exact h.len⟩
theorem BRow.cell {w : World} {g L : Nat} {bs : List Value} (h : BRow w g L bs) {i : Nat} {u : Value} (hu : bs[i]? = some u) : w.cell? ⟨g, i, none⟩ = some u := by
  obtain ⟨cur, h1, h2⟩ := h.row
  rw [cell_of_row _ _ _ _ _ _ h1, ← Array.getElem?_toList, h2]
  exact hu
theorem Tryz.infoBoolF : (Tryz.prog.info? 4).map (fun i => (i.zero, i.size, i.bytes)) = some (some (.bool false), 1, 1) := by kernel_rfl
theorem infoBool_parts : ∃ i, Tryz.prog.info? 4 = some i ∧ i.zero = some (.bool false) ∧ i.size = 1 ∧ i.bytes = 1 := by
  have h := Tryz.infoBoolF
  cases hi : Tryz.prog.info? 4 with
  | none => rw [hi] at h; cases h
  | some i =>
    rw [hi] at h
    simp only [Option.map_some, Option.some.injEq, Prod.mk.injEq] at h
    exact ⟨i, rfl, h.1, h.2.1, h.2.2⟩
theorem madeF (vs : List Vn) : (madeCells (Value.bool false).cells vs.length).toList = mkB vs [] := by
  apply List.ext_getElem
  · simp [madeCells, mkB]
  · intro i h1 h2
    simp [madeCells, mkB, Value.cells, Nat.mod_one]
/- A row of entries as it is read; the document's place of a key in entries. Conditions as each names them. -/
import Derived.Test.YtfminnmfdogopabScn
import Derived.BigQuiet
namespace Go.Proofs.Ytfminnmfdogopab
open Go.ChangeShapes Go.WideShapes Go.ChangeAt Go.RowKit Go.Lib Go.Maps Go.Sort
set_option linter.unusedVariables false
set_option linter.unusedSimpArgs false

/-- A row of entries can be read. -/
structure ERs (w : World) (ro : Option Addr) (ps : List Pr) : Prop where
  few : ps.length < 1099511627776
  lies : 0 < ps.length → ∃ g cur, ro = some ⟨g, 0, none⟩ ∧ w.heap[g]? = some (.cells cur 43 (0, 0)) ∧ cur.toList.take (ps.length * 2) = celsE ps
theorem ERs.keep {w w' : World} {ro : Option Addr} {ps : List Pr} (h : ERs w ro ps) (hf : Fr [] w w') : ERs w' ro ps :=
  ⟨h.few, fun h0 => by obtain ⟨g, cur, e, hb, ht⟩ := h.lies h0; exact ⟨g, cur, e, hf.keep hb (by simp), ht⟩⟩
theorem ers_of {w : World} {base : Nat} {ro : Option Addr} {N rc : Nat} {ps : List Pr} (h : w.ownsRow base 43 2 (.slice ro N rc) N (celsE ps)) (hN : N = ps.length) (hf : ps.length < 1099511627776) : ERs w ro ps := by
  refine ⟨hf, fun h0 => ?_⟩
  rcases h.2 with ⟨_, h1⟩ | ⟨g, cap, cur, hv, _, hg, _, _, _, ht⟩
  · omega
  · cases hv
    exact ⟨g, cur, rfl, hg, by rw [← hN]; exact ht⟩
def e0 : Pr := (⟨#[]⟩, ⟨#[]⟩)
theorem celsE_get (ps : List Pr) (i : Nat) (h : i < ps.length) : (celsE ps)[i * 2]? = some (.string (ps.getD i e0).1) ∧ (celsE ps)[i * 2 + 1]? = some (.string (ps.getD i e0).2) := by
  have a := celsE_at ps (i * 2) (by omega)
  have b := celsE_at ps (i * 2 + 1) (by omega)
  have e1 : i * 2 / 2 = i := by omega
  have e2 : i * 2 % 2 = 0 := by omega
  have e3 : (i * 2 + 1) / 2 = i := by omega
  have e4 : (i * 2 + 1) % 2 = 1 := by omega
  rw [e1, e2] at a
  rw [e3, e4] at b
  rw [a, b]
  simp [celE, List.getD, h]
theorem ERs.at {w : World} {ro : Option Addr} {ps : List Pr} (h : ERs w ro ps) (i : Nat) (hi : i < ps.length) : ∃ g, ro = some ⟨g, 0, none⟩ ∧ w.cell? ⟨g, i * 2, none⟩ = some (.string (ps.getD i e0).1) ∧ w.cell? ⟨g, i * 2 + 1, none⟩ = some (.string (ps.getD i e0).2) := by
  obtain ⟨g, cur, e, hb, ht⟩ := h.lies (by omega)
  obtain ⟨a, b⟩ := celsE_get ps i hi
  refine ⟨g, e, ?_, ?_⟩
  · rw [cell_of_row _ _ _ _ _ _ hb, ← Array.getElem?_toList, ← a, ← ht, List.getElem?_take_of_lt (by omega)]
  · rw [cell_of_row _ _ _ _ _ _ hb, ← Array.getElem?_toList, ← b, ← ht, List.getElem?_take_of_lt (by omega)]
/-- What place tells: the first that is not ahead of the key; is it the key's? -/
structure PlT (ps : List Pr) (key : ByteArray) (i : Nat) (ok : Bool) : Prop where
  le : i ≤ ps.length
  lo : ∀ j, j < i → Op.bytesLess (ps.getD j e0).1.toList key.toList = true
  hi : ∀ j, i ≤ j → j < ps.length → Op.bytesLess (ps.getD j e0).1.toList key.toList = false
  is : ok = true ↔ i < ps.length ∧ (ps.getD i e0).1 = key
theorem inc_getD {ps : List Pr} (h : Inc ps) {i j : Nat} (hij : i < j) (hj : j < ps.length) : Op.bytesLess (ps.getD i e0).1.toList (ps.getD j e0).1.toList = true := by
  have := List.pairwise_iff_getElem.1 h i j (by omega) hj hij
  simpa [List.getD, hj, show i < ps.length by omega] using this
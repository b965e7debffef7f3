/- What the statements' own helpers on bytes answer: SameBytes. Conditions: fewer than 2^41 bytes. -/
import Derived.Test.YtdojhkgnnbdfkaaGreatTake
namespace Go.Proofs.YtdojhkgnnbdfkaaGreat
open Go.ChangeShapes Go.WideShapes Go.ChangeAt Go.RowKit Go.Lib

/-- The slice at ao reads as the bytes xs. -/
structure Rs (w : World) (ao : Option Addr) (xs : List Nat) : Prop where
  lies : 0 < xs.length → ∃ b off, ao = some ⟨b, off, none⟩ ∧ ∀ j, j < xs.length → w.cell? ⟨b, off + j, none⟩ = some (.int .u8 ((xs.getD j 0 : Nat) : Int))
  len : xs.length < 2^41
theorem Sl.rs {w : World} {r : Nat} {ao : Option Addr} {xs : List Nat} (h : Sl w r ao xs) : Rs w ao xs := ⟨fun h0 => ⟨r, h.lies h0⟩, h.len⟩
theorem Rs.of_row {w : World} {b : Nat} {xs : List Nat} (h : w.heap[b]? = some (.cells (bts xs).toArray 5 (0, 0))) (hl : xs.length < 2^41) : Rs w (some ⟨b, 0, none⟩) xs :=
  ⟨fun _ => ⟨b, 0, rfl, fun j hj => by rw [cell_of_row _ _ _ _ _ _ h, Nat.zero_add]; simpa using bts_get xs j hj⟩, hl⟩
theorem Rs.nil (w : World) (ao : Option Addr) : Rs w ao [] := ⟨fun h => by simp at h, by simp⟩
theorem Rs.take {w : World} {ao : Option Addr} {xs : List Nat} (h : Rs w ao xs) (k : Nat) : Rs w ao (xs.take k) := by
  refine ⟨fun h0 => ?_, by have := h.len; rw [List.length_take]; omega⟩
  rw [List.length_take] at h0
  obtain ⟨b, off, e, hc⟩ := h.lies (by omega)
  refine ⟨b, off, e, fun j hj => ?_⟩
  rw [List.length_take] at hj
  rw [hc j (by omega)]
  simp [List.getD, show j < k by omega]
theorem Rs.drewN {w : World} {ao : Option Addr} {xs : List Nat} (h : Rs w ao xs) (q : Nat) : Rs (w.drewN q) ao xs := ⟨h.lies, h.len⟩
theorem Rs.keep {S : List Nat} {w w' : World} {b off : Nat} {xs : List Nat} (h : Rs w (some ⟨b, off, none⟩) xs) (hf : Fr S w w') (hb : b ∉ S) : Rs w' (some ⟨b, off, none⟩) xs := by
  refine ⟨fun h0 => ?_, h.len⟩
  obtain ⟨b', off', e, hc⟩ := h.lies h0
  cases e
  refine ⟨b, off, rfl, fun j hj => ?_⟩
  have hlt := World.block_lt_of_cell? w _ (hc j hj)
  exact (World.cell?_of_block (hf.block b hlt hb)).trans (hc j hj)

theorem row_src {w : World} {b : Nat} {xs : List Nat} (h : w.heap[b]? = some (.cells (bts xs).toArray 5 (0, 0))) : ∀ j u, (bts xs)[j]? = some u → w.cell? ((⟨b, 0, none⟩ : Addr).add j) = some u := by
  intro j u hj
  rw [show (⟨b, 0, none⟩ : Addr).add j = ⟨b, 0 + j, none⟩ from by simp [Addr.add]; omega, cell_of_row _ _ _ _ _ _ h, Nat.zero_add]
  simpa using hj
theorem same_upto (xs ys : List Nat) (hl : xs.length = ys.length) (h : ∀ j, j < xs.length → xs.getD j 0 = ys.getD j 0) : xs = ys := by
  apply List.ext_getElem hl
  intro i h1 h2
  have := h i h1
  simpa [List.getD, h1, h2] using this

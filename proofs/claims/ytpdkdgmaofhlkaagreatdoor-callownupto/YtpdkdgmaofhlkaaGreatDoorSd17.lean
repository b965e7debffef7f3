/- Are entries, keys with their versions, answers the same: what is the same is told as such. Conditions as each names them. -/
import Derived.Test.YtpdkdgmaofhlkaaGreatDoorYe17E
import Derived.Test.YtpdkdgmaofhlkaaGreatDoorYe17H
namespace Go.Proofs.YtpdkdgmaofhlkaaGreatDoor
open Go.ChangeShapes Go.WideShapes Go.ChangeAt Go.RowKit Go.Lib
set_option linter.unusedVariables false
set_option linter.unusedSimpArgs false

theorem RrE_at {w : World} {ao : Option Addr} {xs : List Ey} (h : RrE w ao xs) (i : Nat) (hi : i < xs.length) : ∃ b off, ao = some ⟨b, off, none⟩ ∧ b < w.heap.size ∧ w.cell? ⟨b, off + i * 2, none⟩ = some (.string (xs.getD i Ey.zero).key) ∧ w.cell? ⟨b, off + i * 2 + 1, none⟩ = some (.string (xs.getD i Ey.zero).val) := by
  obtain ⟨b, off, e, hb, h0⟩ := h (i * 2) _ (eysC_get xs i 0 hi (by omega))
  obtain ⟨b', off', e', _, h1⟩ := h (i * 2 + 1) _ (eysC_get xs i 1 hi (by omega))
  rw [e] at e'
  cases e'
  exact ⟨b, off, e, hb, h0, h1⟩
theorem RrH_lies {w : World} {ao : Option Addr} {hs : List Hd} (h : RrH w ao hs) (h0 : 0 < hs.length) : ∃ b off, ao = some ⟨b, off, none⟩ ∧ b < w.heap.size ∧ ∀ i, i < hs.length → w.cell? ⟨b, off + i * 2, none⟩ = some (.string (hs.getD i Hd.zero).key) ∧ w.cell? ⟨b, off + i * 2 + 1, none⟩ = some (.slice (hs.getD i Hd.zero).vo (hs.getD i Hd.zero).L (hs.getD i Hd.zero).cap) := by
  obtain ⟨b, off, e, hb, _⟩ := h 0 _ (hdsC_at hs 0 0 h0 (by omega))
  refine ⟨b, off, e, hb, fun i hi => ?_⟩
  obtain ⟨b1, o1, e1, _, h1⟩ := h (i * 2) _ (hdsC_at hs i 0 hi (by omega))
  obtain ⟨b2, o2, e2, _, h2⟩ := h (i * 2 + 1) _ (hdsC_at hs i 1 hi (by omega))
  rw [e] at e1 e2
  cases e1
  cases e2
  exact ⟨h1, h2⟩
/-- A key's versions can be read. -/
structure HEc (w : World) (h : Hd) : Prop where
  rs : VRs w h.vo h.vs
  len : h.L = h.vs.length
theorem HEc.keep {w w' : World} {h : Hd} (x : HEc w h) (hf : Fr [] w w') : HEc w' h := ⟨x.rs.keep hf, x.len⟩
/-- Keys with their versions that can be read. -/
structure RdH (w : World) (ao : Option Addr) (hs : List Hd) : Prop where
  rr : RrH w ao hs
  each : ∀ h ∈ hs, HEc w h
theorem RdH.keep {w w' : World} {ao : Option Addr} {hs : List Hd} (h : RdH w ao hs) (hf : Fr [] w w') : RdH w' ao hs := ⟨h.rr.keep hf, fun x hx => (h.each x hx).keep hf⟩
theorem vsame_upto (xs ys : List Vn) (hl : xs.length = ys.length) (h : ∀ j, j < xs.length → xs.getD j Vn.zero = ys.getD j Vn.zero) : xs = ys := by
  apply List.ext_getElem hl
  intro i h1 h2
  have := h i h1
  simpa [List.getD, h1, h2] using this
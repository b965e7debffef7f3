/- Who wrote a key last: fold's Writer and the document's. Conditions as each names them. -/
import Derived.Test.YtfminnmfdogopabRg7
import Derived.Test.YtfminnmfdogopabRefCh
namespace Go.Proofs.Ytfminnmfdogopab
open Go.ChangeShapes Go.WideShapes Go.ChangeAt Go.RowKit Go.Lib Go.Maps Go.Sort
set_option linter.unusedVariables false
set_option linter.unusedSimpArgs false

/-- What Writer tells. -/
def WTold (l : List Tx) (n : Int) (key : ByteArray) (v : Int) (c : Nat) : Prop :=
  (Bad 1 l c ∧ c ≠ 0 ∧ v = 0) ∨ (okL 1 l ∧ ¬ (1 ≤ n ∧ n ≤ (l.length : Int) + 1) ∧ c = 1 ∧ v = 0) ∨ (okL 1 l ∧ (1 ≤ n ∧ n ≤ (l.length : Int) + 1) ∧ okK key = false ∧ c = 1 ∧ v = 0) ∨
  (okL 1 l ∧ (1 ≤ n ∧ n ≤ (l.length : Int) + 1) ∧ okK key = true ∧ c = 0 ∧ Prv l 1 n.toNat key v)
theorem WTold.ex (l : List Tx) (n : Int) (key : ByteArray) : ∃ v c, WTold l n key v c := by
  obtain ⟨c, hc⟩ := Bad.ex l 1
  by_cases h0 : c = 0
  · have hok := hc.ok.1 h0
    by_cases hb : 1 ≤ n ∧ n ≤ (l.length : Int) + 1
    · cases hk : okK key with
      | false => exact ⟨0, 1, Or.inr (Or.inr (Or.inl ⟨hok, hb, hk, rfl, rfl⟩))⟩
      | true =>
        have h1 := (wall_spec (Pk := fun _ => true) hok (i := 1) (by omega) (n.toNat - 1) (by omega)).1 key rfl
        rw [show 1 + (n.toNat - 1) = n.toNat by omega] at h1
        exact ⟨_, 0, Or.inr (Or.inr (Or.inr ⟨hok, hb, hk, rfl, h1⟩))⟩
    · exact ⟨0, 1, Or.inr (Or.inl ⟨hok, hb, rfl, rfl⟩)⟩
  · exact ⟨0, c, Or.inl ⟨hc, h0, rfl⟩⟩
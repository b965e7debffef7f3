/- What may be of a log, as plain functions on lists. Plain lemmas. -/
/- A log as bytes and back, as plain functions on lists: what is told of any bytes, one form, cut logs. Plain lemmas. -/
import Derived.Test.YtakbodlicfmkjaaGreatRec

namespace Go.Proofs.YtakbodlicfmkjaaGreat
open Go.ChangeShapes Go.WideShapes Go.ChangeAt Go.RowKit Go.Lib
set_option linter.unusedVariables false

/-- A transaction. -/
structure Tx where
  n : Int
  ws : List Wt
def Tx.zero : Tx := ⟨0, []⟩
def Tx.ok (t : Tx) : Prop := okT t.n t.ws

theorem Tx.nat {t : Tx} (h : t.ok) : ((t.n.toNat : Nat) : Int) = t.n := by have := h.1; omega
theorem Tx.okN {t : Tx} (h : t.ok) : okT ((t.n.toNat : Nat) : Int) t.ws := by rw [t.nat h]; exact h
/-- May a log be, of which the first number must be k? -/
def okL : Nat → List Tx → Prop
  | _, [] => True
  | k, t :: r => t.ok ∧ t.n = (k : Int) ∧ okL (k + 1) r
/-- What is wrong of it. -/
def Bad : Nat → List Tx → Nat → Prop
  | _, [], c => c = 0
  | k, t :: r, c => (¬ t.ok ∧ c = 1) ∨ (t.ok ∧ t.n ≠ (k : Int) ∧ c = 6) ∨ (t.ok ∧ t.n = (k : Int) ∧ Bad (k + 1) r c)
theorem Bad.ex : ∀ (l : List Tx) (k : Nat), ∃ c, Bad k l c := by
  intro l
  induction l with
  | nil => intro k; exact ⟨0, rfl⟩
  | cons t r ih =>
    intro k
    by_cases h : t.ok
    · by_cases h1 : t.n = (k : Int)
      · obtain ⟨c, hc⟩ := ih (k + 1)
        exact ⟨c, Or.inr (Or.inr ⟨h, h1, hc⟩)⟩
      · exact ⟨6, Or.inr (Or.inl ⟨h, h1, rfl⟩)⟩
    · exact ⟨1, Or.inl ⟨h, rfl⟩⟩
theorem Bad.ok : ∀ {l : List Tx} {k c : Nat}, Bad k l c → (c = 0 ↔ okL k l) := by
  intro l
  induction l with
  | nil => intro k c h; simp only [Bad] at h; simp [okL, h]
  | cons t r ih =>
    intro k c h
    rcases h with ⟨h, rfl⟩ | ⟨h, h1, rfl⟩ | ⟨h, h1, h2⟩
    · exact ⟨fun x => by omega, fun x => absurd x.1 h⟩
    · exact ⟨fun x => by omega, fun x => absurd x.2.1 h1⟩
    · rw [ih h2]
      exact ⟨fun x => ⟨h, h1, x⟩, fun x => x.2.2⟩
theorem Bad.one : ∀ {l : List Tx} {k c d : Nat}, Bad k l c → Bad k l d → c = d := by
  intro l
  induction l with
  | nil => intro k c d h h'; simp only [Bad] at h h'; omega
  | cons t r ih =>
    intro k c d h h'
    rcases h with ⟨h, rfl⟩ | ⟨h, h1, rfl⟩ | ⟨h, h1, h2⟩
    · rcases h' with ⟨_, rfl⟩ | ⟨g, _⟩ | ⟨g, _⟩
      · rfl
      · exact absurd g h
      · exact absurd g h
    · rcases h' with ⟨g, _⟩ | ⟨_, _, rfl⟩ | ⟨_, g, _⟩
      · exact absurd h g
      · rfl
      · exact absurd g h1
    · rcases h' with ⟨g, _⟩ | ⟨_, g, _⟩ | ⟨_, _, g⟩
      · exact absurd h g
      · exact absurd h1 g
      · exact ih h2 g
theorem okL_bad {l : List Tx} {k : Nat} (h : okL k l) : Bad k l 0 := by
  obtain ⟨c, hc⟩ := Bad.ex l k
  have := (Bad.ok hc).2 h
  rw [this] at hc
  exact hc
theorem okL_append : ∀ {a b : List Tx} {k : Nat}, okL k (a ++ b) ↔ okL k a ∧ okL (k + a.length) b := by
  intro a
  induction a with
  | nil => intro b k; simp [okL]
  | cons t r ih =>
    intro b k
    simp only [List.cons_append, okL, ih, List.length_cons]
    rw [show k + 1 + r.length = k + (r.length + 1) by omega]
    constructor
    · rintro ⟨h1, h2, h3, h4⟩; exact ⟨⟨h1, h2, h3⟩, h4⟩
    · rintro ⟨⟨h1, h2, h3⟩, h4⟩; exact ⟨h1, h2, h3, h4⟩
theorem okL_get : ∀ {l : List Tx} {k : Nat}, okL k l → ∀ i, i < l.length → (l.getD i Tx.zero).ok ∧ (l.getD i Tx.zero).n = ((k + i : Nat) : Int) := by
  intro l
  induction l with
  | nil => intro k h i hi; simp at hi
  | cons t r ih =>
    intro k h i hi
    cases i with
    | zero => exact ⟨h.1, by simpa using h.2.1⟩
    | succ i =>
      have := ih h.2.2 i (by simpa using hi)
      rw [show k + 1 + i = k + (i + 1) by omega] at this
      simpa [List.getD] using this
theorem okL_take {l : List Tx} {k : Nat} (h : okL k l) (i : Nat) : okL k (l.take i) := by
  have := h
  rw [← List.take_append_drop i l, okL_append] at this
  exact this.1
theorem okL_few {l : List Tx} (h : okL 1 l) : l.length ≤ 65536 := by
  by_cases h0 : l.length = 0
  · omega
  · obtain ⟨h1, h2⟩ := okL_get h (l.length - 1) (by omega)
    have := h1.2.1
    omega
theorem okL_mem {l : List Tx} {k : Nat} (h : okL k l) : ∀ t ∈ l, t.ok := by
  intro t ht
  obtain ⟨i, hi, rfl⟩ := List.getElem_of_mem ht
  have := (okL_get h i hi).1
  simpa [List.getD, hi] using this
/-! ### A record taken -/
/-! ### A log taken -/
end Go.Proofs.YtakbodlicfmkjaaGreat
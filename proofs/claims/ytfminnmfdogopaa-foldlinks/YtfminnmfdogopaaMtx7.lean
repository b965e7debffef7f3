/- A matrix of truths in memory: a row of slices, each a row of its own. Conditions as each names them. -/
import Derived.Test.YtfminnmfdogopaaAmg7
namespace Go.Proofs.Ytfminnmfdogopaa
open Go.ChangeShapes Go.WideShapes Go.ChangeAt Go.RowKit Go.Lib Go.Maps Go.Sort
set_option linter.unusedVariables false
set_option linter.unusedSimpArgs false

open Classical in
/-- Is there a chain? -/
noncomputable def Rb (l : List Tx) (i j : Nat) : Bool := decide (Rch l i j)
theorem Rb_iff (l : List Tx) (i j : Nat) : Rb l i j = true ↔ Rch l i j := by unfold Rb; simp
theorem Try.undBoolss : Try.prog.underlying 58 = some (.slice 59) := by kernel_rfl
theorem Try.infoBls : (Try.prog.info? 59).map (fun i => (i.zero, i.size, i.bytes)) = some (some (.slice none 0 0), 1, 24) := by kernel_rfl
/-- A row of truths in a block: those between two places are told. -/
def RowB (w : World) (g n : Nat) (f : Nat → Bool) (lo hi : Nat) : Prop := ∃ cs : Array Value, w.heap[g]? = some (.cells cs 4 (0, 0)) ∧ cs.size = n + 1 ∧ ∀ j, lo < j → j < hi → cs[j]? = some (.bool (f j))
theorem RowB.keep {S : List Nat} {w w' : World} {g n : Nat} {f : Nat → Bool} {lo hi : Nat} (h : RowB w g n f lo hi) (hf : Fr S w w') (hn : g ∉ S) : RowB w' g n f lo hi := by
  obtain ⟨cs, h1, h2⟩ := h
  exact ⟨cs, hf.keep h1 hn, h2⟩
theorem RowB.cell {w : World} {g n : Nat} {f : Nat → Bool} {lo hi : Nat} (h : RowB w g n f lo hi) (j : Nat) (h1 : lo < j) (h2 : j < hi) : w.cell? ⟨g, j, none⟩ = some (.bool (f j)) := by
  obtain ⟨cs, hb, _, hc⟩ := h
  rw [cell_of_row _ _ _ _ _ _ hb]
  exact hc j h1 h2
theorem RowB.any {w : World} {g n : Nat} {f : Nat → Bool} {lo hi : Nat} (h : RowB w g n f lo hi) (j : Nat) (h2 : j ≤ n) : ∃ v, w.cell? ⟨g, j, none⟩ = some v := by
  obtain ⟨cs, hb, hs, _⟩ := h
  have hj : j < cs.size := by omega
  exact ⟨cs[j], by rw [cell_of_row _ _ _ _ _ _ hb]; simp [hj]⟩
theorem row_set {w : World} {b j : Nat} {cs : Array Value} {t : TypeId} (x : Value) (h : w.heap[b]? = some (.cells cs t (0, 0))) : (w.setCell ⟨b, j, none⟩ x).heap[b]? = some (.cells (cs.setIfInBounds j x) t (0, 0)) := by
  obtain ⟨hlt, hk⟩ := Array.getElem?_eq_some_iff.1 h
  show (w.heap.modify b _)[b]? = _
  rw [Array.getElem?_eq_getElem (by rw [Array.size_modify]; exact hlt), Array.getElem_modify_self, hk]
  rfl
theorem RowB.put {w : World} {g n : Nat} {f : Nat → Bool} {lo j : Nat} (h : RowB w g n f lo j) (hj : j ≤ n) : RowB (w.setCell ⟨g, j, none⟩ (.bool (f j))) g n f lo (j + 1) := by
  obtain ⟨cs, hb, hs, hc⟩ := h
  refine ⟨_, row_set _ hb, by simpa using hs, fun q h1 h2 => ?_⟩
  by_cases hq : q = j
  · subst hq
    simp [Array.getElem?_setIfInBounds, show q < cs.size by omega]
  · rw [Array.getElem?_setIfInBounds, if_neg (fun e => hq e.symm)]
    exact hc q h1 (by omega)
/-- The matrix: its first rows are whole. -/
structure Mx (w0 w : World) (A n i : Nat) (g : Nat → Nat) (R : Nat → Nat → Bool) : Prop where
  a : ∃ cs : Array Value, w.heap[A]? = some (.cells cs 59 (0, 0)) ∧ cs.size = n + 1 ∧ ∀ q, 1 ≤ q → q < i → cs[q]? = some (.slice (some ⟨g q, 0, none⟩) (n + 1) (n + 1))
  na : w0.heap.size ≤ A
  rows : ∀ q, 1 ≤ q → q < i → RowB w (g q) n (R q) q (n + 1)
  ng : ∀ q, 1 ≤ q → q < i → w0.heap.size ≤ g q
theorem Mx.keep {w0 w w' : World} {A n i : Nat} {g : Nat → Nat} {R : Nat → Nat → Bool} (h : Mx w0 w A n i g R) (hf : Fr [] w w') : Mx w0 w' A n i g R := by
  obtain ⟨cs, h1, h2⟩ := h.a
  exact ⟨⟨cs, hf.keep h1 (by simp), h2⟩, h.na, fun q a b => (h.rows q a b).keep hf (by simp), h.ng⟩
theorem Mx.slice {w0 w : World} {A n i : Nat} {g : Nat → Nat} {R : Nat → Nat → Bool} (h : Mx w0 w A n i g R) (q : Nat) (h1 : 1 ≤ q) (h2 : q < i) : w.cell? ⟨A, q, none⟩ = some (.slice (some ⟨g q, 0, none⟩) (n + 1) (n + 1)) := by
  obtain ⟨cs, hb, _, hc⟩ := h.a
  rw [cell_of_row _ _ _ _ _ _ hb]
  exact hc q h1 h2
theorem Mx.bool {w0 w : World} {A n i : Nat} {g : Nat → Nat} {R : Nat → Nat → Bool} (h : Mx w0 w A n i g R) (q j : Nat) (h1 : 1 ≤ q) (h2 : q < i) (h3 : q < j) (h4 : j ≤ n) : w.cell? ⟨g q, j, none⟩ = some (.bool (R q j)) := (h.rows q h1 h2).cell j h3 (by omega)
/-- .. and the next one is begun. -/
structure MxP (w0 w : World) (A n i j : Nat) (g : Nat → Nat) (R : Nat → Nat → Bool) : Prop where
  m : Mx w0 w A n i g R
  s : w.cell? ⟨A, i, none⟩ = some (.slice (some ⟨g i, 0, none⟩) (n + 1) (n + 1))
  r : RowB w (g i) n (R i) i j
  ng : w0.heap.size ≤ g i
  ne : ∀ q, 1 ≤ q → q < i → g q ≠ g i
theorem MxP.keep {w0 w w' : World} {A n i j : Nat} {g : Nat → Nat} {R : Nat → Nat → Bool} (h : MxP w0 w A n i j g R) (hf : Fr [] w w') : MxP w0 w' A n i j g R := by
  obtain ⟨cs, h1, _⟩ := h.m.a
  exact ⟨h.m.keep hf, (World.cell?_of_block (hf.block A (lt_of_block h1) (by simp))).trans h.s, h.r.keep hf (by simp), h.ng, h.ne⟩
theorem MxP.neA {w0 w : World} {A n i j : Nat} {g : Nat → Nat} {R : Nat → Nat → Bool} (h : MxP w0 w A n i j g R) : A ≠ g i := by
  obtain ⟨cs, h1, _⟩ := h.m.a
  obtain ⟨ds, h2, _⟩ := h.r
  intro e
  rw [e, h2] at h1
  simp only [Option.some.injEq, Obj.cells.injEq] at h1
  exact absurd h1.2.1 (by decide)
theorem MxP.put {w0 w : World} {A n i j : Nat} {g : Nat → Nat} {R : Nat → Nat → Bool} (h : MxP w0 w A n i j g R) (hj : j ≤ n) : MxP w0 (w.setCell ⟨g i, j, none⟩ (.bool (R i j))) A n i (j + 1) g R ∧ Fr [g i] w (w.setCell ⟨g i, j, none⟩ (.bool (R i j))) := by
  have hf : Fr [g i] w (w.setCell ⟨g i, j, none⟩ (.bool (R i j))) := Fr.set _ _ _ (by simp)
  have hA := h.neA
  obtain ⟨cs, h1, h2⟩ := h.m.a
  refine ⟨⟨⟨⟨cs, hf.keep h1 (by simpa using hA), h2⟩, h.m.na, fun q a b => (h.m.rows q a b).keep hf (by simpa using h.ne q a b), h.m.ng⟩, (World.cell?_of_block (hf.block A (lt_of_block h1) (by simpa using hA))).trans h.s, h.r.put hj, h.ng, h.ne⟩, hf⟩
theorem MxP.done {w0 w : World} {A n i : Nat} {g : Nat → Nat} {R : Nat → Nat → Bool} (h : MxP w0 w A n i (n + 1) g R) (h1 : 1 ≤ i) : Mx w0 w A n (i + 1) g R := by
  obtain ⟨cs, hb, hs, hc⟩ := h.m.a
  refine ⟨⟨cs, hb, hs, fun q a b => ?_⟩, h.m.na, fun q a b => ?_, fun q a b => ?_⟩
  · by_cases hq : q < i
    · exact hc q a hq
    · obtain rfl : q = i := by omega
      have := h.s
      rw [cell_of_row _ _ _ _ _ _ hb] at this
      exact this
  · by_cases hq : q < i
    · exact h.m.rows q a hq
    · obtain rfl : q = i := by omega
      exact h.r
  · by_cases hq : q < i
    · exact h.m.ng q a hq
    · obtain rfl : q = i := by omega
      exact h.ng
/-- A new row is made and laid in its place. -/
theorem Mx.begin {w0 w w1 : World} {A n i : Nat} {g : Nat → Nat} {R : Nat → Nat → Bool} (h : Mx w0 w A n i g R) (hs : w0.heap.size ≤ w.heap.size) (hi : i ≤ n) (hf : Fr [] w w1) {cs : Array Value} (hb : w1.heap[w.heap.size]? = some (.cells cs 4 (0, 0))) (hc : cs.size = n + 1) :
    MxP w0 (w1.setCell ⟨A, i, none⟩ (.slice (some ⟨w.heap.size, 0, none⟩) (n + 1) (n + 1))) A n i (i + 1) (fun q => if q = i then w.heap.size else g q) R ∧ Fr [A] w1 (w1.setCell ⟨A, i, none⟩ (.slice (some ⟨w.heap.size, 0, none⟩) (n + 1) (n + 1))) := by
  have hset : Fr [A] w1 (w1.setCell ⟨A, i, none⟩ (.slice (some ⟨w.heap.size, 0, none⟩) (n + 1) (n + 1))) := Fr.set _ _ _ (by simp)
  obtain ⟨as', ha, has, hac⟩ := h.a
  have hlA := lt_of_block ha
  have ha1 := hf.keep ha (by simp)
  have ha2 := row_set (j := i) (.slice (some ⟨w.heap.size, 0, none⟩) (n + 1) (n + 1)) ha1
  have hgl : ∀ q, 1 ≤ q → q < i → g q < w.heap.size := fun q a b => by
    obtain ⟨cs, h1, _⟩ := h.rows q a b
    exact lt_of_block h1
  have hgA : ∀ q, 1 ≤ q → q < i → g q ≠ A := fun q a b e => by
    obtain ⟨cs, h1, _⟩ := h.rows q a b
    rw [e, ha] at h1
    simp only [Option.some.injEq, Obj.cells.injEq] at h1
    exact absurd h1.2.1 (by decide)
  refine ⟨⟨⟨⟨_, ha2, by simpa using has, fun q a b => ?_⟩, h.na, fun q a b => ?_, fun q a b => ?_⟩, ?_, ?_, ?_, fun q a b => ?_⟩, hset⟩
  · rw [Array.getElem?_setIfInBounds, if_neg (by omega)]
    simp only [if_neg (show q ≠ i by omega)]
    exact hac q a b
  · simp only [if_neg (show q ≠ i by omega)]
    exact ((h.rows q a b).keep hf (by simp)).keep hset (by simpa using hgA q a b)
  · simp only [if_neg (show q ≠ i by omega)]
    exact h.ng q a b
  · rw [cell_of_row _ _ _ _ _ _ ha2]
    simp [Array.getElem?_setIfInBounds, show i < as'.size by omega]
  · simp only [if_pos]
    exact ⟨cs, hset.keep hb (by simp; omega), hc, fun j h1 h2 => by omega⟩
  · simp only [if_pos]
    exact hs
  · simp only [if_neg (show q ≠ i by omega), if_pos]
    have := hgl q a b
    omega
/-- Do two transactions share a key? -/
def nearB (wi wj : List Wt) : Bool := wi.any fun x => (lastW wj x.key).isSome
theorem near_snoc (a : List Wt) (x : Wt) (wj : List Wt) : nearB (a ++ [x]) wj = (nearB a wj || (lastW wj x.key).isSome) := by simp [nearB, List.any_append]
theorem near_iff (l : List Tx) (i j : Nat) : nearB (l.getD (i - 1) Tx.zero).ws (l.getD (j - 1) Tx.zero).ws = true ↔ Nbr l i j := by
  unfold nearB Nbr
  rw [List.any_eq_true]
  constructor
  · rintro ⟨x, hx, h⟩
    refine ⟨x.key, ⟨x, hx, rfl⟩, (wrt_last l j x.key).2 fun e => ?_⟩
    rw [e] at h
    cases h
  · rintro ⟨s, ⟨x, hx, e⟩, h2⟩
    refine ⟨x, hx, ?_⟩
    rw [e]
    have := (wrt_last l j s).1 h2
    cases hh : lastW (l.getD (j - 1) Tx.zero).ws s with
    | none => exact absurd hh this
    | some y => rfl
/-- Is there a chain by way of another, below k? -/
def viaB (R : Nat → Nat → Bool) (i j k : Nat) : Bool := (List.range k).any fun q => decide (i < q) && (R i q && R q j)
theorem via_step (R : Nat → Nat → Bool) (i j k : Nat) (h : i < k) : viaB R i j (k + 1) = (viaB R i j k || (R i k && R k j)) := by
  unfold viaB
  rw [List.range_succ, List.any_append]
  simp [h]
theorem via_low (R : Nat → Nat → Bool) (i j k : Nat) (h : k ≤ i + 1) : viaB R i j k = false := by
  unfold viaB
  rw [List.any_eq_false]
  intro q hq
  have : ¬ i < q := by have := List.mem_range.1 hq; omega
  simp [this]
theorem links (l : List Tx) (i j : Nat) (h : i < j) : (nearB (l.getD (i - 1) Tx.zero).ws (l.getD (j - 1) Tx.zero).ws || viaB (Rb l) i j j) = Rb l i j := by
  have e : (nearB (l.getD (i - 1) Tx.zero).ws (l.getD (j - 1) Tx.zero).ws || viaB (Rb l) i j j) = true ↔ Rb l i j = true := by
    rw [Bool.or_eq_true, near_iff, Rb_iff, rch_iff h]
    constructor
    · rintro (h1 | h1)
      · exact Or.inl h1
      · unfold viaB at h1
        obtain ⟨q, hq, h2⟩ := List.any_eq_true.1 h1
        simp only [Bool.and_eq_true, decide_eq_true_eq, Rb_iff] at h2
        exact Or.inr ⟨q, h2.1, List.mem_range.1 hq, h2.2⟩
    · rintro (h1 | ⟨q, h1, h2, h3⟩)
      · exact Or.inl h1
      · refine Or.inr (List.any_eq_true.2 ⟨q, List.mem_range.2 h2, ?_⟩)
        simp only [Bool.and_eq_true, decide_eq_true_eq, Rb_iff]
        exact ⟨h1, h3⟩
  cases h1 : (nearB (l.getD (i - 1) Tx.zero).ws (l.getD (j - 1) Tx.zero).ws || viaB (Rb l) i j j) <;> cases h2 : Rb l i j <;> rw [h1, h2] at e <;> simp at e <;> rfl
end Go.Proofs.Ytfminnmfdogopaa

/- A Book of many lists of many kinds (the statements' own check that lists share no memory): how it lies in memory, for any kind of elements. Conditions as each lemma names them. -/
import Derived.Test.YtfhfjplhfjlpaaaDoorBap
namespace Go.Proofs.YtfhfjplhfjlpaaaDoor.Bq
open Go.ChangeShapes Go.WideShapes Go.ChangeAt Go.RowKit Go.Lib
set_option linter.unusedVariables false

/-- A list that the Book holds, what it is when more was put behind it, its number. -/
structure HB where
  l : Value
  long : Value
  n : Nat
def HB.cells (h : HB) : List Value := [h.l, h.long, .int .i64 (h.n : Int)]
def rowOf (hs : List HB) : List Value := hs.flatMap HB.cells
theorem rowOf_length (hs : List HB) : (rowOf hs).length = hs.length * 3 := by
  induction hs with
  | nil => rfl
  | cons h r ih => simp only [rowOf, List.flatMap_cons, List.length_append, HB.cells, List.length_cons, List.length_nil] at ih ⊢; omega
theorem rowOf_snoc (hs : List HB) (h : HB) : rowOf (hs ++ [h]) = rowOf hs ++ h.cells := by simp [rowOf]
theorem rowOf_get (hs : List HB) (i : Nat) (h : HB) (hi : hs[i]? = some h) (j : Nat) (hj : j < 3) : (rowOf hs)[i * 3 + j]? = h.cells[j]? := by
  induction hs generalizing i with
  | nil => simp at hi
  | cons a r ih =>
    have e : rowOf (a :: r) = a.cells ++ rowOf r := by simp [rowOf]
    have hl : a.cells.length = 3 := rfl
    cases i with
    | zero =>
      simp at hi
      subst hi
      rw [e, List.getElem?_append_left (by omega)]
      simp
    | succ i =>
      rw [e, List.getElem?_append_right (by omega), hl, show (i + 1) * 3 + j - 3 = i * 3 + j from by omega]
      exact ih i (by simpa using hi)
theorem rowOf_set (hs : List HB) (i : Nat) (h : HB) (hi : hs[i]? = some h) (x : Value) : rowOf (hs.set i { h with long := x }) = (rowOf hs).set (i * 3 + 1) x := by
  induction hs generalizing i with
  | nil => simp at hi
  | cons a r ih =>
    have e : ∀ b : HB, rowOf (b :: r) = b.cells ++ rowOf r := fun b => by simp [rowOf]
    have hl : a.cells.length = 3 := rfl
    cases i with
    | zero =>
      simp at hi
      subst hi
      rw [List.set_cons_zero, e, e, List.set_append_left _ _ (by omega)]
      rfl
    | succ i =>
      rw [List.set_cons_succ, show rowOf (a :: r.set i { h with long := x }) = a.cells ++ rowOf (r.set i { h with long := x }) from by simp [rowOf], ih i (by simpa using hi), e, List.set_append_right _ _ (by omega), hl, show (i + 1) * 3 + 1 - 3 = i * 3 + 1 from by omega]

/-- A kind of lists: the type of what is held, of an element, how many cells an element has, the mark of a number, the Book's cell. -/
structure Kd where
  tH : TypeId
  tE : TypeId
  S : Nat
  mark : Nat → List Value
  col : Nat
  pos : 0 < S
  len : ∀ n, (mark n).length = S
  hE : tH ≠ tE
  hB : tH ≠ 48
  eB : tE ≠ 48
/-- A mark, so many times. -/
def marks (x : List Value) (n : Nat) : List Value := (List.replicate n x).flatten
theorem marks_length (x : List Value) (n : Nat) : (marks x n).length = n * x.length := by simp [marks]
theorem marks_succ (x : List Value) (n : Nat) : marks x (n + 1) = marks x n ++ x := by simp [marks, List.replicate_succ']
theorem marks_cons (x : List Value) (n : Nat) : marks x (n + 1) = x ++ marks x n := by simp [marks, List.replicate_succ]
theorem marks_get (x : List Value) (n j i : Nat) (hj : j < n) (hi : i < x.length) : (marks x n)[j * x.length + i]? = x[i]? := by
  induction n generalizing j with
  | zero => omega
  | succ n ih =>
    rw [marks_cons]
    cases j with
    | zero => rw [Nat.zero_mul, Nat.zero_add, List.getElem?_append_left hi]
    | succ j =>
      have e : (j + 1) * x.length + i = x.length + (j * x.length + i) := by rw [Nat.add_mul]; omega
      rw [e, List.getElem?_append_right (by omega), Nat.add_sub_cancel_left]
      exact ih j (by omega)

section
variable {K : Kd}
/-- The Book's part of one kind: its struct in block bk, its row of held lists at rv. -/
structure Bl (K : Kd) (w : World) (bk : Nat) (rv : Value) (hs : List HB) : Prop where
  box : ∃ cs, w.heap[bk]? = some (.cells cs 48 (0, 0)) ∧ cs[K.col]? = some rv
  row : w.ownsRow 0 K.tH 3 rv hs.length (rowOf hs)
  few : hs.length < 2097152
  num : ∀ (j : Nat) (h : HB), hs[j]? = some h → h.n < 4194304
theorem Bl.keep {S : List Nat} {w w' : World} {bk : Nat} {rv : Value} {hs : List HB} (h : Bl K w bk rv hs) (hf : Fr S w w') (hb : bk ∉ S) (hr : ∀ k, rv.ownBlock = some k → k ∉ S) : Bl K w' bk rv hs := by
  obtain ⟨cs, h1, h2⟩ := h.box
  exact ⟨⟨cs, hf.keep h1 hb, h2⟩, owns_keep h.row hf hr, h.few, h.num⟩
theorem Bl.other {w : World} {bk : Nat} {rv : Value} {hs : List HB} (h : Bl K w bk rv hs) : rv.ownBlock ≠ some bk := by
  intro e
  obtain ⟨cs, hc⟩ := own_type h.row bk e
  obtain ⟨cs', h1, _⟩ := h.box
  rw [h1] at hc
  simp only [Option.some.injEq, Obj.cells.injEq] at hc
  exact K.hB hc.2.1.symm
theorem Bl.c1 {w : World} {bk : Nat} {rv : Value} {hs : List HB} (h : Bl K w bk rv hs) : w.cell? ⟨bk, K.col, none⟩ = some rv := by
  obtain ⟨cs, h1, h2⟩ := h.box
  rw [cell_of_row _ _ _ _ _ _ h1, h2]
/-- An entry of the row, cell by cell. -/
theorem Bl.at {w : World} {bk : Nat} {rv : Value} {hs : List HB} (h : Bl K w bk rv hs) (i : Nat) (e : HB) (hi : hs[i]? = some e) :
    ∃ rb cap, rv = .slice (some ⟨rb, 0, none⟩) hs.length cap ∧ hs.length ≤ cap ∧ w.cell? ⟨rb, i * 3, none⟩ = some e.l ∧ w.cell? ⟨rb, i * 3 + 1, none⟩ = some e.long ∧ w.cell? ⟨rb, i * 3 + 2, none⟩ = some (.int .i64 (e.n : Int)) := by
  have hlt : i < hs.length := (List.getElem?_eq_some_iff.1 hi).1
  obtain ⟨rb, cap, rfl, hc⟩ := own_form h.row (by omega)
  have hr := h.row
  have hat : ∀ j, j < 3 → w.cell? ⟨rb, i * 3 + j, none⟩ = e.cells[j]? := fun j hj => by rw [hr.cellAt (i * 3 + j) (by omega), rowOf_get hs i e hi j hj]
  exact ⟨rb, cap, rfl, hc, hat 0 (by omega), hat 1 (by omega), hat 2 (by omega)⟩
/-- A held list as it was handed in; with its marks; and with more behind it. -/
def P0 (K : Kd) (w : World) (h : HB) : Prop := ∃ n vs, w.ownsRow 0 K.tE K.S h.l n vs ∧ n < 17179869184
def P1 (K : Kd) (w : World) (h : HB) : Prop := ∃ n, w.ownsRow 0 K.tE K.S h.l n (marks (K.mark h.n) n) ∧ n < 17179869184
/-- A slice reads as n times a mark. -/
structure Rdm (K : Kd) (w : World) (v : Value) (n : Nat) (x : List Value) : Prop where
  shape : ∃ ao cap, v = .slice ao n cap ∧ n ≤ cap ∧ (0 < n → ∃ b, ao = some ⟨b, 0, none⟩ ∧ ∀ j i, j < n → i < K.S → w.cell? ⟨b, j * K.S + i, none⟩ = x[i]?)
  type : ∀ k, v.ownBlock = some k → ∃ cs, w.heap[k]? = some (.cells cs K.tE (0, 0))
theorem own_marks {w : World} {g m n cap : Nat} {x : List Value} (hx : x.length = K.S) (h : w.ownsRow 0 K.tE K.S (.slice (some ⟨g, 0, none⟩) m cap) m (marks x m)) (j i : Nat) (hj : j < m) (hi : i < K.S) : w.cell? ⟨g, j * K.S + i, none⟩ = x[i]? := by
  have h1 : j * K.S + i < m * K.S := by
    have : (j + 1) * K.S ≤ m * K.S := Nat.mul_le_mul_right _ hj
    rw [Nat.add_mul] at this
    omega
  rw [h.cellAt (j * K.S + i) h1]
  have := marks_get x m j i hj (by omega)
  rw [hx] at this
  exact this
theorem Rdm.of_own {w : World} {v : Value} {n m : Nat} {x : List Value} {cap : Nat} {ao : Option Addr} (hx : x.length = K.S) (h : w.ownsRow 0 K.tE K.S v n (marks x n)) (hm : m ≤ n) (he : (Value.slice ao m cap).ownBlock = v.ownBlock) (hc : m ≤ cap) (ho : ∀ a, ao = some a → a.off = 0 ∧ a.spot = none) : Rdm K w (.slice ao m cap) m x := by
  refine ⟨⟨ao, cap, rfl, hc, fun h0 => ?_⟩, fun k hk => own_type h k (by rw [← he]; exact hk)⟩
  obtain ⟨g, c, rfl, _⟩ := own_form h (by omega)
  cases ao with
  | none => simp [Value.ownBlock] at he
  | some a =>
    obtain ⟨b, off, spot⟩ := a
    obtain ⟨rfl, rfl⟩ : off = 0 ∧ spot = none := ho _ rfl
    simp [Value.ownBlock] at he
    subst he
    exact ⟨b, rfl, fun j i hj hi => own_marks (n := 0) hx h j i (by omega) hi⟩
theorem Rdm.keep {S : List Nat} {w w' : World} {v : Value} {n : Nat} {x : List Value} (h : Rdm K w v n x) (hf : Fr S w w') (hn : ∀ k, v.ownBlock = some k → k ∉ S) : Rdm K w' v n x := by
  obtain ⟨ao, cap, rfl, hc, hr⟩ := h.shape
  refine ⟨⟨ao, cap, rfl, hc, fun h0 => ?_⟩, fun k hk => ?_⟩
  · obtain ⟨b, rfl, hb⟩ := hr h0
    refine ⟨b, rfl, fun j i hj hi => ?_⟩
    obtain ⟨cs, hcs⟩ := h.type b rfl
    exact (World.cell?_of_block (hf.block b (lt_of_block hcs) (hn b rfl))).trans (hb j i hj hi)
  · obtain ⟨cs, hcs⟩ := h.type k hk
    exact ⟨cs, hf.keep hcs (hn k hk)⟩
def P2 (K : Kd) (w : World) (h : HB) : Prop := ∃ n, Rdm K w h.l n (K.mark h.n) ∧ w.ownsRow 0 K.tE K.S h.long (n + 70) (marks (K.mark h.n) (n + 70)) ∧ n < 17179869184
theorem P0.keep {S : List Nat} {w w' : World} {h : HB} (p : P0 K w h) (hf : Fr S w w') (hn : ∀ k, h.l.ownBlock = some k → k ∉ S) : P0 K w' h := by
  obtain ⟨n, vs, h1, h2⟩ := p
  exact ⟨n, vs, owns_keep h1 hf hn, h2⟩
theorem P1.keep {S : List Nat} {w w' : World} {h : HB} (p : P1 K w h) (hf : Fr S w w') (hn : ∀ k, h.l.ownBlock = some k → k ∉ S) : P1 K w' h := by
  obtain ⟨n, h1, h2⟩ := p
  exact ⟨n, owns_keep h1 hf hn, h2⟩
theorem P2.keep {S : List Nat} {w w' : World} {h : HB} (p : P2 K w h) (hf : Fr S w w') (hn : ∀ k, h.l.ownBlock = some k → k ∉ S) (hn2 : ∀ k, h.long.ownBlock = some k → k ∉ S) : P2 K w' h := by
  obtain ⟨n, h1, h2, h3⟩ := p
  exact ⟨n, h1.keep hf hn, owns_keep h2 hf hn2, h3⟩
theorem P0.type {w : World} {h : HB} (p : P0 K w h) : ∀ k, h.l.ownBlock = some k → ∃ cs, w.heap[k]? = some (.cells cs K.tE (0, 0)) := by
  obtain ⟨n, vs, h1, h2⟩ := p
  exact own_type h1
theorem P1.type {w : World} {h : HB} (p : P1 K w h) : ∀ k, h.l.ownBlock = some k → ∃ cs, w.heap[k]? = some (.cells cs K.tE (0, 0)) := by
  obtain ⟨n, h1, h2⟩ := p
  exact own_type h1
/-- Blocks of elements are none of the Book's own. -/
theorem Bl.apart {w : World} {bk : Nat} {rv : Value} {hs : List HB} (h : Bl K w bk rv hs) {k : Nat} {cs : Array Value} (hk : w.heap[k]? = some (.cells cs K.tE (0, 0))) : k ≠ bk ∧ rv.ownBlock ≠ some k := by
  refine ⟨fun e => ?_, fun e => ?_⟩
  · subst e
    obtain ⟨cs', h1, _⟩ := h.box
    rw [h1] at hk
    simp only [Option.some.injEq, Obj.cells.injEq] at hk
    exact K.eB hk.2.1.symm
  · obtain ⟨cs', hc⟩ := own_type h.row k e
    rw [hk] at hc
    simp only [Option.some.injEq, Obj.cells.injEq] at hc
    exact K.hE hc.2.1.symm
end
/-- The blocks of the lists as they were handed in. -/
def lbs (hs : List HB) : List Nat := hs.flatMap fun h => h.l.ownBlock.toList
theorem mem_lbs {hs : List HB} {k : Nat} : k ∈ lbs hs ↔ ∃ h ∈ hs, h.l.ownBlock = some k := by simp [lbs]
/-- No two of them share one. -/
def Alone (hs : List HB) : Prop := ∀ (i j : Nat) (a b : HB), hs[i]? = some a → hs[j]? = some b → i ≠ j → ∀ k, a.l.ownBlock = some k → b.l.ownBlock ≠ some k
/-- Nothing was put behind them yet. -/
def Fresh (hs : List HB) : Prop := ∀ (j : Nat) (h : HB), hs[j]? = some h → h.long = .slice none 0 0
end Go.Proofs.YtfhfjplhfjlpaaaDoor.Bq

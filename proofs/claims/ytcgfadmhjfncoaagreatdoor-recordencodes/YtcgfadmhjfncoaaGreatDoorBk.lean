/- A Book of lists of bytes and of a list of writes (the statements' own check that lists share no memory): how it lies in memory. Conditions as each lemma names them. -/
import Derived.Test.YtcgfadmhjfncoaaGreatDoorTwW
namespace Go.Proofs.YtcgfadmhjfncoaaGreatDoor
open Go.ChangeShapes Go.WideShapes Go.ChangeAt Go.RowKit Go.Lib
set_option linter.unusedVariables false
variable {m : Nat} {wv : Value}
/-- A list that the Book holds, what it is when more was put behind it, its number. -/
structure HB where
  l : Value
  long : Value
  n : Nat
def HB.cells (h : HB) : List Value := [h.l, h.long, .int .i64 (h.n : Int)]
def rowOf (hs : List HB) : List Value := hs.flatMap HB.cells
theorem rowOf_length (hs : List HB) : (rowOf hs).length = hs.length * 3 := by
  induction hs with
  | nil => rfl
  | cons h r ih => simp only [rowOf, List.flatMap_cons, List.length_append, HB.cells, List.length_cons, List.length_nil] at ih ⊢; omega
theorem rowOf_snoc (hs : List HB) (h : HB) : rowOf (hs ++ [h]) = rowOf hs ++ h.cells := by simp [rowOf]
theorem rowOf_get (hs : List HB) (i : Nat) (h : HB) (hi : hs[i]? = some h) (j : Nat) (hj : j < 3) : (rowOf hs)[i * 3 + j]? = h.cells[j]? := by
  induction hs generalizing i with
  | nil => simp at hi
  | cons a r ih =>
    have e : rowOf (a :: r) = a.cells ++ rowOf r := by simp [rowOf]
    have hl : a.cells.length = 3 := rfl
    cases i with
    | zero =>
      simp at hi
      subst hi
      rw [e, List.getElem?_append_left (by omega)]
      simp
    | succ i =>
      rw [e, List.getElem?_append_right (by omega), hl, show (i + 1) * 3 + j - 3 = i * 3 + j from by omega]
      exact ih i (by simpa using hi)
theorem rowOf_set (hs : List HB) (i : Nat) (h : HB) (hi : hs[i]? = some h) (x : Value) : rowOf (hs.set i { h with long := x }) = (rowOf hs).set (i * 3 + 1) x := by
  induction hs generalizing i with
  | nil => simp at hi
  | cons a r ih =>
    have e : ∀ b : HB, rowOf (b :: r) = b.cells ++ rowOf r := fun b => by simp [rowOf]
    have hl : a.cells.length = 3 := rfl
    cases i with
    | zero =>
      simp at hi
      subst hi
      rw [List.set_cons_zero, e, e, List.set_append_left _ _ (by omega)]
      rfl
    | succ i =>
      rw [List.set_cons_succ, show rowOf (a :: r.set i { h with long := x }) = a.cells ++ rowOf (r.set i { h with long := x }) from by simp [rowOf], ih i (by simpa using hi), e, List.set_append_right _ _ (by omega), hl, show (i + 1) * 3 + 1 - 3 = i * 3 + 1 from by omega]

/-- The Book itself: its struct in block bk, its row of held lists at rv. -/
structure Bk (m : Nat) (wv : Value) (w : World) (bk : Nat) (rv : Value) (hs : List HB) : Prop where
  box : w.heap[bk]? = some (.cells #[.int .i64 ((m + hs.length : Nat) : Int), rv, .slice none 0 0, .slice none 0 0, wv, .slice none 0 0, .slice none 0 0, .slice none 0 0, .slice none 0 0, .slice none 0 0, .slice none 0 0, .slice none 0 0] 49 (0, 0))
  row : w.ownsRow 0 79 3 rv hs.length (rowOf hs)
  few : m + hs.length < 1048576
theorem Bk.keep {S : List Nat} {w w' : World} {bk : Nat} {rv : Value} {hs : List HB} (h : Bk m wv w bk rv hs) (hf : Fr S w w') (hb : bk ∉ S) (hr : ∀ k, rv.ownBlock = some k → k ∉ S) : Bk m wv w' bk rv hs :=
  ⟨hf.keep h.box hb, owns_keep h.row hf hr, h.few⟩
theorem Bk.other {w : World} {bk : Nat} {rv : Value} {hs : List HB} (h : Bk m wv w bk rv hs) : rv.ownBlock ≠ some bk := by
  intro e
  obtain ⟨cs, hc⟩ := own_type h.row bk e
  rw [h.box] at hc
  simp at hc
theorem Bk.cell {w : World} {bk : Nat} {rv : Value} {hs : List HB} (h : Bk m wv w bk rv hs) (j : Nat) (hj : 2 ≤ j) (hj2 : j < 12) (hj3 : j ≠ 4) : w.cell? ⟨bk, j, none⟩ = some (.slice none 0 0) := by
  rw [cell_of_row _ _ _ _ _ _ h.box]
  match j, hj, hj2, hj3 with
  | 2, _, _, _ => rfl
  | 3, _, _, _ => rfl
  | 5, _, _, _ => rfl
  | 6, _, _, _ => rfl
  | 7, _, _, _ => rfl
  | 8, _, _, _ => rfl
  | 9, _, _, _ => rfl
  | 10, _, _, _ => rfl
  | 11, _, _, _ => rfl
theorem Bk.c0 {w : World} {bk : Nat} {rv : Value} {hs : List HB} (h : Bk m wv w bk rv hs) : w.cell? ⟨bk, 0, none⟩ = some (.int .i64 ((m + hs.length : Nat) : Int)) := by rw [cell_of_row _ _ _ _ _ _ h.box]; rfl
theorem Bk.c1 {w : World} {bk : Nat} {rv : Value} {hs : List HB} (h : Bk m wv w bk rv hs) : w.cell? ⟨bk, 1, none⟩ = some rv := by rw [cell_of_row _ _ _ _ _ _ h.box]; rfl
theorem Bk.c4 {w : World} {bk : Nat} {rv : Value} {hs : List HB} (h : Bk m wv w bk rv hs) : w.cell? ⟨bk, 4, none⟩ = some wv := by rw [cell_of_row _ _ _ _ _ _ h.box]; rfl
theorem Bk.free {w : World} {bk : Nat} {rv : Value} {hs : List HB} (h : Bk m wv w bk rv hs) (j : Nat) : w.frozen? ⟨bk, j, none⟩ = false := by simp [World.frozen?, h.box]
/-- An entry of the row, cell by cell. -/
theorem Bk.at {w : World} {bk : Nat} {rv : Value} {hs : List HB} (h : Bk m wv w bk rv hs) (i : Nat) (e : HB) (hi : hs[i]? = some e) :
    ∃ rb cap, rv = .slice (some ⟨rb, 0, none⟩) hs.length cap ∧ hs.length ≤ cap ∧ w.cell? ⟨rb, i * 3, none⟩ = some e.l ∧ w.cell? ⟨rb, i * 3 + 1, none⟩ = some e.long ∧ w.cell? ⟨rb, i * 3 + 2, none⟩ = some (.int .i64 (e.n : Int)) := by
  have hlt : i < hs.length := (List.getElem?_eq_some_iff.1 hi).1
  obtain ⟨rb, cap, rfl, hc⟩ := own_form h.row (by omega)
  have hr := h.row
  have hat : ∀ j, j < 3 → w.cell? ⟨rb, i * 3 + j, none⟩ = e.cells[j]? := fun j hj => by rw [hr.cellAt (i * 3 + j) (by omega), rowOf_get hs i e hi j hj]
  exact ⟨rb, cap, rfl, hc, hat 0 (by omega), hat 1 (by omega), hat 2 (by omega)⟩

/-- The mark of a list's bytes. -/
def mkV (n : Nat) : Value := .int .u8 ((1 + n % 255 : Nat) : Int)
theorem mk_one (n : Nat) : (mkV n).oneCell' = true := rfl
/-- A held list as it was handed in; with its marks; and with more behind it. -/
def P0 (w : World) (h : HB) : Prop := ∃ n vs, w.ownsRow 0 5 1 h.l n vs ∧ n < 2^40
def P1 (w : World) (h : HB) : Prop := ∃ n, w.ownsRow 0 5 1 h.l n (List.replicate n (mkV h.n)) ∧ n < 2^40
/-- A slice reads as n times a value. -/
structure Rds (w : World) (v : Value) (n : Nat) (x : Value) : Prop where
  shape : ∃ ao cap, v = .slice ao n cap ∧ n ≤ cap ∧ (0 < n → ∃ b, ao = some ⟨b, 0, none⟩ ∧ ∀ j, j < n → w.cell? ⟨b, j, none⟩ = some x)
  type : ∀ k, v.ownBlock = some k → ∃ cs, w.heap[k]? = some (.cells cs 5 (0, 0))
theorem Rds.of_own {w : World} {v : Value} {n m : Nat} {x : Value} {cap : Nat} {ao : Option Addr} (h : w.ownsRow 0 5 1 v n (List.replicate n x)) (hm : m ≤ n) (he : (Value.slice ao m cap).ownBlock = v.ownBlock) (hc : m ≤ cap) (ho : ∀ a, ao = some a → a.off = 0 ∧ a.spot = none) : Rds w (.slice ao m cap) m x := by
  refine ⟨⟨ao, cap, rfl, hc, fun h0 => ?_⟩, fun k hk => own_type h k (by rw [← he]; exact hk)⟩
  obtain ⟨g, c, rfl, _⟩ := own_form h (by omega)
  cases ao with
  | none => simp [Value.ownBlock] at he
  | some a =>
    obtain ⟨b, off, spot⟩ := a
    obtain ⟨rfl, rfl⟩ : off = 0 ∧ spot = none := ho _ rfl
    simp [Value.ownBlock] at he
    subst he
    refine ⟨b, rfl, fun j hj => ?_⟩
    rw [h.cellAt j (by omega)]
    simp [show j < n by omega]
theorem Rds.keep {S : List Nat} {w w' : World} {v : Value} {n : Nat} {x : Value} (h : Rds w v n x) (hf : Fr S w w') (hn : ∀ k, v.ownBlock = some k → k ∉ S) : Rds w' v n x := by
  obtain ⟨ao, cap, rfl, hc, hr⟩ := h.shape
  refine ⟨⟨ao, cap, rfl, hc, fun h0 => ?_⟩, fun k hk => ?_⟩
  · obtain ⟨b, rfl, hb⟩ := hr h0
    refine ⟨b, rfl, fun j hj => ?_⟩
    obtain ⟨cs, hcs⟩ := h.type b rfl
    exact (World.cell?_of_block (hf.block b (lt_of_block hcs) (hn b rfl))).trans (hb j hj)
  · obtain ⟨cs, hcs⟩ := h.type k hk
    exact ⟨cs, hf.keep hcs (hn k hk)⟩
def P2 (w : World) (h : HB) : Prop := ∃ n, Rds w h.l n (mkV h.n) ∧ w.ownsRow 0 5 1 h.long (n + 70) (List.replicate (n + 70) (mkV h.n)) ∧ n < 2^40
theorem P0.keep {S : List Nat} {w w' : World} {h : HB} (p : P0 w h) (hf : Fr S w w') (hn : ∀ k, h.l.ownBlock = some k → k ∉ S) : P0 w' h := by
  obtain ⟨n, vs, h1, h2⟩ := p
  exact ⟨n, vs, owns_keep h1 hf hn, h2⟩
theorem P1.keep {S : List Nat} {w w' : World} {h : HB} (p : P1 w h) (hf : Fr S w w') (hn : ∀ k, h.l.ownBlock = some k → k ∉ S) : P1 w' h := by
  obtain ⟨n, h1, h2⟩ := p
  exact ⟨n, owns_keep h1 hf hn, h2⟩
theorem P2.keep {S : List Nat} {w w' : World} {h : HB} (p : P2 w h) (hf : Fr S w w') (hn : ∀ k, h.l.ownBlock = some k → k ∉ S) (hn2 : ∀ k, h.long.ownBlock = some k → k ∉ S) : P2 w' h := by
  obtain ⟨n, h1, h2, h3⟩ := p
  exact ⟨n, h1.keep hf hn, owns_keep h2 hf hn2, h3⟩
theorem P0.type {w : World} {h : HB} (p : P0 w h) : ∀ k, h.l.ownBlock = some k → ∃ cs, w.heap[k]? = some (.cells cs 5 (0, 0)) := by
  obtain ⟨n, vs, h1, h2⟩ := p
  exact own_type h1
theorem P1.type {w : World} {h : HB} (p : P1 w h) : ∀ k, h.l.ownBlock = some k → ∃ cs, w.heap[k]? = some (.cells cs 5 (0, 0)) := by
  obtain ⟨n, h1, h2⟩ := p
  exact own_type h1
/-- Blocks of bytes are none of the Book's own. -/
theorem Bk.apart {w : World} {bk : Nat} {rv : Value} {hs : List HB} (h : Bk m wv w bk rv hs) {k : Nat} {cs : Array Value} (hk : w.heap[k]? = some (.cells cs 5 (0, 0))) : k ≠ bk ∧ rv.ownBlock ≠ some k := by
  refine ⟨fun e => ?_, fun e => ?_⟩
  · subst e; rw [h.box] at hk; simp at hk
  · obtain ⟨cs', hc⟩ := own_type h.row k e
    rw [hk] at hc
    simp at hc

/-- The blocks of the lists as they were handed in. -/
def lbs (hs : List HB) : List Nat := hs.flatMap fun h => h.l.ownBlock.toList
theorem mem_lbs {hs : List HB} {k : Nat} : k ∈ lbs hs ↔ ∃ h ∈ hs, h.l.ownBlock = some k := by simp [lbs]
/-- No two of them share one. -/
def Alone (hs : List HB) : Prop := ∀ (i j : Nat) (a b : HB), hs[i]? = some a → hs[j]? = some b → i ≠ j → ∀ k, a.l.ownBlock = some k → b.l.ownBlock ≠ some k
end Go.Proofs.YtcgfadmhjfncoaaGreatDoor

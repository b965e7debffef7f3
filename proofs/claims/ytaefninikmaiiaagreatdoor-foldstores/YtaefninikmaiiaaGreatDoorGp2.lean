/- Texts of this claim laid together, one behind the other: contracts and plain lemmas; conditions as each names them. -/
import Derived.Test.YtaefninikmaiiaaGreatDoorGp1
import Derived.Deep.RegionLaw
import Derived.Deep.RegionWith
import Derived.Deep.RegionHeld3
import Derived.Deep.CutRange
import Derived.Laws.ResultCell
import Derived.Deep.Quiet
import Derived.BigQuiet
import Derived.Laws.StructEq
import Derived.Shelf.Strconv.Itoa3
import Derived.Shelf.Lay
import Derived.Lib.ItoaLen
/- An append to a row of one's own, told sharply; rows of one's own (for the Book). Conditions as each lemma names them. -/
namespace Go.Proofs.YtaefninikmaiiaaGreatDoor.Bq
open Go.ChangeShapes Go.WideShapes Go.ChangeAt Go.RowKit Go.Lib

/-- Where a row of one's own lies behind an append: where it lay (its block alone may differ), or in a new block (no old one differs). -/
def Went (w : World) (v : Value) (g : Nat) (w' : World) : Prop := (v.ownBlock = some g ∧ w.grownBy w' (some g)) ∨ (w.heap.size ≤ g ∧ w.grownBy w' none)
theorem Went.fr {w w' : World} {v : Value} {g : Nat} (h : Went w v g w') : Fr v.ownBlock.toList w w' := by
  rcases h with ⟨h1, h2⟩ | ⟨_, h2⟩
  · refine Fr.grown h2 ?_
    intro k hk _
    cases hk
    simp [h1]
  · exact Fr.grown h2 (by simp)
theorem Went.moved {w w' : World} {v : Value} {g n cap : Nat} (h : Went w v g w') : Moved w.heap.size v (.slice (some ⟨g, 0, none⟩) n cap) := by
  rcases h with ⟨h1, _⟩ | ⟨h1, _⟩
  · exact Or.inl (by rw [h1]; rfl)
  · exact Or.inr ⟨g, rfl, h1⟩

section
variable {P : Program} (w : World)
theorem run_app_sharp (t ty e : TypeId) (i : TypeInfo) (z : Value) (size bytes : Nat) (ht : P.underlying t = some (.slice e)) (hi : P.info? e = some i) (hz : i.zero = some z)
    (hsize : i.size = size) (hby : i.bytes = bytes) (hzs : z.cells.size = size) (hsz : 0 < size)
    (v : Value) (n : Nat) (xs : List Value) (hown : w.ownsRow 0 e size v n xs)
    (a : Addr) (m c : Nat) (news : List Value) (hm : 0 < m) (hl : news.length = m * size) (hnews : ∀ j u, news[j]? = some u → w.cell? (a.add j) = some u) (h1 : ∀ u ∈ news, u.oneCell' = true)
    (h63 : n + m ≤ maxLen) (hbytes : (n + m) * bytes ≤ 140737488355328) :
    ∃ g cap w', (Builtin.append_ #[t, t] ty #[v, .slice (some a) m c]).run P w = .ok (.slice (some ⟨g, 0, none⟩) (n + m) cap) w' ∧ w'.ownsRow 0 e size (.slice (some ⟨g, 0, none⟩) (n + m) cap) (n + m) (xs ++ news) ∧ Went w v g w' := by
  obtain ⟨v', w', hr, h2, h3, h4⟩ := run_append_own (P := P) w 0 t ty e i z size bytes ht hi hz hsize hby hzs hsz v n xs hown a m c news hl hnews h1 h63 hbytes (Nat.zero_le _)
  obtain ⟨g, cap, rfl⟩ : ∃ g cap, v' = .slice (some ⟨g, 0, none⟩) (n + m) cap := by
    rcases h2.2 with ⟨_, hh⟩ | ⟨g, cap', _, hh, _⟩
    · omega
    · exact ⟨g, cap', hh⟩
  refine ⟨g, cap, w', hr, h2, ?_⟩
  subst hsize
  subst hby
  have hsmall : n + m ≤ 9223372036854775807 := by simp only [maxLen] at h63; omega
  rcases hown.2 with ⟨rfl, rfl⟩ | ⟨g0, cap0, cur, rfl, hbg, hg, hnc, hcm, hcs, htake⟩
  · have hr2 := run_append_nil (P := P) w t ty e i z ht hi hz a m c news hl hnews (by omega) (by omega) (by have hb := hbytes; simp only [Nat.zero_add] at hb; omega)
    rw [hr] at hr2
    injection hr2 with e1 e2
    simp only [Value.slice.injEq, Option.some.injEq, Addr.mk.injEq] at e1
    obtain ⟨⟨rfl, _⟩, _⟩ := e1
    subst e2
    exact Or.inr ⟨Nat.le_refl _, ⟨rfl, rfl, rfl, by simp, fun k hk _ => Below.heap_alloc w.drew _ _ hk⟩⟩
  · by_cases hroom : n + m ≤ cap0
    · have hfit : n * i.size + news.length ≤ cur.size := by rw [hl, hcs, ← Nat.add_mul]; exact Nat.mul_le_mul_right _ hroom
      have hr2 := run_append_room (P := P) w t ty e i ht hi g0 n cap0 cur hg a m c news hl hnews h1 hroom hfit
      rw [hr] at hr2
      cases hr2
      exact Or.inl ⟨rfl, h3⟩
    · have holds : ∀ j u, xs[j]? = some u → w.cell? ((⟨g0, 0, none⟩ : Addr).add j) = some u := hown.cells (g := g0) rfl
      have hr2 := run_append_grow (P := P) w t ty e i z ht hi hz ⟨g0, 0, none⟩ n cap0 xs hown.1 holds a m c news hl hnews (by omega) (by omega) (growslice_fits (by omega) hbytes)
      rw [hr] at hr2
      cases hr2
      exact Or.inr ⟨Nat.le_refl _, ⟨rfl, rfl, rfl, by simp, fun k hk _ => Below.heap_alloc w.drew _ _ hk⟩⟩

/-- One more element behind a row of one's own. -/
theorem wpList_app {ops : Array Oper} {rest : List Oper} {o : Oper} {a : Act} {Q : Exit → Act → World → Prop} (hgd : o.guard = none) (s x : Operand) (t : TypeId)
    (ho : o.op = .call { callee := .builtin .append, args := #[s, x], argTypes := #[t, t] })
    (e : TypeId) (i : TypeInfo) (z : Value) (size bytes : Nat) (ht : P.underlying t = some (.slice e)) (hi : P.info? e = some i) (hz : i.zero = some z)
    (hsize : i.size = size) (hby : i.bytes = bytes) (hzs : z.cells.size = size) (hsz : 0 < size)
    (v : Value) (n : Nat) (xs : List Value) (hs : a.eval s = v) (hown : w.ownsRow 0 e size v n xs)
    (ad : Addr) (c : Nat) (news : List Value) (hx : a.eval x = .slice (some ad) 1 c) (hl : news.length = size) (hnews : ∀ j u, news[j]? = some u → w.cell? (ad.add j) = some u) (h1 : ∀ u ∈ news, u.oneCell' = true)
    (hbytes : (n + 1) * bytes ≤ 140737488355328) (h63 : n + 1 ≤ maxLen)
    (h : ∀ g cap w', w'.ownsRow 0 e size (.slice (some ⟨g, 0, none⟩) (n + 1) cap) (n + 1) (xs ++ news) → Went w v g w' → wpList P ops Q rest (a.put o.dst (.slice (some ⟨g, 0, none⟩) (n + 1) cap)) w') : wpList P ops Q (o :: rest) a w := by
  refine wpList_plain hgd fun K hK => ?_
  obtain ⟨g, cap, w', hr, h2, h3⟩ := run_app_sharp (P := P) w t o.type e i z size bytes ht hi hz hsize hby hzs hsz v n xs hown ad 1 c news (by omega) (by omega) hnews h1 h63 hbytes
  unfold Oper.wp execOp
  simp only [ho, resolve, invoke, builtin, Sem.run_bind, Sem.run_pure, Result.andThen_ok, List.map_toArray, List.map_cons, List.map_nil, hs, hx, hr]
  exact hK _ _ (h g cap w' h2 h3)

/-- The same as one step of a region that draws its order. -/
theorem step_app {ops : Array Oper} {o : Oper} {a : Act} {K : Act → World → Prop} {Q : Exit → Act → World → Prop} {E : Prop} (hg : o.guard = none) (s x : Operand) (t : TypeId)
    (ho : o.op = .call { callee := .builtin .append, args := #[s, x], argTypes := #[t, t] })
    (e : TypeId) (i : TypeInfo) (z : Value) (size bytes : Nat) (ht : P.underlying t = some (.slice e)) (hi : P.info? e = some i) (hz : i.zero = some z)
    (hsize : i.size = size) (hby : i.bytes = bytes) (hzs : z.cells.size = size) (hsz : 0 < size)
    (v : Value) (n : Nat) (xs : List Value) (hs : a.eval s = v) (hown : w.ownsRow 0 e size v n xs)
    (ad : Addr) (c : Nat) (news : List Value) (hx : a.eval x = .slice (some ad) 1 c) (hl : news.length = size) (hnews : ∀ j u, news[j]? = some u → w.cell? (ad.add j) = some u) (h1 : ∀ u ∈ news, u.oneCell' = true)
    (hbytes : (n + 1) * bytes ≤ 140737488355328) (h63 : n + 1 ≤ maxLen)
    (h : ∀ g cap w', w'.ownsRow 0 e size (.slice (some ⟨g, 0, none⟩) (n + 1) cap) (n + 1) (xs ++ news) → Went w v g w' → K (a.put o.dst (.slice (some ⟨g, 0, none⟩) (n + 1) cap)) w') :
    if Region.wanted o (yielded ops a.tmps) = true then Oper.wp P o a w K Q else E := by
  have hw : Region.wanted o (yielded ops a.tmps) = true := by simp [Region.wanted, hg]
  rw [if_pos hw]
  obtain ⟨g, cap, w', hr, h2, h3⟩ := run_app_sharp (P := P) w t o.type e i z size bytes ht hi hz hsize hby hzs hsz v n xs hown ad 1 c news (by omega) (by omega) hnews h1 h63 hbytes
  unfold Oper.wp execOp
  simp only [ho, resolve, invoke, builtin, Sem.run_bind, Sem.run_pure, Result.andThen_ok, List.map_toArray, List.map_cons, List.map_nil, hs, hx, hr]
  exact h g cap w' h2 h3
end

/-- A row's cell is put. -/
theorem row_setCell {w : World} {b j : Nat} {cs : Array Value} {t : TypeId} (x : Value) (h : w.heap[b]? = some (.cells cs t (0, 0))) : (w.setCell ⟨b, j, none⟩ x).heap[b]? = some (.cells (cs.setIfInBounds j x) t (0, 0)) := by
  have hlt := lt_of_block h
  have h' : w.heap[b] = .cells cs t (0, 0) := by simpa [Array.getElem?_eq_getElem hlt] using h
  show (w.heap.modify b _)[b]? = _
  rw [Array.getElem?_eq_getElem (by simpa using hlt), Array.getElem_modify_self, h']
  rfl
theorem own_put {w : World} {e : TypeId} {g n cap size : Nat} {vs : List Value} (h : w.ownsRow 0 e size (.slice (some ⟨g, 0, none⟩) n cap) n vs) (j : Nat) (x : Value) :
    (w.setCell ⟨g, j, none⟩ x).ownsRow 0 e size (.slice (some ⟨g, 0, none⟩) n cap) n (vs.set j x) := by
  have hl := h.1
  rcases h.2 with ⟨hh, _⟩ | ⟨g', cap', cur, hh, hb, hg, hnc, hcm, hcs, ht⟩
  · cases hh
  · cases hh
    refine ⟨by rw [List.length_set]; exact hl, .inr ⟨g, cap, cur.setIfInBounds j x, rfl, hb, row_setCell x hg, hnc, hcm, by simpa using hcs, ?_⟩⟩
    rw [Array.toList_setIfInBounds, List.take_set, ht]
theorem own_free {w : World} {e : TypeId} {g n cap size : Nat} {vs : List Value} (h : w.ownsRow 0 e size (.slice (some ⟨g, 0, none⟩) n cap) n vs) (j : Nat) : w.frozen? ⟨g, j, none⟩ = false := by
  rcases h.2 with ⟨hh, _⟩ | ⟨g', cap', cur, hh, hb, hg, _⟩
  · cases hh
  · cases hh
    simp [World.frozen?, hg]
theorem own_type {w : World} {e : TypeId} {size : Nat} {v : Value} {n : Nat} {vs : List Value} (h : w.ownsRow 0 e size v n vs) : ∀ k, v.ownBlock = some k → ∃ cs, w.heap[k]? = some (.cells cs e (0, 0)) := by
  intro k hk
  rcases h.2 with ⟨rfl, _⟩ | ⟨g', cap', cur, rfl, hb, hg, _⟩
  · simp [Value.ownBlock] at hk
  · simp [Value.ownBlock] at hk
    subst hk
    exact ⟨cur, hg⟩
theorem own_form {w : World} {e : TypeId} {size : Nat} {v : Value} {n : Nat} {vs : List Value} (h : w.ownsRow 0 e size v n vs) (h0 : 0 < n) : ∃ g cap, v = .slice (some ⟨g, 0, none⟩) n cap ∧ n ≤ cap := by
  rcases h.2 with ⟨_, hh⟩ | ⟨g', cap', cur, rfl, hb, hg, hn, _⟩
  · omega
  · exact ⟨g', cap', rfl, hn⟩
theorem own_slice {w : World} {e : TypeId} {size : Nat} {v : Value} {n : Nat} {vs : List Value} (h : w.ownsRow 0 e size v n vs) : ∃ ao cap, v = .slice ao n cap := by
  rcases h.2 with ⟨rfl, rfl⟩ | ⟨g', cap', cur, rfl, _⟩
  · exact ⟨none, 0, rfl⟩
  · exact ⟨_, _, rfl⟩
end Go.Proofs.YtaefninikmaiiaaGreatDoor.Bq
/- A Book of many lists of many kinds (the statements' own check that lists share no memory): how it lies in memory, for any kind of elements. Conditions as each lemma names them. -/
namespace Go.Proofs.YtaefninikmaiiaaGreatDoor.Bq
open Go.ChangeShapes Go.WideShapes Go.ChangeAt Go.RowKit Go.Lib
set_option linter.unusedVariables false

/-- A list that the Book holds, what it is when more was put behind it, its number. -/
structure HB where
  l : Value
  long : Value
  n : Nat
def HB.cells (h : HB) : List Value := [h.l, h.long, .int .i64 (h.n : Int)]
def rowOf (hs : List HB) : List Value := hs.flatMap HB.cells
theorem rowOf_length (hs : List HB) : (rowOf hs).length = hs.length * 3 := by
  induction hs with
  | nil => rfl
  | cons h r ih => simp only [rowOf, List.flatMap_cons, List.length_append, HB.cells, List.length_cons, List.length_nil] at ih ⊢; omega
theorem rowOf_snoc (hs : List HB) (h : HB) : rowOf (hs ++ [h]) = rowOf hs ++ h.cells := by simp [rowOf]
theorem rowOf_get (hs : List HB) (i : Nat) (h : HB) (hi : hs[i]? = some h) (j : Nat) (hj : j < 3) : (rowOf hs)[i * 3 + j]? = h.cells[j]? := by
  induction hs generalizing i with
  | nil => simp at hi
  | cons a r ih =>
    have e : rowOf (a :: r) = a.cells ++ rowOf r := by simp [rowOf]
    have hl : a.cells.length = 3 := rfl
    cases i with
    | zero =>
      simp at hi
      subst hi
      rw [e, List.getElem?_append_left (by omega)]
      simp
    | succ i =>
      rw [e, List.getElem?_append_right (by omega), hl, show (i + 1) * 3 + j - 3 = i * 3 + j from by omega]
      exact ih i (by simpa using hi)
theorem rowOf_set (hs : List HB) (i : Nat) (h : HB) (hi : hs[i]? = some h) (x : Value) : rowOf (hs.set i { h with long := x }) = (rowOf hs).set (i * 3 + 1) x := by
  induction hs generalizing i with
  | nil => simp at hi
  | cons a r ih =>
    have e : ∀ b : HB, rowOf (b :: r) = b.cells ++ rowOf r := fun b => by simp [rowOf]
    have hl : a.cells.length = 3 := rfl
    cases i with
    | zero =>
      simp at hi
      subst hi
      rw [List.set_cons_zero, e, e, List.set_append_left _ _ (by omega)]
      rfl
    | succ i =>
      rw [List.set_cons_succ, show rowOf (a :: r.set i { h with long := x }) = a.cells ++ rowOf (r.set i { h with long := x }) from by simp [rowOf], ih i (by simpa using hi), e, List.set_append_right _ _ (by omega), hl, show (i + 1) * 3 + 1 - 3 = i * 3 + 1 from by omega]

/-- A kind of lists: the type of what is held, of an element, how many cells an element has, the mark of a number, the Book's cell. -/
structure Kd where
  tH : TypeId
  tE : TypeId
  S : Nat
  mark : Nat → List Value
  col : Nat
  pos : 0 < S
  len : ∀ n, (mark n).length = S
  hE : tH ≠ tE
  hB : tH ≠ 45
  eB : tE ≠ 45
/-- A mark, so many times. -/
def marks (x : List Value) (n : Nat) : List Value := (List.replicate n x).flatten
theorem marks_length (x : List Value) (n : Nat) : (marks x n).length = n * x.length := by simp [marks]
theorem marks_succ (x : List Value) (n : Nat) : marks x (n + 1) = marks x n ++ x := by simp [marks, List.replicate_succ']
theorem marks_cons (x : List Value) (n : Nat) : marks x (n + 1) = x ++ marks x n := by simp [marks, List.replicate_succ]
theorem marks_get (x : List Value) (n j i : Nat) (hj : j < n) (hi : i < x.length) : (marks x n)[j * x.length + i]? = x[i]? := by
  induction n generalizing j with
  | zero => omega
  | succ n ih =>
    rw [marks_cons]
    cases j with
    | zero => rw [Nat.zero_mul, Nat.zero_add, List.getElem?_append_left hi]
    | succ j =>
      have e : (j + 1) * x.length + i = x.length + (j * x.length + i) := by rw [Nat.add_mul]; omega
      rw [e, List.getElem?_append_right (by omega), Nat.add_sub_cancel_left]
      exact ih j (by omega)

section
variable {K : Kd}
/-- The Book's part of one kind: its struct in block bk, its row of held lists at rv. -/
structure Bl (K : Kd) (w : World) (bk : Nat) (rv : Value) (hs : List HB) : Prop where
  box : ∃ cs, w.heap[bk]? = some (.cells cs 45 (0, 0)) ∧ cs[K.col]? = some rv
  row : w.ownsRow 0 K.tH 3 rv hs.length (rowOf hs)
  few : hs.length < 2097152
  num : ∀ (j : Nat) (h : HB), hs[j]? = some h → h.n < 4194304
theorem Bl.keep {S : List Nat} {w w' : World} {bk : Nat} {rv : Value} {hs : List HB} (h : Bl K w bk rv hs) (hf : Fr S w w') (hb : bk ∉ S) (hr : ∀ k, rv.ownBlock = some k → k ∉ S) : Bl K w' bk rv hs := by
  obtain ⟨cs, h1, h2⟩ := h.box
  exact ⟨⟨cs, hf.keep h1 hb, h2⟩, owns_keep h.row hf hr, h.few, h.num⟩
theorem Bl.other {w : World} {bk : Nat} {rv : Value} {hs : List HB} (h : Bl K w bk rv hs) : rv.ownBlock ≠ some bk := by
  intro e
  obtain ⟨cs, hc⟩ := own_type h.row bk e
  obtain ⟨cs', h1, _⟩ := h.box
  rw [h1] at hc
  simp only [Option.some.injEq, Obj.cells.injEq] at hc
  exact K.hB hc.2.1.symm
theorem Bl.c1 {w : World} {bk : Nat} {rv : Value} {hs : List HB} (h : Bl K w bk rv hs) : w.cell? ⟨bk, K.col, none⟩ = some rv := by
  obtain ⟨cs, h1, h2⟩ := h.box
  rw [cell_of_row _ _ _ _ _ _ h1, h2]
/-- An entry of the row, cell by cell. -/
theorem Bl.at {w : World} {bk : Nat} {rv : Value} {hs : List HB} (h : Bl K w bk rv hs) (i : Nat) (e : HB) (hi : hs[i]? = some e) :
    ∃ rb cap, rv = .slice (some ⟨rb, 0, none⟩) hs.length cap ∧ hs.length ≤ cap ∧ w.cell? ⟨rb, i * 3, none⟩ = some e.l ∧ w.cell? ⟨rb, i * 3 + 1, none⟩ = some e.long ∧ w.cell? ⟨rb, i * 3 + 2, none⟩ = some (.int .i64 (e.n : Int)) := by
  have hlt : i < hs.length := (List.getElem?_eq_some_iff.1 hi).1
  obtain ⟨rb, cap, rfl, hc⟩ := own_form h.row (by omega)
  have hr := h.row
  have hat : ∀ j, j < 3 → w.cell? ⟨rb, i * 3 + j, none⟩ = e.cells[j]? := fun j hj => by rw [hr.cellAt (i * 3 + j) (by omega), rowOf_get hs i e hi j hj]
  exact ⟨rb, cap, rfl, hc, hat 0 (by omega), hat 1 (by omega), hat 2 (by omega)⟩
/-- A held list as it was handed in; with its marks; and with more behind it. -/
def P0 (K : Kd) (w : World) (h : HB) : Prop := ∃ n vs, w.ownsRow 0 K.tE K.S h.l n vs ∧ n < 17179869184
def P1 (K : Kd) (w : World) (h : HB) : Prop := ∃ n, w.ownsRow 0 K.tE K.S h.l n (marks (K.mark h.n) n) ∧ n < 17179869184
/-- A slice reads as n times a mark. -/
structure Rdm (K : Kd) (w : World) (v : Value) (n : Nat) (x : List Value) : Prop where
  shape : ∃ ao cap, v = .slice ao n cap ∧ n ≤ cap ∧ (0 < n → ∃ b, ao = some ⟨b, 0, none⟩ ∧ ∀ j i, j < n → i < K.S → w.cell? ⟨b, j * K.S + i, none⟩ = x[i]?)
  type : ∀ k, v.ownBlock = some k → ∃ cs, w.heap[k]? = some (.cells cs K.tE (0, 0))
theorem own_marks {w : World} {g m n cap : Nat} {x : List Value} (hx : x.length = K.S) (h : w.ownsRow 0 K.tE K.S (.slice (some ⟨g, 0, none⟩) m cap) m (marks x m)) (j i : Nat) (hj : j < m) (hi : i < K.S) : w.cell? ⟨g, j * K.S + i, none⟩ = x[i]? := by
  have h1 : j * K.S + i < m * K.S := by
    have : (j + 1) * K.S ≤ m * K.S := Nat.mul_le_mul_right _ hj
    rw [Nat.add_mul] at this
    omega
  rw [h.cellAt (j * K.S + i) h1]
  have := marks_get x m j i hj (by omega)
  rw [hx] at this
  exact this
theorem Rdm.of_own {w : World} {v : Value} {n m : Nat} {x : List Value} {cap : Nat} {ao : Option Addr} (hx : x.length = K.S) (h : w.ownsRow 0 K.tE K.S v n (marks x n)) (hm : m ≤ n) (he : (Value.slice ao m cap).ownBlock = v.ownBlock) (hc : m ≤ cap) (ho : ∀ a, ao = some a → a.off = 0 ∧ a.spot = none) : Rdm K w (.slice ao m cap) m x := by
  refine ⟨⟨ao, cap, rfl, hc, fun h0 => ?_⟩, fun k hk => own_type h k (by rw [← he]; exact hk)⟩
  obtain ⟨g, c, rfl, _⟩ := own_form h (by omega)
  cases ao with
  | none => simp [Value.ownBlock] at he
  | some a =>
    obtain ⟨b, off, spot⟩ := a
    obtain ⟨rfl, rfl⟩ : off = 0 ∧ spot = none := ho _ rfl
    simp [Value.ownBlock] at he
    subst he
    exact ⟨b, rfl, fun j i hj hi => own_marks (n := 0) hx h j i (by omega) hi⟩
theorem Rdm.keep {S : List Nat} {w w' : World} {v : Value} {n : Nat} {x : List Value} (h : Rdm K w v n x) (hf : Fr S w w') (hn : ∀ k, v.ownBlock = some k → k ∉ S) : Rdm K w' v n x := by
  obtain ⟨ao, cap, rfl, hc, hr⟩ := h.shape
  refine ⟨⟨ao, cap, rfl, hc, fun h0 => ?_⟩, fun k hk => ?_⟩
  · obtain ⟨b, rfl, hb⟩ := hr h0
    refine ⟨b, rfl, fun j i hj hi => ?_⟩
    obtain ⟨cs, hcs⟩ := h.type b rfl
    exact (World.cell?_of_block (hf.block b (lt_of_block hcs) (hn b rfl))).trans (hb j i hj hi)
  · obtain ⟨cs, hcs⟩ := h.type k hk
    exact ⟨cs, hf.keep hcs (hn k hk)⟩
def P2 (K : Kd) (w : World) (h : HB) : Prop := ∃ n, Rdm K w h.l n (K.mark h.n) ∧ w.ownsRow 0 K.tE K.S h.long (n + 70) (marks (K.mark h.n) (n + 70)) ∧ n < 17179869184
theorem P0.keep {S : List Nat} {w w' : World} {h : HB} (p : P0 K w h) (hf : Fr S w w') (hn : ∀ k, h.l.ownBlock = some k → k ∉ S) : P0 K w' h := by
  obtain ⟨n, vs, h1, h2⟩ := p
  exact ⟨n, vs, owns_keep h1 hf hn, h2⟩
theorem P1.keep {S : List Nat} {w w' : World} {h : HB} (p : P1 K w h) (hf : Fr S w w') (hn : ∀ k, h.l.ownBlock = some k → k ∉ S) : P1 K w' h := by
  obtain ⟨n, h1, h2⟩ := p
  exact ⟨n, owns_keep h1 hf hn, h2⟩
theorem P2.keep {S : List Nat} {w w' : World} {h : HB} (p : P2 K w h) (hf : Fr S w w') (hn : ∀ k, h.l.ownBlock = some k → k ∉ S) (hn2 : ∀ k, h.long.ownBlock = some k → k ∉ S) : P2 K w' h := by
  obtain ⟨n, h1, h2, h3⟩ := p
  exact ⟨n, h1.keep hf hn, owns_keep h2 hf hn2, h3⟩
theorem P0.type {w : World} {h : HB} (p : P0 K w h) : ∀ k, h.l.ownBlock = some k → ∃ cs, w.heap[k]? = some (.cells cs K.tE (0, 0)) := by
  obtain ⟨n, vs, h1, h2⟩ := p
  exact own_type h1
theorem P1.type {w : World} {h : HB} (p : P1 K w h) : ∀ k, h.l.ownBlock = some k → ∃ cs, w.heap[k]? = some (.cells cs K.tE (0, 0)) := by
  obtain ⟨n, h1, h2⟩ := p
  exact own_type h1
/-- Blocks of elements are none of the Book's own. -/
theorem Bl.apart {w : World} {bk : Nat} {rv : Value} {hs : List HB} (h : Bl K w bk rv hs) {k : Nat} {cs : Array Value} (hk : w.heap[k]? = some (.cells cs K.tE (0, 0))) : k ≠ bk ∧ rv.ownBlock ≠ some k := by
  refine ⟨fun e => ?_, fun e => ?_⟩
  · subst e
    obtain ⟨cs', h1, _⟩ := h.box
    rw [h1] at hk
    simp only [Option.some.injEq, Obj.cells.injEq] at hk
    exact K.eB hk.2.1.symm
  · obtain ⟨cs', hc⟩ := own_type h.row k e
    rw [hk] at hc
    simp only [Option.some.injEq, Obj.cells.injEq] at hc
    exact K.hE hc.2.1.symm
end
/-- The blocks of the lists as they were handed in. -/
def lbs (hs : List HB) : List Nat := hs.flatMap fun h => h.l.ownBlock.toList
theorem mem_lbs {hs : List HB} {k : Nat} : k ∈ lbs hs ↔ ∃ h ∈ hs, h.l.ownBlock = some k := by simp [lbs]
/-- No two of them share one. -/
def Alone (hs : List HB) : Prop := ∀ (i j : Nat) (a b : HB), hs[i]? = some a → hs[j]? = some b → i ≠ j → ∀ k, a.l.ownBlock = some k → b.l.ownBlock ≠ some k
/-- Nothing was put behind them yet. -/
def Fresh (hs : List HB) : Prop := ∀ (j : Nat) (h : HB), hs[j]? = some h → h.long = .slice none 0 0
end Go.Proofs.YtaefninikmaiiaaGreatDoor.Bq
/- A Book of many lists of many kinds: what filling and growing keep. Conditions: no two held lists share a block. -/
namespace Go.Proofs.YtaefninikmaiiaaGreatDoor.Bq
open Go.ChangeShapes Go.WideShapes Go.ChangeAt Go.RowKit Go.Lib
set_option linter.unusedVariables false
variable {K : Kd}

structure FillInv (K : Kd) (w0 : World) (bk : Nat) (rv : Value) (hs : List HB) (i : Nat) (w : World) : Prop where
  bk : Bl K w bk rv hs
  done : ∀ (j : Nat) (h : HB), hs[j]? = some h → j < i → P1 K w h
  left : ∀ (j : Nat) (h : HB), hs[j]? = some h → i ≤ j → P0 K w h
  fr : Fr (lbs hs) w0 w
theorem FillInv.next {w0 w w1 w2 : World} {bk : Nat} {rv : Value} {hs : List HB} {i : Nat} {e : HB} (h : FillInv K w0 bk rv hs i w) (ha : Alone hs) (hi : hs[i]? = some e) (hf1 : Fr [] w w1) (hf2 : Fr e.l.ownBlock.toList w1 w2) (hp : P1 K w2 e) : FillInv K w0 bk rv hs (i + 1) w2 := by
  have hf : Fr e.l.ownBlock.toList w w2 := hf1.trans hf2 (by simp) (fun x hx _ => hx)
  have hte := (h.left i e hi (Nat.le_refl _)).type
  have hoth : ∀ (j : Nat) (b : HB), hs[j]? = some b → j ≠ i → ∀ k, b.l.ownBlock = some k → k ∉ e.l.ownBlock.toList := by
    intro j b hb hne k hk hm
    exact ha j i b e hb hi hne k hk (by simpa using hm)
  refine ⟨h.bk.keep hf ?_ ?_, ?_, ?_, h.fr.trans hf (fun x hx _ => hx) ?_⟩
  · intro hm
    obtain ⟨cs, hc⟩ := hte bk (by simpa using hm)
    exact (h.bk.apart hc).1 rfl
  · intro k hk hm
    obtain ⟨cs, hc⟩ := hte k (by simpa using hm)
    exact (h.bk.apart hc).2 hk
  · intro j b hb hj
    by_cases hji : j = i
    · subst hji
      rw [hi] at hb
      cases hb
      exact hp
    · exact (h.done j b hb (by omega)).keep hf (hoth j b hb hji)
  · intro j b hb hj
    exact (h.left j b hb (by omega)).keep hf (hoth j b hb (by omega))
  · intro x hx _
    exact mem_lbs.2 ⟨e, List.mem_of_getElem? hi, by simpa using hx⟩
structure GIn (K : Kd) (w1 : World) (l : Value) (n M k : Nat) (v : Value) (w : World) : Prop where
  own : w.ownsRow 0 K.tE K.S v (n + k) (marks (K.mark M) (n + k))
  rds : Rdm K w l n (K.mark M)
  fr : Fr l.ownBlock.toList w1 w
  plc : v.ownBlock = l.ownBlock ∨ ∃ g, v.ownBlock = some g ∧ w1.heap.size ≤ g
theorem Rdm.own0 {w : World} {l v : Value} {n m : Nat} {x : List Value} (hx : x.length = K.S) (h : w.ownsRow 0 K.tE K.S v m (marks x m)) (hm : n ≤ m) (he : v.ownBlock = l.ownBlock) {w0 : World} (r : Rdm K w0 l n x) : Rdm K w l n x := by
  obtain ⟨ao, cap, rfl, hc, hr⟩ := r.shape
  refine ⟨⟨ao, cap, rfl, hc, fun h0 => ?_⟩, fun k hk => own_type h k (by rw [he]; exact hk)⟩
  obtain ⟨b, rfl, _⟩ := hr h0
  obtain ⟨g, c, rfl, _⟩ := own_form h (by omega)
  simp [Value.ownBlock] at he
  subst he
  exact ⟨g, rfl, fun j i hj hi => own_marks (n := 0) hx h j i (by omega) hi⟩
theorem GIn.next {w1 w w' : World} {l v : Value} {n M k g cap : Nat} (h : GIn K w1 l n M k v w) (o : Obj) (hO : w'.ownsRow 0 K.tE K.S (.slice (some ⟨g, 0, none⟩) (n + k + 1) cap) (n + k + 1) (marks (K.mark M) (n + k) ++ K.mark M)) (hW : Went (w.alloc o) v g w') (hl : ∀ k, l.ownBlock = some k → k < w1.heap.size) :
    GIn K w1 l n M (k + 1) (.slice (some ⟨g, 0, none⟩) (n + k + 1) cap) w' := by
  have e : marks (K.mark M) (n + k) ++ K.mark M = marks (K.mark M) (n + k + 1) := (marks_succ _ _).symm
  rw [e] at hO
  have hFa : Fr [] w (w.alloc o) := Fr.alloc [] _ _
  have hs1 := h.fr.size
  have hs2 := hFa.size
  rcases hW with ⟨hv, hg⟩ | ⟨hv, hg⟩
  · have hFg : Fr [g] (w.alloc o) w' := Fr.grown hg (by intro k hk _; cases hk; simp)
    rcases h.plc with hp | ⟨g', hp, hge⟩
    · have hlg : l.ownBlock = some g := by rw [← hp, hv]
      refine ⟨hO, Rdm.own0 (K.len M) hO (by omega) hlg.symm h.rds, ?_, Or.inl hlg.symm⟩
      rw [hlg]
      have := h.fr
      rw [hlg] at this
      exact this.trans (hFa.trans hFg (by simp) (fun x hx _ => hx)) (fun x hx _ => hx) (fun x hx _ => by simpa using hx)
    · rw [hv] at hp
      cases hp
      have hne : ∀ k, l.ownBlock = some k → k ≠ g := by intro k hk; have := hl k hk; omega
      have hF : Fr [g] w w' := hFa.trans hFg (by simp) (fun x hx _ => hx)
      refine ⟨hO, h.rds.keep hF (by intro k hk hm; exact hne k hk (by simpa using hm)), h.fr.trans hF (fun x hx _ => hx) ?_, Or.inr ⟨g, rfl, hge⟩⟩
      intro x hx hxl
      simp at hx
      omega
  · have hFg : Fr [] (w.alloc o) w' := Fr.grown hg (by simp)
    have hF := hFa.then hFg
    refine ⟨hO, h.rds.keep hF (by simp), h.fr.trans hF (fun x hx _ => hx) (by simp), Or.inr ⟨g, rfl, by omega⟩⟩

structure GrowInv (K : Kd) (w0 : World) (bk : Nat) (rv : Value) (hs0 : List HB) (i : Nat) (hs : List HB) (w : World) : Prop where
  bk : Bl K w bk rv hs
  len : hs.length = hs0.length
  same : ∀ (j : Nat) (a : HB), hs[j]? = some a → ∃ b, hs0[j]? = some b ∧ a.l = b.l ∧ a.n = b.n
  done : ∀ (j : Nat) (a : HB), hs[j]? = some a → j < i → P2 K w a
  left : ∀ (j : Nat) (a : HB), hs[j]? = some a → i ≤ j → P1 K w a ∧ a.long = .slice none 0 0
  sep : ∀ (j : Nat) (a : HB), hs[j]? = some a → ∀ k, a.long.ownBlock = some k → a.l.ownBlock = some k ∨ w0.heap.size ≤ k
  apart : ∀ (j j' : Nat) (a b : HB), hs[j]? = some a → hs[j']? = some b → j ≠ j' → ∀ k, a.long.ownBlock = some k → b.long.ownBlock ≠ some k
  fr : Fr (rv.ownBlock.toList ++ lbs hs0) w0 w
theorem GrowInv.next {w0 w w1 w2 : World} {bk rb cap : Nat} {N : Nat} {hs0 hs : List HB} {i : Nat} {e : HB} {v : Value} {n : Nat} (h : GrowInv K w0 bk (.slice (some ⟨rb, 0, none⟩) N cap) hs0 i hs w) (ha : Alone hs0) (hold : ∀ (j : Nat) (a : HB), hs0[j]? = some a → ∀ k, a.l.ownBlock = some k → k < w0.heap.size)
    (hi : hs[i]? = some e) (hN : N = hs.length) (hf1 : Fr [] w w1) (hG : GIn K w1 e.l n e.n 70 v w2) (hn : n < 17179869184) :
    GrowInv K w0 bk (.slice (some ⟨rb, 0, none⟩) N cap) hs0 (i + 1) (hs.set i { e with long := v }) (w2.setCell ⟨rb, i * 3 + 1, none⟩ v) := by
  have hlt : i < hs.length := (List.getElem?_eq_some_iff.1 hi).1
  have hf : Fr e.l.ownBlock.toList w w2 := hf1.trans hG.fr (by simp) (fun x hx _ => hx)
  obtain ⟨hP1e, _⟩ := h.left i e hi (Nat.le_refl _)
  have hte := hP1e.type
  have hw0 := h.fr.size
  have hw1 := hf1.size
  have hw2 := hG.fr.size
  obtain ⟨e0, he0, hel, hen⟩ := h.same i e hi
  -- the old blocks of the others are none of e's
  have hoth : ∀ (j : Nat) (b : HB), hs[j]? = some b → j ≠ i → ∀ k, b.l.ownBlock = some k → k ∉ e.l.ownBlock.toList := by
    intro j b hb hne k hk hm
    obtain ⟨b0, hb0, hbl, _⟩ := h.same j b hb
    exact ha j i b0 e0 hb0 he0 hne k (by rw [← hbl]; exact hk) (by rw [← hel]; simpa using hm)
  have hothl : ∀ (j : Nat) (b : HB), hs[j]? = some b → j ≠ i → ∀ k, b.long.ownBlock = some k → k ∉ e.l.ownBlock.toList := by
    intro j b hb hne k hk hm
    have hek : e.l.ownBlock = some k := by simpa using hm
    rcases h.sep j b hb k hk with hs' | hge
    · exact hoth j b hb hne k hs' hm
    · have := hold i e0 he0 k (by rw [← hel]; exact hek)
      omega
  have hbk2 : Bl K w2 bk (.slice (some ⟨rb, 0, none⟩) N cap) hs := by
    refine h.bk.keep hf ?_ ?_
    · intro hm
      obtain ⟨cs, hc⟩ := hte bk (by simpa using hm)
      exact (h.bk.apart hc).1 rfl
    · intro k hk hm
      obtain ⟨cs, hc⟩ := hte k (by simpa using hm)
      exact (h.bk.apart hc).2 hk
  have hrow2 := hbk2.row
  rw [← hN] at hrow2
  have hput := own_put hrow2 (i * 3 + 1) v
  rw [← rowOf_set hs i e hi v] at hput
  have hfs : Fr [rb] w2 (w2.setCell ⟨rb, i * 3 + 1, none⟩ v) := Fr.set _ _ _ (by simp)
  have hrb : ∀ k cs, w2.heap[k]? = some (.cells cs K.tE (0, 0)) → k ∉ [rb] := by
    intro k cs hk hm
    exact (hbk2.apart hk).2 (by simp at hm; rw [hm]; rfl)
  have hset : ∀ (j : Nat) (a : HB), (hs.set i { e with long := v })[j]? = some a → (j = i ∧ a = { e with long := v }) ∨ (j ≠ i ∧ hs[j]? = some a) := by
    intro j a ha'
    by_cases hji : j = i
    · subst hji
      rw [List.getElem?_set_self hlt] at ha'
      exact Or.inl ⟨rfl, by cases ha'; rfl⟩
    · rw [List.getElem?_set_ne (fun e => hji e.symm)] at ha'
      exact Or.inr ⟨hji, ha'⟩
  have hlg := hG.own.lt
  refine ⟨⟨?_, ?_, ?_, ?_⟩, ?_, ?_, ?_, ?_, ?_, ?_, ?_⟩
  · obtain ⟨cs, b1, b2⟩ := hbk2.box
    exact ⟨cs, hfs.keep b1 (by intro hm; simp at hm; exact hbk2.other (by rw [hm]; rfl)), b2⟩
  · rw [List.length_set, ← hN]
    exact hput
  · rw [List.length_set]; exact hbk2.few
  · intro j a haj
    rcases hset j a haj with ⟨rfl, rfl⟩ | ⟨_, haj⟩
    · exact hbk2.num j e hi
    · exact hbk2.num j a haj
  · rw [List.length_set, h.len]
  · intro j a haj
    rcases hset j a haj with ⟨rfl, rfl⟩ | ⟨_, haj⟩
    · exact ⟨e0, he0, hel, hen⟩
    · exact h.same j a haj
  · intro j a haj hj
    rcases hset j a haj with ⟨rfl, rfl⟩ | ⟨hne, haj⟩
    · refine P2.keep (S := [rb]) ⟨n, hG.rds, hG.own, hn⟩ hfs ?_ ?_
      · intro k hk
        obtain ⟨cs, hc⟩ := hG.rds.type k hk
        exact hrb k cs hc
      · intro k hk
        obtain ⟨cs, hc⟩ := own_type hG.own k hk
        exact hrb k cs hc
    · have hp := (h.done j a haj (by omega)).keep hf (hoth j a haj hne) (hothl j a haj hne)
      obtain ⟨m, q1, q2, q3⟩ := hp
      refine P2.keep (S := [rb]) ⟨m, q1, q2, q3⟩ hfs ?_ ?_
      · intro k hk
        obtain ⟨cs, hc⟩ := q1.type k hk
        exact hrb k cs hc
      · intro k hk
        obtain ⟨cs, hc⟩ := own_type q2 k hk
        exact hrb k cs hc
  · intro j a haj hj
    rcases hset j a haj with ⟨rfl, rfl⟩ | ⟨hne, haj⟩
    · omega
    · obtain ⟨hp, hnil⟩ := h.left j a haj (by omega)
      have hp2 := hp.keep hf (hoth j a haj hne)
      exact ⟨hp2.keep hfs (by intro k hk; obtain ⟨cs, hc⟩ := hp2.type k hk; exact hrb k cs hc), hnil⟩
  · intro j a haj k hk
    rcases hset j a haj with ⟨rfl, rfl⟩ | ⟨hne, haj⟩
    · rcases hG.plc with hp | ⟨g, hp, hge⟩
      · exact Or.inl (by rw [← hp]; exact hk)
      · rw [hp] at hk
        cases hk
        exact Or.inr (by omega)
    · exact h.sep j a haj k hk
  · have key : ∀ (j : Nat) (b : HB), hs[j]? = some b → j ≠ i → ∀ k, v.ownBlock = some k → b.long.ownBlock ≠ some k := by
      intro j b hb hne k hk hbk
      rcases hG.plc with hp | ⟨g, hp, hge⟩
      · rw [hp] at hk
        exact hothl j b hb hne k hbk (by simpa using hk)
      · rw [hp] at hk
        cases hk
        by_cases hji : j < i
        · obtain ⟨m, _, q2, _⟩ := h.done j b hb hji
          have := (q2.lt k hbk).2
          omega
        · obtain ⟨_, hnil⟩ := h.left j b hb (by omega)
          rw [hnil] at hbk
          simp [Value.ownBlock] at hbk
    intro j j' a b haj hbj hne k hk hk'
    rcases hset j a haj with ⟨hj, ea⟩ | ⟨hnj, haj2⟩
    · rcases hset j' b hbj with ⟨hj', _⟩ | ⟨hnj', hbj2⟩
      · exact hne (hj.trans hj'.symm)
      · rw [ea] at hk
        exact key j' b hbj2 hnj' k hk hk'
    · rcases hset j' b hbj with ⟨_, eb⟩ | ⟨hnj', hbj2⟩
      · rw [eb] at hk'
        exact key j a haj2 hnj k hk' hk
      · exact h.apart j j' a b haj2 hbj2 hne k hk hk'
  · refine (h.fr.trans hf (fun x hx _ => hx) ?_).trans hfs (fun x hx _ => hx) ?_
    · intro x hx _
      refine List.mem_append_right _ (mem_lbs.2 ⟨e0, List.mem_of_getElem? he0, ?_⟩)
      rw [← hel]
      simpa using hx
    · intro x hx _
      simp at hx
      subst hx
      simp [Value.ownBlock]

end Go.Proofs.YtaefninikmaiiaaGreatDoor.Bq
/- Marks laid into a row one by one; kinds of lists. Conditions as each lemma names them. -/
namespace Go.Proofs.YtaefninikmaiiaaGreatDoor.Bq
open Go.ChangeShapes Go.WideShapes Go.ChangeAt Go.RowKit Go.Lib
set_option linter.unusedVariables false

theorem fstep1 (X a : Value) (R : List Value) (k : Nat) : (marks [X] k ++ a :: R).set k X = marks [X] (k + 1) ++ R := by
  have hl : (marks [X] k).length = k := by rw [marks_length]; simp
  rw [List.set_append_right _ _ (by omega), hl, Nat.sub_self, marks_succ]
  simp
theorem fstep2 (X Y a b : Value) (R : List Value) (k : Nat) : ((marks [X, Y] k ++ a :: b :: R).set (k * 2) X).set (k * 2 + 1) Y = marks [X, Y] (k + 1) ++ R := by
  have hl : (marks [X, Y] k).length = k * 2 := by rw [marks_length]; rfl
  rw [List.set_append_right _ _ (by omega), hl, Nat.sub_self, List.set_append_right _ _ (by omega), hl, show k * 2 + 1 - k * 2 = 1 by omega, marks_succ]
  simp
theorem fstep3 (X Y Z a b c : Value) (R : List Value) (k : Nat) : (((marks [X, Y, Z] k ++ a :: b :: c :: R).set (k * 3) X).set (k * 3 + 1) Y).set (k * 3 + 2) Z = marks [X, Y, Z] (k + 1) ++ R := by
  have hl : (marks [X, Y, Z] k).length = k * 3 := by rw [marks_length]; rfl
  rw [List.set_append_right _ _ (by omega), hl, Nat.sub_self, List.set_append_right _ _ (by omega), hl, show k * 3 + 1 - k * 3 = 1 by omega, List.set_append_right _ _ (by omega), hl, show k * 3 + 2 - k * 3 = 2 by omega, marks_succ]
  simp
theorem fmore1 {R : List Value} {n k : Nat} (hk : k < n) (h : R.length = (n - k) * 1) : ∃ a S, R = a :: S ∧ S.length = (n - (k + 1)) * 1 := by
  match R, h with
  | a :: S, h => exact ⟨a, S, rfl, by simp at h ⊢; omega⟩
  | [], h => simp at h; omega
theorem fmore2 {R : List Value} {n k : Nat} (hk : k < n) (h : R.length = (n - k) * 2) : ∃ a b S, R = a :: b :: S ∧ S.length = (n - (k + 1)) * 2 := by
  match R, h with
  | a :: b :: S, h => exact ⟨a, b, S, rfl, by simp at h ⊢; omega⟩
  | [], h => simp at h; omega
  | [_], h => simp at h; omega
theorem fmore3 {R : List Value} {n k : Nat} (hk : k < n) (h : R.length = (n - k) * 3) : ∃ a b c S, R = a :: b :: c :: S ∧ S.length = (n - (k + 1)) * 3 := by
  match R, h with
  | a :: b :: c :: S, h => exact ⟨a, b, c, S, rfl, by simp at h ⊢; omega⟩
  | [], h => simp at h; omega
  | [_], h => simp at h; omega
  | [_, _], h => simp at h; omega
/-- What lies behind the marks, cell by cell. -/
theorem behind {w : World} {e : TypeId} {t n cap size k : Nat} {x R : List Value} (hx : x.length = size) (hO : w.ownsRow 0 e size (.slice (some ⟨t, 0, none⟩) n cap) n (marks x k ++ R)) (j : Nat) (u : Value) (hj : R[j]? = some u) : w.cell? ⟨t, k * size + j, none⟩ = some u := by
  have hl : (marks x k).length = k * size := by rw [marks_length, hx]
  have hlen := hO.1
  have hjl := (List.getElem?_eq_some_iff.1 hj).1
  rw [List.length_append, hl] at hlen
  rw [hO.cellAt (k * size + j) (by omega), List.getElem?_append_right (by omega), hl, Nat.add_sub_cancel_left]
  exact hj
theorem res_c1 {fn : Func} {p : Tmp} {t : TypeId} (h : fn.results = #[.cell p t]) (tmps : Array Value) (P : Program) (w : World) :
    (results fn tmps).run P w = ((asAddr (tmps.getD p undef)).run P w).andThen fun a w₁ => (loadVar t a).run P w₁ := by
  simp only [results, h]
  simp [Sem.run_bind, Result.andThen]

theorem GIn.keep {K : Kd} {w1 w w' : World} {l v : Value} {n M k : Nat} (h : GIn K w1 l n M k v w) (hf : Fr [] w w') : GIn K w1 l n M k v w' :=
  ⟨owns_keep h.own hf (by simp), h.rds.keep hf (by simp), h.fr.trans hf (fun x hx _ => hx) (by simp), h.plc⟩
/-- The kinds of lists. -/
def mByte (n : Nat) : Nat := 1 + n % 255
def mInt (n : Nat) : Int := -1000 - (n : Int)
abbrev kByte : Kd := { tH := 130, tE := 5, S := 1, mark := fun n => [.int .u8 (mByte n : Int)], col := 1, pos := by decide, len := fun _ => rfl, hE := by decide, hB := by decide, eB := by decide }
abbrev kInt : Kd := { tH := 133, tE := 3, S := 1, mark := fun n => [.int .i64 (mInt n)], col := 2, pos := by decide, len := fun _ => rfl, hE := by decide, hB := by decide, eB := by decide }
abbrev kTxn : Kd := { tH := 128, tE := 63, S := 2, mark := fun n => [.int .i64 (mInt n), .slice none 0 0], col := 7, pos := by decide, len := fun _ => rfl, hE := by decide, hB := by decide, eB := by decide }
set_option maxHeartbeats 1000000 in
theorem markByte_at (n B : Nat) (w : World) (hn : n < 4194304) (hB : mByte n = B) : Calls Tryz.prog 115 #[.int .i64 (n : Int)] w fun e w' => e = .returned (.int .u8 (B : Int)) ∧ Fr [] w w' := by
  have h1 : (1 + (n : Int) % 255) % 256 = ((1 + n % 255 : Nat) : Int) := by omega
  have HM : Hid ((1 + n % 255 : Nat) = B) := hB
  clear hB
  go_enter Tryz.func115, Tryz.ntmps115
  go_wp2
  go_ret
  rw [← HM.out]
  exact ⟨rfl, Fr.refl _ _⟩
set_option maxHeartbeats 1000000 in
theorem markInt_at (n : Nat) (B : Int) (w : World) (hn : n < 4194304) (hB : mInt n = B) : Calls Tryz.prog 116 #[.int .i64 (n : Int)] w fun e w' => e = .returned (.int .i64 B) ∧ Fr [] w w' := by
  have HM : Hid (-1000 - (n : Int) = B) := hB
  clear hB
  go_enter Tryz.func116, Tryz.ntmps116
  go_wp2
  go_ret
  rw [← HM.out]
  exact ⟨rfl, Fr.refl _ _⟩
set_option maxHeartbeats 1000000 in
theorem markTxn_at (n : Nat) (B : Int) (w : World) (hn : n < 4194304) (hB : mInt n = B) : Calls Tryz.prog 121 #[.int .i64 (n : Int)] w fun e w' => e = .returned (.agg #[.int .i64 B, .slice none 0 0]) ∧ Fr [] w w' := by
  have HM : Hid (-1000 - (n : Int) = B) := hB
  clear hB
  go_enter Tryz.func121, Tryz.ntmps121
  go_wp2
  refine bodyPost_ret (v := (.agg #[.int .i64 B, .slice none 0 0])) (by rw [res_c1 rfl, ← HM.out]; go_simp) rfl ⟨rfl, ?_⟩
  exact Fr.alloc [] w _
end Go.Proofs.YtaefninikmaiiaaGreatDoor.Bq
/- What the Book's own tests of a mark answer: true. Conditions: numbers below 2^22. -/
namespace Go.Proofs.YtaefninikmaiiaaGreatDoor.Bq
open BigFrame Go.ChangeShapes Go.WideShapes Go.ChangeAt Go.RowKit Go.Lib
set_option linter.unusedVariables false

/-- A world that keeps all that w1 held. -/
structure Wd (w1 : World) where
  W : World
  h : Fr [] w1 W
instance (w1 : World) : Nonempty (Wd w1) := ⟨⟨w1, Fr.refl _ _⟩⟩
theorem wp_region_wd {P : Program} {w1 wr : World} {id : Nat} {Q : Exit → Act → World → Prop} {a : Act} {l : List Oper} (hm : P.follows .mixedOrders = true) (hB : Region.lexB .any l.toArray = true) (hf : Fr [] w1 wr)
    (h : wpQuiet P l.toArray (fun w' => ∃ x : Wd w1, w' = x.W) (fun a' => ∀ w', (∃ x : Wd w1, w' = x.W) → Q .normal a' w') l a) : (Code.region id l.toArray true).wp P Q a wr :=
  wp_region_quiet (C := fun w' => ∃ x : Wd w1, w' = x.W) hm hB ⟨⟨_, hf.then (Fr.drew [] wr)⟩, rfl⟩ (by simpa using h)
set_option maxHeartbeats 1000000 in
theorem isByte_at (n B : Nat) (w : World) (hn : n < 4194304) (hB : mByte n = B) : Calls Tryz.prog 126 #[.int .u8 (B : Int), .int .i64 (n : Int)] w fun e w' => e = .returned (.bool true) ∧ Fr [] w w' := by
  have h1 : (1 + (n : Int) % 255) % 256 = ((1 + n % 255 : Nat) : Int) := by omega
  subst hB
  unfold mByte
  go_enter Tryz.func126, Tryz.ntmps126
  go_wp2
  go_ret
  exact ⟨rfl, Fr.refl _ _⟩
set_option maxHeartbeats 1000000 in
theorem isInt_at (n : Nat) (B : Int) (w : World) (hn : n < 4194304) (hB : mInt n = B) : Calls Tryz.prog 127 #[.int .i64 B, .int .i64 (n : Int)] w fun e w' => e = .returned (.bool true) ∧ Fr [] w w' := by
  subst hB
  unfold mInt
  go_enter Tryz.func127, Tryz.ntmps127
  go_wp2
  go_ret
  exact ⟨by simp, Fr.refl _ _⟩
set_option maxHeartbeats 1000000 in
theorem isTxn_at (n : Nat) (B : Int) (w : World) (hn : n < 4194304) (hB : mInt n = B) : Calls Tryz.prog 132 #[.agg #[.int .i64 B, .slice none 0 0], .int .i64 (n : Int)] w fun e w' => e = .returned (.bool true) ∧ Fr [] w w' := by
  subst hB
  unfold mInt
  go_enter Tryz.func132, Tryz.ntmps132
  go_wp2
  go_ret
  exact ⟨by simp, Fr.alloc _ _ _⟩
end Go.Proofs.YtaefninikmaiiaaGreatDoor.Bq
/- What == says of two writes (for the Book); a number as a text with a mark ahead of it. Conditions: the table of powers of ten reads as the library lays it. -/
namespace Go.Proofs
open Go.Shelf
shelf_lay LaysM.n171 Nm 171 at Tryz as Tryz.laysItoa
end Go.Proofs
namespace Go.Proofs.YtaefninikmaiiaaGreatDoor.Bq
open BigFrame Go.ChangeShapes Go.WideShapes Go.ChangeAt Go.RowKit Go.Lib Go.Shelf
set_option linter.unusedVariables false
theorem Tryz.undStr : Tryz.prog.underlying 9 = some .string := by kernel_rfl
theorem Tryz.undWt : Tryz.prog.underlying 124 = some (.struct (Tryz.prog.fieldsOf 124)) := by kernel_rfl
theorem Tryz.heldWt : Tryz.prog.stoodInHeld 124 = false := by kernel_rfl
theorem Tryz.guardWt : Tryz.prog.eqGuardType Tryz.prog.depth 124 = false := by kernel_rfl
theorem Tryz.fieldsWt : (Tryz.prog.fieldsOf 124).toList.map (fun f => (f.name == "_", f.type, f.offset)) = [(false, 9, 0), (false, 9, 1), (false, 4, 2)] := by kernel_rfl
theorem Tryz.undBool : Tryz.prog.underlying 4 = some .bool := by kernel_rfl
theorem Tryz.infoStr1 : (Tryz.prog.info? 9).map (fun i => i.size) = some 1 := by kernel_rfl
theorem Tryz.infoBool1 : (Tryz.prog.info? 4).map (fun i => i.size) = some 1 := by kernel_rfl
theorem part_str (w : World) (cs : Array Value) (off : Nat) (v : Value) (h : cs[off]? = some v) : (part 9 cs off).run Tryz.prog w = .ok v w := by
  simp [part, isAgg, run_underlying Tryz.undStr, h, Sem.run_bind]
theorem part_bool (w : World) (cs : Array Value) (off : Nat) (v : Value) (h : cs[off]? = some v) : (part 4 cs off).run Tryz.prog w = .ok v w := by
  simp [part, isAgg, run_underlying Tryz.undBool, h, Sem.run_bind]
theorem eq_str (w : World) (a b : ByteArray) : (Op.equalIn 9999 9 (.string a) (.string b)).run Tryz.prog w = .ok (a.toList == b.toList) w := run_equalIn_string w 9998 _ a b Tryz.undStr
theorem eq_bool (w : World) (a b : Bool) : (Op.equalIn 9999 4 (.bool a) (.bool b)).run Tryz.prog w = .ok (a == b) w := run_equalIn_bool w 9998 _ a b Tryz.undBool
theorem step_field {P : Program} {w : World} {A B : Sem Value} {E : Value → Value → Sem Bool} {K : Sem Bool} {a b : Value} {r : Bool} (hA : A.run P w = .ok a w) (hB : B.run P w = .ok b w) (hE : (E a b).run P w = .ok r w) :
    (do let a ← A; let b ← B; let r ← E a b; if (!r) = true then pure false else K : Sem Bool).run P w = if r = true then K.run P w else .ok false w := by
  simp only [Sem.run_bind, hA, hB, hE, Result.andThen_ok]
  cases r <;> simp
set_option maxRecDepth 100000 in
theorem wt_fields (w : World) (k1 v1 k2 v2 : ByteArray) (p1 p2 : Bool) : (Op.equalIn 10000 124 (.agg #[.string k1, .string v1, .bool p1]) (.agg #[.string k2, .string v2, .bool p2])).run Tryz.prog w = .ok (k1.toList == k2.toList && (v1.toList == v2.toList && p1 == p2)) w := by
  rw [run_equalIn_struct w 9999 _ _ _ Tryz.undWt Tryz.heldWt]
  have hF := Tryz.fieldsWt
  obtain ⟨l, hl⟩ : ∃ l, l = (Tryz.prog.fieldsOf 124).toList := ⟨_, rfl⟩
  rw [← hl] at hF ⊢
  match l, hF with
  | [f0, f1, f2], hF =>
    simp only [List.map_cons, List.map_nil, List.cons.injEq, Prod.mk.injEq, and_true] at hF
    obtain ⟨⟨n0, t0, o0⟩, ⟨n1, t1, o1⟩, ⟨n2, t2, o2⟩⟩ := hF
    have m0 : f0.name ≠ "_" := by simpa using n0
    have m1 : f1.name ≠ "_" := by simpa using n1
    have m2 : f2.name ≠ "_" := by simpa using n2
    simp only [Op.eqFields, if_pos m0, if_pos m1, if_pos m2, t0, t1, t2, o0, o1, o2]
    rw [step_field (part_str w _ 0 _ rfl) (part_str w _ 0 _ rfl) (eq_str w k1 k2)]
    rw [step_field (part_str w _ 1 _ rfl) (part_str w _ 1 _ rfl) (eq_str w v1 v2)]
    rw [step_field (part_bool w _ 2 _ rfl) (part_bool w _ 2 _ rfl) (eq_bool w p1 p2)]
    cases (k1.toList == k2.toList) <;> cases (v1.toList == v2.toList) <;> cases (p1 == p2) <;> simp

/-- The table of powers of ten reads as the library lays it. -/
def Tab (w : World) : Prop := Lib.TabIs Tryz.prog w "internal/strconv.uint64pow10" .u64 Lib.pow10Tab
noncomputable def gTab : Nat := (Tryz.prog.globalNamed "internal/strconv.uint64pow10").getD 0
theorem gTab_is : Tryz.prog.globalNamed "internal/strconv.uint64pow10" = some gTab := by kernel_rfl
theorem Tab.lt {w : World} (h : Tab w) : gTab < w.heap.size := by
  have h' : w.var? Tryz.prog "internal/strconv.uint64pow10" = some (Lib.pow10Tab.map fun z => Value.int .u64 z).toArray := h
  unfold World.var? at h'
  rw [gTab_is] at h'
  simp only [Option.bind_some] at h'
  by_cases hg : gTab < w.heap.size
  · exact hg
  · rw [Array.getElem?_eq_none (by omega)] at h'
    simp at h'
theorem Tab.keep {S : List Nat} {w w' : World} (h : Tab w) (hf : Fr S w w') (hn : gTab ∉ S) : Tab w' := by
  have hlt := h.lt
  have h' : w.var? Tryz.prog "internal/strconv.uint64pow10" = some (Lib.pow10Tab.map fun z => Value.int .u64 z).toArray := h
  show w'.var? Tryz.prog "internal/strconv.uint64pow10" = _
  rw [← h']
  unfold World.var?
  rw [gTab_is]
  simp only [Option.bind_some]
  rw [hf.block gTab hlt hn]
theorem itoa_any (n : Nat) (hn : n < 4194304) (w : World) (ht : Tab w) : Calls Tryz.prog 180 #[.int .i64 (n : Int)] w fun e w' => e = .returned (.string ⟨(Lib.itoa (n : Int)).toArray⟩) ∧ Fr [] w w' := by
  refine (Any.strconv_Itoa Tryz.laysItoa (n : Int) (by omega) (by omega) w ht).mono ?_
  rintro e w' ⟨rfl, k, os, rfl⟩
  refine ⟨rfl, rfl, rfl, rfl, by simp [Sort.grow], fun i hi _ => ?_⟩
  exact Array.getElem?_append_left hi
/-- A mark as a text. -/
def mWord (n : Nat) : ByteArray := (⟨#[35]⟩ : ByteArray) ++ (⟨(Lib.itoa (n : Int)).toArray⟩ : ByteArray)
set_option maxHeartbeats 1000000 in
theorem word_any (n : Nat) (B : ByteArray) (hn : n < 4194304) (hB : mWord n = B) (w : World) (ht : Tab w) : Calls Tryz.prog 160 #[.int .i64 (n : Int)] w fun e w' => e = .returned (.string B) ∧ Fr [] w w' := by
  have HB : Hid ((⟨#[35]⟩ : ByteArray) ++ (⟨(Lib.itoa (n : Int)).toArray⟩ : ByteArray) = B) := hB
  clear hB
  obtain ⟨T, HT⟩ : ∃ T : ByteArray, Hid (T = ⟨(Lib.itoa (n : Int)).toArray⟩) := ⟨_, rfl⟩
  have hTs : T.size ≤ 21 := by
    rw [HT.out]
    show (Lib.itoa (n : Int)).toArray.size ≤ 21
    have := Lib.itoa_length_le (n : Int) (by omega) (by omega)
    simpa using this
  go_enter Tryz.func160, Tryz.ntmps160
  go_wp2_with fail
  refine (itoa_any n hn _ ht).mono ?_
  rintro e w1 ⟨rfl, hF⟩
  rw [← HT.out]
  go_wp2
  go_ret
  rw [← HB.out, ← HT.out]
  exact ⟨rfl, hF⟩
set_option maxHeartbeats 1000000 in
theorem markWrite_at (n : Nat) (B : ByteArray) (w : World) (hn : n < 4194304) (hB : mWord n = B) (ht : Tab w) : Calls Tryz.prog 118 #[.int .i64 (n : Int)] w fun e w' => e = .returned (.agg #[.string B, .string ⟨#[]⟩, .bool false]) ∧ Fr [] w w' := by
  have HB : Hid (mWord n = B) := hB
  have hz : (w.alloc (Obj.cells #[.string ⟨#[]⟩, .string ⟨#[]⟩, .bool false] 124)).heap[w.heap.size]? = some (Obj.cells #[.string ⟨#[]⟩, .string ⟨#[]⟩, .bool false] 124) := heap_alloc_new _ _
  clear hB
  go_enter Tryz.func118, Tryz.ntmps118
  go_wp2_with fail
  refine (word_any n B hn HB.out _ (ht.keep (Fr.alloc [] w _) (by simp))).mono ?_
  rintro e w1 ⟨rfl, hF⟩
  have hz1 := hF.keep hz (by simp)
  have z0 : w1.cell? ⟨w.heap.size, 0, none⟩ = some (.string ⟨#[]⟩) := by rw [cell_of_row _ _ _ _ _ _ hz1]; rfl
  have z1 : w1.cell? ⟨w.heap.size, 1, none⟩ = some (.string ⟨#[]⟩) := by rw [cell_of_row _ _ _ _ _ _ hz1]; rfl
  have z2 : w1.cell? ⟨w.heap.size, 2, none⟩ = some (.bool false) := by rw [cell_of_row _ _ _ _ _ _ hz1]; rfl
  have q0 : w1.frozen? ⟨w.heap.size, 0, none⟩ = false := by simp [World.frozen?, hz1]
  have q1 : w1.frozen? ⟨w.heap.size, 1, none⟩ = false := by simp [World.frozen?, hz1]
  have q2 : w1.frozen? ⟨w.heap.size, 2, none⟩ = false := by simp [World.frozen?, hz1]
  have hF0 : Fr [] w w1 := (Fr.alloc [] w _).then hF
  clear hz hz1 hF
  go_wp2
  refine bodyPost_ret (v := (.agg #[.string B, .string ⟨#[]⟩, .bool false])) (by rw [res_c1 rfl]; go_simp) rfl ⟨rfl, ?_⟩
  exact hF0.on (((Fr.set (S := [w.heap.size]) w1 ⟨w.heap.size, 0, none⟩ _ (by simp)).then (Fr.set _ ⟨w.heap.size, 1, none⟩ _ (by simp))).then (Fr.set _ ⟨w.heap.size, 2, none⟩ _ (by simp))) (by simp)
theorem wt_same (w : World) (k v : ByteArray) (d : Bool) : (Op.equalIn 10000 124 (.agg #[.string k, .string v, .bool d]) (.agg #[.string k, .string v, .bool d])).run Tryz.prog w = .ok true w := by
  rw [wt_fields]
  simp
abbrev kWrite : Kd := { tH := 140, tE := 124, S := 3, mark := fun n => [.string (mWord n), .string ⟨#[]⟩, .bool false], col := 4, pos := by decide, len := fun _ => rfl, hE := by decide, hB := by decide, eB := by decide }
set_option maxHeartbeats 1000000 in
theorem isWrite_at (n : Nat) (B : ByteArray) (w : World) (hn : n < 4194304) (hB : mWord n = B) (ht : Tab w) : Calls Tryz.prog 129 #[.agg #[.string B, .string ⟨#[]⟩, .bool false], .int .i64 (n : Int)] w fun e w' => e = .returned (.bool true) ∧ Fr [] w w' := by
  have HB : Hid (mWord n = B) := hB
  clear hB
  have hgd := Tryz.guardWt
  have hq : ∀ w', (Op.equalIn 10000 124 (.agg #[.string B, .string ⟨#[]⟩, .bool false]) (.agg #[.string B, .string ⟨#[]⟩, .bool false])).run Tryz.prog w' = .ok true w' := fun w' => wt_same w' _ _ _
  obtain ⟨w0, HW0⟩ : ∃ w0, Hid (w.alloc (.cells #[.string B, .string ⟨#[]⟩, .bool false] 124) = w0) := ⟨_, rfl⟩
  have hb0 : w0.heap[w.heap.size]? = some (.cells #[.string B, .string ⟨#[]⟩, .bool false] 124 (0, 0)) := by rw [← HW0.out]; exact heap_alloc_new w _
  have hF0 : Fr [] w w0 := by rw [← HW0.out]; exact Fr.alloc [] _ _
  have HT0 : Hid (Tab w0) := ht.keep hF0 (by simp)
  have f0 : ∀ x : Wd w0, x.W.cell? ⟨w.heap.size, 0, none⟩ = some (.string B) := fun x => by rw [cell_of_row _ _ _ _ _ _ (x.h.keep hb0 (by simp))]; rfl
  have f1 : ∀ x : Wd w0, x.W.cell? ⟨w.heap.size, 1, none⟩ = some (.string ⟨#[]⟩) := fun x => by rw [cell_of_row _ _ _ _ _ _ (x.h.keep hb0 (by simp))]; rfl
  have f2 : ∀ x : Wd w0, x.W.cell? ⟨w.heap.size, 2, none⟩ = some (.bool false) := fun x => by rw [cell_of_row _ _ _ _ _ _ (x.h.keep hb0 (by simp))]; rfl
  clear hb0 ht
  go_enter Tryz.func129, Tryz.ntmps129
  go_upto_region 1 with fail
  rw [HW0.out]
  clear HW0
  refine wp_region_wd (w1 := w0) (by kernel_rfl) (by kernel_rfl) (Fr.refl _ _) ?_
  repeat (go_big_quiet_step (exact (word_any n B hn HB.out _ (HT0.out.keep (Wd.h _) (by simp))).mono fun e w3 hh => ⟨hh.1, ⟨_, Fr.then (Wd.h _) hh.2⟩, rfl⟩))
  refine wpQuiet_nil ?_
  rintro _ ⟨x, rfl⟩
  go_wp2
  go_ret
  exact ⟨by simp, hF0.then x.h⟩
end Go.Proofs.YtaefninikmaiiaaGreatDoor.Bq
/- The Book's mark of an entry, and its test of one. Conditions: numbers below 2^22; the table of powers of ten reads as the library lays it. -/
namespace Go.Proofs.YtaefninikmaiiaaGreatDoor.Bq
open BigFrame Go.ChangeShapes Go.WideShapes Go.ChangeAt Go.RowKit Go.Lib
set_option linter.unusedVariables false

theorem Tryz.undEnB : Tryz.prog.underlying 115 = some (.struct (Tryz.prog.fieldsOf 115)) := by kernel_rfl
theorem Tryz.heldEnB : Tryz.prog.stoodInHeld 115 = false := by kernel_rfl
theorem Tryz.guardEnB : Tryz.prog.eqGuardType Tryz.prog.depth 115 = false := by kernel_rfl
theorem Tryz.fieldsEnB : (Tryz.prog.fieldsOf 115).toList.map (fun f => (f.name == "_", f.type, f.offset)) = [(false, 9, 0), (false, 9, 1)] := by kernel_rfl
set_option maxRecDepth 100000 in
theorem en_fields (w : World) (k1 v1 k2 v2 : ByteArray) : (Op.equalIn 10000 115 (.agg #[.string k1, .string v1]) (.agg #[.string k2, .string v2])).run Tryz.prog w = .ok (k1.toList == k2.toList && v1.toList == v2.toList) w := by
  rw [run_equalIn_struct w 9999 _ _ _ Tryz.undEnB Tryz.heldEnB]
  have hF := Tryz.fieldsEnB
  obtain ⟨l, hl⟩ : ∃ l, l = (Tryz.prog.fieldsOf 115).toList := ⟨_, rfl⟩
  rw [← hl] at hF ⊢
  match l, hF with
  | [f0, f1], hF =>
    simp only [List.map_cons, List.map_nil, List.cons.injEq, Prod.mk.injEq, and_true] at hF
    obtain ⟨⟨n0, t0, o0⟩, ⟨n1, t1, o1⟩⟩ := hF
    have m0 : f0.name ≠ "_" := by simpa using n0
    have m1 : f1.name ≠ "_" := by simpa using n1
    simp only [Op.eqFields, if_pos m0, if_pos m1, t0, t1, o0, o1]
    rw [step_field (part_str w _ 0 _ rfl) (part_str w _ 0 _ rfl) (eq_str w k1 k2)]
    rw [step_field (part_str w _ 1 _ rfl) (part_str w _ 1 _ rfl) (eq_str w v1 v2)]
    cases (k1.toList == k2.toList) <;> cases (v1.toList == v2.toList) <;> simp
theorem en_same (w : World) (k v : ByteArray) : (Op.equalIn 10000 115 (.agg #[.string k, .string v]) (.agg #[.string k, .string v])).run Tryz.prog w = .ok true w := by
  rw [en_fields]
  simp
set_option maxHeartbeats 1000000 in
theorem markEntry_at (n : Nat) (B : ByteArray) (w : World) (hn : n < 4194304) (hB : mWord n = B) (ht : Tab w) : Calls Tryz.prog 119 #[.int .i64 (n : Int)] w fun e w' => e = .returned (.agg #[.string B, .string ⟨#[]⟩]) ∧ Fr [] w w' := by
  have HB : Hid (mWord n = B) := hB
  have hz : (w.alloc (Obj.cells #[.string ⟨#[]⟩, .string ⟨#[]⟩] 115)).heap[w.heap.size]? = some (Obj.cells #[.string ⟨#[]⟩, .string ⟨#[]⟩] 115) := heap_alloc_new _ _
  clear hB
  go_enter Tryz.func119, Tryz.ntmps119
  go_wp2_with fail
  refine (word_any n B hn HB.out _ (ht.keep (Fr.alloc [] w _) (by simp))).mono ?_
  rintro e w1 ⟨rfl, hF⟩
  have hz1 := hF.keep hz (by simp)
  have z0 : w1.cell? ⟨w.heap.size, 0, none⟩ = some (.string ⟨#[]⟩) := by rw [cell_of_row _ _ _ _ _ _ hz1]; rfl
  have z1 : w1.cell? ⟨w.heap.size, 1, none⟩ = some (.string ⟨#[]⟩) := by rw [cell_of_row _ _ _ _ _ _ hz1]; rfl
  have q0 : w1.frozen? ⟨w.heap.size, 0, none⟩ = false := by simp [World.frozen?, hz1]
  have q1 : w1.frozen? ⟨w.heap.size, 1, none⟩ = false := by simp [World.frozen?, hz1]
  have hF0 : Fr [] w w1 := (Fr.alloc [] w _).then hF
  clear hz hz1 hF
  go_wp2
  refine bodyPost_ret (v := (.agg #[.string B, .string ⟨#[]⟩])) (by rw [res_c1 rfl]; go_simp) rfl ⟨rfl, ?_⟩
  exact hF0.on ((Fr.set (S := [w.heap.size]) w1 ⟨w.heap.size, 0, none⟩ _ (by simp)).then (Fr.set _ ⟨w.heap.size, 1, none⟩ _ (by simp))) (by simp)
abbrev kEntry : Kd := { tH := 143, tE := 115, S := 2, mark := fun n => [.string (mWord n), .string ⟨#[]⟩], col := 5, pos := by decide, len := fun _ => rfl, hE := by decide, hB := by decide, eB := by decide }
set_option maxHeartbeats 1000000 in
theorem isEntry_at (n : Nat) (B : ByteArray) (w : World) (hn : n < 4194304) (hB : mWord n = B) (ht : Tab w) : Calls Tryz.prog 130 #[.agg #[.string B, .string ⟨#[]⟩], .int .i64 (n : Int)] w fun e w' => e = .returned (.bool true) ∧ Fr [] w w' := by
  have HB : Hid (mWord n = B) := hB
  clear hB
  have hgd := Tryz.guardEnB
  have hq : ∀ w', (Op.equalIn 10000 115 (.agg #[.string B, .string ⟨#[]⟩]) (.agg #[.string B, .string ⟨#[]⟩])).run Tryz.prog w' = .ok true w' := fun w' => en_same w' _ _
  obtain ⟨w0, HW0⟩ : ∃ w0, Hid (w.alloc (.cells #[.string B, .string ⟨#[]⟩] 115) = w0) := ⟨_, rfl⟩
  have hb0 : w0.heap[w.heap.size]? = some (.cells #[.string B, .string ⟨#[]⟩] 115 (0, 0)) := by rw [← HW0.out]; exact heap_alloc_new w _
  have hF0 : Fr [] w w0 := by rw [← HW0.out]; exact Fr.alloc [] _ _
  have HT0 : Hid (Tab w0) := ht.keep hF0 (by simp)
  have f0 : ∀ x : Wd w0, x.W.cell? ⟨w.heap.size, 0, none⟩ = some (.string B) := fun x => by rw [cell_of_row _ _ _ _ _ _ (x.h.keep hb0 (by simp))]; rfl
  have f1 : ∀ x : Wd w0, x.W.cell? ⟨w.heap.size, 1, none⟩ = some (.string ⟨#[]⟩) := fun x => by rw [cell_of_row _ _ _ _ _ _ (x.h.keep hb0 (by simp))]; rfl
  clear hb0 ht
  go_enter Tryz.func130, Tryz.ntmps130
  go_upto_region 1 with fail
  rw [HW0.out]
  clear HW0
  refine wp_region_wd (w1 := w0) (by kernel_rfl) (by kernel_rfl) (Fr.refl _ _) ?_
  repeat (go_big_quiet_step (exact (word_any n B hn HB.out _ (HT0.out.keep (Wd.h _) (by simp))).mono fun e w3 hh => ⟨hh.1, ⟨_, Fr.then (Wd.h _) hh.2⟩, rfl⟩))
  refine wpQuiet_nil ?_
  rintro _ ⟨x, rfl⟩
  go_wp2
  go_ret
  exact ⟨by simp, hF0.then x.h⟩
end Go.Proofs.YtaefninikmaiiaaGreatDoor.Bq
/- A Book's kinds side by side: what one kind's calls write is none of another's. Plain lemmas. -/
namespace Go.Proofs.YtaefninikmaiiaaGreatDoor.Bq
open Go.ChangeShapes Go.WideShapes Go.ChangeAt Go.RowKit Go.Lib
set_option linter.unusedVariables false

/-- Blocks that are none of a kind's, nor the Book's own. -/
def Off (K : Kd) (S : List Nat) (w : World) : Prop := ∀ k ∈ S, ∃ cs t, w.heap[k]? = some (.cells cs t (0, 0)) ∧ t ≠ 45 ∧ t ≠ K.tH ∧ t ≠ K.tE
/-- Two kinds have no type in common. -/
def Kd.off (K J : Kd) : Prop := J.tH ≠ K.tH ∧ J.tH ≠ K.tE ∧ J.tE ≠ K.tH ∧ J.tE ≠ K.tE
theorem off_lbs {K J : Kd} (hKJ : K.off J) {w : World} {hs : List HB} (h : ∀ (j : Nat) (h : HB), hs[j]? = some h → ∀ k, h.l.ownBlock = some k → ∃ cs, w.heap[k]? = some (.cells cs J.tE (0, 0))) : Off K (lbs hs) w := by
  intro k hk
  obtain ⟨b, hb, hbk⟩ := mem_lbs.1 hk
  obtain ⟨j, hj⟩ := List.getElem?_of_mem hb
  obtain ⟨cs, hc⟩ := h j b hj k hbk
  exact ⟨cs, J.tE, hc, J.eB, hKJ.2.2.1, hKJ.2.2.2⟩
theorem off_row {K J : Kd} (hKJ : K.off J) {w : World} {bk : Nat} {rv : Value} {hs : List HB} (h : Bl J w bk rv hs) : Off K rv.ownBlock.toList w := by
  intro k hk
  obtain ⟨cs, hc⟩ := own_type h.row k (by simpa using hk)
  exact ⟨cs, J.tH, hc, J.hB, hKJ.1, hKJ.2.1⟩
theorem Off.append {K : Kd} {S T : List Nat} {w : World} (h : Off K S w) (k : Off K T w) : Off K (S ++ T) w := by
  intro x hx
  rcases List.mem_append.1 hx with hx | hx
  · exact h x hx
  · exact k x hx
theorem Off.nil (K : Kd) (w : World) : Off K [] w := by intro x hx; simp at hx
section
variable {K : Kd} {S : List Nat} {w w' : World} {bk : Nat} {rv : Value} {hs : List HB}
theorem Off.notE (h : Off K S w) {k : Nat} {cs : Array Value} (hk : w.heap[k]? = some (.cells cs K.tE (0, 0))) : k ∉ S := by
  intro hm
  obtain ⟨cs', t, hc, _, _, h3⟩ := h k hm
  rw [hc] at hk
  simp only [Option.some.injEq, Obj.cells.injEq] at hk
  exact h3 hk.2.1
theorem Off.notH (h : Off K S w) {k : Nat} {cs : Array Value} (hk : w.heap[k]? = some (.cells cs K.tH (0, 0))) : k ∉ S := by
  intro hm
  obtain ⟨cs', t, hc, _, h2, _⟩ := h k hm
  rw [hc] at hk
  simp only [Option.some.injEq, Obj.cells.injEq] at hk
  exact h2 hk.2.1
theorem Off.notB (h : Off K S w) {k : Nat} {cs : Array Value} (hk : w.heap[k]? = some (.cells cs 45 (0, 0))) : k ∉ S := by
  intro hm
  obtain ⟨cs', t, hc, h1, _, _⟩ := h k hm
  rw [hc] at hk
  simp only [Option.some.injEq, Obj.cells.injEq] at hk
  exact h1 hk.2.1
/-- A kind's part of the Book: as it was handed in; marked; grown. -/
structure S0 (K : Kd) (w : World) (bk : Nat) (rv : Value) (hs : List HB) : Prop where
  bl : Bl K w bk rv hs
  each : ∀ (j : Nat) (h : HB), hs[j]? = some h → P0 K w h
  alone : Alone hs
  fresh : Fresh hs
structure S1 (K : Kd) (w : World) (bk : Nat) (rv : Value) (hs : List HB) : Prop where
  bl : Bl K w bk rv hs
  each : ∀ (j : Nat) (h : HB), hs[j]? = some h → P1 K w h
  alone : Alone hs
  fresh : Fresh hs
structure S2 (K : Kd) (w : World) (bk : Nat) (rv : Value) (hs : List HB) : Prop where
  bl : Bl K w bk rv hs
  each : ∀ (j : Nat) (h : HB), hs[j]? = some h → P2 K w h
theorem Bl.stay (h : Bl K w bk rv hs) (hf : Fr S w w') (ho : Off K S w) : Bl K w' bk rv hs := by
  obtain ⟨cs, h1, _⟩ := h.box
  exact h.keep hf (ho.notB h1) (fun k hk => by obtain ⟨cs, hc⟩ := own_type h.row k hk; exact ho.notH hc)
theorem S0.stay (h : S0 K w bk rv hs) (hf : Fr S w w') (ho : Off K S w) : S0 K w' bk rv hs :=
  ⟨h.bl.stay hf ho, fun j b hb => (h.each j b hb).keep hf (fun k hk => by obtain ⟨cs, hc⟩ := (h.each j b hb).type k hk; exact ho.notE hc), h.alone, h.fresh⟩
theorem S1.stay (h : S1 K w bk rv hs) (hf : Fr S w w') (ho : Off K S w) : S1 K w' bk rv hs :=
  ⟨h.bl.stay hf ho, fun j b hb => (h.each j b hb).keep hf (fun k hk => by obtain ⟨cs, hc⟩ := (h.each j b hb).type k hk; exact ho.notE hc), h.alone, h.fresh⟩
theorem S2.stay (h : S2 K w bk rv hs) (hf : Fr S w w') (ho : Off K S w) : S2 K w' bk rv hs := by
  refine ⟨h.bl.stay hf ho, fun j b hb => ?_⟩
  obtain ⟨n, q1, q2, q3⟩ := h.each j b hb
  exact P2.keep ⟨n, q1, q2, q3⟩ hf (fun k hk => by obtain ⟨cs, hc⟩ := q1.type k hk; exact ho.notE hc) (fun k hk => by obtain ⟨cs, hc⟩ := own_type q2 k hk; exact ho.notE hc)
theorem S0.filled (h : S0 K w bk rv hs) (hF : FillInv K w bk rv hs hs.length w') : S1 K w' bk rv hs :=
  ⟨hF.bk, fun j b hb => hF.done j b hb (List.getElem?_eq_some_iff.1 hb).1, h.alone, h.fresh⟩
theorem S1.grown {hs' : List HB} (h : S1 K w bk rv hs) (hG : GrowInv K w bk rv hs hs.length hs' w') : S2 K w' bk rv hs' :=
  ⟨hG.bk, fun j b hb => hG.done j b hb (by rw [← hG.len]; exact (List.getElem?_eq_some_iff.1 hb).1)⟩
theorem S0.offs {J : Kd} (hKJ : J.off K) (h : S0 K w bk rv hs) : Off J (lbs hs) w := off_lbs hKJ fun j b hb => (h.each j b hb).type
theorem S1.offs {J : Kd} (hKJ : J.off K) (h : S1 K w bk rv hs) : Off J (rv.ownBlock.toList ++ lbs hs) w := (off_row hKJ h.bl).append (off_lbs hKJ fun j b hb => (h.each j b hb).type)
end
/-- The Book's block, of which the cells of other kinds than these hold no list. -/
structure Bx (w : World) (bk : Nat) (cs : Array Value) : Prop where
  box : w.heap[bk]? = some (.cells cs 45 (0, 0))
  size : cs.size = 12
  rest : ∀ c, c = 1 ∨ c = 3 ∨ c = 6 ∨ c = 8 ∨ c = 9 ∨ c = 10 ∨ c = 11 → cs[c]? = some (.slice none 0 0)
theorem Bx.c {w : World} {bk : Nat} {cs : Array Value} (h : Bx w bk cs) (c : Nat) (hc : c = 1 ∨ c = 3 ∨ c = 6 ∨ c = 8 ∨ c = 9 ∨ c = 10 ∨ c = 11) : w.cell? ⟨bk, c, none⟩ = some (.slice none 0 0) := by
  rw [cell_of_row _ _ _ _ _ _ h.box, h.rest c hc]
theorem Bx.keep {S : List Nat} {w w' : World} {bk : Nat} {cs : Array Value} (h : Bx w bk cs) (hf : Fr S w w') (hb : bk ∉ S) : Bx w' bk cs := ⟨hf.keep h.box hb, h.size, h.rest⟩
theorem off_BI : kEntry.off kInt := by refine ⟨?_, ?_, ?_, ?_⟩ <;> decide
theorem off_BW : kEntry.off kWrite := by refine ⟨?_, ?_, ?_, ?_⟩ <;> decide
theorem off_BT : kEntry.off kTxn := by refine ⟨?_, ?_, ?_, ?_⟩ <;> decide
theorem off_IB : kInt.off kEntry := by refine ⟨?_, ?_, ?_, ?_⟩ <;> decide
theorem off_IW : kInt.off kWrite := by refine ⟨?_, ?_, ?_, ?_⟩ <;> decide
theorem off_IT : kInt.off kTxn := by refine ⟨?_, ?_, ?_, ?_⟩ <;> decide
theorem off_WB : kWrite.off kEntry := by refine ⟨?_, ?_, ?_, ?_⟩ <;> decide
theorem off_WI : kWrite.off kInt := by refine ⟨?_, ?_, ?_, ?_⟩ <;> decide
theorem off_WT : kWrite.off kTxn := by refine ⟨?_, ?_, ?_, ?_⟩ <;> decide
theorem off_TB : kTxn.off kEntry := by refine ⟨?_, ?_, ?_, ?_⟩ <;> decide
theorem off_TI : kTxn.off kInt := by refine ⟨?_, ?_, ?_, ?_⟩ <;> decide
theorem off_TW : kTxn.off kWrite := by refine ⟨?_, ?_, ?_, ?_⟩ <;> decide
end Go.Proofs.YtaefninikmaiiaaGreatDoor.Bq
/- A Book of lists of entries, numbers, writes and transactions is told one list more. Conditions: the list lies in a block of its own that no held list of its kind has. -/
namespace Go.Proofs.YtaefninikmaiiaaGreatDoor.Bq
open Go.ChangeShapes Go.WideShapes Go.ChangeAt Go.RowKit Go.Lib
set_option linter.unusedVariables false

section
variable {K J : Kd} {S : List Nat} {w w' : World} {bk : Nat} {rv rv' : Value} {hs : List HB} {cs' : Array Value}
/-- Another kind's part, where the Book's block was written. -/
theorem S0.beside (h : S0 J w bk rv hs) (hb : w'.heap[bk]? = some (.cells cs' 45 (0, 0))) (hc : cs'[J.col]? = some rv) (hf : Fr (bk :: S) w w') (ho : Off J S w) : S0 J w' bk rv hs := by
  obtain ⟨cs, h1, _⟩ := h.bl.box
  have hE : ∀ k cs, w.heap[k]? = some (.cells cs J.tE (0, 0)) → k ∉ bk :: S := by
    intro k cs hk hm
    rcases List.mem_cons.1 hm with rfl | hm
    · rw [h1] at hk
      simp only [Option.some.injEq, Obj.cells.injEq] at hk
      exact J.eB hk.2.1.symm
    · exact ho.notE hk hm
  have hH : ∀ k cs, w.heap[k]? = some (.cells cs J.tH (0, 0)) → k ∉ bk :: S := by
    intro k cs hk hm
    rcases List.mem_cons.1 hm with rfl | hm
    · rw [h1] at hk
      simp only [Option.some.injEq, Obj.cells.injEq] at hk
      exact J.hB hk.2.1.symm
    · exact ho.notH hk hm
  refine ⟨⟨⟨cs', hb, hc⟩, owns_keep h.bl.row hf (fun k hk => by obtain ⟨c, hc⟩ := own_type h.bl.row k hk; exact hH k c hc), h.bl.few, h.bl.num⟩, fun j b hb => (h.each j b hb).keep hf (fun k hk => by obtain ⟨c, hc⟩ := (h.each j b hb).type k hk; exact hE k c hc), h.alone, h.fresh⟩
/-- The kind's own part with one list more. -/
theorem S0.told (h : S0 K w bk rv hs) (l : Value) (n : Nat) (hb : w'.heap[bk]? = some (.cells cs' 45 (0, 0))) (hc : cs'[K.col]? = some rv') (hrow : w'.ownsRow 0 K.tH 3 rv' (hs.length + 1) (rowOf (hs ++ [⟨l, .slice none 0 0, n⟩]))) (hf : Fr (bk :: rv.ownBlock.toList) w w')
    (hp : P0 K w ⟨l, .slice none 0 0, n⟩) (hn : n < 4194304) (hfew : hs.length + 1 < 2097152) (hal : ∀ k, l.ownBlock = some k → k ∉ lbs hs) : S0 K w' bk rv' (hs ++ [⟨l, .slice none 0 0, n⟩]) := by
  obtain ⟨cs, h1, _⟩ := h.bl.box
  have hE : ∀ k cs, w.heap[k]? = some (.cells cs K.tE (0, 0)) → k ∉ bk :: rv.ownBlock.toList := by
    intro k cs hk hm
    obtain ⟨q1, q2⟩ := h.bl.apart hk
    rcases List.mem_cons.1 hm with e | hm
    · exact q1 e
    · exact q2 (by simpa using hm)
  have hget : ∀ (j : Nat) (b : HB), (hs ++ [⟨l, .slice none 0 0, n⟩])[j]? = some b → hs[j]? = some b ∨ (j = hs.length ∧ b = ⟨l, .slice none 0 0, n⟩) := by
    intro j b hb
    by_cases hj : j < hs.length
    · rw [List.getElem?_append_left hj] at hb
      exact Or.inl hb
    · rw [List.getElem?_append_right (by omega)] at hb
      by_cases hj2 : j = hs.length
      · subst hj2
        simp at hb
        exact Or.inr ⟨rfl, hb.symm⟩
      · rw [List.getElem?_eq_none (by simp; omega)] at hb
        cases hb
  refine ⟨⟨⟨cs', hb, hc⟩, by simpa using hrow, by simpa using hfew, ?_⟩, ?_, ?_, ?_⟩
  · intro j b hb
    rcases hget j b hb with hb | ⟨_, rfl⟩
    · exact h.bl.num j b hb
    · exact hn
  · intro j b hb
    rcases hget j b hb with hb | ⟨_, rfl⟩
    · exact (h.each j b hb).keep hf (fun k hk => by obtain ⟨c, hc⟩ := (h.each j b hb).type k hk; exact hE k c hc)
    · exact hp.keep hf (fun k hk => by obtain ⟨c, hc⟩ := hp.type k hk; exact hE k c hc)
  · intro i j a b ha hb hij k hk hkb
    rcases hget i a ha with ha | ⟨hi, rfl⟩
    · rcases hget j b hb with hb | ⟨hj, rfl⟩
      · exact h.alone i j a b ha hb hij k hk hkb
      · exact hal k hkb (mem_lbs.2 ⟨a, List.mem_of_getElem? ha, hk⟩)
    · rcases hget j b hb with hb | ⟨hj, rfl⟩
      · exact hal k hk (mem_lbs.2 ⟨b, List.mem_of_getElem? hb, hkb⟩)
      · omega
  · intro j b hb
    rcases hget j b hb with hb | ⟨_, rfl⟩
    · exact h.fresh j b hb
    · rfl
end
/-- A Book that was made since w0: how many lists it was told, and its four kinds. -/
structure B4 (w0 w : World) (bk T : Nat) (rB rI rW rT : Value) (hB hI hW hT : List HB) : Prop where
  box : ∃ cs, Bx w bk cs ∧ cs[0]? = some (.int .i64 (T : Int))
  sB : S0 kEntry w bk rB hB
  sI : S0 kInt w bk rI hI
  sW : S0 kWrite w bk rW hW
  sT : S0 kTxn w bk rT hT
  bn : w0.heap.size ≤ bk
  rBn : ∀ k, rB.ownBlock = some k → w0.heap.size ≤ k
  rIn : ∀ k, rI.ownBlock = some k → w0.heap.size ≤ k
  rWn : ∀ k, rW.ownBlock = some k → w0.heap.size ≤ k
  rTn : ∀ k, rT.ownBlock = some k → w0.heap.size ≤ k
  lB : hB.length ≤ T
  lI : hI.length ≤ T
  lW : hW.length ≤ T
  lT : hT.length ≤ T
theorem snoc_length (hs : List HB) (h : HB) : (hs ++ [h]).length = hs.length + 1 := by simp
theorem Bx.told {w w' : World} {bk : Nat} {cs : Array Value} (h : Bx w bk cs) (T' : Value) (c : Nat) (rv' : Value) (hc : c = 5 ∨ c = 2 ∨ c = 4 ∨ c = 7) (hb : w'.heap[bk]? = some (.cells ((cs.setIfInBounds 0 T').setIfInBounds c rv') 45 (0, 0))) :
    Bx w' bk ((cs.setIfInBounds 0 T').setIfInBounds c rv') ∧ ((cs.setIfInBounds 0 T').setIfInBounds c rv')[0]? = some T' ∧ ((cs.setIfInBounds 0 T').setIfInBounds c rv')[c]? = some rv' ∧ ∀ j, j ≠ 0 → j ≠ c → ((cs.setIfInBounds 0 T').setIfInBounds c rv')[j]? = cs[j]? := by
  have h12 := h.size
  have hoth : ∀ j, j ≠ 0 → j ≠ c → ((cs.setIfInBounds 0 T').setIfInBounds c rv')[j]? = cs[j]? := by
    intro j h0 h1
    rw [Array.getElem?_setIfInBounds_ne (fun e => h1 e.symm), Array.getElem?_setIfInBounds_ne (fun e => h0 e.symm)]
  refine ⟨⟨hb, by simpa using h12, fun j hj => ?_⟩, ?_, ?_, hoth⟩
  · rw [hoth j (by omega) (by omega)]
    exact h.rest j hj
  · rw [Array.getElem?_setIfInBounds_ne (by omega), Array.getElem?_setIfInBounds_self]
    simp [h12]
  · rw [Array.getElem?_setIfInBounds_self]
    simp [h12]
    omega
end Go.Proofs.YtaefninikmaiiaaGreatDoor.Bq
/- What the Book does when it is told one more list (Entry). Conditions: fewer than 2^21 lists. -/
namespace Go.Proofs.YtaefninikmaiiaaGreatDoor.Bq
open Go.ChangeShapes Go.WideShapes Go.ChangeAt Go.RowKit Go.Lib
set_option linter.unusedVariables false

theorem Tryz.infoHEntry : (Tryz.prog.info? 143).map (fun i => (i.zero, i.size, i.bytes)) = some (some (.agg #[.slice none 0 0, .slice none 0 0, .int .i64 0]), 3, 56) := by kernel_rfl
theorem Tryz.undHEntrys : Tryz.prog.underlying 37 = some (.slice 143) := by kernel_rfl

set_option maxHeartbeats 4000000 in
set_option maxRecDepth 100000 in
theorem keepEntry_any (bk : Nat) (cs : Array Value) (rv : Value) (hs : List HB) (T : Nat) (ao : Option Addr) (L cap : Nat) (w : World) (hb0 : w.heap[bk]? = some (.cells cs 45 (0, 0))) (h12 : cs.size = 12) (hc0 : cs[0]? = some (.int .i64 (T : Int))) (hc1 : cs[5]? = some rv) (hr0 : w.ownsRow 0 143 3 rv hs.length (rowOf hs)) (hfew : hs.length < 2097152) (hT : T < 4194304) :
    Calls Tryz.prog 100 #[.pointer (some ⟨bk, 0, none⟩), .slice ao L cap] w fun e w' => e = .returned (.tuple #[]) ∧ ∃ rv', w'.heap[bk]? = some (.cells ((cs.setIfInBounds 0 (.int .i64 ((T : Int) + 1))).setIfInBounds 5 rv') 45 (0, 0)) ∧ w'.ownsRow 0 143 3 rv' (hs.length + 1) (rowOf (hs ++ [⟨.slice ao L cap, .slice none 0 0, T + 1⟩])) ∧ Fr (bk :: rv.ownBlock.toList) w w' ∧ Moved w.heap.size rv rv' := by
  obtain ⟨i0, hi, hz0, hz1, hz2⟩ := info_parts Tryz.infoHEntry
  have c0 : w.cell? ⟨bk, 0, none⟩ = some (.int .i64 (T : Int)) := by rw [cell_of_row _ _ _ _ _ _ hb0, hc0]
  have c1 : w.cell? ⟨bk, 5, none⟩ = some rv := by rw [cell_of_row _ _ _ _ _ _ hb0, hc1]
  have f0 : w.frozen? ⟨bk, 0, none⟩ = false := by simp [World.frozen?, hb0]
  have f1 : w.frozen? ⟨bk, 5, none⟩ = false := by simp [World.frozen?, hb0]
  obtain ⟨N, HN⟩ : ∃ N, Hid (N = hs.length) := ⟨_, rfl⟩
  have hrow := hr0
  rw [← HN.out] at hrow hfew
  have hoth : rv.ownBlock ≠ some bk := by
    intro e
    obtain ⟨cs', hc⟩ := own_type hr0 bk e
    rw [hb0] at hc
    simp at hc
  obtain ⟨rao, rcap, hrv⟩ := own_slice hrow
  subst hrv
  clear hr0
  go_enter Tryz.func100, Tryz.ntmps100
  go_wp2_with fail
  obtain ⟨w1, hw1⟩ : ∃ w1, w1 = w.setCell ⟨bk, 0, none⟩ (.int .i64 ((T : Int) + 1)) := ⟨_, rfl⟩
  rw [← hw1]
  have hF1 : Fr [bk] w w1 := by rw [hw1]; exact Fr.set _ _ _ (by simp)
  have hbox : w1.heap[bk]? = some (.cells (cs.setIfInBounds 0 (.int .i64 ((T : Int) + 1))) 45 (0, 0)) := by rw [hw1, row_setCell _ hb0]
  have hO1 : w1.ownsRow 0 143 3 (.slice rao N rcap) N (rowOf hs) := by rw [hw1]; exact ownsRow_setCell_other hrow hoth _
  have hcs0 : (cs.setIfInBounds 0 (.int .i64 ((T : Int) + 1)))[0]? = some (.int .i64 ((T : Int) + 1)) := by rw [Array.getElem?_setIfInBounds_self]; simp [h12]
  have hcs1 : (cs.setIfInBounds 0 (.int .i64 ((T : Int) + 1)))[5]? = some (.slice rao N rcap) := by rw [Array.getElem?_setIfInBounds_ne (by omega)]; exact hc1
  have d0 : w1.cell? ⟨bk, 0, none⟩ = some (.int .i64 ((T : Int) + 1)) := by rw [cell_of_row _ _ _ _ _ _ hbox, hcs0]
  have d1 : w1.cell? ⟨bk, 5, none⟩ = some (.slice rao N rcap) := by rw [cell_of_row _ _ _ _ _ _ hbox, hcs1]
  have e1 : w1.frozen? ⟨bk, 5, none⟩ = false := by simp [World.frozen?, hbox]
  clear hw1 c0 c1 f0 f1 hrow
  have hFa : Fr [] w1 (w1.alloc (Obj.cells #[.slice ao L cap, .slice none 0 0, .int .i64 ((T : Int) + 1)] 143)).drew := (Fr.alloc [] w1 _).then (Fr.drew [] _)
  have HOa : Hid ((w1.alloc (Obj.cells #[.slice ao L cap, .slice none 0 0, .int .i64 ((T : Int) + 1)] 143)).drew.ownsRow 0 143 3 (.slice rao N rcap) N (rowOf hs)) := owns_keep hO1 hFa (by simp)
  have HNw : Hid (∀ (j : Nat) u, [Value.slice ao L cap, .slice none 0 0, .int .i64 ((T : Int) + 1)][j]? = some u → (w1.alloc (Obj.cells #[.slice ao L cap, .slice none 0 0, .int .i64 ((T : Int) + 1)] 143)).drew.cell? ((⟨w1.heap.size, 0, none⟩ : Addr).add j) = some u) := by
    intro j u hj
    have hn : (w1.alloc (Obj.cells #[.slice ao L cap, .slice none 0 0, .int .i64 ((T : Int) + 1)] 143)).drew.heap[w1.heap.size]? = some (Obj.cells #[.slice ao L cap, .slice none 0 0, .int .i64 ((T : Int) + 1)] 143) := heap_alloc_new w1 _
    rw [show (⟨w1.heap.size, 0, none⟩ : Addr).add j = ⟨w1.heap.size, j, none⟩ from by simp [Addr.add]; omega, cell_of_row _ _ _ _ _ _ hn]
    simpa using hj
  have hboxa := (Fr.alloc [] w1 (Obj.cells #[.slice ao L cap, .slice none 0 0, .int .i64 ((T : Int) + 1)] 143)).keep hbox (by simp)
  have d0a : (w1.alloc (Obj.cells #[.slice ao L cap, .slice none 0 0, .int .i64 ((T : Int) + 1)] 143)).cell? ⟨bk, 0, none⟩ = some (.int .i64 ((T : Int) + 1)) := by rw [cell_of_row _ _ _ _ _ _ hboxa, hcs0]
  have d1a : (w1.alloc (Obj.cells #[.slice ao L cap, .slice none 0 0, .int .i64 ((T : Int) + 1)] 143)).cell? ⟨bk, 5, none⟩ = some (.slice rao N rcap) := by rw [cell_of_row _ _ _ _ _ _ hboxa, hcs1]
  clear hboxa
  have HOne : Hid (∀ u ∈ [Value.slice ao L cap, .slice none 0 0, .int .i64 ((T : Int) + 1)], u.oneCell' = true) := by
    intro u hu
    simp at hu
    rcases hu with rfl | rfl | rfl <;> rfl
  have HK : Hid (∀ (g cap' : Nat) (w' : World), w'.ownsRow 0 143 3 (.slice (some ⟨g, 0, none⟩) (N + 1) cap') (N + 1) (rowOf hs ++ [Value.slice ao L cap, .slice none 0 0, .int .i64 ((T : Int) + 1)]) → Went (w1.alloc (Obj.cells #[.slice ao L cap, .slice none 0 0, .int .i64 ((T : Int) + 1)] 143)).drew (.slice rao N rcap) g w' →
      w'.cell? ⟨bk, 5, none⟩ = some (.slice rao N rcap) ∧ w'.frozen? ⟨bk, 5, none⟩ = false ∧ Hid ((w'.setCell ⟨bk, 5, none⟩ (.slice (some ⟨g, 0, none⟩) (N + 1) cap')).heap[bk]? = some (.cells ((cs.setIfInBounds 0 (.int .i64 ((T : Int) + 1))).setIfInBounds 5 (.slice (some ⟨g, 0, none⟩) (N + 1) cap')) 45 (0, 0)) ∧ (w'.setCell ⟨bk, 5, none⟩ (.slice (some ⟨g, 0, none⟩) (N + 1) cap')).ownsRow 0 143 3 (.slice (some ⟨g, 0, none⟩) (N + 1) cap') (hs.length + 1) (rowOf (hs ++ [⟨.slice ao L cap, .slice none 0 0, T + 1⟩])) ∧ Fr (bk :: (Value.slice rao N rcap).ownBlock.toList) w (w'.setCell ⟨bk, 5, none⟩ (.slice (some ⟨g, 0, none⟩) (N + 1) cap')) ∧ Moved w.heap.size (.slice rao N rcap) (.slice (some ⟨g, 0, none⟩) (N + 1) cap'))) := by
    intro g cap' w' hO hW
    have hFw := hW.fr
    have hF1w : Fr (Value.slice rao N rcap).ownBlock.toList w1 w' := hFa.trans hFw (by simp) (fun x hx _ => hx)
    have hbox' := hF1w.keep hbox (by simpa using hoth)
    refine ⟨by rw [cell_of_row _ _ _ _ _ _ hbox', hcs1], by simp [World.frozen?, hbox'], ?_, ?_, ?_, ?_⟩
    · rw [row_setCell _ hbox']
    · have hne : (Value.slice (some ⟨g, 0, none⟩) (N + 1) cap').ownBlock ≠ some bk := by
        intro e
        obtain ⟨cs', hc⟩ := own_type hO bk e
        rw [hbox'] at hc
        simp at hc
      have e : HB.cells ⟨.slice ao L cap, .slice none 0 0, T + 1⟩ = [.slice ao L cap, .slice none 0 0, .int .i64 ((T : Int) + 1)] := by simp [HB.cells]
      rw [rowOf_snoc, e, ← HN.out]
      exact ownsRow_setCell_other hO hne _
    · refine (hF1.trans (hF1w.trans (U := bk :: (Value.slice rao N rcap).ownBlock.toList) (Fr.set (S := [bk]) w' ⟨bk, 5, none⟩ _ (by simp)) ?_ ?_) ?_ (fun x hx _ => hx))
      · intro x hx _; exact List.mem_cons_of_mem _ hx
      · intro x hx _; simp at hx; simp [hx]
      · intro x hx _; simp at hx; simp [hx]
    · have hs1 := hF1.size
      have hs2 := hFa.size
      exact (Moved.refl w.heap.size _).trans hW.moved (by omega)
  clear hcs0 hcs1
  go_region_law (refine step_app _ rfl (.tmp 15) (.tmp 22) 37 rfl 143 i0 _ 3 56 Tryz.undHEntrys hi hz0 hz1 hz2 rfl (by omega) (.slice rao N rcap) N (rowOf hs) (by simp [Act.eval]) HOa.out ⟨w1.heap.size, 0, none⟩ 1 [.slice ao L cap, .slice none 0 0, .int .i64 ((T : Int) + 1)] (by simp [Act.eval]) rfl HNw.out HOne.out (by omega) (by simp only [maxLen]; omega) ?_; intro g cap' w' hO2 hW2; obtain ⟨q1, q2, q3⟩ := HK.out g cap' w' hO2 hW2)
  all_goals (go_wp2_with fail; go_end0; exact ⟨rfl, _, q3.out⟩)
end Go.Proofs.YtaefninikmaiiaaGreatDoor.Bq
/- What the Book does when it is told one more list (Int). Conditions: fewer than 2^21 lists. -/
namespace Go.Proofs.YtaefninikmaiiaaGreatDoor.Bq
open Go.ChangeShapes Go.WideShapes Go.ChangeAt Go.RowKit Go.Lib
set_option linter.unusedVariables false

theorem Tryz.infoHInt : (Tryz.prog.info? 133).map (fun i => (i.zero, i.size, i.bytes)) = some (some (.agg #[.slice none 0 0, .slice none 0 0, .int .i64 0]), 3, 56) := by kernel_rfl
theorem Tryz.undHInts : Tryz.prog.underlying 34 = some (.slice 133) := by kernel_rfl

set_option maxHeartbeats 4000000 in
set_option maxRecDepth 100000 in
theorem keepInt_any (bk : Nat) (cs : Array Value) (rv : Value) (hs : List HB) (T : Nat) (ao : Option Addr) (L cap : Nat) (w : World) (hb0 : w.heap[bk]? = some (.cells cs 45 (0, 0))) (h12 : cs.size = 12) (hc0 : cs[0]? = some (.int .i64 (T : Int))) (hc1 : cs[2]? = some rv) (hr0 : w.ownsRow 0 133 3 rv hs.length (rowOf hs)) (hfew : hs.length < 2097152) (hT : T < 4194304) :
    Calls Tryz.prog 96 #[.pointer (some ⟨bk, 0, none⟩), .slice ao L cap] w fun e w' => e = .returned (.tuple #[]) ∧ ∃ rv', w'.heap[bk]? = some (.cells ((cs.setIfInBounds 0 (.int .i64 ((T : Int) + 1))).setIfInBounds 2 rv') 45 (0, 0)) ∧ w'.ownsRow 0 133 3 rv' (hs.length + 1) (rowOf (hs ++ [⟨.slice ao L cap, .slice none 0 0, T + 1⟩])) ∧ Fr (bk :: rv.ownBlock.toList) w w' ∧ Moved w.heap.size rv rv' := by
  obtain ⟨i0, hi, hz0, hz1, hz2⟩ := info_parts Tryz.infoHInt
  have c0 : w.cell? ⟨bk, 0, none⟩ = some (.int .i64 (T : Int)) := by rw [cell_of_row _ _ _ _ _ _ hb0, hc0]
  have c1 : w.cell? ⟨bk, 2, none⟩ = some rv := by rw [cell_of_row _ _ _ _ _ _ hb0, hc1]
  have f0 : w.frozen? ⟨bk, 0, none⟩ = false := by simp [World.frozen?, hb0]
  have f1 : w.frozen? ⟨bk, 2, none⟩ = false := by simp [World.frozen?, hb0]
  obtain ⟨N, HN⟩ : ∃ N, Hid (N = hs.length) := ⟨_, rfl⟩
  have hrow := hr0
  rw [← HN.out] at hrow hfew
  have hoth : rv.ownBlock ≠ some bk := by
    intro e
    obtain ⟨cs', hc⟩ := own_type hr0 bk e
    rw [hb0] at hc
    simp at hc
  obtain ⟨rao, rcap, hrv⟩ := own_slice hrow
  subst hrv
  clear hr0
  go_enter Tryz.func96, Tryz.ntmps96
  go_wp2_with fail
  obtain ⟨w1, hw1⟩ : ∃ w1, w1 = w.setCell ⟨bk, 0, none⟩ (.int .i64 ((T : Int) + 1)) := ⟨_, rfl⟩
  rw [← hw1]
  have hF1 : Fr [bk] w w1 := by rw [hw1]; exact Fr.set _ _ _ (by simp)
  have hbox : w1.heap[bk]? = some (.cells (cs.setIfInBounds 0 (.int .i64 ((T : Int) + 1))) 45 (0, 0)) := by rw [hw1, row_setCell _ hb0]
  have hO1 : w1.ownsRow 0 133 3 (.slice rao N rcap) N (rowOf hs) := by rw [hw1]; exact ownsRow_setCell_other hrow hoth _
  have hcs0 : (cs.setIfInBounds 0 (.int .i64 ((T : Int) + 1)))[0]? = some (.int .i64 ((T : Int) + 1)) := by rw [Array.getElem?_setIfInBounds_self]; simp [h12]
  have hcs1 : (cs.setIfInBounds 0 (.int .i64 ((T : Int) + 1)))[2]? = some (.slice rao N rcap) := by rw [Array.getElem?_setIfInBounds_ne (by omega)]; exact hc1
  have d0 : w1.cell? ⟨bk, 0, none⟩ = some (.int .i64 ((T : Int) + 1)) := by rw [cell_of_row _ _ _ _ _ _ hbox, hcs0]
  have d1 : w1.cell? ⟨bk, 2, none⟩ = some (.slice rao N rcap) := by rw [cell_of_row _ _ _ _ _ _ hbox, hcs1]
  have e1 : w1.frozen? ⟨bk, 2, none⟩ = false := by simp [World.frozen?, hbox]
  clear hw1 c0 c1 f0 f1 hrow
  have hFa : Fr [] w1 (w1.alloc (Obj.cells #[.slice ao L cap, .slice none 0 0, .int .i64 ((T : Int) + 1)] 133)).drew := (Fr.alloc [] w1 _).then (Fr.drew [] _)
  have HOa : Hid ((w1.alloc (Obj.cells #[.slice ao L cap, .slice none 0 0, .int .i64 ((T : Int) + 1)] 133)).drew.ownsRow 0 133 3 (.slice rao N rcap) N (rowOf hs)) := owns_keep hO1 hFa (by simp)
  have HNw : Hid (∀ (j : Nat) u, [Value.slice ao L cap, .slice none 0 0, .int .i64 ((T : Int) + 1)][j]? = some u → (w1.alloc (Obj.cells #[.slice ao L cap, .slice none 0 0, .int .i64 ((T : Int) + 1)] 133)).drew.cell? ((⟨w1.heap.size, 0, none⟩ : Addr).add j) = some u) := by
    intro j u hj
    have hn : (w1.alloc (Obj.cells #[.slice ao L cap, .slice none 0 0, .int .i64 ((T : Int) + 1)] 133)).drew.heap[w1.heap.size]? = some (Obj.cells #[.slice ao L cap, .slice none 0 0, .int .i64 ((T : Int) + 1)] 133) := heap_alloc_new w1 _
    rw [show (⟨w1.heap.size, 0, none⟩ : Addr).add j = ⟨w1.heap.size, j, none⟩ from by simp [Addr.add]; omega, cell_of_row _ _ _ _ _ _ hn]
    simpa using hj
  have hboxa := (Fr.alloc [] w1 (Obj.cells #[.slice ao L cap, .slice none 0 0, .int .i64 ((T : Int) + 1)] 133)).keep hbox (by simp)
  have d0a : (w1.alloc (Obj.cells #[.slice ao L cap, .slice none 0 0, .int .i64 ((T : Int) + 1)] 133)).cell? ⟨bk, 0, none⟩ = some (.int .i64 ((T : Int) + 1)) := by rw [cell_of_row _ _ _ _ _ _ hboxa, hcs0]
  have d1a : (w1.alloc (Obj.cells #[.slice ao L cap, .slice none 0 0, .int .i64 ((T : Int) + 1)] 133)).cell? ⟨bk, 2, none⟩ = some (.slice rao N rcap) := by rw [cell_of_row _ _ _ _ _ _ hboxa, hcs1]
  clear hboxa
  have HOne : Hid (∀ u ∈ [Value.slice ao L cap, .slice none 0 0, .int .i64 ((T : Int) + 1)], u.oneCell' = true) := by
    intro u hu
    simp at hu
    rcases hu with rfl | rfl | rfl <;> rfl
  have HK : Hid (∀ (g cap' : Nat) (w' : World), w'.ownsRow 0 133 3 (.slice (some ⟨g, 0, none⟩) (N + 1) cap') (N + 1) (rowOf hs ++ [Value.slice ao L cap, .slice none 0 0, .int .i64 ((T : Int) + 1)]) → Went (w1.alloc (Obj.cells #[.slice ao L cap, .slice none 0 0, .int .i64 ((T : Int) + 1)] 133)).drew (.slice rao N rcap) g w' →
      w'.cell? ⟨bk, 2, none⟩ = some (.slice rao N rcap) ∧ w'.frozen? ⟨bk, 2, none⟩ = false ∧ Hid ((w'.setCell ⟨bk, 2, none⟩ (.slice (some ⟨g, 0, none⟩) (N + 1) cap')).heap[bk]? = some (.cells ((cs.setIfInBounds 0 (.int .i64 ((T : Int) + 1))).setIfInBounds 2 (.slice (some ⟨g, 0, none⟩) (N + 1) cap')) 45 (0, 0)) ∧ (w'.setCell ⟨bk, 2, none⟩ (.slice (some ⟨g, 0, none⟩) (N + 1) cap')).ownsRow 0 133 3 (.slice (some ⟨g, 0, none⟩) (N + 1) cap') (hs.length + 1) (rowOf (hs ++ [⟨.slice ao L cap, .slice none 0 0, T + 1⟩])) ∧ Fr (bk :: (Value.slice rao N rcap).ownBlock.toList) w (w'.setCell ⟨bk, 2, none⟩ (.slice (some ⟨g, 0, none⟩) (N + 1) cap')) ∧ Moved w.heap.size (.slice rao N rcap) (.slice (some ⟨g, 0, none⟩) (N + 1) cap'))) := by
    intro g cap' w' hO hW
    have hFw := hW.fr
    have hF1w : Fr (Value.slice rao N rcap).ownBlock.toList w1 w' := hFa.trans hFw (by simp) (fun x hx _ => hx)
    have hbox' := hF1w.keep hbox (by simpa using hoth)
    refine ⟨by rw [cell_of_row _ _ _ _ _ _ hbox', hcs1], by simp [World.frozen?, hbox'], ?_, ?_, ?_, ?_⟩
    · rw [row_setCell _ hbox']
    · have hne : (Value.slice (some ⟨g, 0, none⟩) (N + 1) cap').ownBlock ≠ some bk := by
        intro e
        obtain ⟨cs', hc⟩ := own_type hO bk e
        rw [hbox'] at hc
        simp at hc
      have e : HB.cells ⟨.slice ao L cap, .slice none 0 0, T + 1⟩ = [.slice ao L cap, .slice none 0 0, .int .i64 ((T : Int) + 1)] := by simp [HB.cells]
      rw [rowOf_snoc, e, ← HN.out]
      exact ownsRow_setCell_other hO hne _
    · refine (hF1.trans (hF1w.trans (U := bk :: (Value.slice rao N rcap).ownBlock.toList) (Fr.set (S := [bk]) w' ⟨bk, 2, none⟩ _ (by simp)) ?_ ?_) ?_ (fun x hx _ => hx))
      · intro x hx _; exact List.mem_cons_of_mem _ hx
      · intro x hx _; simp at hx; simp [hx]
      · intro x hx _; simp at hx; simp [hx]
    · have hs1 := hF1.size
      have hs2 := hFa.size
      exact (Moved.refl w.heap.size _).trans hW.moved (by omega)
  clear hcs0 hcs1
  go_region_law (refine step_app _ rfl (.tmp 15) (.tmp 22) 34 rfl 133 i0 _ 3 56 Tryz.undHInts hi hz0 hz1 hz2 rfl (by omega) (.slice rao N rcap) N (rowOf hs) (by simp [Act.eval]) HOa.out ⟨w1.heap.size, 0, none⟩ 1 [.slice ao L cap, .slice none 0 0, .int .i64 ((T : Int) + 1)] (by simp [Act.eval]) rfl HNw.out HOne.out (by omega) (by simp only [maxLen]; omega) ?_; intro g cap' w' hO2 hW2; obtain ⟨q1, q2, q3⟩ := HK.out g cap' w' hO2 hW2)
  all_goals (go_wp2_with fail; go_end0; exact ⟨rfl, _, q3.out⟩)
end Go.Proofs.YtaefninikmaiiaaGreatDoor.Bq
/- What the Book does when it is told one more list (Write). Conditions: fewer than 2^21 lists. -/
namespace Go.Proofs.YtaefninikmaiiaaGreatDoor.Bq
open Go.ChangeShapes Go.WideShapes Go.ChangeAt Go.RowKit Go.Lib
set_option linter.unusedVariables false

theorem Tryz.infoHWrite : (Tryz.prog.info? 140).map (fun i => (i.zero, i.size, i.bytes)) = some (some (.agg #[.slice none 0 0, .slice none 0 0, .int .i64 0]), 3, 56) := by kernel_rfl
theorem Tryz.undHWrites : Tryz.prog.underlying 36 = some (.slice 140) := by kernel_rfl

set_option maxHeartbeats 4000000 in
set_option maxRecDepth 100000 in
theorem keepWrite_any (bk : Nat) (cs : Array Value) (rv : Value) (hs : List HB) (T : Nat) (ao : Option Addr) (L cap : Nat) (w : World) (hb0 : w.heap[bk]? = some (.cells cs 45 (0, 0))) (h12 : cs.size = 12) (hc0 : cs[0]? = some (.int .i64 (T : Int))) (hc1 : cs[4]? = some rv) (hr0 : w.ownsRow 0 140 3 rv hs.length (rowOf hs)) (hfew : hs.length < 2097152) (hT : T < 4194304) :
    Calls Tryz.prog 146 #[.pointer (some ⟨bk, 0, none⟩), .slice ao L cap] w fun e w' => e = .returned (.tuple #[]) ∧ ∃ rv', w'.heap[bk]? = some (.cells ((cs.setIfInBounds 0 (.int .i64 ((T : Int) + 1))).setIfInBounds 4 rv') 45 (0, 0)) ∧ w'.ownsRow 0 140 3 rv' (hs.length + 1) (rowOf (hs ++ [⟨.slice ao L cap, .slice none 0 0, T + 1⟩])) ∧ Fr (bk :: rv.ownBlock.toList) w w' ∧ Moved w.heap.size rv rv' := by
  obtain ⟨i0, hi, hz0, hz1, hz2⟩ := info_parts Tryz.infoHWrite
  have c0 : w.cell? ⟨bk, 0, none⟩ = some (.int .i64 (T : Int)) := by rw [cell_of_row _ _ _ _ _ _ hb0, hc0]
  have c1 : w.cell? ⟨bk, 4, none⟩ = some rv := by rw [cell_of_row _ _ _ _ _ _ hb0, hc1]
  have f0 : w.frozen? ⟨bk, 0, none⟩ = false := by simp [World.frozen?, hb0]
  have f1 : w.frozen? ⟨bk, 4, none⟩ = false := by simp [World.frozen?, hb0]
  obtain ⟨N, HN⟩ : ∃ N, Hid (N = hs.length) := ⟨_, rfl⟩
  have hrow := hr0
  rw [← HN.out] at hrow hfew
  have hoth : rv.ownBlock ≠ some bk := by
    intro e
    obtain ⟨cs', hc⟩ := own_type hr0 bk e
    rw [hb0] at hc
    simp at hc
  obtain ⟨rao, rcap, hrv⟩ := own_slice hrow
  subst hrv
  clear hr0
  go_enter Tryz.func146, Tryz.ntmps146
  go_wp2_with fail
  obtain ⟨w1, hw1⟩ : ∃ w1, w1 = w.setCell ⟨bk, 0, none⟩ (.int .i64 ((T : Int) + 1)) := ⟨_, rfl⟩
  rw [← hw1]
  have hF1 : Fr [bk] w w1 := by rw [hw1]; exact Fr.set _ _ _ (by simp)
  have hbox : w1.heap[bk]? = some (.cells (cs.setIfInBounds 0 (.int .i64 ((T : Int) + 1))) 45 (0, 0)) := by rw [hw1, row_setCell _ hb0]
  have hO1 : w1.ownsRow 0 140 3 (.slice rao N rcap) N (rowOf hs) := by rw [hw1]; exact ownsRow_setCell_other hrow hoth _
  have hcs0 : (cs.setIfInBounds 0 (.int .i64 ((T : Int) + 1)))[0]? = some (.int .i64 ((T : Int) + 1)) := by rw [Array.getElem?_setIfInBounds_self]; simp [h12]
  have hcs1 : (cs.setIfInBounds 0 (.int .i64 ((T : Int) + 1)))[4]? = some (.slice rao N rcap) := by rw [Array.getElem?_setIfInBounds_ne (by omega)]; exact hc1
  have d0 : w1.cell? ⟨bk, 0, none⟩ = some (.int .i64 ((T : Int) + 1)) := by rw [cell_of_row _ _ _ _ _ _ hbox, hcs0]
  have d1 : w1.cell? ⟨bk, 4, none⟩ = some (.slice rao N rcap) := by rw [cell_of_row _ _ _ _ _ _ hbox, hcs1]
  have e1 : w1.frozen? ⟨bk, 4, none⟩ = false := by simp [World.frozen?, hbox]
  clear hw1 c0 c1 f0 f1 hrow
  have hFa : Fr [] w1 (w1.alloc (Obj.cells #[.slice ao L cap, .slice none 0 0, .int .i64 ((T : Int) + 1)] 140)).drew := (Fr.alloc [] w1 _).then (Fr.drew [] _)
  have HOa : Hid ((w1.alloc (Obj.cells #[.slice ao L cap, .slice none 0 0, .int .i64 ((T : Int) + 1)] 140)).drew.ownsRow 0 140 3 (.slice rao N rcap) N (rowOf hs)) := owns_keep hO1 hFa (by simp)
  have HNw : Hid (∀ (j : Nat) u, [Value.slice ao L cap, .slice none 0 0, .int .i64 ((T : Int) + 1)][j]? = some u → (w1.alloc (Obj.cells #[.slice ao L cap, .slice none 0 0, .int .i64 ((T : Int) + 1)] 140)).drew.cell? ((⟨w1.heap.size, 0, none⟩ : Addr).add j) = some u) := by
    intro j u hj
    have hn : (w1.alloc (Obj.cells #[.slice ao L cap, .slice none 0 0, .int .i64 ((T : Int) + 1)] 140)).drew.heap[w1.heap.size]? = some (Obj.cells #[.slice ao L cap, .slice none 0 0, .int .i64 ((T : Int) + 1)] 140) := heap_alloc_new w1 _
    rw [show (⟨w1.heap.size, 0, none⟩ : Addr).add j = ⟨w1.heap.size, j, none⟩ from by simp [Addr.add]; omega, cell_of_row _ _ _ _ _ _ hn]
    simpa using hj
  have hboxa := (Fr.alloc [] w1 (Obj.cells #[.slice ao L cap, .slice none 0 0, .int .i64 ((T : Int) + 1)] 140)).keep hbox (by simp)
  have d0a : (w1.alloc (Obj.cells #[.slice ao L cap, .slice none 0 0, .int .i64 ((T : Int) + 1)] 140)).cell? ⟨bk, 0, none⟩ = some (.int .i64 ((T : Int) + 1)) := by rw [cell_of_row _ _ _ _ _ _ hboxa, hcs0]
  have d1a : (w1.alloc (Obj.cells #[.slice ao L cap, .slice none 0 0, .int .i64 ((T : Int) + 1)] 140)).cell? ⟨bk, 4, none⟩ = some (.slice rao N rcap) := by rw [cell_of_row _ _ _ _ _ _ hboxa, hcs1]
  clear hboxa
  have HOne : Hid (∀ u ∈ [Value.slice ao L cap, .slice none 0 0, .int .i64 ((T : Int) + 1)], u.oneCell' = true) := by
    intro u hu
    simp at hu
    rcases hu with rfl | rfl | rfl <;> rfl
  have HK : Hid (∀ (g cap' : Nat) (w' : World), w'.ownsRow 0 140 3 (.slice (some ⟨g, 0, none⟩) (N + 1) cap') (N + 1) (rowOf hs ++ [Value.slice ao L cap, .slice none 0 0, .int .i64 ((T : Int) + 1)]) → Went (w1.alloc (Obj.cells #[.slice ao L cap, .slice none 0 0, .int .i64 ((T : Int) + 1)] 140)).drew (.slice rao N rcap) g w' →
      w'.cell? ⟨bk, 4, none⟩ = some (.slice rao N rcap) ∧ w'.frozen? ⟨bk, 4, none⟩ = false ∧ Hid ((w'.setCell ⟨bk, 4, none⟩ (.slice (some ⟨g, 0, none⟩) (N + 1) cap')).heap[bk]? = some (.cells ((cs.setIfInBounds 0 (.int .i64 ((T : Int) + 1))).setIfInBounds 4 (.slice (some ⟨g, 0, none⟩) (N + 1) cap')) 45 (0, 0)) ∧ (w'.setCell ⟨bk, 4, none⟩ (.slice (some ⟨g, 0, none⟩) (N + 1) cap')).ownsRow 0 140 3 (.slice (some ⟨g, 0, none⟩) (N + 1) cap') (hs.length + 1) (rowOf (hs ++ [⟨.slice ao L cap, .slice none 0 0, T + 1⟩])) ∧ Fr (bk :: (Value.slice rao N rcap).ownBlock.toList) w (w'.setCell ⟨bk, 4, none⟩ (.slice (some ⟨g, 0, none⟩) (N + 1) cap')) ∧ Moved w.heap.size (.slice rao N rcap) (.slice (some ⟨g, 0, none⟩) (N + 1) cap'))) := by
    intro g cap' w' hO hW
    have hFw := hW.fr
    have hF1w : Fr (Value.slice rao N rcap).ownBlock.toList w1 w' := hFa.trans hFw (by simp) (fun x hx _ => hx)
    have hbox' := hF1w.keep hbox (by simpa using hoth)
    refine ⟨by rw [cell_of_row _ _ _ _ _ _ hbox', hcs1], by simp [World.frozen?, hbox'], ?_, ?_, ?_, ?_⟩
    · rw [row_setCell _ hbox']
    · have hne : (Value.slice (some ⟨g, 0, none⟩) (N + 1) cap').ownBlock ≠ some bk := by
        intro e
        obtain ⟨cs', hc⟩ := own_type hO bk e
        rw [hbox'] at hc
        simp at hc
      have e : HB.cells ⟨.slice ao L cap, .slice none 0 0, T + 1⟩ = [.slice ao L cap, .slice none 0 0, .int .i64 ((T : Int) + 1)] := by simp [HB.cells]
      rw [rowOf_snoc, e, ← HN.out]
      exact ownsRow_setCell_other hO hne _
    · refine (hF1.trans (hF1w.trans (U := bk :: (Value.slice rao N rcap).ownBlock.toList) (Fr.set (S := [bk]) w' ⟨bk, 4, none⟩ _ (by simp)) ?_ ?_) ?_ (fun x hx _ => hx))
      · intro x hx _; exact List.mem_cons_of_mem _ hx
      · intro x hx _; simp at hx; simp [hx]
      · intro x hx _; simp at hx; simp [hx]
    · have hs1 := hF1.size
      have hs2 := hFa.size
      exact (Moved.refl w.heap.size _).trans hW.moved (by omega)
  clear hcs0 hcs1
  go_region_law (refine step_app _ rfl (.tmp 15) (.tmp 22) 36 rfl 140 i0 _ 3 56 Tryz.undHWrites hi hz0 hz1 hz2 rfl (by omega) (.slice rao N rcap) N (rowOf hs) (by simp [Act.eval]) HOa.out ⟨w1.heap.size, 0, none⟩ 1 [.slice ao L cap, .slice none 0 0, .int .i64 ((T : Int) + 1)] (by simp [Act.eval]) rfl HNw.out HOne.out (by omega) (by simp only [maxLen]; omega) ?_; intro g cap' w' hO2 hW2; obtain ⟨q1, q2, q3⟩ := HK.out g cap' w' hO2 hW2)
  all_goals (go_wp2_with fail; go_end0; exact ⟨rfl, _, q3.out⟩)
end Go.Proofs.YtaefninikmaiiaaGreatDoor.Bq
/- What the Book does when it is told one more list (Txn). Conditions: fewer than 2^21 lists. -/
namespace Go.Proofs.YtaefninikmaiiaaGreatDoor.Bq
open Go.ChangeShapes Go.WideShapes Go.ChangeAt Go.RowKit Go.Lib
set_option linter.unusedVariables false

theorem Tryz.infoHTxn : (Tryz.prog.info? 128).map (fun i => (i.zero, i.size, i.bytes)) = some (some (.agg #[.slice none 0 0, .slice none 0 0, .int .i64 0]), 3, 56) := by kernel_rfl
theorem Tryz.undHTxns : Tryz.prog.underlying 39 = some (.slice 128) := by kernel_rfl

set_option maxHeartbeats 4000000 in
set_option maxRecDepth 100000 in
theorem keepTxn_any (bk : Nat) (cs : Array Value) (rv : Value) (hs : List HB) (T : Nat) (ao : Option Addr) (L cap : Nat) (w : World) (hb0 : w.heap[bk]? = some (.cells cs 45 (0, 0))) (h12 : cs.size = 12) (hc0 : cs[0]? = some (.int .i64 (T : Int))) (hc1 : cs[7]? = some rv) (hr0 : w.ownsRow 0 128 3 rv hs.length (rowOf hs)) (hfew : hs.length < 2097152) (hT : T < 4194304) :
    Calls Tryz.prog 51 #[.pointer (some ⟨bk, 0, none⟩), .slice ao L cap] w fun e w' => e = .returned (.tuple #[]) ∧ ∃ rv', w'.heap[bk]? = some (.cells ((cs.setIfInBounds 0 (.int .i64 ((T : Int) + 1))).setIfInBounds 7 rv') 45 (0, 0)) ∧ w'.ownsRow 0 128 3 rv' (hs.length + 1) (rowOf (hs ++ [⟨.slice ao L cap, .slice none 0 0, T + 1⟩])) ∧ Fr (bk :: rv.ownBlock.toList) w w' ∧ Moved w.heap.size rv rv' := by
  obtain ⟨i0, hi, hz0, hz1, hz2⟩ := info_parts Tryz.infoHTxn
  have c0 : w.cell? ⟨bk, 0, none⟩ = some (.int .i64 (T : Int)) := by rw [cell_of_row _ _ _ _ _ _ hb0, hc0]
  have c1 : w.cell? ⟨bk, 7, none⟩ = some rv := by rw [cell_of_row _ _ _ _ _ _ hb0, hc1]
  have f0 : w.frozen? ⟨bk, 0, none⟩ = false := by simp [World.frozen?, hb0]
  have f1 : w.frozen? ⟨bk, 7, none⟩ = false := by simp [World.frozen?, hb0]
  obtain ⟨N, HN⟩ : ∃ N, Hid (N = hs.length) := ⟨_, rfl⟩
  have hrow := hr0
  rw [← HN.out] at hrow hfew
  have hoth : rv.ownBlock ≠ some bk := by
    intro e
    obtain ⟨cs', hc⟩ := own_type hr0 bk e
    rw [hb0] at hc
    simp at hc
  obtain ⟨rao, rcap, hrv⟩ := own_slice hrow
  subst hrv
  clear hr0
  go_enter Tryz.func51, Tryz.ntmps51
  go_wp2_with fail
  obtain ⟨w1, hw1⟩ : ∃ w1, w1 = w.setCell ⟨bk, 0, none⟩ (.int .i64 ((T : Int) + 1)) := ⟨_, rfl⟩
  rw [← hw1]
  have hF1 : Fr [bk] w w1 := by rw [hw1]; exact Fr.set _ _ _ (by simp)
  have hbox : w1.heap[bk]? = some (.cells (cs.setIfInBounds 0 (.int .i64 ((T : Int) + 1))) 45 (0, 0)) := by rw [hw1, row_setCell _ hb0]
  have hO1 : w1.ownsRow 0 128 3 (.slice rao N rcap) N (rowOf hs) := by rw [hw1]; exact ownsRow_setCell_other hrow hoth _
  have hcs0 : (cs.setIfInBounds 0 (.int .i64 ((T : Int) + 1)))[0]? = some (.int .i64 ((T : Int) + 1)) := by rw [Array.getElem?_setIfInBounds_self]; simp [h12]
  have hcs1 : (cs.setIfInBounds 0 (.int .i64 ((T : Int) + 1)))[7]? = some (.slice rao N rcap) := by rw [Array.getElem?_setIfInBounds_ne (by omega)]; exact hc1
  have d0 : w1.cell? ⟨bk, 0, none⟩ = some (.int .i64 ((T : Int) + 1)) := by rw [cell_of_row _ _ _ _ _ _ hbox, hcs0]
  have d1 : w1.cell? ⟨bk, 7, none⟩ = some (.slice rao N rcap) := by rw [cell_of_row _ _ _ _ _ _ hbox, hcs1]
  have e1 : w1.frozen? ⟨bk, 7, none⟩ = false := by simp [World.frozen?, hbox]
  clear hw1 c0 c1 f0 f1 hrow
  have hFa : Fr [] w1 (w1.alloc (Obj.cells #[.slice ao L cap, .slice none 0 0, .int .i64 ((T : Int) + 1)] 128)).drew := (Fr.alloc [] w1 _).then (Fr.drew [] _)
  have HOa : Hid ((w1.alloc (Obj.cells #[.slice ao L cap, .slice none 0 0, .int .i64 ((T : Int) + 1)] 128)).drew.ownsRow 0 128 3 (.slice rao N rcap) N (rowOf hs)) := owns_keep hO1 hFa (by simp)
  have HNw : Hid (∀ (j : Nat) u, [Value.slice ao L cap, .slice none 0 0, .int .i64 ((T : Int) + 1)][j]? = some u → (w1.alloc (Obj.cells #[.slice ao L cap, .slice none 0 0, .int .i64 ((T : Int) + 1)] 128)).drew.cell? ((⟨w1.heap.size, 0, none⟩ : Addr).add j) = some u) := by
    intro j u hj
    have hn : (w1.alloc (Obj.cells #[.slice ao L cap, .slice none 0 0, .int .i64 ((T : Int) + 1)] 128)).drew.heap[w1.heap.size]? = some (Obj.cells #[.slice ao L cap, .slice none 0 0, .int .i64 ((T : Int) + 1)] 128) := heap_alloc_new w1 _
    rw [show (⟨w1.heap.size, 0, none⟩ : Addr).add j = ⟨w1.heap.size, j, none⟩ from by simp [Addr.add]; omega, cell_of_row _ _ _ _ _ _ hn]
    simpa using hj
  have hboxa := (Fr.alloc [] w1 (Obj.cells #[.slice ao L cap, .slice none 0 0, .int .i64 ((T : Int) + 1)] 128)).keep hbox (by simp)
  have d0a : (w1.alloc (Obj.cells #[.slice ao L cap, .slice none 0 0, .int .i64 ((T : Int) + 1)] 128)).cell? ⟨bk, 0, none⟩ = some (.int .i64 ((T : Int) + 1)) := by rw [cell_of_row _ _ _ _ _ _ hboxa, hcs0]
  have d1a : (w1.alloc (Obj.cells #[.slice ao L cap, .slice none 0 0, .int .i64 ((T : Int) + 1)] 128)).cell? ⟨bk, 7, none⟩ = some (.slice rao N rcap) := by rw [cell_of_row _ _ _ _ _ _ hboxa, hcs1]
  clear hboxa
  have HOne : Hid (∀ u ∈ [Value.slice ao L cap, .slice none 0 0, .int .i64 ((T : Int) + 1)], u.oneCell' = true) := by
    intro u hu
    simp at hu
    rcases hu with rfl | rfl | rfl <;> rfl
  have HK : Hid (∀ (g cap' : Nat) (w' : World), w'.ownsRow 0 128 3 (.slice (some ⟨g, 0, none⟩) (N + 1) cap') (N + 1) (rowOf hs ++ [Value.slice ao L cap, .slice none 0 0, .int .i64 ((T : Int) + 1)]) → Went (w1.alloc (Obj.cells #[.slice ao L cap, .slice none 0 0, .int .i64 ((T : Int) + 1)] 128)).drew (.slice rao N rcap) g w' →
      w'.cell? ⟨bk, 7, none⟩ = some (.slice rao N rcap) ∧ w'.frozen? ⟨bk, 7, none⟩ = false ∧ Hid ((w'.setCell ⟨bk, 7, none⟩ (.slice (some ⟨g, 0, none⟩) (N + 1) cap')).heap[bk]? = some (.cells ((cs.setIfInBounds 0 (.int .i64 ((T : Int) + 1))).setIfInBounds 7 (.slice (some ⟨g, 0, none⟩) (N + 1) cap')) 45 (0, 0)) ∧ (w'.setCell ⟨bk, 7, none⟩ (.slice (some ⟨g, 0, none⟩) (N + 1) cap')).ownsRow 0 128 3 (.slice (some ⟨g, 0, none⟩) (N + 1) cap') (hs.length + 1) (rowOf (hs ++ [⟨.slice ao L cap, .slice none 0 0, T + 1⟩])) ∧ Fr (bk :: (Value.slice rao N rcap).ownBlock.toList) w (w'.setCell ⟨bk, 7, none⟩ (.slice (some ⟨g, 0, none⟩) (N + 1) cap')) ∧ Moved w.heap.size (.slice rao N rcap) (.slice (some ⟨g, 0, none⟩) (N + 1) cap'))) := by
    intro g cap' w' hO hW
    have hFw := hW.fr
    have hF1w : Fr (Value.slice rao N rcap).ownBlock.toList w1 w' := hFa.trans hFw (by simp) (fun x hx _ => hx)
    have hbox' := hF1w.keep hbox (by simpa using hoth)
    refine ⟨by rw [cell_of_row _ _ _ _ _ _ hbox', hcs1], by simp [World.frozen?, hbox'], ?_, ?_, ?_, ?_⟩
    · rw [row_setCell _ hbox']
    · have hne : (Value.slice (some ⟨g, 0, none⟩) (N + 1) cap').ownBlock ≠ some bk := by
        intro e
        obtain ⟨cs', hc⟩ := own_type hO bk e
        rw [hbox'] at hc
        simp at hc
      have e : HB.cells ⟨.slice ao L cap, .slice none 0 0, T + 1⟩ = [.slice ao L cap, .slice none 0 0, .int .i64 ((T : Int) + 1)] := by simp [HB.cells]
      rw [rowOf_snoc, e, ← HN.out]
      exact ownsRow_setCell_other hO hne _
    · refine (hF1.trans (hF1w.trans (U := bk :: (Value.slice rao N rcap).ownBlock.toList) (Fr.set (S := [bk]) w' ⟨bk, 7, none⟩ _ (by simp)) ?_ ?_) ?_ (fun x hx _ => hx))
      · intro x hx _; exact List.mem_cons_of_mem _ hx
      · intro x hx _; simp at hx; simp [hx]
      · intro x hx _; simp at hx; simp [hx]
    · have hs1 := hF1.size
      have hs2 := hFa.size
      exact (Moved.refl w.heap.size _).trans hW.moved (by omega)
  clear hcs0 hcs1
  go_region_law (refine step_app _ rfl (.tmp 15) (.tmp 22) 39 rfl 128 i0 _ 3 56 Tryz.undHTxns hi hz0 hz1 hz2 rfl (by omega) (.slice rao N rcap) N (rowOf hs) (by simp [Act.eval]) HOa.out ⟨w1.heap.size, 0, none⟩ 1 [.slice ao L cap, .slice none 0 0, .int .i64 ((T : Int) + 1)] (by simp [Act.eval]) rfl HNw.out HOne.out (by omega) (by simp only [maxLen]; omega) ?_; intro g cap' w' hO2 hW2; obtain ⟨q1, q2, q3⟩ := HK.out g cap' w' hO2 hW2)
  all_goals (go_wp2_with fail; go_end0; exact ⟨rfl, _, q3.out⟩)
end Go.Proofs.YtaefninikmaiiaaGreatDoor.Bq

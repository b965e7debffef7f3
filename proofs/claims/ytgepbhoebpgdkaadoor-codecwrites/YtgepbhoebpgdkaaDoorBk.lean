/- A Book of lists of bytes (the statements' own check that lists share no memory): how it lies in memory; an append to a row of one's own, told sharply. Conditions as each lemma names them. -/
import Derived.Test.YtgepbhoebpgdkaaDoorScript
import Derived.Deep.RegionLaw
import Derived.Deep.RegionWith
import Derived.Deep.RegionHeld3
import Derived.Deep.CutRange
namespace Go.Proofs.YtgepbhoebpgdkaaDoor
open Go.ChangeShapes Go.WideShapes Go.ChangeAt Go.RowKit Go.Lib

/-- Where a row of one's own lies behind an append: where it lay (its block alone may differ), or in a new block (no old one differs). -/
def Went (w : World) (v : Value) (g : Nat) (w' : World) : Prop := (v.ownBlock = some g ∧ w.grownBy w' (some g)) ∨ (w.heap.size ≤ g ∧ w.grownBy w' none)
theorem Went.fr {w w' : World} {v : Value} {g : Nat} (h : Went w v g w') : Fr v.ownBlock.toList w w' := by
  rcases h with ⟨h1, h2⟩ | ⟨_, h2⟩
  · refine Fr.grown h2 ?_
    intro k hk _
    cases hk
    simp [h1]
  · exact Fr.grown h2 (by simp)
theorem Went.moved {w w' : World} {v : Value} {g n cap : Nat} (h : Went w v g w') : Moved w.heap.size v (.slice (some ⟨g, 0, none⟩) n cap) := by
  rcases h with ⟨h1, _⟩ | ⟨h1, _⟩
  · exact Or.inl (by rw [h1]; rfl)
  · exact Or.inr ⟨g, rfl, h1⟩

section
variable {P : Program} (w : World)
theorem run_app_sharp (t ty e : TypeId) (i : TypeInfo) (z : Value) (size bytes : Nat) (ht : P.underlying t = some (.slice e)) (hi : P.info? e = some i) (hz : i.zero = some z)
    (hsize : i.size = size) (hby : i.bytes = bytes) (hzs : z.cells.size = size) (hsz : 0 < size)
    (v : Value) (n : Nat) (xs : List Value) (hown : w.ownsRow 0 e size v n xs)
    (a : Addr) (m c : Nat) (news : List Value) (hm : 0 < m) (hl : news.length = m * size) (hnews : ∀ j u, news[j]? = some u → w.cell? (a.add j) = some u) (h1 : ∀ u ∈ news, u.oneCell' = true)
    (h63 : n + m ≤ maxLen) (hbytes : (n + m) * bytes ≤ 140737488355328) :
    ∃ g cap w', (Builtin.append_ #[t, t] ty #[v, .slice (some a) m c]).run P w = .ok (.slice (some ⟨g, 0, none⟩) (n + m) cap) w' ∧ w'.ownsRow 0 e size (.slice (some ⟨g, 0, none⟩) (n + m) cap) (n + m) (xs ++ news) ∧ Went w v g w' := by
  obtain ⟨v', w', hr, h2, h3, h4⟩ := run_append_own (P := P) w 0 t ty e i z size bytes ht hi hz hsize hby hzs hsz v n xs hown a m c news hl hnews h1 h63 hbytes (Nat.zero_le _)
  obtain ⟨g, cap, rfl⟩ : ∃ g cap, v' = .slice (some ⟨g, 0, none⟩) (n + m) cap := by
    rcases h2.2 with ⟨_, hh⟩ | ⟨g, cap', _, hh, _⟩
    · omega
    · exact ⟨g, cap', hh⟩
  refine ⟨g, cap, w', hr, h2, ?_⟩
  subst hsize
  subst hby
  have hsmall : n + m ≤ 9223372036854775807 := by simp only [maxLen] at h63; omega
  rcases hown.2 with ⟨rfl, rfl⟩ | ⟨g0, cap0, cur, rfl, hbg, hg, hnc, hcm, hcs, htake⟩
  · have hr2 := run_append_nil (P := P) w t ty e i z ht hi hz a m c news hl hnews (by omega) (by omega) (by have hb := hbytes; simp only [Nat.zero_add] at hb; omega)
    rw [hr] at hr2
    injection hr2 with e1 e2
    simp only [Value.slice.injEq, Option.some.injEq, Addr.mk.injEq] at e1
    obtain ⟨⟨rfl, _⟩, _⟩ := e1
    subst e2
    exact Or.inr ⟨Nat.le_refl _, ⟨rfl, rfl, rfl, by simp, fun k hk _ => Below.heap_alloc w.drew _ _ hk⟩⟩
  · by_cases hroom : n + m ≤ cap0
    · have hfit : n * i.size + news.length ≤ cur.size := by rw [hl, hcs, ← Nat.add_mul]; exact Nat.mul_le_mul_right _ hroom
      have hr2 := run_append_room (P := P) w t ty e i ht hi g0 n cap0 cur hg a m c news hl hnews h1 hroom hfit
      rw [hr] at hr2
      cases hr2
      exact Or.inl ⟨rfl, h3⟩
    · have holds : ∀ j u, xs[j]? = some u → w.cell? ((⟨g0, 0, none⟩ : Addr).add j) = some u := hown.cells (g := g0) rfl
      have hr2 := run_append_grow (P := P) w t ty e i z ht hi hz ⟨g0, 0, none⟩ n cap0 xs hown.1 holds a m c news hl hnews (by omega) (by omega) (growslice_fits (by omega) hbytes)
      rw [hr] at hr2
      cases hr2
      exact Or.inr ⟨Nat.le_refl _, ⟨rfl, rfl, rfl, by simp, fun k hk _ => Below.heap_alloc w.drew _ _ hk⟩⟩

/-- One more element behind a row of one's own. -/
theorem wpList_app {ops : Array Oper} {rest : List Oper} {o : Oper} {a : Act} {Q : Exit → Act → World → Prop} (hgd : o.guard = none) (s x : Operand) (t : TypeId)
    (ho : o.op = .call { callee := .builtin .append, args := #[s, x], argTypes := #[t, t] })
    (e : TypeId) (i : TypeInfo) (z : Value) (size bytes : Nat) (ht : P.underlying t = some (.slice e)) (hi : P.info? e = some i) (hz : i.zero = some z)
    (hsize : i.size = size) (hby : i.bytes = bytes) (hzs : z.cells.size = size) (hsz : 0 < size)
    (v : Value) (n : Nat) (xs : List Value) (hs : a.eval s = v) (hown : w.ownsRow 0 e size v n xs)
    (ad : Addr) (c : Nat) (news : List Value) (hx : a.eval x = .slice (some ad) 1 c) (hl : news.length = size) (hnews : ∀ j u, news[j]? = some u → w.cell? (ad.add j) = some u) (h1 : ∀ u ∈ news, u.oneCell' = true)
    (hbytes : (n + 1) * bytes ≤ 140737488355328) (h63 : n + 1 ≤ maxLen)
    (h : ∀ g cap w', w'.ownsRow 0 e size (.slice (some ⟨g, 0, none⟩) (n + 1) cap) (n + 1) (xs ++ news) → Went w v g w' → wpList P ops Q rest (a.put o.dst (.slice (some ⟨g, 0, none⟩) (n + 1) cap)) w') : wpList P ops Q (o :: rest) a w := by
  refine wpList_plain hgd fun K hK => ?_
  obtain ⟨g, cap, w', hr, h2, h3⟩ := run_app_sharp (P := P) w t o.type e i z size bytes ht hi hz hsize hby hzs hsz v n xs hown ad 1 c news (by omega) (by omega) hnews h1 h63 hbytes
  unfold Oper.wp execOp
  simp only [ho, resolve, invoke, builtin, Sem.run_bind, Sem.run_pure, Result.andThen_ok, List.map_toArray, List.map_cons, List.map_nil, hs, hx, hr]
  exact hK _ _ (h g cap w' h2 h3)

/-- The same as one step of a region that draws its order. -/
theorem step_app {ops : Array Oper} {o : Oper} {a : Act} {K : Act → World → Prop} {Q : Exit → Act → World → Prop} {E : Prop} (hg : o.guard = none) (s x : Operand) (t : TypeId)
    (ho : o.op = .call { callee := .builtin .append, args := #[s, x], argTypes := #[t, t] })
    (e : TypeId) (i : TypeInfo) (z : Value) (size bytes : Nat) (ht : P.underlying t = some (.slice e)) (hi : P.info? e = some i) (hz : i.zero = some z)
    (hsize : i.size = size) (hby : i.bytes = bytes) (hzs : z.cells.size = size) (hsz : 0 < size)
    (v : Value) (n : Nat) (xs : List Value) (hs : a.eval s = v) (hown : w.ownsRow 0 e size v n xs)
    (ad : Addr) (c : Nat) (news : List Value) (hx : a.eval x = .slice (some ad) 1 c) (hl : news.length = size) (hnews : ∀ j u, news[j]? = some u → w.cell? (ad.add j) = some u) (h1 : ∀ u ∈ news, u.oneCell' = true)
    (hbytes : (n + 1) * bytes ≤ 140737488355328) (h63 : n + 1 ≤ maxLen)
    (h : ∀ g cap w', w'.ownsRow 0 e size (.slice (some ⟨g, 0, none⟩) (n + 1) cap) (n + 1) (xs ++ news) → Went w v g w' → K (a.put o.dst (.slice (some ⟨g, 0, none⟩) (n + 1) cap)) w') :
    if Region.wanted o (yielded ops a.tmps) = true then Oper.wp P o a w K Q else E := by
  have hw : Region.wanted o (yielded ops a.tmps) = true := by simp [Region.wanted, hg]
  rw [if_pos hw]
  obtain ⟨g, cap, w', hr, h2, h3⟩ := run_app_sharp (P := P) w t o.type e i z size bytes ht hi hz hsize hby hzs hsz v n xs hown ad 1 c news (by omega) (by omega) hnews h1 h63 hbytes
  unfold Oper.wp execOp
  simp only [ho, resolve, invoke, builtin, Sem.run_bind, Sem.run_pure, Result.andThen_ok, List.map_toArray, List.map_cons, List.map_nil, hs, hx, hr]
  exact h g cap w' h2 h3
end

/-- A row's cell is put. -/
theorem row_setCell {w : World} {b j : Nat} {cs : Array Value} {t : TypeId} (x : Value) (h : w.heap[b]? = some (.cells cs t (0, 0))) : (w.setCell ⟨b, j, none⟩ x).heap[b]? = some (.cells (cs.setIfInBounds j x) t (0, 0)) := by
  have hlt := lt_of_block h
  have h' : w.heap[b] = .cells cs t (0, 0) := by simpa [Array.getElem?_eq_getElem hlt] using h
  show (w.heap.modify b _)[b]? = _
  rw [Array.getElem?_eq_getElem (by simpa using hlt), Array.getElem_modify_self, h']
  rfl
theorem own_put {w : World} {e : TypeId} {g n cap size : Nat} {vs : List Value} (h : w.ownsRow 0 e size (.slice (some ⟨g, 0, none⟩) n cap) n vs) (j : Nat) (x : Value) :
    (w.setCell ⟨g, j, none⟩ x).ownsRow 0 e size (.slice (some ⟨g, 0, none⟩) n cap) n (vs.set j x) := by
  have hl := h.1
  rcases h.2 with ⟨hh, _⟩ | ⟨g', cap', cur, hh, hb, hg, hnc, hcm, hcs, ht⟩
  · cases hh
  · cases hh
    refine ⟨by rw [List.length_set]; exact hl, .inr ⟨g, cap, cur.setIfInBounds j x, rfl, hb, row_setCell x hg, hnc, hcm, by simpa using hcs, ?_⟩⟩
    rw [Array.toList_setIfInBounds, List.take_set, ht]
theorem own_free {w : World} {e : TypeId} {g n cap size : Nat} {vs : List Value} (h : w.ownsRow 0 e size (.slice (some ⟨g, 0, none⟩) n cap) n vs) (j : Nat) : w.frozen? ⟨g, j, none⟩ = false := by
  rcases h.2 with ⟨hh, _⟩ | ⟨g', cap', cur, hh, hb, hg, _⟩
  · cases hh
  · cases hh
    simp [World.frozen?, hg]
theorem own_type {w : World} {e : TypeId} {size : Nat} {v : Value} {n : Nat} {vs : List Value} (h : w.ownsRow 0 e size v n vs) : ∀ k, v.ownBlock = some k → ∃ cs, w.heap[k]? = some (.cells cs e (0, 0)) := by
  intro k hk
  rcases h.2 with ⟨rfl, _⟩ | ⟨g', cap', cur, rfl, hb, hg, _⟩
  · simp [Value.ownBlock] at hk
  · simp [Value.ownBlock] at hk
    subst hk
    exact ⟨cur, hg⟩
theorem own_form {w : World} {e : TypeId} {size : Nat} {v : Value} {n : Nat} {vs : List Value} (h : w.ownsRow 0 e size v n vs) (h0 : 0 < n) : ∃ g cap, v = .slice (some ⟨g, 0, none⟩) n cap ∧ n ≤ cap := by
  rcases h.2 with ⟨_, hh⟩ | ⟨g', cap', cur, rfl, hb, hg, hn, _⟩
  · omega
  · exact ⟨g', cap', rfl, hn⟩
theorem own_slice {w : World} {e : TypeId} {size : Nat} {v : Value} {n : Nat} {vs : List Value} (h : w.ownsRow 0 e size v n vs) : ∃ ao cap, v = .slice ao n cap := by
  rcases h.2 with ⟨rfl, rfl⟩ | ⟨g', cap', cur, rfl, _⟩
  · exact ⟨none, 0, rfl⟩
  · exact ⟨_, _, rfl⟩

/-- A list that the Book holds, what it is when more was put behind it, its number. -/
structure HB where
  l : Value
  long : Value
  n : Nat
def HB.cells (h : HB) : List Value := [h.l, h.long, .int .i64 (h.n : Int)]
def rowOf (hs : List HB) : List Value := hs.flatMap HB.cells
theorem rowOf_length (hs : List HB) : (rowOf hs).length = hs.length * 3 := by
  induction hs with
  | nil => rfl
  | cons h r ih => simp only [rowOf, List.flatMap_cons, List.length_append, HB.cells, List.length_cons, List.length_nil] at ih ⊢; omega
theorem rowOf_snoc (hs : List HB) (h : HB) : rowOf (hs ++ [h]) = rowOf hs ++ h.cells := by simp [rowOf]
theorem rowOf_get (hs : List HB) (i : Nat) (h : HB) (hi : hs[i]? = some h) (j : Nat) (hj : j < 3) : (rowOf hs)[i * 3 + j]? = h.cells[j]? := by
  induction hs generalizing i with
  | nil => simp at hi
  | cons a r ih =>
    have e : rowOf (a :: r) = a.cells ++ rowOf r := by simp [rowOf]
    have hl : a.cells.length = 3 := rfl
    cases i with
    | zero =>
      simp at hi
      subst hi
      rw [e, List.getElem?_append_left (by omega)]
      simp
    | succ i =>
      rw [e, List.getElem?_append_right (by omega), hl, show (i + 1) * 3 + j - 3 = i * 3 + j from by omega]
      exact ih i (by simpa using hi)
theorem rowOf_set (hs : List HB) (i : Nat) (h : HB) (hi : hs[i]? = some h) (x : Value) : rowOf (hs.set i { h with long := x }) = (rowOf hs).set (i * 3 + 1) x := by
  induction hs generalizing i with
  | nil => simp at hi
  | cons a r ih =>
    have e : ∀ b : HB, rowOf (b :: r) = b.cells ++ rowOf r := fun b => by simp [rowOf]
    have hl : a.cells.length = 3 := rfl
    cases i with
    | zero =>
      simp at hi
      subst hi
      rw [List.set_cons_zero, e, e, List.set_append_left _ _ (by omega)]
      rfl
    | succ i =>
      rw [List.set_cons_succ, show rowOf (a :: r.set i { h with long := x }) = a.cells ++ rowOf (r.set i { h with long := x }) from by simp [rowOf], ih i (by simpa using hi), e, List.set_append_right _ _ (by omega), hl, show (i + 1) * 3 + 1 - 3 = i * 3 + 1 from by omega]

/-- The Book itself: its struct in block bk, its row of held lists at rv. -/
structure Bk (w : World) (bk : Nat) (rv : Value) (hs : List HB) : Prop where
  box : w.heap[bk]? = some (.cells #[.int .i64 ((hs.length : Nat) : Int), rv, .slice none 0 0, .slice none 0 0, .slice none 0 0, .slice none 0 0, .slice none 0 0, .slice none 0 0, .slice none 0 0, .slice none 0 0, .slice none 0 0, .slice none 0 0] 41 (0, 0))
  row : w.ownsRow 0 65 3 rv hs.length (rowOf hs)
  few : hs.length < 1048576
theorem Bk.keep {S : List Nat} {w w' : World} {bk : Nat} {rv : Value} {hs : List HB} (h : Bk w bk rv hs) (hf : Fr S w w') (hb : bk ∉ S) (hr : ∀ k, rv.ownBlock = some k → k ∉ S) : Bk w' bk rv hs :=
  ⟨hf.keep h.box hb, owns_keep h.row hf hr, h.few⟩
theorem Bk.other {w : World} {bk : Nat} {rv : Value} {hs : List HB} (h : Bk w bk rv hs) : rv.ownBlock ≠ some bk := by
  intro e
  obtain ⟨cs, hc⟩ := own_type h.row bk e
  rw [h.box] at hc
  simp at hc
theorem Bk.cell {w : World} {bk : Nat} {rv : Value} {hs : List HB} (h : Bk w bk rv hs) (j : Nat) (hj : 2 ≤ j) (hj2 : j < 12) : w.cell? ⟨bk, j, none⟩ = some (.slice none 0 0) := by
  rw [cell_of_row _ _ _ _ _ _ h.box]
  match j, hj, hj2 with
  | 2, _, _ => rfl
  | 3, _, _ => rfl
  | 4, _, _ => rfl
  | 5, _, _ => rfl
  | 6, _, _ => rfl
  | 7, _, _ => rfl
  | 8, _, _ => rfl
  | 9, _, _ => rfl
  | 10, _, _ => rfl
  | 11, _, _ => rfl
theorem Bk.c0 {w : World} {bk : Nat} {rv : Value} {hs : List HB} (h : Bk w bk rv hs) : w.cell? ⟨bk, 0, none⟩ = some (.int .i64 ((hs.length : Nat) : Int)) := by rw [cell_of_row _ _ _ _ _ _ h.box]; rfl
theorem Bk.c1 {w : World} {bk : Nat} {rv : Value} {hs : List HB} (h : Bk w bk rv hs) : w.cell? ⟨bk, 1, none⟩ = some rv := by rw [cell_of_row _ _ _ _ _ _ h.box]; rfl
theorem Bk.free {w : World} {bk : Nat} {rv : Value} {hs : List HB} (h : Bk w bk rv hs) (j : Nat) : w.frozen? ⟨bk, j, none⟩ = false := by simp [World.frozen?, h.box]
/-- An entry of the row, cell by cell. -/
theorem Bk.at {w : World} {bk : Nat} {rv : Value} {hs : List HB} (h : Bk w bk rv hs) (i : Nat) (e : HB) (hi : hs[i]? = some e) :
    ∃ rb cap, rv = .slice (some ⟨rb, 0, none⟩) hs.length cap ∧ hs.length ≤ cap ∧ w.cell? ⟨rb, i * 3, none⟩ = some e.l ∧ w.cell? ⟨rb, i * 3 + 1, none⟩ = some e.long ∧ w.cell? ⟨rb, i * 3 + 2, none⟩ = some (.int .i64 (e.n : Int)) := by
  have hlt : i < hs.length := (List.getElem?_eq_some_iff.1 hi).1
  obtain ⟨rb, cap, rfl, hc⟩ := own_form h.row (by omega)
  have hr := h.row
  have hat : ∀ j, j < 3 → w.cell? ⟨rb, i * 3 + j, none⟩ = e.cells[j]? := fun j hj => by rw [hr.cellAt (i * 3 + j) (by omega), rowOf_get hs i e hi j hj]
  exact ⟨rb, cap, rfl, hc, hat 0 (by omega), hat 1 (by omega), hat 2 (by omega)⟩

/-- The mark of a list's bytes. -/
def mkV (n : Nat) : Value := .int .u8 ((1 + n % 255 : Nat) : Int)
theorem mk_one (n : Nat) : (mkV n).oneCell' = true := rfl
/-- A held list as it was handed in; with its marks; and with more behind it. -/
def P0 (w : World) (h : HB) : Prop := ∃ n vs, w.ownsRow 0 5 1 h.l n vs ∧ n < 2^40
def P1 (w : World) (h : HB) : Prop := ∃ n, w.ownsRow 0 5 1 h.l n (List.replicate n (mkV h.n)) ∧ n < 2^40
/-- A slice reads as n times a value. -/
structure Rds (w : World) (v : Value) (n : Nat) (x : Value) : Prop where
  shape : ∃ ao cap, v = .slice ao n cap ∧ n ≤ cap ∧ (0 < n → ∃ b, ao = some ⟨b, 0, none⟩ ∧ ∀ j, j < n → w.cell? ⟨b, j, none⟩ = some x)
  type : ∀ k, v.ownBlock = some k → ∃ cs, w.heap[k]? = some (.cells cs 5 (0, 0))
theorem Rds.of_own {w : World} {v : Value} {n m : Nat} {x : Value} {cap : Nat} {ao : Option Addr} (h : w.ownsRow 0 5 1 v n (List.replicate n x)) (hm : m ≤ n) (he : (Value.slice ao m cap).ownBlock = v.ownBlock) (hc : m ≤ cap) (ho : ∀ a, ao = some a → a.off = 0 ∧ a.spot = none) : Rds w (.slice ao m cap) m x := by
  refine ⟨⟨ao, cap, rfl, hc, fun h0 => ?_⟩, fun k hk => own_type h k (by rw [← he]; exact hk)⟩
  obtain ⟨g, c, rfl, _⟩ := own_form h (by omega)
  cases ao with
  | none => simp [Value.ownBlock] at he
  | some a =>
    obtain ⟨b, off, spot⟩ := a
    obtain ⟨rfl, rfl⟩ : off = 0 ∧ spot = none := ho _ rfl
    simp [Value.ownBlock] at he
    subst he
    refine ⟨b, rfl, fun j hj => ?_⟩
    rw [h.cellAt j (by omega)]
    simp [show j < n by omega]
theorem Rds.keep {S : List Nat} {w w' : World} {v : Value} {n : Nat} {x : Value} (h : Rds w v n x) (hf : Fr S w w') (hn : ∀ k, v.ownBlock = some k → k ∉ S) : Rds w' v n x := by
  obtain ⟨ao, cap, rfl, hc, hr⟩ := h.shape
  refine ⟨⟨ao, cap, rfl, hc, fun h0 => ?_⟩, fun k hk => ?_⟩
  · obtain ⟨b, rfl, hb⟩ := hr h0
    refine ⟨b, rfl, fun j hj => ?_⟩
    obtain ⟨cs, hcs⟩ := h.type b rfl
    exact (World.cell?_of_block (hf.block b (lt_of_block hcs) (hn b rfl))).trans (hb j hj)
  · obtain ⟨cs, hcs⟩ := h.type k hk
    exact ⟨cs, hf.keep hcs (hn k hk)⟩
def P2 (w : World) (h : HB) : Prop := ∃ n, Rds w h.l n (mkV h.n) ∧ w.ownsRow 0 5 1 h.long (n + 70) (List.replicate (n + 70) (mkV h.n)) ∧ n < 2^40
theorem P0.keep {S : List Nat} {w w' : World} {h : HB} (p : P0 w h) (hf : Fr S w w') (hn : ∀ k, h.l.ownBlock = some k → k ∉ S) : P0 w' h := by
  obtain ⟨n, vs, h1, h2⟩ := p
  exact ⟨n, vs, owns_keep h1 hf hn, h2⟩
theorem P1.keep {S : List Nat} {w w' : World} {h : HB} (p : P1 w h) (hf : Fr S w w') (hn : ∀ k, h.l.ownBlock = some k → k ∉ S) : P1 w' h := by
  obtain ⟨n, h1, h2⟩ := p
  exact ⟨n, owns_keep h1 hf hn, h2⟩
theorem P2.keep {S : List Nat} {w w' : World} {h : HB} (p : P2 w h) (hf : Fr S w w') (hn : ∀ k, h.l.ownBlock = some k → k ∉ S) (hn2 : ∀ k, h.long.ownBlock = some k → k ∉ S) : P2 w' h := by
  obtain ⟨n, h1, h2, h3⟩ := p
  exact ⟨n, h1.keep hf hn, owns_keep h2 hf hn2, h3⟩
theorem P0.type {w : World} {h : HB} (p : P0 w h) : ∀ k, h.l.ownBlock = some k → ∃ cs, w.heap[k]? = some (.cells cs 5 (0, 0)) := by
  obtain ⟨n, vs, h1, h2⟩ := p
  exact own_type h1
theorem P1.type {w : World} {h : HB} (p : P1 w h) : ∀ k, h.l.ownBlock = some k → ∃ cs, w.heap[k]? = some (.cells cs 5 (0, 0)) := by
  obtain ⟨n, h1, h2⟩ := p
  exact own_type h1
/-- Blocks of bytes are none of the Book's own. -/
theorem Bk.apart {w : World} {bk : Nat} {rv : Value} {hs : List HB} (h : Bk w bk rv hs) {k : Nat} {cs : Array Value} (hk : w.heap[k]? = some (.cells cs 5 (0, 0))) : k ≠ bk ∧ rv.ownBlock ≠ some k := by
  refine ⟨fun e => ?_, fun e => ?_⟩
  · subst e; rw [h.box] at hk; simp at hk
  · obtain ⟨cs', hc⟩ := own_type h.row k e
    rw [hk] at hc
    simp at hc

/-- The blocks of the lists as they were handed in. -/
def lbs (hs : List HB) : List Nat := hs.flatMap fun h => h.l.ownBlock.toList
theorem mem_lbs {hs : List HB} {k : Nat} : k ∈ lbs hs ↔ ∃ h ∈ hs, h.l.ownBlock = some k := by simp [lbs]
/-- No two of them share one. -/
def Alone (hs : List HB) : Prop := ∀ (i j : Nat) (a b : HB), hs[i]? = some a → hs[j]? = some b → i ≠ j → ∀ k, a.l.ownBlock = some k → b.l.ownBlock ≠ some k
end Go.Proofs.YtgepbhoebpgdkaaDoor

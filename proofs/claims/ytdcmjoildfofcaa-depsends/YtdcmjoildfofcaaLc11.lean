/- Chains against who waits for whom; rows of bools of one's own. Plain lemmas, and conditions as each names them. -/
import Derived.Test.YtdcmjoildfofcaaLm11
import Derived.Test.YtdcmjoildfofcaaChd7
namespace Go.Proofs.Ytdcmjoildfofcaa
open Go.ChangeShapes Go.WideShapes Go.ChangeAt Go.RowKit Go.Lib Go.Maps
set_option linter.unusedVariables false
set_option linter.unusedSimpArgs false

theorem wrt_LT (ts : List Tm) (hN : Num ts ts.length) (n : Nat) (h1 : 1 ≤ n) (hn : n ≤ ts.length) (s : ByteArray) : Wrt (txs ts) n s ↔ ∃ p ∈ LT ts ts.length, p.1 = (n : Int) ∧ s ∈ p.2 := by
  unfold Wrt
  rw [txs_getD]
  have hnum := hN (n - 1) (by omega)
  constructor
  · rintro ⟨x, hx, rfl⟩
    refine ⟨_, (LT_mem ts _ (Nat.le_refl _) _).2 ⟨n - 1, by omega, rfl⟩, by rw [hnum]; omega, List.mem_map.2 ⟨x, hx, rfl⟩⟩
  · rintro ⟨p, hp, e, hs⟩
    obtain ⟨j, hj, rfl⟩ := (LT_mem ts _ (Nat.le_refl _) p).1 hp
    have := hN j hj
    obtain rfl : j = n - 1 := by simp only at e; omega
    obtain ⟨x, hx, rfl⟩ := List.mem_map.1 hs
    exact ⟨x, hx, rfl⟩
theorem nbr_nr (ts : List Tm) (hN : Num ts ts.length) (m n : Nat) (h1 : 1 ≤ m) (hm : m ≤ ts.length) (h2 : 1 ≤ n) (hn : n ≤ ts.length) : Nbr (txs ts) m n ↔ Nr (LT ts ts.length) (m : Int) (n : Int) := by
  unfold Nbr Nr
  constructor
  · rintro ⟨s, ha, hb⟩
    obtain ⟨p, hp, e1, k1⟩ := (wrt_LT ts hN m h1 hm s).1 ha
    obtain ⟨q, hq, e2, k2⟩ := (wrt_LT ts hN n h2 hn s).1 hb
    exact ⟨p, hp, q, hq, e1, e2, s, k1, k2⟩
  · rintro ⟨p, hp, q, hq, e1, e2, s, k1, k2⟩
    exact ⟨s, (wrt_LT ts hN m h1 hm s).2 ⟨p, hp, e1, k1⟩, (wrt_LT ts hN n h2 hn s).2 ⟨q, hq, e2, k2⟩⟩
/-- Where those that have ended are ended with all ahead of them that they are near to: a chain ends at none that has ended while it begins at an open one. -/
theorem rch_en (ts : List Tm) (hN : Num ts ts.length) {en : Int → Prop} (ho : ∀ m, en m → ∀ i, i < m → Nr (LT ts ts.length) i m → en i) {i n : Nat} (hi : 1 ≤ i) (hn : n ≤ ts.length) (h : Rch (txs ts) i n) (he : en (n : Int)) : en (i : Int) := by
  induction h with
  | base => exact he
  | step h1 h2 h3 ih =>
    rename_i m n
    have hm := h1.ge
    exact ih (by omega) (ho n he m (by omega) ((nbr_nr ts hN m n (by omega) (by omega) (by omega) hn).1 h3))
/-- An open one waits just if an open one ahead of it is chained to it. -/
theorem chain_iff (ts : List Tm) (hN : Num ts ts.length) {en : Int → Prop} (hr : RisL (LT ts ts.length)) (ho : ∀ m, en m → ∀ i, i < m → Nr (LT ts ts.length) i m → en i) {n : Nat} (h1 : 1 ≤ n) (hn : n ≤ ts.length) (hno : ¬ en (n : Int)) :
    (∃ i : Nat, 1 ≤ i ∧ i < n ∧ ¬ en (i : Int) ∧ Rch (txs ts) i n) ↔ ∃ m, Op11 (LT ts ts.length) en m ∧ Dep (LT ts ts.length) (n : Int) m := by
  constructor
  · rintro ⟨i, hi, hin, hie, hR⟩
    cases hR with
    | base => omega
    | step h2 h3 h4 =>
      rename_i m
      have hmi := h2.ge
      have hNr := (nbr_nr ts hN m n (by omega) (by omega) h1 hn).1 h4
      have hme : ¬ en (m : Int) := fun he => hie (rch_en ts hN ho hi (by omega) h2 he)
      obtain ⟨d, hd1, hd2, hd3⟩ := nr_dep hr hNr (by omega)
      refine ⟨d, ⟨?_, fun hde => ?_⟩, hd2⟩
      · obtain ⟨_, _, p, hp, _, _, e, _⟩ := hd2.lt hr
        exact ⟨p, hp, e⟩
      · rcases hd3 with rfl | ⟨h5, h6⟩
        · exact hme hde
        · exact hme (ho d hde m h5 h6)
  · rintro ⟨m, hm, hd⟩
    obtain ⟨h2, h3, h4⟩ := hd.lt hr
    obtain ⟨q, rfl⟩ : ∃ q : Nat, m = (q : Int) := ⟨m.toNat, by omega⟩
    refine ⟨q, by omega, by omega, hm.2, Rch.step Rch.base (by omega) ((nbr_nr ts hN q n (by omega) (by omega) h1 hn).2 h4)⟩
/-- Whom a row of bools says to have ended. -/
def enR (rs : List Bool) (x : Int) : Prop := ∃ j : Nat, x = (j : Int) ∧ rs.getD j false = true
theorem enR_nat (rs : List Bool) (j : Nat) : enR rs (j : Int) ↔ rs.getD j false = true := by
  constructor
  · rintro ⟨k, e, h⟩
    obtain rfl : j = k := by omega
    exact h
  · intro h
    exact ⟨j, rfl, h⟩
theorem set_getD (rs : List Bool) (j k : Nat) (hj : j < rs.length) : (rs.set j true).getD k false = true ↔ rs.getD k false = true ∨ k = j := by
  by_cases e : k = j
  · subst e
    rw [List.getD_eq_getElem?_getD, List.getElem?_set_self hj]
    simp
  · rw [List.getD_eq_getElem?_getD, List.getElem?_set_ne (Ne.symm e), ← List.getD_eq_getElem?_getD]
    simp [e]
theorem enR_set (rs : List Bool) (j : Nat) (hj : j < rs.length) : enR (rs.set j true) = fun x => enR rs x ∨ x = (j : Int) := by
  funext x
  apply propext
  constructor
  · rintro ⟨k, rfl, h⟩
    rcases (set_getD rs j k hj).1 h with h1 | rfl
    · exact Or.inl ⟨k, rfl, h1⟩
    · exact Or.inr rfl
  · rintro (⟨k, rfl, h⟩ | rfl)
    · exact ⟨k, rfl, (set_getD rs j k hj).2 (Or.inl h)⟩
    · exact ⟨j, rfl, (set_getD rs j j hj).2 (Or.inr rfl)⟩
/-- How many have ended. -/
def cnt (rs : List Bool) : Nat := rs.countP (· == true)
theorem cnt_set : ∀ (rs : List Bool) (j : Nat), j < rs.length → rs.getD j false = false → cnt (rs.set j true) = cnt rs + 1
  | [], j, h, _ => by simp at h
  | b :: r, 0, _, h => by
    simp only [List.getD_cons_zero] at h
    subst h
    simp [cnt]
  | b :: r, j + 1, h, h2 => by
    have := cnt_set r j (by simpa using h) (by simpa using h2)
    unfold cnt at this ⊢
    rw [List.set_cons_succ, List.countP_cons, List.countP_cons, this]
    omega
theorem cnt_all : ∀ (rs : List Bool), (∀ j, j < rs.length → rs.getD j false = true) → cnt rs = rs.length
  | [], _ => rfl
  | b :: r, h => by
    have h0 := h 0 (by simp)
    simp only [List.getD_cons_zero] at h0
    subst h0
    have := cnt_all r (fun j hj => by have := h (j + 1) (by simpa using hj); simpa using this)
    unfold cnt at this ⊢
    rw [List.countP_cons, this]
    rfl
theorem cnt_le (rs : List Bool) : cnt rs ≤ rs.length := List.countP_le_length
theorem cnt_rep (n : Nat) : cnt (List.replicate n false) = 0 := by simp [cnt, List.countP_replicate]
/-- Fewer than all have ended: one has not. -/
theorem cnt_open (rs : List Bool) (L : Nat) (hl : rs.length = L + 1) (h0 : rs.getD 0 false = false) (hc : cnt rs < L) : ∃ j, 1 ≤ j ∧ j ≤ L ∧ rs.getD j false = false := by
  refine Classical.byContradiction fun hn => ?_
  have hall : ∀ j, 1 ≤ j → j ≤ L → rs.getD j false = true := fun j h1 h2 => by
    cases hq : rs.getD j false with
    | true => rfl
    | false => exact absurd ⟨j, h1, h2, hq⟩ hn
  cases rs with
  | nil => simp at hl
  | cons b r =>
    have hr : r.length = L := by simpa using hl
    have := cnt_all r (fun j hj => by have := hall (j + 1) (by omega) (by omega); simpa using this)
    unfold cnt at this hc
    rw [List.countP_cons] at hc
    omega
theorem cnt_done (rs : List Bool) (L : Nat) (hl : rs.length = L + 1) (h0 : rs.getD 0 false = false) (hc : cnt rs = L) : ∀ j, 1 ≤ j → j ≤ L → rs.getD j false = true := by
  intro j h1 h2
  cases hq : rs.getD j false with
  | true => rfl
  | false =>
    exfalso
    have h3 := cnt_set rs j (by omega) hq
    have h4 : (rs.set j true).getD 0 false = false := by
      cases h5 : (rs.set j true).getD 0 false with
      | false => rfl
      | true =>
        rcases (set_getD rs j 0 (by omega)).1 h5 with h6 | h6
        · rw [h0] at h6; cases h6
        · omega
    have h5 := cnt_set (rs.set j true) 0 (by simp; omega) h4
    have h6 := cnt_le ((rs.set j true).set 0 true)
    simp only [List.length_set] at h6
    omega
/-- A row of bools that lies in block g. -/
def BR (w : World) (g : Nat) (rs : List Bool) : Prop := w.heap[g]? = some (.cells (rs.map Value.bool).toArray 4 (0, 0))
theorem BR.keep {S : List Nat} {w w' : World} {g : Nat} {rs : List Bool} (h : BR w g rs) (hf : Fr S w w') (hn : g ∉ S) : BR w' g rs := hf.keep h hn
theorem BR.cell {w : World} {g : Nat} {rs : List Bool} (h : BR w g rs) (i : Nat) (hi : i < rs.length) : w.cell? ⟨g, i, none⟩ = some (.bool (rs.getD i false)) := by
  rw [cell_of_row _ _ _ _ _ _ h]
  simp [List.getD, hi]
theorem BR.free {w : World} {g : Nat} {rs : List Bool} (h : BR w g rs) (i : Nat) : w.frozen? ⟨g, i, none⟩ = false := by
  unfold World.frozen?
  rw [h]
  rfl
theorem BR.put {w : World} {g : Nat} {rs : List Bool} (h : BR w g rs) (j : Nat) (x : Bool) : BR (w.setCell ⟨g, j, none⟩ (.bool x)) g (rs.set j x) := row_setB x h
end Go.Proofs.Ytdcmjoildfofcaa

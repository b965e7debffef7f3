/- A list of keys, rising, as a function of the key: what the document's calls do to it. Conditions as each names them. -/
import Derived.Test.YtkplammapbiebaaGreatDoorKs9
import Derived.Test.YtkplammapbiebaaGreatDoorHv9
import Derived.Test.YtkplammapbiebaaGreatDoorHd9
namespace Go.Proofs.YtkplammapbiebaaGreatDoor
open Go.ChangeShapes Go.WideShapes Go.ChangeAt Go.RowKit Go.Lib Go.Maps
set_option linter.unusedVariables false
set_option linter.unusedSimpArgs false

theorem mOf_ne {hs : List Hd} {k : ByteArray} (h : mOf hs k ≠ []) : ∃ x ∈ hs, x.key = k := by
  apply Classical.byContradiction
  intro hn
  exact h (mOf_off fun x hx e => hn ⟨x, hx, e⟩)
/-- What a rising list says is just itself. -/
theorem mOf_pk {hs : List Hd} (h : LoOk hs) : PkT (mOf hs) (mOf hs) hs :=
  ⟨h.1, fun x hx => ⟨(mOf_mem h hx).symm, by rw [mOf_mem h hx]; exact (h.2 x hx).2.1, by rw [mOf_mem h hx]; exact (h.2 x hx).2.1⟩, fun k hk _ => mOf_ne hk⟩
theorem mOf_ok {hs : List Hd} (h : LoOk hs) (k : ByteArray) : okV (mOf hs k) := by
  by_cases hk : mOf hs k = []
  · rw [hk]; exact okV_nil
  · obtain ⟨x, hx, rfl⟩ := mOf_ne hk
    rw [mOf_mem h hx]
    exact (h.2 x hx).2.2
theorem mOf_is {hs : List Hd} (h : LoOk hs) {M : ByteArray → List Vn} (h1 : ∀ x ∈ hs, M x.key = x.vs) (h2 : ∀ k, (∀ x ∈ hs, x.key ≠ k) → M k = []) : mOf hs = M := by
  funext k
  by_cases hk : ∃ x ∈ hs, x.key = k
  · obtain ⟨x, hx, rfl⟩ := hk
    rw [mOf_mem h hx, h1 x hx]
  · have hn : ∀ x ∈ hs, x.key ≠ k := fun x hx e => hk ⟨x, hx, e⟩
    rw [mOf_off hn, h2 k hn]
theorem key_eq {a b : ByteArray} (h1 : Op.bytesLess a.toList b.toList = false) (h2 : Op.bytesLess b.toList a.toList = false) : a = b := (tl_inj _ _).1 (bl_eq h1 h2)
/-- A key's place. -/
theorem PlH.at {hs : List Hd} {key : ByteArray} {i : Nat} (h : PlH hs key i true) (hl : LoOk hs) : i < hs.length ∧ (hs.getD i Hd.zero).key = key ∧ mOf hs key = (hs.getD i Hd.zero).vs := by
  obtain ⟨h1, h2⟩ := h.2.2.2.1 rfl
  refine ⟨h1, h2, ?_⟩
  rw [← h2]
  exact mOf_mem hl (hgetD_mem hs i h1)
theorem PlH.gt {hs : List Hd} {key : ByteArray} {i : Nat} (h : PlH hs key i false) (hl : LoOk hs) : ∀ x ∈ hs.drop i, Op.bytesLess key.toList x.key.toList = true := by
  intro x hx
  obtain ⟨j, hj, rfl⟩ := List.getElem_of_mem hx
  rw [List.length_drop] at hj
  have hi : i < hs.length := by omega
  have h3 := h.2.2.1 hi
  have hne : (hs.getD i Hd.zero).key ≠ key := fun e => by have := h.2.2.2.2 ⟨hi, e⟩; cases this
  have h4 : Op.bytesLess key.toList (hs.getD i Hd.zero).key.toList = true := by
    cases hb : Op.bytesLess key.toList (hs.getD i Hd.zero).key.toList with
    | true => rfl
    | false => exact absurd (key_eq h3 hb) hne
  rw [List.getElem_drop]
  by_cases hj0 : j = 0
  · subst hj0
    simpa [List.getD, hi] using h4
  · have h5 := List.pairwise_iff_getElem.1 hl.1 i (i + j) hi (by omega) (by omega)
    exact bl_trans (by simpa [List.getD, hi] using h4) h5
theorem PlH.lt {hs : List Hd} {key : ByteArray} {i : Nat} {ok : Bool} (h : PlH hs key i ok) : ∀ x ∈ hs.take i, Op.bytesLess x.key.toList key.toList = true := by
  intro x hx
  obtain ⟨j, hj, rfl⟩ := List.getElem_of_mem hx
  rw [List.length_take] at hj
  have h1 := h.2.1 j (by omega)
  have hjl : j < hs.length := by omega
  rw [List.getElem_take]
  simpa [List.getD, hjl] using h1
theorem PlH.off {hs : List Hd} {key : ByteArray} {i : Nat} (h : PlH hs key i false) (hl : LoOk hs) : ∀ x ∈ hs, x.key ≠ key := by
  intro x hx e
  rw [← List.take_append_drop i hs] at hx
  rcases List.mem_append.1 hx with h1 | h1
  · have := h.lt x h1
    rw [e, bl_irrefl] at this
    cases this
  · have := h.gt hl x h1
    rw [e, bl_irrefl] at this
    cases this
/-- One key more, in its place. -/
theorem LoOk.ins {hs : List Hd} {x : Hd} {i : Nat} (hl : LoOk hs) (h : PlH hs x.key i false) (hx : okH x) : LoOk (hs.take i ++ [x] ++ hs.drop i) ∧ mOf (hs.take i ++ [x] ++ hs.drop i) = updM (mOf hs) x.key x.vs := by
  have hL : LoOk (hs.take i ++ [x] ++ hs.drop i) := by
    refine ⟨?_, fun y hy => ?_⟩
    · rw [List.pairwise_append, List.pairwise_append]
      refine ⟨⟨hl.1.sublist (List.take_sublist _ _), by simp, fun a ha b hb => ?_⟩, hl.1.sublist (List.drop_sublist _ _), fun a ha b hb => ?_⟩
      · simp at hb
        subst hb
        exact h.lt a ha
      · rcases List.mem_append.1 ha with h1 | h1
        · exact bl_trans (h.lt a h1) (h.gt hl b hb)
        · simp at h1
          subst h1
          exact h.gt hl b hb
    · rcases List.mem_append.1 hy with h1 | h1
      · rcases List.mem_append.1 h1 with h2 | h2
        · exact hl.2 y (List.mem_of_mem_take h2)
        · simp at h2
          subst h2
          exact hx
      · exact hl.2 y (List.mem_of_mem_drop h1)
  have hmem : ∀ y, y ∈ hs.take i ++ [x] ++ hs.drop i ↔ y = x ∨ y ∈ hs := fun y => by
    have e : y ∈ hs ↔ y ∈ hs.take i ∨ y ∈ hs.drop i := by rw [← List.mem_append, List.take_append_drop]
    rw [e]
    simp only [List.mem_append, List.mem_singleton]
    constructor
    · rintro ((h1 | h1) | h1)
      · exact Or.inr (Or.inl h1)
      · exact Or.inl h1
      · exact Or.inr (Or.inr h1)
    · rintro (h1 | h1 | h1)
      · exact Or.inl (Or.inr h1)
      · exact Or.inl (Or.inl h1)
      · exact Or.inr h1
  refine ⟨hL, mOf_is hL (fun y hy => ?_) (fun k hk => ?_)⟩
  · unfold updM
    rcases (hmem y).1 hy with rfl | h1
    · rw [if_pos rfl]
    · rw [if_neg (h.off hl y h1)]
      exact mOf_mem hl h1
  · unfold updM
    rw [if_neg (fun e => hk x ((hmem x).2 (Or.inl rfl)) e.symm)]
    exact mOf_off fun y hy => hk y ((hmem y).2 (Or.inr hy))
/-- Other versions at a place. -/
theorem LoOk.set {hs : List Hd} {x : Hd} {i : Nat} (hl : LoOk hs) (hi : i < hs.length) (hk : x.key = (hs.getD i Hd.zero).key) (hx : okH x) : LoOk (hs.set i x) ∧ mOf (hs.set i x) = updM (mOf hs) x.key x.vs := by
  have hk' : x.key = hs[i].key := by rw [hk]; simp [List.getD, hi]
  have hkey : ∀ j (h : j < (hs.set i x).length), (hs.set i x)[j].key = (hs[j]'(by simpa using h)).key := fun j h => by
    rw [List.getElem_set]
    split
    · rename_i e; subst e; exact hk'
    · rfl
  have hL : LoOk (hs.set i x) := by
    refine ⟨?_, fun y hy => ?_⟩
    · rw [List.pairwise_iff_getElem]
      intro a b ha hb hab
      rw [hkey a ha, hkey b hb]
      exact List.pairwise_iff_getElem.1 hl.1 a b _ _ hab
    · rcases List.mem_or_eq_of_mem_set hy with h1 | h1
      · exact hl.2 y h1
      · rw [h1]; exact hx
  refine ⟨hL, mOf_is hL (fun y hy => ?_) (fun k hk2 => ?_)⟩
  · unfold updM
    obtain ⟨j, hj, rfl⟩ := List.getElem_of_mem hy
    have hj' : j < hs.length := by simpa using hj
    by_cases hji : i = j
    · subst hji
      rw [List.getElem_set_self, if_pos rfl]
    · rw [List.getElem_set_ne hji]
      have hne : hs[j].key ≠ x.key := fun e => by
        rw [hk'] at e
        rcases Nat.lt_or_ge i j with h1 | h1
        · have := List.pairwise_iff_getElem.1 hl.1 i j hi hj' h1
          rw [e, bl_irrefl] at this
          cases this
        · have := List.pairwise_iff_getElem.1 hl.1 j i hj' hi (by omega)
          rw [e, bl_irrefl] at this
          cases this
      rw [if_neg hne]
      exact mOf_mem hl (List.getElem_mem _)
  · unfold updM
    have hin : x ∈ hs.set i x := List.mem_set hi x
    rw [if_neg (fun e => hk2 x hin e.symm)]
    refine mOf_off fun y hy e => ?_
    obtain ⟨j, hj, rfl⟩ := List.getElem_of_mem hy
    have hj' : j < (hs.set i x).length := by simpa using hj
    exact hk2 _ (List.getElem_mem hj') (by rw [hkey j hj']; exact e)
end Go.Proofs.YtkplammapbiebaaGreatDoor

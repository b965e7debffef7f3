/- What versions may be, how many have at most a number, what is read at a mark. Plain lemmas. -/
import Derived.Test.YtakbodlicfmkjaaGreatVm
namespace Go.Proofs.YtakbodlicfmkjaaGreat.O
set_option linter.unusedVariables false
/-- May a version be? -/
def okX (x : Vn) : Prop := 1 ≤ x.num ∧ x.num ≤ 65536 ∧ x.val.size ≤ 1024 ∧ (x.drop = true → x.val = noS)
/-- Numbers rise. -/
def Ris (vs : List Vn) : Prop := vs.Pairwise fun a b => a.num < b.num
def okV (vs : List Vn) : Prop := (∀ x ∈ vs, okX x) ∧ Ris vs
/-- What Check tells. -/
def CkT (vs : List Vn) (c : Nat) : Prop := (c = 0 ∧ okV vs) ∨ (c = 1 ∧ ¬ okV vs)
theorem CkT.ex (vs : List Vn) : ∃ c, CkT vs c := by
  by_cases h : okV vs
  · exact ⟨0, Or.inl ⟨rfl, h⟩⟩
  · exact ⟨1, Or.inr ⟨rfl, h⟩⟩
theorem CkT.ok {vs : List Vn} (h : CkT vs 0) : okV vs := by
  rcases h with ⟨_, h⟩ | ⟨h, _⟩
  · exact h
  · cases h
theorem CkT.of {vs : List Vn} (h : okV vs) : CkT vs 0 := Or.inl ⟨rfl, h⟩
theorem CkT.one {vs : List Vn} {a b : Nat} (h : CkT vs a) (k : CkT vs b) : a = b := by
  rcases h with ⟨rfl, h⟩ | ⟨rfl, h⟩ <;> rcases k with ⟨rfl, k⟩ | ⟨rfl, k⟩
  · rfl
  · exact absurd h k
  · exact absurd k h
  · rfl
theorem ris_get {vs : List Vn} (h : Ris vs) {i j : Nat} (hij : i < j) (hj : j < vs.length) : (vs.getD i Vn.zero).num < (vs.getD j Vn.zero).num := by
  have := List.pairwise_iff_getElem.1 h i j (by omega) hj hij
  simpa [List.getD, hj, show i < vs.length by omega] using this
theorem ris_of {vs : List Vn} (h : ∀ i j, i < j → j < vs.length → (vs.getD i Vn.zero).num < (vs.getD j Vn.zero).num) : Ris vs := by
  refine List.pairwise_iff_getElem.2 fun i j hi hj hij => ?_
  have := h i j hij hj
  simpa [List.getD, hi, hj] using this
theorem okV_ge {vs : List Vn} (h : okV vs) : ∀ i, i < vs.length → (i : Int) + 1 ≤ (vs.getD i Vn.zero).num := by
  intro i
  induction i with
  | zero => intro hi; have := (h.1 _ (vgetD_mem vs 0 hi)).1; omega
  | succ i ih =>
    intro hi
    have h1 := ih (by omega)
    have h2 := ris_get h.2 (show i < i + 1 by omega) hi
    omega
theorem okV_few {vs : List Vn} (h : okV vs) : vs.length ≤ 65536 := by
  by_cases h0 : vs.length = 0
  · omega
  · have h1 := okV_ge h (vs.length - 1) (by omega)
    have h2 := (h.1 _ (vgetD_mem vs (vs.length - 1) (by omega))).2.1
    omega
theorem okV_nil : okV [] := ⟨by simp, List.Pairwise.nil⟩
theorem okV_sub {vs us : List Vn} (h : okV vs) (hs : us.Sublist vs) : okV us := ⟨fun x hx => h.1 x (hs.subset hx), h.2.sublist hs⟩
theorem okV_drop {vs : List Vn} (h : okV vs) (k : Nat) : okV (vs.drop k) := okV_sub h (List.drop_sublist _ _)
theorem getD_drop (vs : List Vn) (k j : Nat) : (vs.drop k).getD j Vn.zero = vs.getD (k + j) Vn.zero := by simp [List.getD, List.getElem?_drop]
theorem okX_each {x : Vn} (h : okX x) : VEach x := ⟨by have := h.2.2.1; omega, by have := h.1; omega, by have := h.2.1; omega⟩
/-- So many have at most this number, and they stand ahead. -/
structure UpTo (vs : List Vn) (k : Int) (c : Nat) : Prop where
  le : c ≤ vs.length
  lo : ∀ j, j < c → (vs.getD j Vn.zero).num ≤ k
  hi : ∀ j, c ≤ j → j < vs.length → k < (vs.getD j Vn.zero).num
theorem UpTo.one {vs : List Vn} {k : Int} {a b : Nat} (h : UpTo vs k a) (g : UpTo vs k b) : a = b := by
  rcases Nat.lt_trichotomy a b with h1 | h1 | h1
  · have := h.hi a (Nat.le_refl _) (by have := g.le; omega)
    have := g.lo a h1
    omega
  · exact h1
  · have := g.hi b (Nat.le_refl _) (by have := h.le; omega)
    have := h.lo b h1
    omega
theorem UpTo.ex {vs : List Vn} (h : Ris vs) (k : Int) : ∃ c, UpTo vs k c := by
  induction vs with
  | nil => exact ⟨0, Nat.le_refl _, fun j hj => by omega, fun j _ hj => by simp at hj⟩
  | cons x r ih =>
    obtain ⟨c, hc⟩ := ih (List.Pairwise.of_cons h)
    by_cases hx : x.num ≤ k
    · refine ⟨c + 1, by have := hc.le; simp; omega, fun j hj => ?_, fun j h1 h2 => ?_⟩
      · cases j with
        | zero => simpa using hx
        | succ j => simpa using hc.lo j (by omega)
      · cases j with
        | zero => omega
        | succ j => simpa using hc.hi j (by omega) (by simpa using h2)
    · refine ⟨0, Nat.zero_le _, fun j hj => by omega, fun j _ h2 => ?_⟩
      cases j with
      | zero => simp; omega
      | succ j =>
        have := ris_get h (show 0 < j + 1 by omega) h2
        simp only [List.getD_cons_zero] at this
        omega
theorem UpTo.mono {vs : List Vn} {k l : Int} {a b : Nat} (h : UpTo vs k a) (g : UpTo vs l b) (hkl : k ≤ l) : a ≤ b := by
  by_cases h1 : a ≤ b
  · exact h1
  · have := g.hi b (Nat.le_refl _) (by have := h.le; omega)
    have := h.lo b (by omega)
    omega
theorem UpTo.drop {vs : List Vn} {k : Int} {c d : Nat} (h : UpTo vs k c) (hd : d ≤ c) : UpTo (vs.drop d) k (c - d) := by
  refine ⟨by have := h.le; simp; omega, fun j hj => ?_, fun j h1 h2 => ?_⟩
  · rw [getD_drop]; exact h.lo _ (by omega)
  · rw [getD_drop]; exact h.hi _ (by omega) (by simp at h2; omega)
/-- By the search's test. -/
theorem UpTo.count {vs : List Vn} (h : Ris vs) (k : Int) : UpTo vs k ((List.range vs.length).countP fun i => !decide (k < (vs.getD i Vn.zero).num)) := by
  obtain ⟨c, hc⟩ := UpTo.ex h k
  have e : (List.range vs.length).countP (fun i => !decide (k < (vs.getD i Vn.zero).num)) = c := by
    have hle := hc.le
    have e1 : List.range vs.length = List.range c ++ (List.range (vs.length - c)).map (c + ·) := by
      rw [← List.range_add]
      congr 1
      omega
    rw [e1, List.countP_append]
    have a1 : (List.range c).countP (fun i => !decide (k < (vs.getD i Vn.zero).num)) = c := by
      rw [List.countP_eq_length.2]
      · simp
      · intro j hj
        have := hc.lo j (by simpa using hj)
        rw [Bool.not_eq_true', decide_eq_false_iff_not]
        omega
    have a2 : ((List.range (vs.length - c)).map (c + ·)).countP (fun i => !decide (k < (vs.getD i Vn.zero).num)) = 0 := by
      rw [List.countP_eq_zero]
      intro j hj
      obtain ⟨i, hi, rfl⟩ := List.mem_map.1 hj
      have := hc.hi (c + i) (by omega) (by simp at hi; omega)
      rw [Bool.not_eq_true', decide_eq_false_iff_not]
      omega
    omega
  rw [e]
  exact hc
/-- What is read at a mark, of which so many are at it. -/
def atV (vs : List Vn) (c : Nat) : Vn := if c = 0 then Vn.zero else vs.getD (c - 1) Vn.zero
theorem atV_drop (vs : List Vn) (c d : Nat) (h : d < c ∨ d = 0) : atV (vs.drop d) (c - d) = atV vs c := by
  unfold atV
  by_cases h0 : c = 0
  · rw [if_pos (by omega), if_pos h0]
  · rw [if_neg (by omega), if_neg h0, getD_drop]
    congr 1
    omega
end Go.Proofs.YtakbodlicfmkjaaGreat.O

/- What puts make of a list, in whatever order. Plain lemmas. -/
import Derived.Test.YtakbodlicfmkjaaGreatVt
namespace Go.Proofs.YtakbodlicfmkjaaGreat.O
set_option linter.unusedVariables false
theorem mem_get {vs : List Vn} {y : Vn} (h : y ∈ vs) : ∃ j, j < vs.length ∧ vs.getD j Vn.zero = y := by
  obtain ⟨j, hj, e⟩ := List.mem_iff_getElem.1 h
  exact ⟨j, hj, by simp [List.getD, hj, e]⟩
theorem there_iff {vs : List Vn} {v : Vn} {d : Nat} (hR : Ris vs) (hU : UpTo vs v.num d) : There vs v d ↔ ∃ y ∈ vs, y.num = v.num := by
  constructor
  · rintro ⟨h0, h1⟩
    exact ⟨_, vgetD_mem vs (d - 1) (by have := hU.le; omega), h1⟩
  · rintro ⟨y, hy, e⟩
    obtain ⟨j, hj, rfl⟩ := mem_get hy
    have hjd : j < d := by
      by_cases h : j < d
      · exact h
      · have := hU.hi j (by omega) hj; omega
    refine ⟨by omega, ?_⟩
    by_cases hjd1 : j = d - 1
    · rw [← hjd1]; exact e
    · have h1 := ris_get hR (show j < d - 1 by omega) (by have := hU.le; omega)
      have h2 := hU.lo (d - 1) (by omega)
      omega
theorem mem_ins {vs : List Vn} {v : Vn} {d : Nat} (x : Vn) : x ∈ vs.take d ++ [v] ++ vs.drop d ↔ x = v ∨ x ∈ vs := by
  have e : vs = vs.take d ++ vs.drop d := (List.take_append_drop d vs).symm
  have : x ∈ vs ↔ x ∈ vs.take d ∨ x ∈ vs.drop d := by
    constructor
    · intro h; rw [e] at h; exact List.mem_append.1 h
    · intro h; rw [e]; exact List.mem_append.2 h
  rw [this]
  simp only [List.mem_append, List.mem_singleton]
  constructor
  · rintro ((h | h) | h)
    · exact Or.inr (Or.inl h)
    · exact Or.inl h
    · exact Or.inr (Or.inr h)
  · rintro (h | h | h)
    · exact Or.inl (Or.inr h)
    · exact Or.inl (Or.inl h)
    · exact Or.inr h
theorem len_ins {vs : List Vn} {v : Vn} {d : Nat} (hd : d ≤ vs.length) : (vs.take d ++ [v] ++ vs.drop d).length = vs.length + 1 := by
  simp only [List.length_append, List.length_take, List.length_drop, List.length_singleton]
  omega
theorem okV_ins {vs : List Vn} {v : Vn} {d : Nat} (h : okV vs) (hv : okX v) (hU : UpTo vs v.num d) (hT : ¬ There vs v d) : okV (vs.take d ++ [v] ++ vs.drop d) := by
  refine ⟨fun x hx => ?_, ?_⟩
  · rcases (mem_ins x).1 hx with rfl | hx
    · exact hv
    · exact h.1 x hx
  · have hlo : ∀ x ∈ vs.take d, x.num < v.num := by
      intro x hx
      obtain ⟨j, hj, e⟩ := mem_get hx
      have hj2 : j < d ∧ j < vs.length := by simp at hj; omega
      have e2 : (vs.take d).getD j Vn.zero = vs.getD j Vn.zero := by simp [List.getD, List.getElem?_take_of_lt hj2.1]
      rw [e2] at e
      have h1 := hU.lo j hj2.1
      rw [e] at h1
      by_cases h2 : x.num = v.num
      · exact absurd ((there_iff h.2 hU).2 ⟨x, List.mem_of_mem_take hx, h2⟩) hT
      · omega
    have hhi : ∀ x ∈ vs.drop d, v.num < x.num := by
      intro x hx
      obtain ⟨j, hj, e⟩ := mem_get hx
      rw [getD_drop] at e
      have := hU.hi (d + j) (by omega) (by simp at hj; omega)
      rw [e] at this
      exact this
    have hs : Ris vs := h.2
    unfold Ris at hs ⊢
    rw [List.append_assoc, List.pairwise_append]
    refine ⟨hs.sublist (List.take_sublist _ _), ?_, ?_⟩
    · rw [List.singleton_append, List.pairwise_cons]
      exact ⟨hhi, hs.sublist (List.drop_sublist _ _)⟩
    · intro a ha b hb
      rw [List.singleton_append, List.mem_cons] at hb
      rcases hb with rfl | hb
      · exact hlo a ha
      · have := hlo a ha; have := hhi b hb; omega
/-- Rising lists with the same members are one. -/
theorem ris_unique : ∀ (a b : List Vn), Ris a → Ris b → (∀ v, v ∈ a ↔ v ∈ b) → a = b
  | [], [], _, _, _ => rfl
  | [], y :: b, _, _, h => by have := (h y).2 (by simp); simp at this
  | x :: a, [], _, _, h => by have := (h x).1 (by simp); simp at this
  | x :: a, y :: b, ha, hb, h => by
    have ha' := List.pairwise_cons.1 ha
    have hb' := List.pairwise_cons.1 hb
    have exy : x = y := by
      have h1 : x ∈ y :: b := (h x).1 (by simp)
      have h2 : y ∈ x :: a := (h y).2 (by simp)
      rcases List.mem_cons.1 h1 with h1 | h1
      · exact h1
      · rcases List.mem_cons.1 h2 with h2 | h2
        · exact h2.symm
        · have := ha'.1 y h2; have := hb'.1 x h1; omega
    subst exy
    have : a = b := by
      refine ris_unique a b ha'.2 hb'.2 fun v => ⟨fun hv => ?_, fun hv => ?_⟩
      · rcases List.mem_cons.1 ((h v).1 (List.mem_cons_of_mem _ hv)) with e | e
        · have := ha'.1 v hv; rw [e] at this; omega
        · exact e
      · rcases List.mem_cons.1 ((h v).2 (List.mem_cons_of_mem _ hv)) with e | e
        · have := hb'.1 v hv; rw [e] at this; omega
        · exact e
    rw [this]
/-- The turned row's places. -/
def fidx (n t i : Nat) : Nat := (n - 1 - i + t) % n
theorem fidx_lt {n t i : Nat} (h : i < n) : fidx n t i < n := Nat.mod_lt _ (by omega)
theorem fidx_fidx {n t k : Nat} (h : k < n) : fidx n t (fidx n t k) = k := by
  unfold fidx
  have h1 := Nat.div_add_mod (n - 1 - k + t) n
  have h2 := Nat.mod_lt (n - 1 - k + t) (show 0 < n by omega)
  obtain ⟨Q, hQ⟩ : ∃ Q, Q = (n - 1 - k + t) / n := ⟨_, rfl⟩
  obtain ⟨r, hr⟩ : ∃ r, r = (n - 1 - k + t) % n := ⟨_, rfl⟩
  rw [← hQ, ← hr] at h1
  rw [← hr] at h2 ⊢
  obtain ⟨M, hM⟩ : ∃ M, M = n * Q := ⟨_, rfl⟩
  have h3 : n - 1 - r + t = n * Q + k := by rw [← hM] at h1 ⊢; omega
  rw [h3, Nat.mul_add_mod, Nat.mod_eq_of_lt h]
theorem fidx_inj {n t i j : Nat} (hi : i < n) (hj : j < n) (h : fidx n t i = fidx n t j) : i = j := by
  rw [← fidx_fidx (t := t) hi, h, fidx_fidx hj]
/-- No two of one number. -/
def Dis (os : List Vn) : Prop := ∀ i j, i < j → j < os.length → (os.getD i Vn.zero).num ≠ (os.getD j Vn.zero).num
theorem dis_snoc {os : List Vn} {v : Vn} (h : Dis os) (hv : ∀ y ∈ os, y.num ≠ v.num) : Dis (os ++ [v]) := by
  intro i j hij hj
  have hg : ∀ k, k < os.length → (os ++ [v]).getD k Vn.zero = os.getD k Vn.zero := fun k hk => by simp [List.getD, List.getElem?_append_left hk]
  simp only [List.length_append, List.length_singleton] at hj
  by_cases hjl : j < os.length
  · rw [hg i (by omega), hg j hjl]
    exact h i j hij hjl
  · obtain rfl : j = os.length := by omega
    rw [hg i hij]
    have e : (os ++ [v]).getD os.length Vn.zero = v := by simp [List.getD]
    rw [e]
    exact hv _ (vgetD_mem os i hij)
theorem dis_eq {os : List Vn} (h : Dis os) {i j : Nat} (hi : i < os.length) (hj : j < os.length) (e : (os.getD i Vn.zero).num = (os.getD j Vn.zero).num) : i = j := by
  rcases Nat.lt_trichotomy i j with h1 | h1 | h1
  · exact absurd e (h i j h1 hj)
  · exact h1
  · exact absurd e.symm (h j i h1 hi)
theorem upTo_mem {xs : List Vn} (h : Ris xs) {v : Vn} (hv : v ∈ xs) {d : Nat} (hd : UpTo xs v.num d) : 0 < d ∧ atV xs d = v := by
  obtain ⟨j, hj, e⟩ := mem_get hv
  have hU : UpTo xs v.num (j + 1) := by
    refine ⟨hj, fun i hi => ?_, fun i h1 h2 => ?_⟩
    · by_cases hij : i = j
      · rw [hij, e]; exact Int.le_refl _
      · have := ris_get h (show i < j by omega) hj
        rw [e] at this
        omega
    · have := ris_get h (show j < i by omega) h2
      rw [e] at this
      exact this
  obtain rfl := hd.one hU
  exact ⟨by omega, by unfold atV; rw [if_neg (by omega)]; exact e⟩
end Go.Proofs.YtakbodlicfmkjaaGreat.O

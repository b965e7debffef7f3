/- How many writes of a transaction count, as mathematics: as many as there are keys. No conditions. -/
import Derived.Test.YtakbodlicfmkjaaGreatLm14
namespace Go.Proofs.YtakbodlicfmkjaaGreat
set_option linter.unusedVariables false
set_option linter.unusedSimpArgs false

theorem nd_len22 {α : Type} : ∀ (a b : List α), a.Nodup → (∀ x ∈ a, x ∈ b) → a.length ≤ b.length
  | [], b, _, _ => Nat.zero_le _
  | x :: r, b, h, hs => by
    obtain ⟨h1, h2⟩ := List.nodup_cons.1 h
    obtain ⟨p, q, rfl⟩ := List.append_of_mem (hs x List.mem_cons_self)
    have ih := nd_len22 r (p ++ q) h2 (fun y hy => by
      have := hs y (List.mem_cons_of_mem _ hy)
      simp only [List.mem_append, List.mem_cons] at this ⊢
      rcases this with h3 | rfl | h3
      · exact .inl h3
      · exact absurd hy h1
      · exact .inr h3)
    simp only [List.length_append, List.length_cons] at ih ⊢
    omega
open Classical in
/-- The keys of the first i writes, each once. -/
noncomputable def fl22 (ws : List Wt) : Nat → List ByteArray
  | 0 => []
  | i + 1 => if kAt ws i ∈ fl22 ws i then fl22 ws i else fl22 ws i ++ [kAt ws i]
theorem fl22_yes {ws : List Wt} {i : Nat} (h : kAt ws i ∈ fl22 ws i) : fl22 ws (i + 1) = fl22 ws i := by simp only [fl22, if_pos h]
theorem fl22_no {ws : List Wt} {i : Nat} (h : kAt ws i ∉ fl22 ws i) : fl22 ws (i + 1) = fl22 ws i ++ [kAt ws i] := by simp only [fl22, if_neg h]
theorem fl22_len (ws : List Wt) : ∀ i, (fl22 ws i).length ≤ i
  | 0 => Nat.le_refl _
  | i + 1 => by
    have ih := fl22_len ws i
    by_cases h : kAt ws i ∈ fl22 ws i
    · rw [fl22_yes h]; omega
    · rw [fl22_no h, List.length_append]; simp; omega
theorem fl22_mem (ws : List Wt) : ∀ i k, k ∈ fl22 ws i ↔ ∃ j, j < i ∧ kAt ws j = k
  | 0, k => by simp [fl22]
  | i + 1, k => by
    have ih := fl22_mem ws i k
    by_cases h : kAt ws i ∈ fl22 ws i
    · rw [fl22_yes h, ih]
      constructor
      · rintro ⟨j, h1, h2⟩; exact ⟨j, by omega, h2⟩
      · rintro ⟨j, h1, h2⟩
        by_cases e : j = i
        · subst e; rw [h2] at h; exact (fl22_mem ws j k).1 h
        · exact ⟨j, by omega, h2⟩
    · rw [fl22_no h, List.mem_append, ih, List.mem_singleton]
      constructor
      · rintro (⟨j, h1, h2⟩ | rfl)
        · exact ⟨j, by omega, h2⟩
        · exact ⟨i, by omega, rfl⟩
      · rintro ⟨j, h1, h2⟩
        by_cases e : j = i
        · subst e; exact .inr h2.symm
        · exact .inl ⟨j, by omega, h2⟩
theorem fl22_nodup (ws : List Wt) : ∀ i, (fl22 ws i).Nodup
  | 0 => List.nodup_nil
  | i + 1 => by
    have ih := fl22_nodup ws i
    by_cases h : kAt ws i ∈ fl22 ws i
    · rw [fl22_yes h]; exact ih
    · rw [fl22_no h, List.nodup_append]
      refine ⟨ih, by simp, fun x hx y hy => ?_⟩
      simp only [List.mem_singleton] at hy
      subst hy
      exact fun e => h (e ▸ hx)
theorem ddk_mem (ws : List Wt) : ∀ i k, k ∈ (ddTo ws i).map (·.key) ↔ ∃ j, j < i ∧ Kept ws j ∧ kAt ws j = k
  | 0, k => by simp [ddTo]
  | i + 1, k => by
    have ih := ddk_mem ws i k
    by_cases h : Kept ws i
    · rw [ddTo_yes h, List.map_append, List.mem_append, ih]
      simp only [List.map_cons, List.map_nil, List.mem_singleton]
      constructor
      · rintro (⟨j, h1, h2⟩ | rfl)
        · exact ⟨j, by omega, h2⟩
        · exact ⟨i, by omega, h, rfl⟩
      · rintro ⟨j, h1, h2, h3⟩
        by_cases e : j = i
        · subst e; exact .inr h3.symm
        · exact .inl ⟨j, by omega, h2, h3⟩
    · rw [ddTo_no h, ih]
      constructor
      · rintro ⟨j, h1, h2⟩; exact ⟨j, by omega, h2⟩
      · rintro ⟨j, h1, h2, h3⟩
        by_cases e : j = i
        · subst e; exact absurd h2 h
        · exact ⟨j, by omega, h2, h3⟩
theorem ddk_nodup (ws : List Wt) : ∀ i, i ≤ ws.length → ((ddTo ws i).map (·.key)).Nodup
  | 0, _ => List.nodup_nil
  | i + 1, hi => by
    have ih := ddk_nodup ws i (by omega)
    by_cases h : Kept ws i
    · rw [ddTo_yes h, List.map_append, List.nodup_append]
      refine ⟨ih, by simp, fun x hx y hy => ?_⟩
      simp only [List.map_cons, List.map_nil, List.mem_singleton] at hy
      obtain ⟨j, h1, h2, h3⟩ := (ddk_mem ws i x).1 hx
      intro e
      exact h2 i h1 (by omega) (by rw [h3, e, hy]; rfl)
    · rw [ddTo_no h]; exact ih
theorem kept_of22 (ws : List Wt) : ∀ d j, j < ws.length → ws.length - j ≤ d → ∃ m, m < ws.length ∧ Kept ws m ∧ kAt ws m = kAt ws j
  | 0, j, h, hd => by omega
  | d + 1, j, h, hd => by
    by_cases hk : Kept ws j
    · exact ⟨j, h, hk, rfl⟩
    · have : ∃ m, j < m ∧ m < ws.length ∧ kAt ws m = kAt ws j := by
        apply Classical.byContradiction
        intro hn
        exact hk (fun m h1 h2 h3 => hn ⟨m, h1, h2, h3⟩)
      obtain ⟨m, h1, h2, h3⟩ := this
      obtain ⟨p, q1, q2, q3⟩ := kept_of22 ws d m h2 (by omega)
      exact ⟨p, q1, q2, q3.trans h3⟩
/-- As many keys as writes that count. -/
theorem fl22_dd (ws : List Wt) : (fl22 ws ws.length).length = (dd ws).length := by
  have e : (dd ws).length = ((ddTo ws ws.length).map (·.key)).length := by simp [dd]
  rw [e]
  apply Nat.le_antisymm
  · refine nd_len22 _ _ (fl22_nodup ws _) fun k hk => ?_
    obtain ⟨j, h1, h2⟩ := (fl22_mem ws _ k).1 hk
    obtain ⟨m, q1, q2, q3⟩ := kept_of22 ws _ j h1 (Nat.le_refl _)
    exact (ddk_mem ws _ k).2 ⟨m, q1, q2, q3.trans h2⟩
  · refine nd_len22 _ _ (ddk_nodup ws _ (Nat.le_refl _)) fun k hk => ?_
    obtain ⟨j, h1, h2, h3⟩ := (ddk_mem ws _ k).1 hk
    exact (fl22_mem ws _ k).2 ⟨j, h1, h3⟩
end Go.Proofs.YtakbodlicfmkjaaGreat

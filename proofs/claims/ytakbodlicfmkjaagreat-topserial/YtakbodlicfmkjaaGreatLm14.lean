/- The writes that count of a transaction, as mathematics: those that no later one of their key follows. No conditions. -/
import Derived.Test.YtakbodlicfmkjaaGreatTm
namespace Go.Proofs.YtakbodlicfmkjaaGreat
set_option linter.unusedVariables false
set_option linter.unusedSimpArgs false

/-- The key of the write i. -/
def kAt (ws : List Wt) (i : Nat) : ByteArray := (ws.getD i Wt.zero).key
/-- No later one of its key follows. -/
def Kept (ws : List Wt) (i : Nat) : Prop := ∀ m, i < m → m < ws.length → kAt ws m ≠ kAt ws i
open Classical in
/-- Those that count, of the first i. -/
noncomputable def ddTo (ws : List Wt) : Nat → List Wt
  | 0 => []
  | i + 1 => if Kept ws i then ddTo ws i ++ [ws.getD i Wt.zero] else ddTo ws i
/-- Those that count. -/
noncomputable def dd (ws : List Wt) : List Wt := ddTo ws ws.length
theorem ddTo_yes {ws : List Wt} {i : Nat} (h : Kept ws i) : ddTo ws (i + 1) = ddTo ws i ++ [ws.getD i Wt.zero] := by
  simp only [ddTo, if_pos h]
theorem ddTo_no {ws : List Wt} {i : Nat} (h : ¬ Kept ws i) : ddTo ws (i + 1) = ddTo ws i := by
  simp only [ddTo, if_neg h]
theorem ddTo_len (ws : List Wt) : ∀ i, (ddTo ws i).length ≤ i
  | 0 => Nat.le_refl _
  | i + 1 => by
    have ih := ddTo_len ws i
    by_cases h : Kept ws i
    · rw [ddTo_yes h, List.length_append]; simp; omega
    · rw [ddTo_no h]; omega
theorem dd_len (ws : List Wt) : (dd ws).length ≤ ws.length := ddTo_len ws _
theorem ddTo_mem (ws : List Wt) : ∀ i, i ≤ ws.length → ∀ x ∈ ddTo ws i, x ∈ ws
  | 0, _, x, hx => by cases hx
  | i + 1, hi, x, hx => by
    by_cases h : Kept ws i
    · rw [ddTo_yes h, List.mem_append] at hx
      rcases hx with hx | hx
      · exact ddTo_mem ws i (by omega) x hx
      · simp only [List.mem_singleton] at hx
        rw [hx]
        exact wgetD_mem ws i (by omega)
    · rw [ddTo_no h] at hx
      exact ddTo_mem ws i (by omega) x hx
theorem dd_mem (ws : List Wt) : ∀ x ∈ dd ws, x ∈ ws := ddTo_mem ws _ (Nat.le_refl _)
/-- The first ones are the first ones of all. -/
theorem ddTo_pre (ws : List Wt) (i : Nat) : ∀ d, ∃ r, ddTo ws (i + d) = ddTo ws i ++ r
  | 0 => ⟨[], by simp⟩
  | d + 1 => by
    obtain ⟨r, hr⟩ := ddTo_pre ws i d
    by_cases h : Kept ws (i + d)
    · exact ⟨r ++ [ws.getD (i + d) Wt.zero], by rw [← Nat.add_assoc, ddTo_yes h, hr, List.append_assoc]⟩
    · exact ⟨r, by rw [← Nat.add_assoc, ddTo_no h, hr]⟩
/-- The rest behind the first i. -/
noncomputable def ddFrom (ws : List Wt) (i : Nat) : List Wt := (dd ws).drop (ddTo ws i).length
theorem dd_split (ws : List Wt) (i : Nat) (h : i ≤ ws.length) : dd ws = ddTo ws i ++ ddFrom ws i := by
  obtain ⟨r, hr⟩ := ddTo_pre ws i (ws.length - i)
  rw [show i + (ws.length - i) = ws.length by omega] at hr
  unfold ddFrom dd
  rw [hr, List.drop_left]
theorem ddFrom_zero (ws : List Wt) : ddFrom ws 0 = dd ws := rfl
theorem ddFrom_yes {ws : List Wt} {i : Nat} (hi : i < ws.length) (h : Kept ws i) : ddFrom ws i = ws.getD i Wt.zero :: ddFrom ws (i + 1) := by
  have h1 := dd_split ws i (by omega)
  have h2 := dd_split ws (i + 1) (by omega)
  rw [h1, ddTo_yes h, List.append_assoc] at h2
  exact List.append_cancel_left h2
theorem ddFrom_no {ws : List Wt} {i : Nat} (h : ¬ Kept ws i) : ddFrom ws i = ddFrom ws (i + 1) := by
  unfold ddFrom
  rw [ddTo_no h]
theorem ddFrom_end (ws : List Wt) : ddFrom ws ws.length = [] := by
  unfold ddFrom dd
  simp
open Classical in
/-- The last one of a key among the first i. -/
noncomputable def lastIx (ws : List Wt) : Nat → ByteArray → Option Int
  | 0 => fun _ => none
  | i + 1 => fun k => if k = kAt ws i then some (i : Int) else lastIx ws i k
theorem lastIx_lt (ws : List Wt) : ∀ i k j, lastIx ws i k = some j → ∃ m : Nat, j = m ∧ m < i ∧ kAt ws m = k ∧ ∀ p, m < p → p < i → kAt ws p ≠ k
  | 0, k, j, h => by cases h
  | i + 1, k, j, h => by
    by_cases e : k = kAt ws i
    · have h' : some (i : Int) = some j := by rw [← h]; simp only [lastIx, if_pos e]
      cases h'
      exact ⟨i, rfl, by omega, e.symm, fun p h1 h2 => by omega⟩
    · have h' : lastIx ws i k = some j := by rw [← h]; simp only [lastIx, if_neg e]
      obtain ⟨m, h1, h2, h3, h4⟩ := lastIx_lt ws i k j h'
      refine ⟨m, h1, by omega, h3, fun p hp hq => ?_⟩
      by_cases hpi : p = i
      · rw [hpi]; exact fun e2 => e e2.symm
      · exact h4 p hp (by omega)
theorem lastIx_some (ws : List Wt) : ∀ i m, m < i → lastIx ws i (kAt ws m) ≠ none
  | 0, m, h => by omega
  | i + 1, m, h => by
    by_cases e : kAt ws m = kAt ws i
    · simp only [lastIx, if_pos e]; simp
    · simp only [lastIx, if_neg e]
      have : m ≠ i := fun h' => e (by rw [h'])
      exact lastIx_some ws i m (by omega)
/-- It is the last one of its key just if it counts. -/
theorem lastIx_kept (ws : List Wt) (i : Nat) (hi : i < ws.length) : ((lastIx ws ws.length (kAt ws i)).getD 0 = (i : Int)) ↔ Kept ws i := by
  cases h : lastIx ws ws.length (kAt ws i) with
  | none => exact absurd h (lastIx_some ws _ i hi)
  | some j =>
    obtain ⟨m, h1, h2, h3, h4⟩ := lastIx_lt ws _ _ _ h
    show j = (i : Int) ↔ _
    rw [h1]
    constructor
    · intro e p hp hq
      have : m = i := by omega
      exact h4 p (by omega) hq
    · intro hk
      have h5 : ¬ (i < m) := fun h5 => hk m h5 h2 h3
      have h6 : ¬ (m < i) := fun h6 => h4 i h6 hi rfl
      omega
end Go.Proofs.YtakbodlicfmkjaaGreat

/- What the last writes of a key come to, chains that go on, stretches that follow one another: mathematics for the Fold laws. -/
import Derived.Test.YtfminnmfdogopabMay7
import Derived.Test.YtfminnmfdogopabWtr7
namespace Go.Proofs.Ytfminnmfdogopab
set_option linter.unusedVariables false
set_option linter.unusedSimpArgs false

/-- What a write leaves of its key. -/
def left1 (x : Wt) : Option ByteArray := if x.drop = true then none else some x.val
theorem capplys_last (s : ByteArray) : ∀ (ws : List Wt) (E : ByteArray → Option ByteArray), capplys (fun _ => true) E ws s = match lastW ws s with | none => E s | some x => left1 x
  | [], E => rfl
  | x :: ws, E => by
    have e1 : lastW (x :: ws) s = (lastW ws s).or (lastW [x] s) := lastW_append [x] ws s
    have e2 : capplys (fun _ => true) E (x :: ws) = capplys (fun _ => true) (capply (fun _ => true) E x) ws := rfl
    rw [e2, capplys_last s ws, e1, lastW_one]
    cases hl : lastW ws s with
    | some y => rfl
    | none =>
      unfold capply
      rw [if_pos rfl]
      unfold applyE
      by_cases h : s = x.key
      · rw [if_pos h, if_pos h.symm]; rfl
      · rw [if_neg h, if_neg (Ne.symm h)]; rfl
theorem fo_step (l : List Tx) (t : Tx) (s : ByteArray) : fo (l ++ [t]) s = match lastW t.ws s with | none => fo l s | some x => left1 x := by
  rw [fo_snoc]
  exact capplys_last s t.ws (fo l)
theorem lastW_some_key {ws : List Wt} {s : ByteArray} {x : Wt} (h : lastW ws s = some x) : x ∈ ws ∧ x.key = s := by
  unfold lastW at h
  have h1 := List.find?_some h
  have h2 := List.mem_of_find?_eq_some h
  exact ⟨by simpa using h2, by simpa using h1⟩
theorem wrt_last (l : List Tx) (n : Nat) (s : ByteArray) : Wrt l n s ↔ lastW (l.getD (n - 1) Tx.zero).ws s ≠ none := by
  unfold Wrt
  constructor
  · rintro ⟨x, hx, e⟩ hn
    exact (lastW_none _ _).1 hn x hx e
  · intro h
    cases hl : lastW (l.getD (n - 1) Tx.zero).ws s with
    | none => exact absurd hl h
    | some x => obtain ⟨a, b⟩ := lastW_some_key hl; exact ⟨x, a, b⟩
theorem take_snoc_tx (l : List Tx) (m : Nat) (h : m < l.length) : l.take (m + 1) = l.take m ++ [l.getD m Tx.zero] := by
  rw [List.take_add_one]
  simp [List.getD, h]
/-- A key's value is what its last writer leaves. -/
theorem fo_prv (l : List Tx) (s : ByteArray) : ∀ (m : Nat), m ≤ l.length → ∀ p : Int, Prv l 1 (m + 1) s p → fo (l.take m) s = if p = 0 then none else match lastW (l.getD (p.toNat - 1) Tx.zero).ws s with | none => none | some x => left1 x := by
  intro m
  induction m with
  | zero =>
    intro _ p hp
    have : p = 0 := by have := hp.le (by omega); omega
    subst this
    rfl
  | succ m ih =>
    intro hm p hp
    rw [take_snoc_tx l m (by omega), fo_step]
    cases hl : lastW (l.getD m Tx.zero).ws s with
    | some x =>
      have hw : Wrt l (m + 1) s := (wrt_last l (m + 1) s).2 (by rw [show m + 1 - 1 = m by omega, hl]; simp)
      have hp2 : p = ((m + 1 : Nat) : Int) := Prv.one (by omega) hp (Or.inr ⟨m + 1, rfl, by omega, by omega, hw, fun k h1 h2 => by omega⟩)
      subst hp2
      rw [if_neg (by omega)]
      simp only [Int.toNat_natCast, show m + 1 - 1 = m by omega, hl]
    | none =>
      have hw : ¬ Wrt l (m + 1) s := fun h => (wrt_last l (m + 1) s).1 h (by rw [show m + 1 - 1 = m by omega, hl])
      have hp2 : Prv l 1 (m + 1) s p := by
        rcases hp with ⟨rfl, h⟩ | ⟨q, rfl, h1, h2, h3, h4⟩
        · exact Or.inl ⟨rfl, fun k a b => h k a (by omega)⟩
        · have hq : q ≠ m + 1 := fun e => hw (e ▸ h3)
          exact Or.inr ⟨q, rfl, h1, by omega, h3, fun k a b => h4 k a (by omega)⟩
      exact ih (by omega) p hp2
/-- Chains go on from chain to chain. -/
theorem Rch.trans {l : List Tx} {i k j : Nat} (h1 : Rch l i k) (h2 : Rch l k j) : Rch l i j := by
  induction h2 with
  | base => exact h1
  | step _ a b ih => exact Rch.step ih a b
theorem rch_iff {l : List Tx} {i j : Nat} (h : i < j) : Rch l i j ↔ Nbr l i j ∨ ∃ k, i < k ∧ k < j ∧ Rch l i k ∧ Rch l k j := by
  constructor
  · intro hr
    cases hr with
    | base => omega
    | step h1 h2 h3 =>
      rename_i m
      by_cases hm : m = i
      · subst hm; exact Or.inl h3
      · have := h1.ge
        exact Or.inr ⟨m, by omega, h2, h1, Rch.step Rch.base h2 h3⟩
  · rintro (h1 | ⟨k, _, _, h1, h2⟩)
    · exact Rch.step Rch.base h h1
    · exact h1.trans h2
/-- Two stretches that follow one another are one. -/
theorem inS_lo (key s : ByteArray) (hk : key.toList ≠ []) : inS ⟨#[]⟩ key s = Op.bytesLess s.toList key.toList := by
  have hE0 : (⟨#[]⟩ : ByteArray).toList = [] := (tl_nil _).2 rfl
  unfold inS
  rw [hE0]
  have h1 : Op.bytesLess s.toList [] = false := by cases s.toList <;> rfl
  have h2 : (key.toList == []) = false := by simpa using hk
  rw [h1, h2]
  simp
theorem inS_hi (key s : ByteArray) : inS key ⟨#[]⟩ s = !(Op.bytesLess s.toList key.toList) := by
  have hE0 : (⟨#[]⟩ : ByteArray).toList = [] := (tl_nil _).2 rfl
  unfold inS
  rw [hE0]
  simp
theorem split_at {ps : List Pr} (h : Inc ps) (key : ByteArray) : ps.filter (fun p => Op.bytesLess p.1.toList key.toList) ++ ps.filter (fun p => !(Op.bytesLess p.1.toList key.toList)) = ps := by
  induction ps with
  | nil => rfl
  | cons p ps ih =>
    unfold Inc at h
    rw [List.pairwise_cons] at h
    have ih := ih h.2
    cases hp : Op.bytesLess p.1.toList key.toList with
    | true => simp only [List.filter_cons, hp]; simpa using ih
    | false =>
      have hall : ∀ q ∈ ps, Op.bytesLess q.1.toList key.toList = false := fun q hq => by
        cases hq2 : Op.bytesLess q.1.toList key.toList with
        | false => rfl
        | true => have := bl_trans (h.1 q hq) hq2; rw [hp] at this; cases this
      have e1 : ps.filter (fun p => Op.bytesLess p.1.toList key.toList) = [] := List.filter_eq_nil_iff.2 (fun q hq => by rw [hall q hq]; simp)
      have e2 : ps.filter (fun p => !(Op.bytesLess p.1.toList key.toList)) = ps := List.filter_eq_self.2 (fun q hq => by rw [hall q hq]; rfl)
      simp only [List.filter_cons, hp, e1, e2]
      simp
theorem inS_part (key en s : ByteArray) : inS key en s = (inS key ⟨#[]⟩ s && (en.toList == [] || Op.bytesLess s.toList en.toList)) := by
  rw [inS_hi]
  rfl
end Go.Proofs.Ytfminnmfdogopab

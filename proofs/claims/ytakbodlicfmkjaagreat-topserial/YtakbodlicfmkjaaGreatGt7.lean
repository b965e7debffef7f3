/- Contracts of mayBe and of fold's Get. Conditions as each names them. -/
import Derived.Test.YtakbodlicfmkjaaGreatCome
import Derived.Laws.Cover1
namespace Go.Proofs.YtakbodlicfmkjaaGreat.Fo
open Go.ChangeShapes Go.WideShapes Go.ChangeAt Go.RowKit Go.Lib Go.Maps
set_option linter.unusedVariables false
set_option linter.unusedSimpArgs false

/-- May a key be? -/
def okK (key : ByteArray) : Bool := !(key.toList == []) && decide (key.size ≤ 64)
theorem capplys_at (Pk : ByteArray → Bool) (s : ByteArray) (hs : Pk s = true) : ∀ (ws : List Wt) (E E' : ByteArray → Option ByteArray), E s = E' s → capplys Pk E ws s = capplys (fun _ => true) E' ws s
  | [], E, E', h => h
  | x :: ws, E, E', h => by
    show capplys Pk (capply Pk E x) ws s = capplys (fun _ => true) (capply (fun _ => true) E' x) ws s
    refine capplys_at Pk s hs ws _ _ ?_
    unfold capply
    rw [if_pos rfl]
    by_cases hk : Pk x.key = true
    · rw [if_pos hk]; unfold applyE; rw [h]
    · rw [if_neg hk]
      unfold applyE
      rw [if_neg (fun e => hk (by rw [← e]; exact hs)), h]
theorem capplys_off (Pk : ByteArray → Bool) (s : ByteArray) (hs : Pk s = false) : ∀ (ws : List Wt) (E : ByteArray → Option ByteArray), capplys Pk E ws s = E s
  | [], E => rfl
  | x :: ws, E => by
    show capplys Pk (capply Pk E x) ws s = E s
    rw [capplys_off Pk s hs ws]
    unfold capply
    by_cases hk : Pk x.key = true
    · rw [if_pos hk]; unfold applyE; rw [if_neg (fun e => by rw [e] at hs; rw [hs] at hk; cases hk)]
    · rw [if_neg hk]
theorem call_at' (Pk : ByteArray → Bool) (s : ByteArray) (hs : Pk s = true) : ∀ (l : List Tx) (E E' : ByteArray → Option ByteArray), E s = E' s → call Pk E l s = call (fun _ => true) E' l s
  | [], E, E', h => h
  | t :: l, E, E', h => call_at' Pk s hs l _ _ (capplys_at Pk s hs t.ws E E' h)
theorem call_off' (Pk : ByteArray → Bool) (s : ByteArray) (hs : Pk s = false) : ∀ (l : List Tx) (E : ByteArray → Option ByteArray), call Pk E l s = E s
  | [], E => rfl
  | t :: l, E => by
    show call Pk (capplys Pk E t.ws) l s = E s
    rw [call_off' Pk s hs l, capplys_off Pk s hs]
/-- What a log comes to. -/
def fo (l : List Tx) : ByteArray → Option ByteArray := call (fun _ => true) (fun _ => none) l
theorem call_fo (Pk : ByteArray → Bool) (l : List Tx) (s : ByteArray) : call Pk (fun _ => none) l s = if Pk s = true then fo l s else none := by
  by_cases h : Pk s = true
  · rw [if_pos h]; exact call_at' Pk s h l _ _ rfl
  · rw [if_neg h]; exact call_off' Pk s (by simpa using h) l _
/-- What Get tells. -/
def GTold (l : List Tx) (f : Int) (key : ByteArray) (val : ByteArray) (ok : Bool) (c : Nat) : Prop :=
  (CoTold l f c ∧ c ≠ 0 ∧ val = ⟨#[]⟩ ∧ ok = false) ∨ (CoTold l f 0 ∧ okK key = false ∧ c = 1 ∧ val = ⟨#[]⟩ ∧ ok = false) ∨
  (CoTold l f 0 ∧ okK key = true ∧ c = 0 ∧ val = (fo (l.take f.toNat) key).getD ⟨#[]⟩ ∧ ok = (fo (l.take f.toNat) key).isSome)
theorem GTold.ex (l : List Tx) (f : Int) (key : ByteArray) : ∃ val ok c, GTold l f key val ok c := by
  obtain ⟨c, hc⟩ := CoTold.ex l f
  by_cases h0 : c = 0
  · subst h0
    cases hk : okK key with
    | false => exact ⟨_, _, _, Or.inr (Or.inl ⟨hc, hk, rfl, rfl, rfl⟩)⟩
    | true => exact ⟨_, _, _, Or.inr (Or.inr ⟨hc, hk, rfl, rfl, rfl⟩)⟩
  · exact ⟨_, _, c, Or.inl ⟨hc, h0, rfl, rfl⟩⟩
theorem CoTold.ok0 {l : List Tx} {f : Int} (h : CoTold l f 0) : okL 1 l ∧ 0 ≤ f ∧ f ≤ (l.length : Int) := by
  rcases h with ⟨_, h0⟩ | ⟨_, _, h0⟩ | ⟨h1, h2, _⟩
  · exact absurd rfl h0
  · cases h0
  · exact ⟨h1, h2⟩
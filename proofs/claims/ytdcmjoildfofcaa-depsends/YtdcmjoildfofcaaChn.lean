/- Chains of common keys, and who wrote a key last, as plain facts on lists. Plain lemmas. -/
import Derived.Test.YtdcmjoildfofcaaWri7
namespace Go.Proofs.Ytdcmjoildfofcaa
open Go.ChangeShapes Go.WideShapes Go.ChangeAt Go.RowKit Go.Lib
set_option linter.unusedVariables false
set_option linter.unusedSimpArgs false

/-- Does number n of a log write the key s? -/
def Wrt (l : List Tx) (n : Nat) (s : ByteArray) : Prop := ∃ x ∈ (l.getD (n - 1) Tx.zero).ws, x.key = s
/-- p is the last one from i on ahead of n that writes s; 0: none. -/
def Prv (l : List Tx) (i n : Nat) (s : ByteArray) (p : Int) : Prop :=
  (p = 0 ∧ ∀ m, i ≤ m → m < n → ¬ Wrt l m s) ∨ ∃ q : Nat, p = (q : Int) ∧ i ≤ q ∧ q < n ∧ Wrt l q s ∧ ∀ m, q < m → m < n → ¬ Wrt l m s
theorem Prv.le {l : List Tx} {i n : Nat} {s : ByteArray} {p : Int} (h : Prv l i n s p) (h0 : 0 < n) : 0 ≤ p ∧ p < (n : Int) := by
  rcases h with ⟨rfl, _⟩ | ⟨q, rfl, _, h, _⟩ <;> omega
theorem Prv.one {l : List Tx} {i n : Nat} {s : ByteArray} {p q : Int} (hi : 0 < i) (h : Prv l i n s p) (h' : Prv l i n s q) : p = q := by
  rcases h with ⟨rfl, h⟩ | ⟨a, rfl, h1, h2, h3, h4⟩
  · rcases h' with ⟨rfl, _⟩ | ⟨b, rfl, k1, k2, k3, _⟩
    · rfl
    · exact absurd k3 (h b k1 k2)
  · rcases h' with ⟨rfl, k⟩ | ⟨b, rfl, k1, k2, k3, k4⟩
    · exact absurd h3 (k a h1 h2)
    · by_cases hab : a < b
      · exact absurd k3 (h4 b hab k2)
      · by_cases hba : b < a
        · exact absurd h3 (k4 a hba h2)
        · congr 1; omega
theorem Prv.skip {l : List Tx} {i n : Nat} {s : ByteArray} {p : Int} (h : Prv l i n s p) (hn : ¬ Wrt l n s) : Prv l i (n + 1) s p := by
  rcases h with ⟨rfl, h⟩ | ⟨a, rfl, h1, h2, h3, h4⟩
  · refine Or.inl ⟨rfl, fun m h1 h2 => ?_⟩
    by_cases e : m = n
    · subst e; exact hn
    · exact h m h1 (by omega)
  · refine Or.inr ⟨a, rfl, h1, by omega, h3, fun m k1 k2 => ?_⟩
    by_cases e : m = n
    · subst e; exact hn
    · exact h4 m k1 (by omega)
theorem Prv.hit {l : List Tx} {i n : Nat} {s : ByteArray} (hi : i ≤ n) (hn : Wrt l n s) : Prv l i (n + 1) s (n : Int) :=
  Or.inr ⟨n, rfl, hi, by omega, hn, fun m k1 k2 => by omega⟩
/-- What the map says while the writes of number n are noted: as before, and of the keys met so far that n wrote them last. -/
structure Mid (Pk : ByteArray → Bool) (n : Int) (F G : ByteArray → Int → Int) (ws : List Wt) : Prop where
  zero : ∀ s, Pk s = true → G s 0 = if ∃ x ∈ ws, x.key = s then n else F s 0
  own : ∀ s, Pk s = true → (∃ x ∈ ws, x.key = s) → G s n = F s 0
  rest : ∀ s m, m ≠ 0 → m ≠ n → G s m = F s m
theorem Mid.nil (Pk : ByteArray → Bool) (n : Int) (F : ByteArray → Int → Int) : Mid Pk n F F [] := ⟨fun s _ => by simp, fun s _ h => by simp at h, fun _ _ _ _ => rfl⟩
theorem Mid.step {Pk : ByteArray → Bool} {n : Int} {F G : ByteArray → Int → Int} {ws : List Wt} (h : Mid Pk n F G ws) (hn : n ≠ 0) (hF : ∀ s, Pk s = true → F s 0 ≠ n) (x : Wt) : Mid Pk n F (wnote Pk n G x) (ws ++ [x]) := by
  unfold wnote
  have hmem : ∀ s, (∃ y ∈ ws ++ [x], y.key = s) ↔ (∃ y ∈ ws, y.key = s) ∨ x.key = s := by
    intro s
    simp only [List.mem_append, List.mem_singleton]
    constructor
    · rintro ⟨y, hy | rfl, e⟩
      · exact Or.inl ⟨y, hy, e⟩
      · exact Or.inr e
    · rintro (⟨y, hy, e⟩ | e)
      · exact ⟨y, Or.inl hy, e⟩
      · exact ⟨x, Or.inr rfl, e⟩
  by_cases hp : Pk x.key = true
  · rw [if_pos hp]
    unfold noteF
    by_cases hin : ∃ y ∈ ws, y.key = x.key
    · -- noted already
      have e : G x.key 0 = n := by rw [h.zero _ hp, if_pos hin]
      rw [if_pos e]
      have hsame : ∀ s, (∃ y ∈ ws ++ [x], y.key = s) ↔ ∃ y ∈ ws, y.key = s := by
        intro s
        rw [hmem]
        constructor
        · rintro (h | rfl)
          · exact h
          · exact hin
        · exact Or.inl
      exact ⟨fun s hs => by rw [h.zero s hs]; simp only [hsame], fun s hs hw => h.own s hs ((hsame s).1 hw), h.rest⟩
    · have e0 : G x.key 0 = F x.key 0 := by rw [h.zero _ hp, if_neg hin]
      rw [if_neg (by rw [e0]; exact hF _ hp), e0]
      refine ⟨fun s hs => ?_, fun s hs hw => ?_, fun s m h0 h1 => ?_⟩
      · by_cases hsx : s = x.key
        · subst hsx
          rw [if_pos ((hmem _).2 (Or.inr rfl))]
          unfold upd
          rw [if_pos ⟨rfl, rfl⟩]
        · have : upd (upd G x.key n (F x.key 0)) x.key 0 n s 0 = G s 0 := by
            unfold upd
            rw [if_neg (fun h => hsx h.1), if_neg (fun h => hsx h.1)]
          rw [this, h.zero s hs]
          simp only [hmem]
          have hne : ¬ x.key = s := fun e => hsx e.symm
          simp only [hne, or_false]
      · by_cases hsx : s = x.key
        · subst hsx
          unfold upd
          rw [if_neg (fun h => hn h.2), if_pos ⟨rfl, rfl⟩]
        · have : upd (upd G x.key n (F x.key 0)) x.key 0 n s n = G s n := by
            unfold upd
            rw [if_neg (fun h => hsx h.1), if_neg (fun h => hsx h.1)]
          rw [this]
          rcases (hmem s).1 hw with hw | hw
          · exact h.own s hs hw
          · exact absurd hw.symm hsx
      · unfold upd
        rw [if_neg (fun h => h0 h.2), if_neg (fun h => h1 h.2)]
        exact h.rest s m h0 h1
  · rw [if_neg hp]
    refine ⟨fun s hs => ?_, fun s hs hw => ?_, h.rest⟩
    · rw [h.zero s hs]
      have hne : ¬ x.key = s := fun e => hp (by rw [e]; exact hs)
      simp only [hmem, hne, or_false]
    · rcases (hmem s).1 hw with hw | hw
      · exact h.own s hs hw
      · exact absurd (by rw [hw]; exact hs) hp
theorem mid_all {Pk : ByteArray → Bool} {n : Int} {F : ByteArray → Int → Int} (hn : n ≠ 0) (hF : ∀ s, Pk s = true → F s 0 ≠ n) (ws : List Wt) : Mid Pk n F (wnotes Pk n F ws) ws := by
  have key : ∀ (vs us : List Wt) (G : ByteArray → Int → Int), Mid Pk n F G us → Mid Pk n F (wnotes Pk n G vs) (us ++ vs) := by
    intro vs
    induction vs with
    | nil => intro us G h; simpa [wnotes] using h
    | cons x r ih =>
      intro us G h
      have := ih (us ++ [x]) (wnote Pk n G x) (h.step hn hF x)
      rw [List.append_assoc] at this
      exact this
  simpa using key ws [] F (Mid.nil Pk n F)
/-- The part of a log from number i on, of so many. -/
def part (l : List Tx) (i c : Nat) : List Tx := (l.drop (i - 1)).take c
theorem part_snoc {l : List Tx} {i c : Nat} (hi : 0 < i) (h : i + c ≤ l.length) : part l i (c + 1) = part l i c ++ [l.getD (i + c - 1) Tx.zero] := by
  unfold part
  rw [List.take_add_one, List.getElem?_drop, show i - 1 + c = i + c - 1 by omega, List.getElem?_eq_getElem (by omega), List.getD, List.getElem?_eq_getElem (by omega)]
  rfl
/-- What the map of writers says of a part of a log. -/
theorem wall_spec {Pk : ByteArray → Bool} {l : List Tx} (hok : okL 1 l) {i : Nat} (hi : 0 < i) : ∀ c, i + c ≤ l.length + 1 →
    (∀ s, Pk s = true → Prv l i (i + c) s (wall Pk (fun _ _ => 0) (part l i c) s 0)) ∧ ∀ (m : Nat) s, i ≤ m → m < i + c → Pk s = true → Wrt l m s → Prv l i m s (wall Pk (fun _ _ => 0) (part l i c) s (m : Int)) := by
  intro c
  induction c with
  | zero =>
    intro _
    refine ⟨fun s _ => Or.inl ⟨by simp [part, wall], fun m h1 h2 => by omega⟩, fun m s h1 h2 => by omega⟩
  | succ c ih =>
    intro hc
    obtain ⟨h0, h1⟩ := ih (by omega)
    obtain ⟨hx, hn⟩ := okL_get hok (i + c - 1) (by omega)
    have hn' : (l.getD (i + c - 1) Tx.zero).n = ((i + c : Nat) : Int) := by rw [hn]; congr 1; omega
    obtain ⟨t, ht⟩ : ∃ t, t = l.getD (i + c - 1) Tx.zero := ⟨_, rfl⟩
    have hw : ∀ s, Wrt l (i + c) s ↔ ∃ x ∈ t.ws, x.key = s := by intro s; rw [ht]; rfl
    rw [part_snoc hi (by omega), ← ht, wall_snoc]
    rw [← ht] at hn'
    rw [hn']
    have hM : Mid Pk ((i + c : Nat) : Int) (wall Pk (fun _ _ => 0) (part l i c)) (wnotes Pk ((i + c : Nat) : Int) (wall Pk (fun _ _ => 0) (part l i c)) t.ws) t.ws :=
      mid_all (by omega) (fun s hs => by have := (h0 s hs).le (by omega); omega) t.ws
    refine ⟨fun s hs => ?_, fun m s k1 k2 hs hwm => ?_⟩
    · rw [hM.zero s hs]
      by_cases hin : ∃ x ∈ t.ws, x.key = s
      · rw [if_pos hin]
        exact Prv.hit (n := i + c) (Nat.le_add_right i c) ((hw s).2 hin)
      · rw [if_neg hin]
        exact Prv.skip (n := i + c) (h0 s hs) (fun h => hin ((hw s).1 h))
    · by_cases e : m = i + c
      · subst e
        rw [hM.own s hs ((hw s).1 hwm)]
        exact h0 s hs
      · have k3 : m < i + c + 1 := k2
        have a0 : (m : Int) ≠ 0 := by omega
        have a1 : (m : Int) ≠ ((i + c : Nat) : Int) := by omega
        have a2 : m < i + c := by omega
        rw [hM.rest s m a0 a1]
        exact h1 m s k1 a2 hs hwm

/-- Have two a key in common? -/
def Nbr (l : List Tx) (m n : Nat) : Prop := ∃ s, Wrt l m s ∧ Wrt l n s
/-- To whom does a chain lead from i? -/
inductive Rch (l : List Tx) (i : Nat) : Nat → Prop
  | base : Rch l i i
  | step {m n : Nat} : Rch l i m → m < n → Nbr l m n → Rch l i n
theorem Rch.ge {l : List Tx} {i n : Nat} (h : Rch l i n) : i ≤ n := by
  induction h with
  | base => exact Nat.le_refl _
  | step _ h1 _ ih => omega
theorem Rch.inv {l : List Tx} {i n : Nat} (h : Rch l i n) (hn : i < n) : ∃ m, Rch l i m ∧ m < n ∧ Nbr l m n := by
  cases h with
  | base => omega
  | step h1 h2 h3 => exact ⟨_, h1, h2, h3⟩
/-- It is enough to ask of each key who wrote it last. -/
theorem Rch.by_last {l : List Tx} {i n : Nat} (hi : 0 < i) (hn : i < n) (P : ByteArray → Int) (hP : ∀ s, Wrt l n s → Prv l i n s (P s)) : Rch l i n ↔ ∃ x ∈ (l.getD (n - 1) Tx.zero).ws, ∃ q : Nat, P x.key = (q : Int) ∧ 0 < q ∧ Rch l i q := by
  constructor
  · intro h
    obtain ⟨m, h1, h2, s, h3, h4⟩ := h.inv hn
    obtain ⟨x, hx, rfl⟩ := h4
    have hp := hP x.key ⟨x, hx, rfl⟩
    have hm := h1.ge
    rcases hp with ⟨_, hp⟩ | ⟨q, hq, k1, k2, k3, k4⟩
    · exact absurd h3 (hp m hm h2)
    · refine ⟨x, hx, q, hq, by omega, ?_⟩
      by_cases e : q = m
      · rw [e]; exact h1
      · have hmq : m < q := by
          by_cases h : m < q
          · exact h
          · exact absurd h3 (k4 m (by omega) h2)
        exact Rch.step h1 hmq ⟨x.key, h3, k3⟩
  · rintro ⟨x, hx, q, hq, h0, h⟩
    have hw : Wrt l n x.key := ⟨x, hx, rfl⟩
    rcases hP x.key hw with ⟨e, _⟩ | ⟨q', e, k1, k2, k3, _⟩
    · rw [hq] at e; omega
    · have : q = q' := by rw [hq] at e; omega
      subst this
      exact Rch.step h k2 ⟨x.key, k3, hw⟩
end Go.Proofs.Ytdcmjoildfofcaa

/- A gate's numbers as plain mathematics: how far the mark goes, and bits of words. Plain lemmas. -/
import Derived.Test.YtakbodlicfmkjaaGreatDm11
import Derived.Lib.TrailingZeros
namespace Go.Proofs.YtakbodlicfmkjaaGreat
set_option linter.unusedVariables false
set_option linter.unusedSimpArgs false

/-- A number put into a rising list. -/
def insI (n : Int) : List Int → List Int
  | [] => [n]
  | x :: r => if n < x then n :: x :: r else x :: insI n r
theorem insI_mem (n y : Int) : ∀ xs, y ∈ insI n xs ↔ y = n ∨ y ∈ xs
  | [] => by simp [insI]
  | x :: r => by
    unfold insI
    split
    · simp
    · simp only [List.mem_cons, insI_mem n y r]
      constructor
      · rintro (h | h | h)
        · exact Or.inr (Or.inl h)
        · exact Or.inl h
        · exact Or.inr (Or.inr h)
      · rintro (h | h | h)
        · exact Or.inr (Or.inl h)
        · exact Or.inl h
        · exact Or.inr (Or.inr h)
theorem insI_ris (n : Int) : ∀ xs, Ris xs → n ∉ xs → Ris (insI n xs)
  | [], _, _ => List.pairwise_singleton _ _
  | x :: r, h, hn => by
    have h' := List.pairwise_cons.1 h
    unfold insI
    split
    · rename_i hlt
      refine List.pairwise_cons.2 ⟨fun y hy => ?_, h⟩
      rcases List.mem_cons.1 hy with e | e
      · omega
      · have := h'.1 y e; omega
    · rename_i hlt
      have hne : n ≠ x := fun e => hn (by simp [e])
      refine List.pairwise_cons.2 ⟨fun y hy => ?_, insI_ris n r h'.2 (fun e => hn (by simp [e]))⟩
      rcases (insI_mem n y r).1 hy with e | e
      · omega
      · exact h'.1 y e
theorem insI_length (n : Int) : ∀ xs, (insI n xs).length = xs.length + 1
  | [] => rfl
  | x :: r => by
    unfold insI
    split
    · simp
    · simp [insI_length n r]
/-- How far the mark goes, and who is beyond it then. -/
def adv (m : Int) : List Int → Int × List Int
  | [] => (m, [])
  | x :: r => if x = m + 1 then adv (m + 1) r else (m, x :: r)
/-- A mark, and those beyond it, rising. -/
structure Gt (m : Int) (xs : List Int) : Prop where
  low : 0 ≤ m
  top : m ≤ 65536
  ris : Ris xs
  bey : ∀ x ∈ xs, m < x ∧ x ≤ 65536
theorem Gt.few {m : Int} {xs : List Int} (h : Gt m xs) : xs.length ≤ 65536 := Ris.few (n := 65536) (a := 1) h.ris (fun x hx => by have := h.bey x hx; have := h.low; omega)
theorem Gt.tail {m x : Int} {r : List Int} (h : Gt m (x :: r)) (e : x = m + 1) : Gt (m + 1) r := by
  have h' := List.pairwise_cons.1 h.ris
  refine ⟨by have := h.low; omega, by have := h.bey x (by simp); omega, h'.2, fun y hy => ?_⟩
  have := h'.1 y hy
  have := h.bey y (by simp [hy])
  omega
theorem Gt.head {m x : Int} {r : List Int} (h : Gt m (x :: r)) : m + 1 ∈ x :: r ↔ x = m + 1 := by
  constructor
  · intro hm
    rcases List.mem_cons.1 hm with e | e
    · omega
    · have := (List.pairwise_cons.1 h.ris).1 _ e
      have := h.bey x (by simp)
      omega
  · intro e; simp [e]
theorem adv_gt : ∀ (xs : List Int) (m : Int), Gt m xs → Gt (adv m xs).1 (adv m xs).2 ∧ (adv m xs).1 + 1 ∉ (adv m xs).2 ∧ m ≤ (adv m xs).1 ∧ ∀ y, (y ≤ (adv m xs).1 ∨ y ∈ (adv m xs).2) ↔ (y ≤ m ∨ y ∈ xs)
  | [], m, h => ⟨h, by simp [adv], Int.le_refl _, fun y => Iff.rfl⟩
  | x :: r, m, h => by
    unfold adv
    split
    · rename_i e
      obtain ⟨h1, h2, h3, h4⟩ := adv_gt r (m + 1) (h.tail e)
      refine ⟨h1, h2, by omega, fun y => (h4 y).trans ?_⟩
      simp only [List.mem_cons]
      constructor
      · rintro (h | h)
        · by_cases hy : y = x
          · exact Or.inr (Or.inl hy)
          · exact Or.inl (by omega)
        · exact Or.inr (Or.inr h)
      · rintro (h | h | h)
        · exact Or.inl (by omega)
        · exact Or.inl (by omega)
        · exact Or.inr h
    · rename_i e
      exact ⟨h, fun hm => e (h.head.1 hm), Int.le_refl _, fun y => Iff.rfl⟩
theorem adv_step {m x : Int} {r : List Int} (e : x = m + 1) : adv m (x :: r) = adv (m + 1) r := by simp [adv, e]
theorem adv_stop {m : Int} {xs : List Int} (h : Gt m xs) (hn : m + 1 ∉ xs) : adv m xs = (m, xs) := by
  cases xs with
  | nil => rfl
  | cons x r => unfold adv; rw [if_neg (fun e => hn (h.head.2 e))]
/-- Those not above a number. -/
def upTo (xs : List Int) (a : Int) : List Int := xs.filter fun x => decide (x ≤ a)
theorem upTo_mem {xs : List Int} {a x : Int} : x ∈ upTo xs a ↔ x ∈ xs ∧ x ≤ a := by simp [upTo]
theorem upTo_snoc {xs : List Int} (h : Ris xs) {a b z : Int} (hz : z ∈ xs) (h1 : a < z) (h2 : z ≤ b) (hb : ∀ x ∈ xs, a < x → x ≤ b → x = z) : upTo xs b = upTo xs a ++ [z] := by
  refine Ris.one (h.filter _) (Ris.snoc (h.filter _) (fun x hx => by have := (upTo_mem.1 hx).2; omega)) (fun x => ?_)
  simp only [List.mem_append, List.mem_singleton]
  show x ∈ upTo xs b ↔ x ∈ upTo xs a ∨ x = z
  rw [upTo_mem, upTo_mem]
  constructor
  · rintro ⟨h3, h4⟩
    by_cases h5 : x ≤ a
    · exact Or.inl ⟨h3, h5⟩
    · exact Or.inr (hb x h3 (by omega) h4)
  · rintro (⟨h3, h4⟩ | rfl)
    · exact ⟨h3, by omega⟩
    · exact ⟨hz, h2⟩
theorem upTo_same {xs : List Int} {a b : Int} (hab : a ≤ b) (hb : ∀ x ∈ xs, a < x → ¬ x ≤ b) : upTo xs b = upTo xs a := by
  refine List.filter_congr (fun x hx => ?_)
  by_cases h : x ≤ a
  · simp [h]; omega
  · have := hb x hx (by omega)
    simp [h, this]
theorem upTo_all {xs : List Int} {a : Int} (h : ∀ x ∈ xs, x ≤ a) : upTo xs a = xs := List.filter_eq_self.2 (fun x hx => by simpa using h x hx)
theorem upTo_none {xs : List Int} {a : Int} (h : ∀ x ∈ xs, a < x) : upTo xs a = [] := List.filter_eq_nil_iff.2 (fun x hx => by have := h x hx; simp; omega)
/-- A number's word, its bit there. -/
def wdOf (n : Int) : Nat := (n.toNat - 1) / 64
def btOf (n : Int) : Nat := (n.toNat - 1) % 64
def pw2 (k : Nat) : Nat := 2 ^ k
def bitAt (ws : List Nat) (n : Int) : Bool := (ws.getD (wdOf n) 0).testBit (btOf n)
theorem wd_bt {n y : Int} (hn : 1 ≤ n) (hy : 1 ≤ y) : (wdOf n = wdOf y ∧ btOf n = btOf y) ↔ n = y := by
  unfold wdOf btOf
  constructor
  · rintro ⟨h1, h2⟩
    have := Nat.div_add_mod (n.toNat - 1) 64
    have := Nat.div_add_mod (y.toNat - 1) 64
    omega
  · rintro rfl; exact ⟨rfl, rfl⟩
theorem btOf_lt (n : Int) : btOf n < 64 := Nat.mod_lt _ (by decide)
theorem wdOf_lt {n : Int} (h1 : 1 ≤ n) (h2 : n ≤ 65536) : wdOf n < 1024 := by unfold wdOf; omega
theorem pw2_lt {k : Nat} (h : k < 64) : pw2 k < 2 ^ 64 := Nat.pow_lt_pow_right (by decide) h
/-- Words that hold just the bits of these numbers. -/
structure Wds (ws : List Nat) (xs : List Int) : Prop where
  len : ws.length = 1024
  low : ∀ x ∈ ws, x < 2 ^ 64
  bits : ∀ n, 1 ≤ n → n ≤ 65536 → (bitAt ws n = true ↔ n ∈ xs)
theorem Wds.at {ws : List Nat} {xs : List Int} (h : Wds ws xs) (i : Nat) : ws.getD i 0 < 2 ^ 64 := by
  by_cases hi : i < ws.length
  · simp [List.getD, hi]; exact h.low _ (List.getElem_mem _)
  · simp [List.getD, hi]
theorem Wds.zero : Wds (List.replicate 1024 0) [] := by
  refine ⟨List.length_replicate, fun x hx => ?_, fun n h1 h2 => ?_⟩
  · rw [(List.mem_replicate.1 hx).2]
    exact Nat.two_pow_pos _
  · have := wdOf_lt h1 h2
    have e : (List.replicate 1024 0).getD (wdOf n) 0 = 0 := by
      rw [List.getD, List.getElem?_replicate, if_pos this]
      rfl
    unfold bitAt
    rw [e]
    simp
theorem getD_set {ws : List Nat} {i j x : Nat} (hi : i < ws.length) : (ws.set i x).getD j 0 = if i = j then x else ws.getD j 0 := by
  by_cases h : i = j
  · subst h; simp [List.getD, hi]
  · simp [List.getD, h, List.getElem?_set]
theorem Wds.put {ws : List Nat} {xs ys : List Int} {n : Int} (h : Wds ws xs) (h1 : 1 ≤ n) (h2 : n ≤ 65536) (hy : ∀ y, y ∈ ys ↔ y = n ∨ y ∈ xs) : Wds (ws.set (wdOf n) (ws.getD (wdOf n) 0 ||| pw2 (btOf n))) ys := by
  have hw := wdOf_lt h1 h2
  refine ⟨by simp [h.len], fun x hx => ?_, fun y hy1 hy2 => ?_⟩
  · rcases List.mem_or_eq_of_mem_set hx with e | e
    · exact h.low x e
    · subst e
      exact Nat.or_lt_two_pow (h.at _) (pw2_lt (btOf_lt n))
  · rw [hy, ← h.bits y hy1 hy2, ← wd_bt hy1 h1]
    unfold bitAt
    rw [getD_set (by rw [h.len]; exact hw)]
    by_cases e : wdOf n = wdOf y
    · rw [if_pos e, Nat.testBit_or, pw2, Nat.testBit_two_pow, e]
      simp only [Bool.or_eq_true, decide_eq_true_eq, true_and]
      constructor
      · rintro (h3 | h3)
        · exact Or.inr h3
        · exact Or.inl h3.symm
      · rintro (h3 | h3)
        · exact Or.inr h3.symm
        · exact Or.inl h3
    · rw [if_neg e]
      constructor
      · exact Or.inr
      · rintro (⟨h3, _⟩ | h3)
        · exact absurd h3.symm e
        · exact h3
/-- One bit away. -/
theorem Wds.cut {ws : List Nat} {xs ys : List Int} {n : Int} (h : Wds ws xs) (h1 : 1 ≤ n) (h2 : n ≤ 65536) (hy : ∀ y, y ∈ ys ↔ y ≠ n ∧ y ∈ xs) {v : Nat} (hv : ∀ b, v.testBit b = ((ws.getD (wdOf n) 0).testBit b && !decide (btOf n = b))) : Wds (ws.set (wdOf n) v) ys := by
  have hw := wdOf_lt h1 h2
  refine ⟨by simp [h.len], fun x hx => ?_, fun y hy1 hy2 => ?_⟩
  · rcases List.mem_or_eq_of_mem_set hx with e | e
    · exact h.low x e
    · subst e
      refine Nat.lt_pow_two_of_testBit _ (fun b hb => ?_)
      rw [hv, Nat.testBit_lt_two_pow (Nat.lt_of_lt_of_le (h.at _) (Nat.pow_le_pow_right (by decide) hb))]
      rfl
  · rw [hy, ← h.bits y hy1 hy2, show (y ≠ n) ↔ _ from not_congr (wd_bt hy1 h1).symm]
    unfold bitAt
    rw [getD_set (by rw [h.len]; exact hw)]
    by_cases e : wdOf n = wdOf y
    · rw [if_pos e, hv, e]
      simp only [Bool.and_eq_true, Bool.not_eq_true', decide_eq_false_iff_not, true_and]
      constructor
      · rintro ⟨h3, h4⟩; exact ⟨fun x => h4 x.symm, h3⟩
      · rintro ⟨h3, h4⟩; exact ⟨h4, fun x => h3 x.symm⟩
    · rw [if_neg e]
      constructor
      · intro h3; exact ⟨fun x => e x.1.symm, h3⟩
      · rintro ⟨_, h3⟩; exact h3
/-- The lowest bit of a word: where it is, and the word without it. -/
theorem low_bit (x : Nat) (h0 : x ≠ 0) (hx : x < 2 ^ 64) : Lib.ctz 64 x < 64 ∧ x.testBit (Lib.ctz 64 x) = true ∧ (∀ b, b < Lib.ctz 64 x → x.testBit b = false) ∧ (∀ b, (x &&& (x - 1)).testBit b = (decide (Lib.ctz 64 x < b) && x.testBit b)) ∧ x &&& (x - 1) < x := by
  obtain ⟨q, hq, hc⟩ := Lib.ctzFrom_spec 64 x (by omega) hx
  have hz : Lib.ctz 64 x = Lib.ctzFrom 64 x := by unfold Lib.ctz; rw [if_neg h0]
  rw [hz]
  obtain ⟨c, hcc⟩ : ∃ c, c = Lib.ctzFrom 64 x := ⟨_, rfl⟩
  rw [← hcc] at hq hc ⊢
  have hp : 0 < 2 ^ c := Nat.two_pow_pos c
  have b0 : ∀ b, b < c → x.testBit b = false := by
    intro b hb
    rw [hq, Nat.mul_comm, Nat.testBit_mul_two_pow]
    have : ¬ c ≤ b := by omega
    simp [this]
  have b1 : x.testBit c = true := by
    rw [hq, Nat.mul_comm, Nat.testBit_mul_two_pow]
    simp
  have e1 : x - 1 = 2 ^ (c + 1) * q + (2 ^ c - 1) := by
    rw [hq, Nat.pow_succ, Nat.mul_add, Nat.mul_one, ← Nat.mul_assoc]
    omega
  have b2 : (x - 1).testBit c = false := by
    have := Nat.testBit_two_pow_mul_add (i := c + 1) q (b := 2 ^ c - 1) (by rw [Nat.pow_succ]; omega) c
    rw [e1, this, if_pos (by omega)]
    exact Nat.testBit_lt_two_pow (by omega)
  have b3 : ∀ b, c < b → (x - 1).testBit b = x.testBit b := by
    intro b hb
    have h1 := Nat.testBit_two_pow_mul_add (i := c + 1) q (b := 2 ^ c - 1) (by rw [Nat.pow_succ]; omega) b
    have h2 := Nat.testBit_two_pow_mul_add (i := c + 1) q (b := 2 ^ c) (by rw [Nat.pow_succ]; omega) b
    have e2 : x = 2 ^ (c + 1) * q + 2 ^ c := by
      rw [hq, Nat.pow_succ, Nat.mul_add, Nat.mul_one, ← Nat.mul_assoc]
    rw [e1, h1, if_neg (by omega)]
    rw [if_neg (by omega)] at h2
    rw [← h2, ← e2]
  have b4 : ∀ b, (x &&& (x - 1)).testBit b = (decide (c < b) && x.testBit b) := by
    intro b
    rw [Nat.testBit_and]
    by_cases h1 : c < b
    · rw [b3 b h1]; simp [h1]
    · by_cases h2 : b = c
      · subst h2; rw [b2]; simp
      · rw [b0 b (by omega)]; simp
  refine ⟨hc, b1, b0, b4, ?_⟩
  have h1 : x &&& (x - 1) ≤ x - 1 := Nat.and_le_right
  omega
end Go.Proofs.YtakbodlicfmkjaaGreat

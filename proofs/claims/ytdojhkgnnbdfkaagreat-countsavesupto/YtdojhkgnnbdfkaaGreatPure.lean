/- Short numbers, numbers with a sign and texts as bytes, and back: one form each. Plain lemmas on lists and numbers. -/
import Derived.Test.YtdojhkgnnbdfkaaGreatRea
namespace Go.Proofs.YtdojhkgnnbdfkaaGreat
open Go.ChangeShapes Go.WideShapes Go.ChangeAt Go.RowKit Go.Lib

theorem encF_low (f x : Nat) (h : x < 128) : encF f x = [x] := by
  cases f with
  | zero => simp [encF, Nat.mod_eq_of_lt h]
  | succ f => simp [encF, h]
theorem encF_high (f x : Nat) (h : 128 ≤ x) : encF (f + 1) x = (128 + x % 128) :: encF f (x / 128) := by
  simp only [encF]
  rw [if_neg (by omega)]

theorem short_form : ∀ (xs : List Nat) (i n : Nat), i ≤ 9 → (∀ x ∈ xs, x < 256) → (shortF i n xs).2.2 = 0 →
    ∃ v, (shortF i n xs).1 = n + 128 ^ i * v ∧ encF (9 - i) v = xs.take ((shortF i n xs).2.1 - i) ∧ (0 < i → 0 < v) := by
  intro xs
  induction xs with
  | nil => intro i n _ _ h; simp [shortF] at h
  | cons x r ih =>
    intro i n hi hb h
    have hx := hb x (by simp)
    have hsz := shortF_size (x :: r) i n h
    rw [shortF_cons] at h hsz ⊢
    split at h
    · simp at h
    · rename_i h1
      rw [if_neg h1] at hsz ⊢
      split at h
      · rename_i h2
        rw [if_pos h2]
        refine ⟨x, by rw [Nat.mul_comm], ?_, by omega⟩
        rw [encF_low _ _ h2]
        simp
      · rename_i h2
        rw [if_neg h2] at hsz ⊢
        have hi8 : i ≤ 8 := by omega
        obtain ⟨v, e1, e2, e3⟩ := ih (i + 1) (n + x % 128 * 128 ^ i) (by omega) (fun y hy => hb y (by simp [hy])) h
        have hv := e3 (by omega)
        have hs2 := shortF_size r _ _ h
        refine ⟨x % 128 + 128 * v, ?_, ?_, by omega⟩
        · rw [e1, Nat.pow_succ, Nat.mul_add, Nat.mul_comm (128 ^ i) (x % 128), Nat.mul_assoc]
          omega
        · rw [show 9 - i = (9 - (i + 1)) + 1 by omega, encF_high _ _ (by omega)]
          rw [show (x % 128 + 128 * v) / 128 = v by omega, e2, show 128 + (x % 128 + 128 * v) % 128 = x by omega]
          rw [show (shortF (i + 1) (n + x % 128 * 128 ^ i) r).2.1 - i = ((shortF (i + 1) (n + x % 128 * 128 ^ i) r).2.1 - (i + 1)) + 1 by omega, List.take_succ_cons]
theorem enc_short (xs : List Nat) (hb : ∀ x ∈ xs, x < 256) (h : (shortF 0 0 xs).2.2 = 0) : enc (shortF 0 0 xs).1 = xs.take (shortF 0 0 xs).2.1 := by
  obtain ⟨v, e1, e2, _⟩ := short_form xs 0 0 (by omega) hb h
  have : (shortF 0 0 xs).1 = v := by rw [e1]; simp
  rw [this]
  simpa [enc] using e2

theorem short_cons_low (i n x : Nat) (r : List Nat) (hx : x < 128) (h9 : i = 9 → x ≤ 1) (h0 : 0 < i → 0 < x) : shortF i n (x :: r) = (n + x * 128 ^ i, i + 1, 0) := by
  rw [shortF_cons, if_neg (by omega), if_pos hx]
theorem short_cons_high (i n x : Nat) (r : List Nat) (hx : 128 ≤ x) (h9 : i ≠ 9) : shortF i n (x :: r) = shortF (i + 1) (n + x % 128 * 128 ^ i) r := by
  rw [shortF_cons, if_neg (by omega), if_neg (by omega)]

theorem encF_shape (f v : Nat) : (v < 128 ∧ encF f v = [v]) ∨ (128 ≤ v ∧ ∃ y ys, encF f v = y :: ys) := by
  by_cases h : v < 128
  · exact Or.inl ⟨h, encF_low f v h⟩
  · refine Or.inr ⟨by omega, ?_⟩
    cases f with
    | zero => exact ⟨_, _, rfl⟩
    | succ f => exact ⟨_, _, encF_high f v (by omega)⟩

/-- The groups that are left, read behind i of them. -/
theorem short_back : ∀ (f i n v : Nat) (rest : List Nat), f + i = 9 → v < 2 * 128 ^ f → (0 < i → 0 < v) → shortF i n (encF f v ++ rest) = (n + 128 ^ i * v, i + (encF f v).length, 0) := by
  intro f
  induction f with
  | zero =>
    intro i n v rest hf hv h0
    have hv1 : v < 2 := by simpa using hv
    rw [encF_low 0 v (by omega)]
    simp only [List.cons_append, List.nil_append, List.length_cons, List.length_nil]
    rw [short_cons_low i n v rest (by omega) (by omega) h0, Nat.mul_comm]
  | succ f ih =>
    intro i n v rest hf hv h0
    by_cases h : v < 128
    · rw [encF_low _ v h]
      simp only [List.cons_append, List.nil_append, List.length_cons, List.length_nil]
      rw [short_cons_low i n v rest h (by omega) h0, Nat.mul_comm]
    · rw [encF_high f v (by omega)]
      simp only [List.cons_append, List.length_cons]
      rw [short_cons_high i n _ _ (by omega) (by omega)]
      rw [Nat.pow_succ] at hv
      rw [ih (i + 1) _ (v / 128) rest (by omega) (by omega) (by omega)]
      have e : n + (128 + v % 128) % 128 * 128 ^ i + 128 ^ (i + 1) * (v / 128) = n + 128 ^ i * v := by
        rw [show (128 + v % 128) % 128 = v % 128 by omega, Nat.pow_succ, Nat.mul_assoc, Nat.mul_comm (v % 128)]
        have : 128 ^ i * v = 128 ^ i * (v % 128) + 128 ^ i * (128 * (v / 128)) := by rw [← Nat.mul_add]; congr 1; omega
        omega
      rw [e]
      refine Prod.ext rfl (Prod.ext ?_ rfl)
      show i + 1 + (encF f (v / 128)).length = i + ((encF f (v / 128)).length + 1)
      omega
theorem short_enc (n : Nat) (rest : List Nat) (hn : n < 2 ^ 64) : shortF 0 0 (enc n ++ rest) = (n, (enc n).length, 0) := by
  have hp : 2 * 128 ^ 9 = 2 ^ 64 := by decide
  have := short_back 9 0 0 n rest rfl (by omega) (by omega)
  simp only [Nat.pow_zero, Nat.one_mul, Nat.zero_add] at this
  exact this

/-- Too few of the bytes of a number. -/
theorem short_few : ∀ (f i n v k : Nat), f + i = 9 → v < 2 * 128 ^ f → (0 < i → 0 < v) → k < (encF f v).length → shortF i n ((encF f v).take k) = (0, 0, 5) := by
  intro f
  induction f with
  | zero =>
    intro i n v k hf hv h0 hk
    have hv1 : v < 2 := by simpa using hv
    rw [encF_low 0 v (by omega)] at hk ⊢
    simp at hk
    subst hk
    simp [shortF]
  | succ f ih =>
    intro i n v k hf hv h0 hk
    by_cases h : v < 128
    · rw [encF_low _ v h] at hk ⊢
      simp at hk
      subst hk
      simp [shortF]
    · rw [encF_high f v (by omega)] at hk ⊢
      cases k with
      | zero => simp [shortF]
      | succ k =>
        simp only [List.length_cons] at hk
        rw [List.take_succ_cons, short_cons_high i n _ _ (by omega) (by omega)]
        rw [Nat.pow_succ] at hv
        exact ih (i + 1) _ (v / 128) k (by omega) (by omega) (by omega) (by omega)
theorem short_cut (n k : Nat) (hn : n < 2 ^ 64) (hk : k < (enc n).length) : shortF 0 0 ((enc n).take k) = (0, 0, 5) := by
  have hp : 2 * 128 ^ 9 = 2 ^ 64 := by decide
  exact short_few 9 0 0 n k rfl (by omega) (by omega) hk
theorem short_err : ∀ (xs : List Nat) (i n : Nat), (shortF i n xs).2.2 = 0 ∨ (shortF i n xs).2.2 = 4 ∨ (shortF i n xs).2.2 = 5 := by
  intro xs
  induction xs with
  | nil => intro i n; simp [shortF]
  | cons x r ih =>
    intro i n
    rw [shortF_cons]
    split
    · simp
    · split
      · simp
      · exact ih _ _
theorem text_form (L : Nat) (xs : List Nat) (hb : ∀ x ∈ xs, x < 256) (h : (textF (L : Int) xs).2.2 = 0) :
    enc (textF (L : Int) xs).1.size ++ strNs (textF (L : Int) xs).1 = xs.take (textF (L : Int) xs).2.1 := by
  unfold textF at h ⊢
  rw [if_neg (by omega)] at h ⊢
  split at h
  · rename_i h2; exact absurd h h2
  · rename_i h2
    rw [if_neg h2]
    split at h
    · simp at h
    · rename_i h3
      rw [if_neg h3]
      split at h
      · simp at h
      · rename_i h4
        rw [if_neg h4]
        have h2' : (shortF 0 0 xs).2.2 = 0 := by simpa using h2
        have hs := shortF_size xs 0 0 h2'
        have he := enc_short xs hb h2'
        simp only
        have hl : ((xs.drop (shortF 0 0 xs).2.1).take (shortF 0 0 xs).1).length = (shortF 0 0 xs).1 := by rw [List.length_take, List.length_drop]; omega
        rw [toBA_size, hl, strNs_toBA _ (fun x hx => hb x (List.mem_of_mem_drop (List.mem_of_mem_take hx))), he, List.take_add]
end Go.Proofs.YtdojhkgnnbdfkaaGreat

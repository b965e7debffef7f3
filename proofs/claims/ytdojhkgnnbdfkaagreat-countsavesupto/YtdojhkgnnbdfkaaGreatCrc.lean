/- The checksum as a function on numbers: one shift, eight shifts, a row of bytes; that it is linear, that no shift loses anything, and what one turned bit does. No conditions but those each lemma names. -/
import Derived.Test.YtdojhkgnnbdfkaaGreatHash
namespace Go.Proofs.YtdojhkgnnbdfkaaGreat

/-- One step of the sum. -/
def sh (c : Nat) : Nat := if c % 2 = 1 then (c / 2) ^^^ 2197175160 else c / 2
def shN : Nat → Nat → Nat
  | 0, c => c
  | n + 1, c => shN n (sh c)
def stepB (c x : Nat) : Nat := shN 8 (c ^^^ x)
def runB (c : Nat) (xs : List Nat) : Nat := xs.foldl stepB c
def more (s : Nat) (xs : List Nat) : Nat := 4294967295 - runB (4294967295 - s) xs

theorem sh_zero : sh 0 = 0 := by decide
theorem sh_lt (c : Nat) (h : c < 4294967296) : sh c < 4294967296 := by
  unfold sh
  split
  · exact Nat.xor_lt_two_pow (n := 32) (by omega) (by decide)
  · omega
theorem div2_xor (a b : Nat) : (a ^^^ b) / 2 = a / 2 ^^^ b / 2 := by
  apply Nat.eq_of_testBit_eq
  intro i
  simp [Nat.testBit_div_two, Nat.testBit_xor]
theorem mod2_xor (a b : Nat) : (a ^^^ b) % 2 = (a % 2 + b % 2) % 2 := by
  have h : (a ^^^ b).testBit 0 = (a.testBit 0 ^^ b.testBit 0) := Nat.testBit_xor a b 0
  simp only [Nat.testBit_zero] at h
  have h1 := Nat.mod_two_eq_zero_or_one a
  have h2 := Nat.mod_two_eq_zero_or_one b
  have h3 := Nat.mod_two_eq_zero_or_one (a ^^^ b)
  rcases h1 with h1 | h1 <;> rcases h2 with h2 | h2 <;> rcases h3 with h3 | h3 <;> simp_all
theorem sh_xor (a b : Nat) : sh (a ^^^ b) = sh a ^^^ sh b := by
  unfold sh
  have hm := mod2_xor a b
  have hd := div2_xor a b
  rcases Nat.mod_two_eq_zero_or_one a with h1 | h1 <;> rcases Nat.mod_two_eq_zero_or_one b with h2 | h2 <;> rw [h1, h2] at hm <;> simp [h1, h2, hm, hd]
  · rw [Nat.xor_assoc]
  · rw [Nat.xor_assoc, Nat.xor_assoc, Nat.xor_comm (b / 2) 2197175160]
  · rw [Nat.xor_assoc, ← Nat.xor_assoc 2197175160 (b / 2) 2197175160, Nat.xor_comm 2197175160 (b / 2), Nat.xor_assoc (b / 2), Nat.xor_self, Nat.xor_zero]
theorem sh_inj (c : Nat) (h : c < 4294967296) (h0 : sh c = 0) : c = 0 := by
  unfold sh at h0
  split at h0
  · have e : c / 2 = 2197175160 := by
      have := congrArg (· ^^^ 2197175160) h0
      simpa [Nat.xor_assoc] using this
    omega
  · omega
theorem sh_double (k : Nat) : sh (2 * k) = k := by
  unfold sh
  rw [if_neg (by omega)]
  omega

theorem shN_zero (n : Nat) : shN n 0 = 0 := by
  induction n with
  | zero => rfl
  | succ n ih => rw [shN, sh_zero, ih]
theorem shN_lt (n c : Nat) (h : c < 4294967296) : shN n c < 4294967296 := by
  induction n generalizing c with
  | zero => exact h
  | succ n ih => exact ih _ (sh_lt c h)
theorem shN_xor (n a b : Nat) : shN n (a ^^^ b) = shN n a ^^^ shN n b := by
  induction n generalizing a b with
  | zero => rfl
  | succ n ih => rw [shN, sh_xor, ih]; rfl
theorem shN_inj (n c : Nat) (h : c < 4294967296) (h0 : shN n c = 0) : c = 0 := by
  induction n generalizing c with
  | zero => exact h0
  | succ n ih => exact sh_inj c h (ih _ (sh_lt c h) h0)
theorem shN_add (m n c : Nat) : shN (m + n) c = shN n (shN m c) := by
  induction m generalizing c with
  | zero => simp [shN]
  | succ m ih => rw [show m + 1 + n = (m + n) + 1 from by omega, shN, ih]; rfl
theorem shN_succ (n c : Nat) : shN (n + 1) c = sh (shN n c) := by
  rw [shN_add n 1 c]; rfl
theorem shN_pow (i k : Nat) : shN i (2 ^ i * k) = k := by
  induction i generalizing k with
  | zero => simp [shN]
  | succ i ih =>
    rw [shN, show 2 ^ (i + 1) * k = 2 * (2 ^ i * k) from by rw [Nat.pow_succ]; simp only [Nat.mul_comm, Nat.mul_left_comm], sh_double, ih]
theorem shN_bit (i n : Nat) (h : i ≤ n) : shN n (2 ^ i) = shN (n - i) 1 := by
  have e : n = i + (n - i) := by omega
  have := shN_add i (n - i) (2 ^ i * 1)
  rw [shN_pow, Nat.mul_one, ← e] at this
  exact this

theorem stepB_lt (c x : Nat) (h : c < 4294967296) (hx : x < 256) : stepB c x < 4294967296 :=
  shN_lt _ _ (Nat.xor_lt_two_pow (n := 32) h (by omega))
theorem runB_lt (c : Nat) (xs : List Nat) (h : c < 4294967296) (hx : ∀ x ∈ xs, x < 256) : runB c xs < 4294967296 := by
  induction xs generalizing c with
  | nil => exact h
  | cons x xs ih => exact ih _ (stepB_lt c x h (hx x (by simp))) (fun y hy => hx y (by simp [hy]))
theorem runB_append (c : Nat) (xs ys : List Nat) : runB c (xs ++ ys) = runB (runB c xs) ys := by simp [runB]
theorem runB_snoc (c : Nat) (xs : List Nat) (x : Nat) : runB c (xs ++ [x]) = stepB (runB c xs) x := by simp [runB]
theorem stepB_xor (c d x : Nat) : stepB (c ^^^ d) x = stepB c x ^^^ shN 8 d := by
  unfold stepB
  rw [← shN_xor, Nat.xor_assoc, Nat.xor_comm d x, ← Nat.xor_assoc]
theorem runB_xor (c d : Nat) (xs : List Nat) : runB (c ^^^ d) xs = runB c xs ^^^ shN (8 * xs.length) d := by
  induction xs generalizing c d with
  | nil => rfl
  | cons x xs ih =>
    show runB (stepB (c ^^^ d) x) xs = runB (stepB c x) xs ^^^ _
    rw [stepB_xor, ih, ← shN_add]
    congr 2
    simp [Nat.mul_add, Nat.add_comm]
/-- What turning bits of one byte does to the sum of all. -/
theorem runB_turn (c : Nat) (xs : List Nat) (j m : Nat) (hj : j < xs.length) :
    runB c (xs.set j (xs.getD j 0 ^^^ m)) = runB c xs ^^^ shN (8 * (xs.length - j)) m := by
  induction xs generalizing c j with
  | nil => simp at hj
  | cons x xs ih =>
    cases j with
    | zero =>
      show runB (stepB c (x ^^^ m)) xs = runB (stepB c x) xs ^^^ _
      have e : stepB c (x ^^^ m) = stepB c x ^^^ shN 8 m := by
        unfold stepB
        rw [← shN_xor, Nat.xor_assoc]
      rw [e, runB_xor, ← shN_add]
      congr 2
      simp [Nat.mul_add, Nat.add_comm]
    | succ j =>
      have := ih (stepB c x) j (by simpa using hj)
      show runB (stepB c x) (xs.set j (xs.getD j 0 ^^^ m)) = _
      rw [this]
      simp [runB]
/-- One turned bit, as part of a row of bits that begins at 'a'. -/
theorem runB_bit (c : Nat) (xs : List Nat) (a i : Nat) (h : a + i < 8 * xs.length) :
    runB c (xs.set ((a + i) / 8) (xs.getD ((a + i) / 8) 0 ^^^ 2 ^ ((a + i) % 8))) = runB c xs ^^^ shN (8 * xs.length - a) (2 ^ i) := by
  rw [runB_turn c xs _ _ (by omega), shN_bit _ _ (by omega), shN_bit i _ (by omega)]
  congr 2
  omega

/-- The bits that were turned so far (m), of those below i. -/
structure Turned (xs ys : List Nat) (a i m : Nat) : Prop where
  len : ys.length = xs.length
  low : ∀ y ∈ ys, y < 256
  most : m < 2 ^ i
  sum : ∀ c, runB c ys = runB c xs ^^^ shN (8 * xs.length - a) m
theorem Turned.start (xs : List Nat) (a : Nat) (h : ∀ x ∈ xs, x < 256) : Turned xs xs a 0 0 :=
  ⟨rfl, h, by simp, fun c => by rw [shN_zero, Nat.xor_zero]⟩
theorem Turned.stay {xs ys : List Nat} {a i m : Nat} (h : Turned xs ys a i m) : Turned xs ys a (i + 1) m :=
  ⟨h.len, h.low, by have := h.most; rw [Nat.pow_succ]; omega, h.sum⟩
theorem xor_join (i m : Nat) (h : m < 2 ^ i) : m ^^^ 2 ^ i = m + 2 ^ i := by
  have := Nat.two_pow_add_eq_or_of_lt (b := m) (i := i) h 1
  rw [Nat.mul_one] at this
  rw [Nat.add_comm m, this]
  apply Nat.eq_of_testBit_eq
  intro k
  rw [Nat.testBit_xor, Nat.testBit_or]
  by_cases hk : k < i
  · simp [show i ≠ k by omega]
  · rw [Nat.testBit_lt_two_pow (Nat.lt_of_lt_of_le h (Nat.pow_le_pow_right (by omega) (by omega)))]
    simp
theorem Turned.turn {xs ys : List Nat} {a i m : Nat} (h : Turned xs ys a i m) (hb : a + i < 8 * xs.length) :
    Turned xs (ys.set ((a + i) / 8) (ys.getD ((a + i) / 8) 0 ^^^ 2 ^ ((a + i) % 8))) a (i + 1) (m + 2 ^ i) := by
  have hl := h.len
  refine ⟨by simp [hl], ?_, by have := h.most; rw [Nat.pow_succ]; omega, fun c => ?_⟩
  · intro y hy
    rcases List.mem_or_eq_of_mem_set hy with hy | rfl
    · exact h.low y hy
    · refine Nat.xor_lt_two_pow (n := 8) ?_ ?_
      · have hj : (a + i) / 8 < ys.length := by omega
        have : ys.getD ((a + i) / 8) 0 = ys[(a + i) / 8] := by simp [List.getD, hj]
        rw [this]
        exact h.low _ (List.getElem_mem _)
      · exact Nat.pow_lt_pow_right (by omega) (by omega)
  · rw [runB_bit c ys a i (by omega), h.sum, hl, Nat.xor_assoc, ← shN_xor, xor_join i m h.most]
theorem xor_eq_self {a b : Nat} (h : a = a ^^^ b) : b = 0 := by
  have := congrArg (a ^^^ ·) h
  simp only [Nat.xor_self, ← Nat.xor_assoc, Nat.zero_xor] at this
  exact this.symm
theorem Turned.more_ne {xs ys : List Nat} {a m : Nat} (h : Turned xs ys a 32 m) (hx : ∀ x ∈ xs, x < 256) (hm : m ≠ 0) : more 0 ys ≠ more 0 xs := by
  intro e
  have e : 4294967295 - runB 4294967295 ys = 4294967295 - runB 4294967295 xs := e
  have h1 := runB_lt 4294967295 ys (by omega) h.low
  have h2 := runB_lt 4294967295 xs (by omega) hx
  have e2 : runB 4294967295 ys = runB 4294967295 xs := by omega
  rw [h.sum] at e2
  exact hm (shN_inj _ m h.most (xor_eq_self e2.symm))
theorem Turned.more_eq {xs ys : List Nat} {a i : Nat} (h : Turned xs ys a i 0) : more 0 ys = more 0 xs := by
  unfold more
  rw [h.sum, shN_zero, Nat.xor_zero]

/-- Eight shifts of a number: its upper bits move down, its lowest byte is looked up. -/
theorem stepB_look (c x : Nat) : stepB c x = (c / 256) ^^^ shN 8 ((c % 256) ^^^ x) := by
  have e : c = (2 ^ 8 * (c / 256)) ^^^ (c % 256) := by
    apply Nat.eq_of_testBit_eq
    intro i
    rw [Nat.testBit_xor, Nat.testBit_two_pow_mul, show (256 : Nat) = 2 ^ 8 from rfl, Nat.testBit_mod_two_pow, Nat.testBit_div_two_pow]
    by_cases hi : 8 ≤ i
    · simp [hi, show ¬ i < 8 by omega]
    · simp [hi, show i < 8 by omega]
  unfold stepB
  conv => lhs; rw [e]
  rw [Nat.xor_assoc, shN_xor, shN_pow]

theorem more_nil (s : Nat) (h : s < 4294967296) : more s [] = s := by unfold more runB; simp; omega
theorem more_append (s : Nat) (xs ys : List Nat) (h : s < 4294967296) (hx : ∀ x ∈ xs, x < 256) : more (more s xs) ys = more s (xs ++ ys) := by
  have := runB_lt (4294967295 - s) xs (by omega) hx
  unfold more
  rw [runB_append, show 4294967295 - (4294967295 - runB (4294967295 - s) xs) = runB (4294967295 - s) xs from by omega]
theorem more_lt (s : Nat) (xs : List Nat) : more s xs < 4294967296 := by unfold more; omega

/-- The table, as it is made. -/
def T1 : Nat → List Nat
  | 0 => List.replicate 256 0
  | i + 1 => (T1 i).set (128 / 2 ^ i) (shN (i + 1) 1)
def T2 : Nat → List Nat
  | 0 => T1 8
  | i + 1 => (T2 i).set i ((T2 i).getD (i &&& (i - 1)) 0 ^^^ (T2 i).getD (i - (i &&& (i - 1))) 0)
theorem T1_length (i : Nat) : (T1 i).length = 256 := by
  induction i with
  | zero => exact List.length_replicate
  | succ i ih => rw [T1, List.length_set, ih]
theorem T2_length (i : Nat) : (T2 i).length = 256 := by
  induction i with
  | zero => exact T1_length 8
  | succ i ih => rw [T2, List.length_set, ih]
def tab : List Nat := (List.range 256).map (shN 8)
def t2go : Nat → Nat → List Nat → List Nat
  | 0, _, l => l
  | n + 1, i, l => t2go n (i + 1) (l.set i (l.getD (i &&& (i - 1)) 0 ^^^ l.getD (i - (i &&& (i - 1))) 0))
theorem t2go_eq (n i : Nat) : t2go n i (T2 i) = T2 (i + n) := by
  induction n generalizing i with
  | zero => rfl
  | succ n ih =>
    show t2go n (i + 1) (T2 (i + 1)) = _
    rw [ih, show i + 1 + n = i + (n + 1) from by omega]
theorem tab_eq0 : t2go 256 0 (T1 8) = tab := by decide +kernel
theorem tab_eq : T2 256 = tab := by rw [← tab_eq0, show T1 8 = T2 0 from rfl, t2go_eq]
theorem tab_get (v : Nat) (h : v < 256) : tab.getD v 0 = shN 8 v := by simp [tab, List.getD, h]

theorem alive_crc : more 0 [49, 50, 51, 52, 53, 54, 55, 56, 57] = 3808858755 := by decide +kernel
end Go.Proofs.YtdojhkgnnbdfkaaGreat
/- Texts of this claim laid together, one behind the other: contracts and plain lemmas; conditions as each names them. -/
import Derived.Test.YtdojhkgnnbdfkaaGreatGp1
import Derived.Laws.BitsAllLaws
import Derived.Laws.ShiftsVarLaws
/- The short number's bytes and how they are read, as plain functions on numbers and lists, and what follows. No conditions but those each lemma names. -/
namespace Go.Proofs.YtdojhkgnnbdfkaaGreat
open Go.ChangeShapes Go.WideShapes Go.ChangeAt Go.RowKit Go.Lib

/-- A short number's bytes, f groups at most and one more. -/
def encF : Nat → Nat → List Nat
  | 0, n => [n % 128]
  | f + 1, n => if n < 128 then [n] else (128 + n % 128) :: encF f (n / 128)
def enc (n : Nat) : List Nat := encF 9 n

theorem encF_more (f : Nat) : ∀ n k, n < 128 ^ (f + 1) → encF (f + k) n = encF f n := by
  induction f with
  | zero =>
    intro n k h
    cases k with
    | zero => rfl
    | succ k =>
      have h' : n < 128 := by simpa using h
      simp [encF, h', Nat.mod_eq_of_lt h']
  | succ f ih =>
    intro n k h
    rw [show f + 1 + k = (f + k) + 1 from by omega]
    simp only [encF]
    split
    · rfl
    · rw [ih]
      rw [Nat.pow_succ] at h
      omega
theorem enc_low (n : Nat) (h : n < 128) : enc n = [n] := by simp [enc, encF, h]
theorem enc_high (n : Nat) (h : 128 ≤ n) (h2 : n < 2 ^ 64) : enc n = (128 + n % 128) :: enc (n / 128) := by
  have : ¬ n < 128 := by omega
  simp only [enc]
  rw [show (9 : Nat) = 8 + 1 from rfl]
  conv => lhs; unfold encF
  rw [if_neg this]
  congr 1
  exact (encF_more 8 (n / 128) 1 (by omega)).symm
theorem encF_length (f : Nat) : ∀ n, 1 ≤ (encF f n).length ∧ (encF f n).length ≤ f + 1 := by
  induction f with
  | zero => intro n; simp [encF]
  | succ f ih =>
    intro n
    simp only [encF]
    split
    · simp
    · have := ih (n / 128)
      simp only [List.length_cons]
      omega
theorem enc_length (n : Nat) : 1 ≤ (enc n).length ∧ (enc n).length ≤ 10 := encF_length 9 n
theorem encF_lt (f : Nat) : ∀ n, ∀ x ∈ encF f n, x < 256 := by
  induction f with
  | zero => intro n x hx; simp [encF] at hx; omega
  | succ f ih =>
    intro n x hx
    simp only [encF] at hx
    split at hx
    · simp at hx; omega
    · rcases List.mem_cons.1 hx with rfl | hx
      · omega
      · exact ih _ x hx
theorem enc_lt (n : Nat) : ∀ x ∈ enc n, x < 256 := encF_lt 9 n
/-! ### Zigzag -/
def zig (x : Int) : Int := if x < 0 then -2 * x - 1 else 2 * x
def zag (y : Int) : Int := if y % 2 = 0 then y / 2 else -1 - y / 2
theorem zag_zig (x : Int) : zag (zig x) = x := by unfold zag zig; split <;> split <;> omega
theorem zig_zag (y : Int) (h : 0 ≤ y) : zig (zag y) = y := by unfold zag zig; split <;> split <;> omega
theorem zig_bd (x : Int) (h0 : -9223372036854775808 ≤ x) (h1 : x ≤ 9223372036854775807) : 0 ≤ zig x ∧ zig x ≤ 18446744073709551615 := by unfold zig; split <;> omega
theorem zag_bd (y : Int) (h0 : 0 ≤ y) (h1 : y ≤ 18446744073709551615) : -9223372036854775808 ≤ zag y ∧ zag y ≤ 9223372036854775807 := by unfold zag; split <;> omega
theorem xor_ones (a : Nat) (ha : a < 18446744073709551616) : a ^^^ 18446744073709551615 = 18446744073709551615 - a := by
  have h : (BitVec.ofNat 64 a ^^^ BitVec.allOnes 64).toNat = (~~~ (BitVec.ofNat 64 a)).toNat := by rw [BitVec.xor_allOnes]
  rw [BitVec.toNat_xor, BitVec.toNat_not, BitVec.toNat_allOnes, BitVec.toNat_ofNat, Nat.mod_eq_of_lt (by simpa using ha)] at h
  simpa using h
theorem zig_code (x : Int) (h0 : -9223372036854775808 ≤ x) (h1 : x ≤ 9223372036854775807) :
    bits .xor .u64 (IntKind.u64.wrap (wrap64 (x * 2))) (IntKind.u64.wrap (x / 9223372036854775808)) = zig x := by
  have e1 : IntKind.u64.wrap (wrap64 (x * 2)) = (((x * 2) % 18446744073709551616).toNat : Nat) := by
    simp only [wrap64, IntKind.wrap, IntKind.bits, IntKind.signed]; simp; omega
  by_cases hx : x < 0
  · have e2 : IntKind.u64.wrap (x / 9223372036854775808) = ((18446744073709551615 : Nat) : Int) := by
      rw [show x / 9223372036854775808 = -1 by omega]; decide
    rw [e1, e2, u64_xor_nat _ _ (by omega) (by omega), xor_ones _ (by omega)]
    unfold zig; rw [if_pos hx]; omega
  · have e2 : IntKind.u64.wrap (x / 9223372036854775808) = ((0 : Nat) : Int) := by
      rw [show x / 9223372036854775808 = 0 by omega]; decide
    rw [e1, e2, u64_xor_nat _ _ (by omega) (by omega), Nat.xor_zero]
    unfold zig; rw [if_neg hx]; omega
theorem and_1 (x : Int) (h0 : 0 ≤ x) (h1 : x ≤ 18446744073709551615) : bits .and .u64 x 1 = x % 2 := by
  rw [u64_and x 1 h0 (by omega) (by omega) (by omega)]
  rw [show (1 : Int).toNat = 1 by decide, nat_mask1]; omega
theorem xor_i64_m1 (a : Int) (h0 : 0 ≤ a) (h1 : a < 9223372036854775808) : bits .xor .i64 a (-1) = -1 - a := by
  show IntKind.i64.wrap ((BitVec.ofInt 64 a ^^^ BitVec.ofInt 64 (-1)).toNat : Int) = _
  have e : BitVec.ofInt 64 (-1) = BitVec.allOnes 64 := by decide
  rw [e, BitVec.xor_allOnes, BitVec.toNat_not, BitVec.toNat_ofInt]
  simp [IntKind.wrap, IntKind.bits, IntKind.signed]
  omega
theorem xor_i64_0 (a : Int) (h0 : 0 ≤ a) (h1 : a < 9223372036854775808) : bits .xor .i64 a 0 = a := by
  show IntKind.i64.wrap ((BitVec.ofInt 64 a ^^^ BitVec.ofInt 64 0).toNat : Int) = _
  have e : BitVec.ofInt 64 0 = 0#64 := by decide
  rw [e, BitVec.xor_zero, BitVec.toNat_ofInt]
  simp [IntKind.wrap, IntKind.bits, IntKind.signed]
  omega
theorem zag_code (x : Int) (h0 : 0 ≤ x) (h1 : x ≤ 18446744073709551615) :
    bits .xor .i64 (x / 2) (wrap64 (-wrap64 (bits .and .u64 x 1))) = zag x := by
  rw [and_1 x h0 h1]
  unfold zag
  by_cases h : x % 2 = 0
  · rw [if_pos h, h, show wrap64 (-wrap64 0) = 0 by unfold wrap64; decide]
    exact xor_i64_0 _ (by omega) (by omega)
  · have h' : x % 2 = 1 := by omega
    rw [if_neg h, h', show wrap64 (-wrap64 1) = -1 by unfold wrap64; decide]
    exact xor_i64_m1 _ (by omega) (by omega)


theorem or128 (m : Nat) : bits .or .u8 ((m : Int) % 256) 128 = ((128 + m % 128 : Nat) : Int) := by
  have e : ((m : Int) % 256) = ((m % 256 : Nat) : Int) := by omega
  rw [e]
  have h : ∀ r : Fin 256, bits .or .u8 ((r.val : Nat) : Int) 128 = ((128 + r.val % 128 : Nat) : Int) := by decide +kernel
  have := h ⟨m % 256, by omega⟩
  simp only at this
  rw [this]
  omega
theorem shr7 (m : Nat) : (m : Int) / 128 = ((m / 128 : Nat) : Int) := by omega

/-- A number in k bytes, the lowest first. -/
def leB : Nat → Nat → List Nat
  | 0, _ => []
  | k + 1, n => n % 256 :: leB k (n / 256)
theorem leB_length (k : Nat) : ∀ n, (leB k n).length = k := by
  induction k with
  | zero => intro n; rfl
  | succ k ih => intro n; simp [leB, ih]
theorem leB_lt (k : Nat) : ∀ n, ∀ x ∈ leB k n, x < 256 := by
  induction k with
  | zero => intro n x hx; simp [leB] at hx
  | succ k ih =>
    intro n x hx
    simp only [leB] at hx
    rcases List.mem_cons.1 hx with rfl | hx
    · omega
    · exact ih _ x hx
theorem shr8 (m : Nat) : (m : Int) / 256 = ((m / 256 : Nat) : Int) := by omega
theorem mod8 (m : Nat) : (m : Int) % 256 = ((m % 256 : Nat) : Int) := by omega

/-- A short number taken off some bytes: it, its bytes' number, what is wrong. -/
def shortF : Nat → Nat → List Nat → Nat × Nat × Nat
  | _, _, [] => (0, 0, 5)
  | i, n, x :: r => if (i = 9 ∧ 1 < x) ∨ (0 < i ∧ x = 0) then (0, 0, 4) else if x < 128 then (n + x * 128 ^ i, i + 1, 0) else shortF (i + 1) (n + x % 128 * 128 ^ i) r
theorem shortF_cons (i n x : Nat) (r : List Nat) : shortF i n (x :: r) = if (i = 9 ∧ 1 < x) ∨ (0 < i ∧ x = 0) then (0, 0, 4) else if x < 128 then (n + x * 128 ^ i, i + 1, 0) else shortF (i + 1) (n + x % 128 * 128 ^ i) r := rfl

theorem wr_u64 (n : Int) : IntKind.u64.wrap n = n % 18446744073709551616 := by simp [IntKind.wrap, IntKind.bits, IntKind.signed]
theorem andNot128 (x : Nat) (hx : x < 256) : bits .andNot .u8 (x : Int) 128 = ((x % 128 : Nat) : Int) := by
  have h : ∀ r : Fin 256, bits .andNot .u8 ((r.val : Nat) : Int) 128 = ((r.val % 128 : Nat) : Int) := by decide +kernel
  exact h ⟨x, hx⟩
theorem pow128 (i : Nat) : 128 ^ i = 2 ^ (7 * i) := by rw [show (128 : Nat) = 2 ^ 7 from rfl, ← Nat.pow_mul]
theorem grp_bd (n y i : Nat) (hn : n < 128 ^ i) (hi : i ≤ 9) (hy : y < 128) (h9 : i = 9 → y ≤ 1) : y * 128 ^ i ≤ 9223372036854775808 ∧ n + y * 128 ^ i < 128 ^ (i + 1) ∧ n + y * 128 ^ i < 18446744073709551616 := by
  have e : 128 ^ (i + 1) = 128 * 128 ^ i := by rw [Nat.pow_succ, Nat.mul_comm]
  have hyi : y * 128 ^ i ≤ 127 * 128 ^ i := Nat.mul_le_mul_right _ (by omega)
  by_cases h : i = 9
  · subst h
    have := h9 rfl
    have e9 : (128 : Nat) ^ 9 = 9223372036854775808 := by decide
    rw [e9] at *
    have : y * 9223372036854775808 ≤ 1 * 9223372036854775808 := Nat.mul_le_mul_right _ this
    omega
  · have hp : 128 ^ i ≤ 128 ^ 8 := Nat.pow_le_pow_right (by decide) (by omega)
    have e8 : (128 : Nat) ^ 8 = 72057594037927936 := by decide
    rw [e8] at hp
    omega
theorem grp (n x i : Nat) (hn : n < 128 ^ i) (hi : i ≤ 9) (hx : x < 256) (h9 : i = 9 → x % 128 ≤ 1) :
    bits BinOp.or IntKind.u64 (n : Int) (IntKind.u64.wrap (IntKind.u64.wrap (bits BinOp.andNot IntKind.u8 (x : Int) 128) * 2 ^ (7 * i))) = ((n + x % 128 * 128 ^ i : Nat) : Int) := by
  have hb := grp_bd n (x % 128) i hn hi (by omega) h9
  rw [andNot128 x hx, wr_u64, wr_u64]
  have e1 : (((x % 128 : Nat) : Int) % 18446744073709551616) = ((x % 128 : Nat) : Int) := by omega
  rw [e1]
  have e2 : (((x % 128 : Nat) : Int) * 2 ^ (7 * i)) = ((x % 128 * 128 ^ i : Nat) : Int) := by rw [pow128]; simp
  rw [e2]
  have e3 : (((x % 128 * 128 ^ i : Nat) : Int) % 18446744073709551616) = ((x % 128 * 128 ^ i : Nat) : Int) := by omega
  rw [e3, u64_or_nat _ _ (by omega) (by omega)]
  rw [Nat.or_comm, nat_join (7 * i) _ _ (by rw [pow128]; exact Nat.mul_mod_left _ _) (by rw [← pow128]; exact hn), Nat.add_comm]
theorem shortF_size : ∀ (xs : List Nat) (i n : Nat), (shortF i n xs).2.2 = 0 → 0 < xs.length ∧ i < (shortF i n xs).2.1 ∧ (shortF i n xs).2.1 ≤ i + xs.length := by
  intro xs
  induction xs with
  | nil => intro i n h; simp [shortF] at h
  | cons x r ih =>
    intro i n h
    rw [shortF_cons] at h ⊢
    split at h
    · simp at h
    · rename_i h1
      rw [if_neg h1]
      split at h
      · rename_i h2
        rw [if_pos h2]
        simp only [List.length_cons]
        omega
      · rename_i h2
        rw [if_neg h2]
        have := ih _ _ h
        simp only [List.length_cons]
        omega


theorem encF_prefix (f : Nat) : ∀ n m, n < 128 ^ (f + 1) → m < 128 ^ (f + 1) → (∃ r, encF f n ++ r = encF f m) → n = m := by
  induction f with
  | zero =>
    intro n m hn hm ⟨r, h⟩
    simp only [encF, List.cons_append, List.nil_append, List.cons.injEq] at h
    have hn' : n < 128 := by simpa using hn
    have hm' : m < 128 := by simpa using hm
    omega
  | succ f ih =>
    intro n m hn hm ⟨r, h⟩
    rw [Nat.pow_succ] at hn hm
    simp only [encF] at h
    split at h <;> split at h <;> simp only [List.cons_append, List.nil_append, List.cons.injEq] at h
    · exact h.1
    · omega
    · omega
    · have := ih (n / 128) (m / 128) (by omega) (by omega) ⟨r, h.2⟩
      omega
theorem encF_mono (f : Nat) : ∀ n m, n ≤ m → (encF f n).length ≤ (encF f m).length := by
  induction f with
  | zero => intro n m _; simp [encF]
  | succ f ih =>
    intro n m h
    simp only [encF]
    split <;> split
    · simp
    · simp
    · omega
    · have := ih (n / 128) (m / 128) (by omega)
      simp only [List.length_cons]
      omega
theorem enc_mono (n m : Nat) (h : n ≤ m) : (enc n).length ≤ (enc m).length := encF_mono 9 n m h
theorem pow64 : (2 : Nat) ^ 64 ≤ 128 ^ 10 := by decide
theorem enc_apart (n m k : Nat) (hn : n < 2 ^ 64) (hm : m < 2 ^ 64) (hk : k = min (enc n).length (enc m).length) (h : (enc n).take k = (enc m).take k) : n = m := by
  have hp := pow64
  by_cases hl : (enc n).length ≤ (enc m).length
  · rw [hk, Nat.min_eq_left hl, List.take_of_length_le (Nat.le_refl _)] at h
    refine encF_prefix 9 n m (by show n < 128 ^ 10; omega) (by show m < 128 ^ 10; omega) ⟨(enc m).drop (enc n).length, ?_⟩
    show enc n ++ _ = enc m
    conv => lhs; lhs; rw [h]
    exact List.take_append_drop _ _
  · rw [hk, Nat.min_eq_right (by omega), List.take_of_length_le (l := enc m) (Nat.le_refl _)] at h
    refine (encF_prefix 9 m n (by show m < 128 ^ 10; omega) (by show n < 128 ^ 10; omega) ⟨(enc n).drop (enc m).length, ?_⟩).symm
    show enc m ++ _ = enc n
    conv => lhs; lhs; rw [← h]
    exact List.take_append_drop _ _

theorem shortF_val : ∀ (xs : List Nat) (i n : Nat), i ≤ 9 → n < 128 ^ i → (∀ x ∈ xs, x < 256) → (shortF i n xs).1 < 2 ^ 64 := by
  intro xs
  induction xs with
  | nil => intro i n _ _ _; simp [shortF]
  | cons x r ih =>
    intro i n hi hn hb
    rw [shortF_cons]
    have hx := hb x (by simp)
    split
    · simp
    · rename_i h1
      split
      · rename_i h2
        have := (grp_bd n x i hn hi h2 (by omega)).2.2
        simp only
        omega
      · rename_i h2
        have h9 : i ≠ 9 := by omega
        have := grp_bd n (x % 128) i hn hi (by omega) (by omega)
        exact ih _ _ (by omega) this.2.1 (fun y hy => hb y (by simp [hy]))

/-- Bytes as a string. -/
def toBA (xs : List Nat) : ByteArray := ⟨(xs.map UInt8.ofNat).toArray⟩
theorem toBA_fold (xs : List Nat) : (xs.map (fun (x : Nat) => (x : Int))).foldl (fun r n => r.push (UInt8.ofNat n.toNat)) ByteArray.empty = toBA xs := by
  have h : ∀ (xs : List Nat) (b : ByteArray), (xs.map (fun (x : Nat) => (x : Int))).foldl (fun r n => r.push (UInt8.ofNat n.toNat)) b = ⟨b.data ++ (xs.map UInt8.ofNat).toArray⟩ := by
    intro xs
    induction xs with
    | nil => intro b; simp
    | cons x r ih =>
      intro b
      simp only [List.map_cons, List.foldl_cons]
      rw [ih]
      congr 1
      simp [ByteArray.push]
  rw [h]
  simp [toBA]
theorem strNs_toBA (xs : List Nat) (hb : ∀ x ∈ xs, x < 256) : strNs (toBA xs) = xs := by
  simp only [strNs, toBA, List.map_map]
  have : ∀ x ∈ xs, (fun b : UInt8 => b.toNat) (UInt8.ofNat x) = x := fun x hx => by simp [Nat.mod_eq_of_lt (hb x hx)]
  rw [List.map_congr_left (g := id)]
  · simp
  · intro x hx; exact this x hx
theorem toBA_strNs (s : ByteArray) : toBA (strNs s) = s := by
  cases s with
  | mk d =>
    simp only [strNs, toBA, List.map_map]
    congr 1
    rw [← Array.toList_inj]
    simp only
    rw [List.map_congr_left (g := id)]
    · simp
    · intro x _; simp
theorem toBA_size (xs : List Nat) : (toBA xs).size = xs.length := by
  show (xs.map UInt8.ofNat).toArray.size = _
  simp

/-- A reader's next text: it, its bytes' number, what is wrong. -/
def textF (most : Int) (xs : List Nat) : ByteArray × Nat × Nat :=
  if most < 0 then (⟨#[]⟩, 0, 1)
  else if (shortF 0 0 xs).2.2 ≠ 0 then (⟨#[]⟩, 0, (shortF 0 0 xs).2.2)
  else if most < ((shortF 0 0 xs).1 : Int) then (⟨#[]⟩, 0, 3)
  else if xs.length - (shortF 0 0 xs).2.1 < (shortF 0 0 xs).1 then (⟨#[]⟩, 0, 5)
  else (toBA ((xs.drop (shortF 0 0 xs).2.1).take (shortF 0 0 xs).1), (shortF 0 0 xs).2.1 + (shortF 0 0 xs).1, 0)
/-- A reader's next number with a sign. -/
def intF (xs : List Nat) : Int × Nat × Nat := (zag ((shortF 0 0 xs).1 : Int), (shortF 0 0 xs).2.1, (shortF 0 0 xs).2.2)
/-- A number of bytes, the lowest first. -/
def leN : List Nat → Nat
  | [] => 0
  | x :: r => x + 256 * leN r
/-- A reader's next number of so many bytes. -/
def fixF (width : Int) (xs : List Nat) : Nat × Nat × Nat :=
  if width < 1 ∨ 8 < width then (0, 0, 1)
  else if (xs.length : Int) < width then (0, 0, 5)
  else (leN (xs.take width.toNat), width.toNat, 0)
theorem leN_lt : ∀ (xs : List Nat), (∀ x ∈ xs, x < 256) → leN xs < 256 ^ xs.length := by
  intro xs
  induction xs with
  | nil => intro _; simp [leN]
  | cons x r ih =>
    intro hb
    have h1 := ih (fun y hy => hb y (by simp [hy]))
    have h2 := hb x (by simp)
    simp only [leN, List.length_cons, Nat.pow_succ]
    omega
theorem leN_snoc : ∀ (xs : List Nat) (y : Nat), leN (xs ++ [y]) = leN xs + y * 256 ^ xs.length := by
  intro xs
  induction xs with
  | nil => intro y; simp [leN]
  | cons x r ih =>
    intro y
    simp only [List.cons_append, leN, ih, List.length_cons, Nat.pow_succ]
    rw [Nat.mul_add, ← Nat.mul_assoc, Nat.mul_comm 256 y, Nat.mul_assoc, Nat.mul_comm 256 (256 ^ r.length)]
    omega
theorem leN_leB : ∀ (k n : Nat), n < 256 ^ k → leN (leB k n) = n := by
  intro k
  induction k with
  | zero => intro n h; simp at h; simp [leB, leN, h]
  | succ k ih =>
    intro n h
    rw [Nat.pow_succ] at h
    simp only [leB, leN]
    rw [ih _ (by omega)]
    omega
theorem pow256 (i : Nat) : 256 ^ i = 2 ^ (8 * i) := by rw [show (256 : Nat) = 2 ^ 8 from rfl, ← Nat.pow_mul]
theorem byt (n x i : Nat) (hn : n < 256 ^ i) (hi : i ≤ 7) (hx : x < 256) :
    bits BinOp.or IntKind.u64 (n : Int) (IntKind.u64.wrap ((x : Int) * 2 ^ (8 * i))) = ((n + x * 256 ^ i : Nat) : Int) ∧ n + x * 256 ^ i < 256 ^ (i + 1) := by
  have e : 256 ^ (i + 1) = 256 * 256 ^ i := by rw [Nat.pow_succ, Nat.mul_comm]
  have hxi : x * 256 ^ i ≤ 255 * 256 ^ i := Nat.mul_le_mul_right _ (by omega)
  have hp : 256 ^ i ≤ 256 ^ 7 := Nat.pow_le_pow_right (by decide) (by omega)
  have e7 : (256 : Nat) ^ 7 = 72057594037927936 := by decide
  rw [e7] at hp
  refine ⟨?_, by omega⟩
  have e2 : ((x : Int) * 2 ^ (8 * i)) = ((x * 256 ^ i : Nat) : Int) := by rw [pow256]; simp
  rw [e2, wr_u64]
  have e3 : (((x * 256 ^ i : Nat) : Int) % 18446744073709551616) = ((x * 256 ^ i : Nat) : Int) := by omega
  rw [e3, u64_or_nat _ _ (by omega) (by omega)]
  rw [Nat.or_comm, nat_join (8 * i) _ _ (by rw [pow256]; exact Nat.mul_mod_left _ _) (by rw [← pow256]; exact hn), Nat.add_comm]
end Go.Proofs.YtdojhkgnnbdfkaaGreat

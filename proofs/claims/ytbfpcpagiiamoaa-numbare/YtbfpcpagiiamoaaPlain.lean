/- Plain lemmas on whole numbers and their bits (no Go in sight): turning 32 bits, zigzag, ranges of bits. No conditions beyond those that each states. -/
import Derived.WalkKit
import Derived.Laws.BitsAllLaws
import Derived.Laws.ShiftsVarLaws
namespace Go.Proofs.Ytbfpcpagiiamoaa
open Go.RowKit

/-! ### Turning 32 bits -/
def rot1 (x : Nat) : Nat := 2 * x % 4294967296 + x / 2147483648
def rots : Nat → Nat → Nat
  | 0, x => x
  | k + 1, x => rot1 (rots k x)
theorem rot1_lt (x : Nat) (h : x < 4294967296) : rot1 x < 4294967296 := by unfold rot1; omega
theorem rots_lt (k x : Nat) (h : x < 4294967296) : rots k x < 4294967296 := by
  induction k with
  | zero => exact h
  | succ k ih => exact rot1_lt _ ih
theorem rots_add (a b x : Nat) : rots (a + b) x = rots a (rots b x) := by
  induction a with
  | zero => simp [rots]
  | succ a ih => rw [show a + 1 + b = (a + b) + 1 by omega]; simp [rots, ih]
theorem rot1_step (x k : Nat) (hx : x < 4294967296) (hk : k < 32) :
    rot1 (x * 2 ^ k % 4294967296 + x / 2 ^ (32 - k)) = x * 2 ^ (k + 1) % 4294967296 + x / 2 ^ (32 - (k + 1)) := by
  obtain ⟨j, hj⟩ : ∃ j, j + k = 31 := ⟨31 - k, by omega⟩
  have e1 : 32 - k = j + 1 := by omega
  have e2 : 32 - (k + 1) = j := by omega
  have hP : 0 < 2 ^ k := Nat.two_pow_pos _
  have hM : 0 < 2 ^ j := Nat.two_pow_pos _
  have hPM : 2 ^ j * 2 ^ k = 2147483648 := by rw [← Nat.pow_add, hj]
  rw [e1, e2, Nat.pow_succ 2 j, Nat.pow_succ 2 k, ← Nat.div_div_eq_div_mul]
  have hx1 := Nat.div_add_mod x (2 ^ j)
  have ht := Nat.mod_lt x hM
  generalize hu : x / 2 ^ j = u at *
  generalize htt : x % 2 ^ j = t at *
  have hz : x * 2 ^ k = u * 2147483648 + t * 2 ^ k := by rw [← hx1, Nat.add_mul, ← hPM]; congr 1; rw [Nat.mul_comm (2 ^ j) u, Nat.mul_assoc]
  have hz2 : x * (2 ^ k * 2) = 2 * (u * 2147483648 + t * 2 ^ k) := by rw [← Nat.mul_assoc, hz, Nat.mul_comm]
  have hzl : (t + 1) * 2 ^ k ≤ 2147483648 := by rw [← hPM]; exact Nat.mul_le_mul_right _ ht
  rw [Nat.add_mul, Nat.one_mul] at hzl
  have hul : u < 2 * 2 ^ k := by
    rw [← hu, Nat.div_lt_iff_lt_mul hM, Nat.mul_assoc, Nat.mul_comm (2 ^ k), hPM]; omega
  rw [hz, hz2]
  generalize t * 2 ^ k = z at *
  generalize 2 ^ k = P at *
  have zl : z < 2147483648 := by omega
  have zu : z + u / 2 < 2147483648 := by omega
  clear hzl hul hx1 ht hz hz2 hx hk hj hP hM hPM e1 e2 hu htt
  have q1 : (u * 2147483648 + z) % 4294967296 = (u % 2) * 2147483648 + z := by omega
  have q2 : 2 * (u * 2147483648 + z) % 4294967296 = 2 * z := by omega
  rw [q1, q2]
  unfold rot1
  have q3 : ((u % 2) * 2147483648 + z + u / 2) / 2147483648 = u % 2 := by omega
  have q4 : 2 * ((u % 2) * 2147483648 + z + u / 2) % 4294967296 = 2 * (z + u / 2) := by
    rw [show 2 * ((u % 2) * 2147483648 + z + u / 2) = 2 * (z + u / 2) + (u % 2) * 4294967296 by omega, Nat.add_mul_mod_self_right]
    exact Nat.mod_eq_of_lt (by omega)
  rw [q3, q4]
  omega
theorem rots_eq (x k : Nat) (hx : x < 4294967296) (hk : k ≤ 32) : rots k x = x * 2 ^ k % 4294967296 + x / 2 ^ (32 - k) := by
  induction k with
  | zero => simp [rots]; omega
  | succ k ih => rw [rots, ih (by omega)]; exact rot1_step x k hx (by omega)
theorem rots_32 (x : Nat) (hx : x < 4294967296) : rots 32 x = x := by
  rw [rots_eq x 32 hx (by omega)]; simp
theorem rots_mod (x k : Nat) (hx : x < 4294967296) : rots (k % 32) x = rots k x := by
  induction k using Nat.strongRecOn with
  | _ k ih =>
    by_cases h : k < 32
    · rw [Nat.mod_eq_of_lt h]
    · rw [show k = (k - 32) + 32 by omega, rots_add (k - 32) 32, rots_32 x hx, Nat.add_mod_right]
      exact ih (k - 32) (by omega)
/-- Turned left by n bits, whatever the sign of n. -/
def turn (x n : Int) : Int := (rots (n % 32).toNat x.toNat : Nat)
theorem turn_bd (x n : Int) (h0 : 0 ≤ x) (h1 : x < 4294967296) : 0 ≤ turn x n ∧ turn x n < 4294967296 := by
  have := rots_lt (n % 32).toNat x.toNat (by omega)
  unfold turn; omega
theorem turn_turn (x a b : Int) (h0 : 0 ≤ x) (h1 : x < 4294967296) : turn (turn x a) b = turn x (a + b) := by
  unfold turn
  rw [Int.toNat_natCast, ← rots_add, ← rots_mod _ ((b % 32).toNat + (a % 32).toNat) (by omega)]
  have e : ((b % 32).toNat + (a % 32).toNat) % 32 = ((a + b) % 32).toNat := by omega
  rw [e]
theorem turn_32 (x a : Int) : turn x (a + 32) = turn x a := by
  unfold turn; rw [show (a + 32) % 32 = a % 32 by omega]
theorem turn_0 (x : Int) (h0 : 0 ≤ x) : turn x 0 = x := by
  unfold turn; simp [rots]; omega
theorem or_turn (x : Int) (k : Int) (h0 : 0 ≤ x) (h1 : x < 4294967296) (k0 : 0 ≤ k) (k1 : k < 32) :
    bits .or .u32 (x * 2 ^ k.toNat % 4294967296) (x / 2 ^ (32 - k).toNat) = (rots k.toNat x.toNat : Nat) := by
  obtain ⟨X, rfl⟩ := Int.eq_ofNat_of_zero_le h0
  obtain ⟨K, rfl⟩ := Int.eq_ofNat_of_zero_le k0
  have e1 : ((X : Int) * 2 ^ (K : Int).toNat % 4294967296) = ((X * 2 ^ K % 4294967296 : Nat) : Int) := by simp
  have e2 : ((X : Int) / 2 ^ (32 - (K : Int)).toNat) = ((X / 2 ^ (32 - K) : Nat) : Int) := by
    rw [show (32 - (K : Int)).toNat = 32 - K by omega]; simp
  rw [e1, e2, u32_or_nat _ _ (by omega) (by exact Nat.lt_of_le_of_lt (Nat.div_le_self _ _) (by omega)), Int.toNat_natCast, Int.toNat_natCast]
  rw [rots_eq X K (by omega) (by omega)]
  congr 1
  refine nat_join K _ _ ?_ ?_
  · rw [show (4294967296 : Nat) = 2 ^ K * 2 ^ (32 - K) by rw [← Nat.pow_add, show K + (32 - K) = 32 by omega], Nat.mul_comm X, Nat.mul_mod_mul_left]
    exact Nat.mul_mod_right _ _
  · rw [Nat.div_lt_iff_lt_mul (Nat.two_pow_pos _), ← Nat.pow_add, show K + (32 - K) = 32 by omega]; omega
theorem and_31 (n : Int) (_h0 : -9223372036854775808 ≤ n) (_h1 : n ≤ 9223372036854775807) : bits .and .i64 n 31 = n % 32 := by
  show IntKind.i64.wrap ((BitVec.ofInt 64 n &&& BitVec.ofInt 64 31).toNat : Int) = _
  rw [BitVec.toNat_and, BitVec.toNat_ofInt, BitVec.toNat_ofInt]
  rw [show ((31 : Int) % ((2 ^ 64 : Nat) : Int)).toNat = 31 by decide, nat_mask5]
  simp [IntKind.wrap, IntKind.bits, IntKind.signed]
  omega

/-! ### Zigzag -/
def zig (x : Int) : Int := if x < 0 then -2 * x - 1 else 2 * x
def zag (y : Int) : Int := if y % 2 = 0 then y / 2 else -1 - y / 2
theorem zag_zig (x : Int) : zag (zig x) = x := by unfold zag zig; split <;> split <;> omega
theorem zig_zag (y : Int) (h : 0 ≤ y) : zig (zag y) = y := by unfold zag zig; split <;> split <;> omega
theorem zig_bd (x : Int) (h0 : -9223372036854775808 ≤ x) (h1 : x ≤ 9223372036854775807) : 0 ≤ zig x ∧ zig x ≤ 18446744073709551615 := by unfold zig; split <;> omega
theorem zag_bd (y : Int) (h0 : 0 ≤ y) (h1 : y ≤ 18446744073709551615) : -9223372036854775808 ≤ zag y ∧ zag y ≤ 9223372036854775807 := by unfold zag; split <;> omega
theorem xor_ones (a : Nat) (ha : a < 18446744073709551616) : a ^^^ 18446744073709551615 = 18446744073709551615 - a := by
  have h : (BitVec.ofNat 64 a ^^^ BitVec.allOnes 64).toNat = (~~~ (BitVec.ofNat 64 a)).toNat := by rw [BitVec.xor_allOnes]
  rw [BitVec.toNat_xor, BitVec.toNat_not, BitVec.toNat_allOnes, BitVec.toNat_ofNat, Nat.mod_eq_of_lt (by simpa using ha)] at h
  simpa using h
theorem zig_code (x : Int) (h0 : -9223372036854775808 ≤ x) (h1 : x ≤ 9223372036854775807) :
    bits .xor .u64 (IntKind.u64.wrap (wrap64 (x * 2))) (IntKind.u64.wrap (x / 9223372036854775808)) = zig x := by
  have e1 : IntKind.u64.wrap (wrap64 (x * 2)) = (((x * 2) % 18446744073709551616).toNat : Nat) := by
    simp only [wrap64, IntKind.wrap, IntKind.bits, IntKind.signed]; simp; omega
  by_cases hx : x < 0
  · have e2 : IntKind.u64.wrap (x / 9223372036854775808) = ((18446744073709551615 : Nat) : Int) := by
      rw [show x / 9223372036854775808 = -1 by omega]; decide
    rw [e1, e2, u64_xor_nat _ _ (by omega) (by omega), xor_ones _ (by omega)]
    unfold zig; rw [if_pos hx]; omega
  · have e2 : IntKind.u64.wrap (x / 9223372036854775808) = ((0 : Nat) : Int) := by
      rw [show x / 9223372036854775808 = 0 by omega]; decide
    rw [e1, e2, u64_xor_nat _ _ (by omega) (by omega), Nat.xor_zero]
    unfold zig; rw [if_neg hx]; omega
theorem and_1 (x : Int) (h0 : 0 ≤ x) (h1 : x ≤ 18446744073709551615) : bits .and .u64 x 1 = x % 2 := by
  rw [u64_and x 1 h0 (by omega) (by omega) (by omega)]
  rw [show (1 : Int).toNat = 1 by decide, nat_mask1]; omega
theorem xor_i64_m1 (a : Int) (h0 : 0 ≤ a) (h1 : a < 9223372036854775808) : bits .xor .i64 a (-1) = -1 - a := by
  show IntKind.i64.wrap ((BitVec.ofInt 64 a ^^^ BitVec.ofInt 64 (-1)).toNat : Int) = _
  have e : BitVec.ofInt 64 (-1) = BitVec.allOnes 64 := by decide
  rw [e, BitVec.xor_allOnes, BitVec.toNat_not, BitVec.toNat_ofInt]
  simp [IntKind.wrap, IntKind.bits, IntKind.signed]
  omega
theorem xor_i64_0 (a : Int) (h0 : 0 ≤ a) (h1 : a < 9223372036854775808) : bits .xor .i64 a 0 = a := by
  show IntKind.i64.wrap ((BitVec.ofInt 64 a ^^^ BitVec.ofInt 64 0).toNat : Int) = _
  have e : BitVec.ofInt 64 0 = 0#64 := by decide
  rw [e, BitVec.xor_zero, BitVec.toNat_ofInt]
  simp [IntKind.wrap, IntKind.bits, IntKind.signed]
  omega
theorem zag_code (x : Int) (h0 : 0 ≤ x) (h1 : x ≤ 18446744073709551615) :
    bits .xor .i64 (x / 2) (wrap64 (-wrap64 (bits .and .u64 x 1))) = zag x := by
  rw [and_1 x h0 h1]
  unfold zag
  by_cases h : x % 2 = 0
  · rw [if_pos h, h, show wrap64 (-wrap64 0) = 0 by unfold wrap64; decide]
    exact xor_i64_0 _ (by omega) (by omega)
  · have h' : x % 2 = 1 := by omega
    rw [if_neg h, h', show wrap64 (-wrap64 1) = -1 by unfold wrap64; decide]
    exact xor_i64_m1 _ (by omega) (by omega)

/-! ### Ranges of bits -/
def lowN (n : Nat) : Nat := 2 ^ n - 1
def bitsN (x f n : Nat) : Nat := x / 2 ^ f % 2 ^ n
def putN (x f n v : Nat) : Nat := (x &&& (18446744073709551615 - lowN n * 2 ^ f)) ||| v * 2 ^ f
theorem wrap_u64 (n : Int) : IntKind.u64.wrap n = n % 18446744073709551616 := by simp [IntKind.wrap, IntKind.bits, IntKind.signed]
theorem two_pow_le (n m : Nat) (h : n ≤ m) : 2 ^ n ≤ 2 ^ m := Nat.pow_le_pow_right (by decide) h
theorem low_code (n : Int) (h0 : 0 ≤ n) (h1 : n ≤ 64) : IntKind.u64.wrap (IntKind.u64.wrap (2 ^ n.toNat) - 1) = (lowN n.toNat : Nat) := by
  obtain ⟨k, rfl⟩ := Int.eq_ofNat_of_zero_le h0
  rw [Int.toNat_natCast, wrap_u64, wrap_u64]
  have e : (2 : Int) ^ k = ((2 ^ k : Nat) : Int) := by simp
  have hp : 0 < 2 ^ k := Nat.two_pow_pos _
  have hl := two_pow_le k 64 (by omega)
  rw [e]; unfold lowN
  simp only [Nat.reducePow] at hl
  generalize 2 ^ k = P at *
  omega
theorem low_lt (n : Nat) (h : n ≤ 64) : lowN n < 18446744073709551616 := by
  have hl := two_pow_le n 64 h
  have hp : 0 < 2 ^ n := Nat.two_pow_pos _
  simp only [Nat.reducePow] at hl
  unfold lowN; generalize 2 ^ n = P at *; omega
theorem low_shift_lt (n f : Nat) (h : f + n ≤ 64) : lowN n * 2 ^ f < 18446744073709551616 := by
  have hl := two_pow_le (n + f) 64 (by omega)
  have hp : 0 < 2 ^ n := Nat.two_pow_pos _
  have hq : 0 < 2 ^ f := Nat.two_pow_pos _
  unfold lowN
  rw [Nat.sub_mul, ← Nat.pow_add, Nat.one_mul]
  simp only [Nat.reducePow] at hl
  omega
theorem val_shift_lt (v n f : Nat) (hv : v ≤ lowN n) (h : f + n ≤ 64) : v * 2 ^ f < 18446744073709551616 :=
  Nat.lt_of_le_of_lt (Nat.mul_le_mul_right _ hv) (low_shift_lt n f h)
theorem bits_code (x f n : Int) (x0 : 0 ≤ x) (x1 : x < 18446744073709551616) (h0 : 0 ≤ f) (h1 : 0 ≤ n) (h2 : f + n ≤ 64) :
    bits .and .u64 (x / 2 ^ f.toNat) (lowN n.toNat : Nat) = (bitsN x.toNat f.toNat n.toNat : Nat) := by
  obtain ⟨X, rfl⟩ := Int.eq_ofNat_of_zero_le x0
  obtain ⟨F, rfl⟩ := Int.eq_ofNat_of_zero_le h0
  obtain ⟨K, rfl⟩ := Int.eq_ofNat_of_zero_le h1
  simp only [Int.toNat_natCast]
  have e : (X : Int) / 2 ^ F = ((X / 2 ^ F : Nat) : Int) := by simp
  rw [e, u64_and_nat _ _ (Nat.lt_of_le_of_lt (Nat.div_le_self _ _) (by omega)) (low_lt K (by omega))]
  unfold lowN bitsN
  rw [Nat.and_two_pow_sub_one_eq_mod]
theorem put_code (x f n v : Int) (x0 : 0 ≤ x) (x1 : x < 18446744073709551616) (v0 : 0 ≤ v) (v1 : v ≤ (lowN n.toNat : Nat)) (h0 : 0 ≤ f) (h1 : 0 ≤ n) (h2 : f + n ≤ 64) :
    bits .or .u64 (bits .andNot .u64 x (IntKind.u64.wrap ((lowN n.toNat : Nat) * 2 ^ f.toNat))) (IntKind.u64.wrap (v * 2 ^ f.toNat)) = (putN x.toNat f.toNat n.toNat v.toNat : Nat) := by
  obtain ⟨X, rfl⟩ := Int.eq_ofNat_of_zero_le x0
  obtain ⟨F, rfl⟩ := Int.eq_ofNat_of_zero_le h0
  obtain ⟨K, rfl⟩ := Int.eq_ofNat_of_zero_le h1
  obtain ⟨V, rfl⟩ := Int.eq_ofNat_of_zero_le v0
  simp only [Int.toNat_natCast] at *
  have hv := val_shift_lt V K F (by omega) (by omega)
  have hl := low_shift_lt K F (by omega)
  have e1 : IntKind.u64.wrap ((lowN K : Nat) * 2 ^ F) = ((lowN K * 2 ^ F : Nat) : Int) := by
    rw [wrap_u64, show ((lowN K : Nat) : Int) * 2 ^ F = ((lowN K * 2 ^ F : Nat) : Int) by simp]; omega
  have e2 : IntKind.u64.wrap ((V : Int) * 2 ^ F) = ((V * 2 ^ F : Nat) : Int) := by
    rw [wrap_u64, show (V : Int) * 2 ^ F = ((V * 2 ^ F : Nat) : Int) by simp]; omega
  rw [e1, e2, u64_andNot_nat X _ (by omega) hl, u64_or_nat _ _ (Nat.lt_of_le_of_lt Nat.and_le_left (by omega)) hv]
  rfl

/-! ### Wrapping, kind by kind -/
theorem w_i8 (n : Int) : IntKind.i8.wrap n = (n + 128) % 256 - 128 := by simp [IntKind.wrap, IntKind.bits, IntKind.signed]; omega
theorem w_i16 (n : Int) : IntKind.i16.wrap n = (n + 32768) % 65536 - 32768 := by simp [IntKind.wrap, IntKind.bits, IntKind.signed]; omega
theorem w_i32 (n : Int) : wrap32 n = (n + 2147483648) % 4294967296 - 2147483648 := by unfold wrap32; omega
theorem w_i64 (n : Int) : wrap64 n = (n + 9223372036854775808) % 18446744073709551616 - 9223372036854775808 := by unfold wrap64; omega
theorem w_u8 (n : Int) : IntKind.u8.wrap n = n % 256 := by simp [IntKind.wrap, IntKind.bits, IntKind.signed]
theorem w_u16 (n : Int) : IntKind.u16.wrap n = n % 65536 := by simp [IntKind.wrap, IntKind.bits, IntKind.signed]
theorem w_u32 (n : Int) : IntKind.u32.wrap n = n % 4294967296 := by simp [IntKind.wrap, IntKind.bits, IntKind.signed]
theorem w_u64 (n : Int) : IntKind.u64.wrap n = n % 18446744073709551616 := by simp [IntKind.wrap, IntKind.bits, IntKind.signed]
end Go.Proofs.Ytbfpcpagiiamoaa

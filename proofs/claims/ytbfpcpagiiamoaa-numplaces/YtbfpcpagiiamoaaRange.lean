/- Plain lemmas on ranges of bits: what Bits and Put come to, bit by bit. Conditions: the range lies within 64 bits, what is put is below 2 to the number of bits. -/
import Derived.Test.YtbfpcpagiiamoaaPlain
namespace Go.Proofs.Ytbfpcpagiiamoaa
open Go.RowKit

theorem test_low (n i : Nat) : (lowN n).testBit i = decide (i < n) := by
  unfold lowN; exact Nat.testBit_two_pow_sub_one n i
theorem test_shl (v f i : Nat) : (v * 2 ^ f).testBit i = (decide (f ≤ i) && v.testBit (i - f)) := by
  rw [← Nat.shiftLeft_eq, Nat.testBit_shiftLeft]
theorem test_not (m i : Nat) (hm : m < 18446744073709551616) : (18446744073709551615 - m).testBit i = (decide (i < 64) && !m.testBit i) := by
  have h := Nat.testBit_two_pow_sub_succ (x := m) (n := 64) (by simpa using hm) i
  rw [show 2 ^ 64 - (m + 1) = 18446744073709551615 - m by simp only [Nat.reducePow]; omega] at h
  exact h
theorem test_bits (x f n i : Nat) : (bitsN x f n).testBit i = (decide (i < n) && x.testBit (f + i)) := by
  unfold bitsN
  rw [Nat.testBit_mod_two_pow, Nat.testBit_div_two_pow, Nat.add_comm]
theorem test_put (x f n v i : Nat) (h : f + n ≤ 64) : (putN x f n v).testBit i = ((x.testBit i && (decide (i < 64) && !(decide (f ≤ i) && decide (i - f < n)))) || (decide (f ≤ i) && v.testBit (i - f))) := by
  unfold putN
  rw [Nat.testBit_or, Nat.testBit_and, test_not _ _ (low_shift_lt n f h), test_shl, test_shl, test_low]
theorem test_big (x i : Nat) (hx : x < 18446744073709551616) (hi : 64 ≤ i) : x.testBit i = false :=
  Nat.testBit_lt_two_pow (Nat.lt_of_lt_of_le (by simpa using hx) (two_pow_le 64 i hi))
theorem test_over (v n i : Nat) (hv : v ≤ lowN n) (hi : n ≤ i) : v.testBit i = false := by
  refine Nat.testBit_lt_two_pow (Nat.lt_of_lt_of_le ?_ (two_pow_le n i hi))
  have hp : 0 < 2 ^ n := Nat.two_pow_pos _
  unfold lowN at hv; omega
/-- Within the range: what was put; outside: what was there. -/
theorem test_put_in (x f n v i : Nat) (h : f + n ≤ 64) (h0 : f ≤ i) (h1 : i < f + n) : (putN x f n v).testBit i = v.testBit (i - f) := by
  rw [test_put x f n v i h]
  have a : decide (f ≤ i) = true := by simp [h0]
  have b : decide (i - f < n) = true := by simp; omega
  simp [a, b]
theorem test_put_out (x f n v i : Nat) (h : f + n ≤ 64) (hx : x < 18446744073709551616) (hv : v ≤ lowN n) (ho : i < f ∨ f + n ≤ i) : (putN x f n v).testBit i = x.testBit i := by
  rw [test_put x f n v i h]
  by_cases h6 : i < 64
  · rcases ho with ho | ho
    · have a : decide (f ≤ i) = false := by simp; omega
      simp [a, h6]
    · have b : decide (i - f < n) = false := by simp; omega
      have c := test_over v n (i - f) hv (by omega)
      simp [b, c, h6]
  · have a := test_big x i hx (by omega)
    have c := test_over v n (i - f) hv (by omega)
    simp [a, c]
theorem put_lt (x f n v : Nat) (h : f + n ≤ 64) (hx : x < 18446744073709551616) (hv : v ≤ lowN n) : putN x f n v < 18446744073709551616 := by
  have := Nat.lt_pow_two_of_testBit (n := 64) (putN x f n v) (fun i hi => by
    rw [test_put_out x f n v i h hx hv (by omega)]; exact test_big x i hx hi)
  simpa using this
/-! ### What follows of Bits and Put -/
theorem bits_of_put (x f n v : Nat) (h : f + n ≤ 64) (hv : v ≤ lowN n) : bitsN (putN x f n v) f n = v := by
  refine Nat.eq_of_testBit_eq fun i => ?_
  rw [test_bits]
  by_cases hi : i < n
  · rw [test_put_in x f n v (f + i) h (by omega) (by omega), show f + i - f = i by omega]; simp [hi]
  · rw [test_over v n i hv (by omega)]; simp [hi]
theorem low_of_put (x f n v : Nat) (h : f + n ≤ 64) (hx : x < 18446744073709551616) (hv : v ≤ lowN n) : bitsN (putN x f n v) 0 f = bitsN x 0 f := by
  refine Nat.eq_of_testBit_eq fun i => ?_
  rw [test_bits, test_bits, Nat.zero_add]
  by_cases hi : i < f
  · rw [test_put_out x f n v i h hx hv (Or.inl hi)]
  · simp [hi]
theorem high_of_put (x f n v m : Nat) (h : f + n ≤ 64) (hx : x < 18446744073709551616) (hv : v ≤ lowN n) : bitsN (putN x f n v) (f + n) m = bitsN x (f + n) m := by
  refine Nat.eq_of_testBit_eq fun i => ?_
  rw [test_bits, test_bits, test_put_out x f n v (f + n + i) h hx hv (Or.inr (by omega))]
/-! ### A number out of its bits, from the highest on -/
theorem half_step (T i : Nat) : T / 2 ^ i = 2 * (T / 2 ^ (i + 1)) + T / 2 ^ i % 2 := by
  rw [Nat.pow_succ, ← Nat.div_div_eq_div_mul]; omega
theorem bit_toNat (T i : Nat) : T / 2 ^ i % 2 = (T.testBit i).toNat := by
  rw [Nat.toNat_testBit]
theorem put_bit_in (x f n v i : Nat) (h : f + n ≤ 64) (h0 : f ≤ i) (h1 : i < f + n) : putN x f n v / 2 ^ i % 2 = v / 2 ^ (i - f) % 2 := by
  rw [bit_toNat, bit_toNat, test_put_in x f n v i h h0 h1]
theorem put_bit_out (x f n v i : Nat) (h : f + n ≤ 64) (hx : x < 18446744073709551616) (hv : v ≤ lowN n) (ho : i < f ∨ f + n ≤ i) : putN x f n v / 2 ^ i % 2 = x / 2 ^ i % 2 := by
  rw [bit_toNat, bit_toNat, test_put_out x f n v i h hx hv ho]
theorem bits_step (x f n i : Nat) (h : i < n) : bitsN x f n / 2 ^ i % 2 = x / 2 ^ (f + i) % 2 := by
  rw [bit_toNat, bit_toNat, test_bits]; simp [h]
theorem bits_lt (x f n : Nat) (h : n ≤ 64) : bitsN x f n < 18446744073709551616 := by
  have h1 : bitsN x f n < 2 ^ n := Nat.mod_lt _ (Nat.two_pow_pos _)
  have h2 := two_pow_le n 64 h
  simp only [Nat.reducePow] at h2; omega
end Go.Proofs.Ytbfpcpagiiamoaa

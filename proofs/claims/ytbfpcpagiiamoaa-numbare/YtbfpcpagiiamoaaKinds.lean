/- Within which kinds a number lies, said by sign and size and said by its ends: the two agree. Conditions: the number lies within 64 bits. -/
import Derived.Test.YtbfpcpagiiamoaaIn
namespace Go.Proofs.Ytbfpcpagiiamoaa
set_option linter.unusedVariables false
set_option linter.unusedSimpArgs false

theorem in_i8 (x : Int) (h0 : -9223372036854775808 ≤ x) (h1 : x ≤ 9223372036854775807) : inB (decide (x < 0)) (sz x) 8 true = fitB .i8 x := by
  unfold inB fitB sz
  simp only [loK, hiK]
  rw [show roomI 8 true = 7 by decide, show pw (7 : Int).toNat = 128 by decide]
  apply decide_eq_decide.mpr
  by_cases h : x < 0 <;> simp [h] <;> omega

theorem in_i16 (x : Int) (h0 : -9223372036854775808 ≤ x) (h1 : x ≤ 9223372036854775807) : inB (decide (x < 0)) (sz x) 16 true = fitB .i16 x := by
  unfold inB fitB sz
  simp only [loK, hiK]
  rw [show roomI 16 true = 15 by decide, show pw (15 : Int).toNat = 32768 by decide]
  apply decide_eq_decide.mpr
  by_cases h : x < 0 <;> simp [h] <;> omega

theorem in_i32 (x : Int) (h0 : -9223372036854775808 ≤ x) (h1 : x ≤ 9223372036854775807) : inB (decide (x < 0)) (sz x) 32 true = fitB .i32 x := by
  unfold inB fitB sz
  simp only [loK, hiK]
  rw [show roomI 32 true = 31 by decide, show pw (31 : Int).toNat = 2147483648 by decide]
  apply decide_eq_decide.mpr
  by_cases h : x < 0 <;> simp [h] <;> omega

theorem in_u8 (x : Int) (h0 : -9223372036854775808 ≤ x) (h1 : x ≤ 9223372036854775807) : inB (decide (x < 0)) (sz x) 8 false = fitB .u8 x := by
  unfold inB fitB sz
  simp only [loK, hiK]
  rw [show roomI 8 false = 8 by decide, show pw (8 : Int).toNat = 256 by decide]
  apply decide_eq_decide.mpr
  by_cases h : x < 0 <;> simp [h] <;> omega

theorem in_u16 (x : Int) (h0 : -9223372036854775808 ≤ x) (h1 : x ≤ 9223372036854775807) : inB (decide (x < 0)) (sz x) 16 false = fitB .u16 x := by
  unfold inB fitB sz
  simp only [loK, hiK]
  rw [show roomI 16 false = 16 by decide, show pw (16 : Int).toNat = 65536 by decide]
  apply decide_eq_decide.mpr
  by_cases h : x < 0 <;> simp [h] <;> omega

theorem in_u32 (x : Int) (h0 : -9223372036854775808 ≤ x) (h1 : x ≤ 9223372036854775807) : inB (decide (x < 0)) (sz x) 32 false = fitB .u32 x := by
  unfold inB fitB sz
  simp only [loK, hiK]
  rw [show roomI 32 false = 32 by decide, show pw (32 : Int).toNat = 4294967296 by decide]
  apply decide_eq_decide.mpr
  by_cases h : x < 0 <;> simp [h] <;> omega

theorem in_u64 (x : Int) (h0 : -9223372036854775808 ≤ x) (h1 : x ≤ 9223372036854775807) : inB (decide (x < 0)) (sz x) 64 false = fitB .u64 x := by
  unfold inB fitB sz
  simp only [loK, hiK]
  rw [show roomI 64 false = 64 by decide]
  apply decide_eq_decide.mpr
  by_cases h : x < 0 <;> simp [h] <;> omega

theorem bare_i8 (x : Int) (h0 : 0 ≤ x) (h1 : x ≤ 18446744073709551615) : inB false x 8 true = fitB .i8 x := by
  unfold inB fitB
  simp only [loK, hiK]
  rw [show roomI 8 true = 7 by decide, show pw (7 : Int).toNat = 128 by decide]
  apply decide_eq_decide.mpr
  simp <;> omega

theorem bare_i16 (x : Int) (h0 : 0 ≤ x) (h1 : x ≤ 18446744073709551615) : inB false x 16 true = fitB .i16 x := by
  unfold inB fitB
  simp only [loK, hiK]
  rw [show roomI 16 true = 15 by decide, show pw (15 : Int).toNat = 32768 by decide]
  apply decide_eq_decide.mpr
  simp <;> omega

theorem bare_i32 (x : Int) (h0 : 0 ≤ x) (h1 : x ≤ 18446744073709551615) : inB false x 32 true = fitB .i32 x := by
  unfold inB fitB
  simp only [loK, hiK]
  rw [show roomI 32 true = 31 by decide, show pw (31 : Int).toNat = 2147483648 by decide]
  apply decide_eq_decide.mpr
  simp <;> omega

theorem bare_i64 (x : Int) (h0 : 0 ≤ x) (h1 : x ≤ 18446744073709551615) : inB false x 64 true = fitB .i64 x := by
  unfold inB fitB
  simp only [loK, hiK]
  rw [show roomI 64 true = 63 by decide, show pw (63 : Int).toNat = 9223372036854775808 by decide]
  apply decide_eq_decide.mpr
  simp <;> omega

theorem bare_u8 (x : Int) (h0 : 0 ≤ x) (h1 : x ≤ 18446744073709551615) : inB false x 8 false = fitB .u8 x := by
  unfold inB fitB
  simp only [loK, hiK]
  rw [show roomI 8 false = 8 by decide, show pw (8 : Int).toNat = 256 by decide]
  apply decide_eq_decide.mpr
  simp <;> omega

theorem bare_u16 (x : Int) (h0 : 0 ≤ x) (h1 : x ≤ 18446744073709551615) : inB false x 16 false = fitB .u16 x := by
  unfold inB fitB
  simp only [loK, hiK]
  rw [show roomI 16 false = 16 by decide, show pw (16 : Int).toNat = 65536 by decide]
  apply decide_eq_decide.mpr
  simp <;> omega

theorem bare_u32 (x : Int) (h0 : 0 ≤ x) (h1 : x ≤ 18446744073709551615) : inB false x 32 false = fitB .u32 x := by
  unfold inB fitB
  simp only [loK, hiK]
  rw [show roomI 32 false = 32 by decide, show pw (32 : Int).toNat = 4294967296 by decide]
  apply decide_eq_decide.mpr
  simp <;> omega

theorem in_is (neg signed : Bool) (size bits : Int) (w : World) (b : Bool) (h : inB neg size bits signed = b) (s0 : 0 ≤ size) (s1 : size ≤ 18446744073709551615) (b0 : 1 ≤ bits) (b1 : bits ≤ 64) :
    Calls Try.prog 20 #[.bool neg, .int .u64 size, .int .i64 bits, .bool signed] w fun e w' => e = .returned (.bool b) ∧ w' = w := by
  rw [← h]; exact in_any neg signed size bits w s0 s1 b0 b1
end Go.Proofs.Ytbfpcpagiiamoaa

/- What the reference's In and the law's own helpers size, fits and bare answer. Conditions: each number lies within its kind; In is asked for 1 to 64 bits. -/
import Derived.Test.YtbfpcpagiiamoaaRefs
import Derived.Test.YtbfpcpagiiamoaaFits
namespace Go.Proofs.Ytbfpcpagiiamoaa
open Go.ChangeShapes Go.WideShapes Go.ChangeAt Go.RowKit
set_option linter.unusedVariables false
set_option linter.unusedSimpArgs false

def sz (x : Int) : Int := if x < 0 then -x else x
def roomI (bits : Int) (signed : Bool) : Int := if signed = true then bits - 1 else bits
def inB (neg : Bool) (size bits : Int) (signed : Bool) : Bool :=
  decide (size = 0 ∨ (¬ (neg = true ∧ signed = false) ∧ (64 ≤ roomI bits signed ∨ size < pw (roomI bits signed).toNat ∨ (neg = true ∧ size = pw (roomI bits signed).toNat))))

theorem size_any (x : Int) (w : World) (h0 : -9223372036854775808 ≤ x) (h1 : x ≤ 9223372036854775807) :
    Calls Try.prog 18 #[.int .i64 x] w fun e w' => e = .returned (.int .u64 (sz x)) ∧ w' = w := by
  by_cases s : x < 0
  · obtain ⟨z, hz⟩ : ∃ z, IntKind.u64.wrap x = z := ⟨_, rfl⟩
    have z0 : 0 ≤ z := by rw [← hz, w_u64]; omega
    have z1 : z ≤ 18446744073709551615 := by rw [← hz, w_u64]; omega
    have E : Hid (IntKind.u64.wrap (0 - z) = -x) := by show IntKind.u64.wrap (0 - z) = -x; rw [← hz, w_u64, w_u64]; omega
    go_enter Try.func18, Try.ntmps18
    go_wp2
    go_ret
    exact ⟨ret_int (by unfold sz; rw [if_pos s, ← E.out]; simp), rfl⟩
  · go_enter Try.func18, Try.ntmps18
    go_wp2
    go_ret
    exact ⟨ret_int (by unfold sz; rw [if_neg (by omega)]), rfl⟩

theorem in_any (neg signed : Bool) (size bits : Int) (w : World) (s0 : 0 ≤ size) (s1 : size ≤ 18446744073709551615) (b0 : 1 ≤ bits) (b1 : bits ≤ 64) :
    Calls Try.prog 20 #[.bool neg, .int .u64 size, .int .i64 bits, .bool signed] w fun e w' => e = .returned (.bool (inB neg size bits signed)) ∧ w' = w := by
  by_cases c0 : size = 0
  · have c1 : (size == 0) = true := by simp [c0]
    have HZ : Hid (size = 0) := c0
    clear c0
    go_enter Try.func20, Try.ntmps20
    go_wp2
    go_ret
    exact ⟨ret_bool (by have := HZ.out; simp [inB, this]), rfl⟩
  have c1 : (size == 0) = false := by simp [c0]
  cases neg <;> cases signed
  · by_cases c2 : bits = 64
    · have c3 : ¬ bits < 64 := by omega
      go_enter Try.func20, Try.ntmps20
      go_wp2
      go_ret
      exact ⟨ret_bool (by simp [inB, roomI, c2]), rfl⟩
    · have c3 : bits < 64 := by omega
      by_cases c4 : size < pw bits.toNat
      · go_enter Try.func20, Try.ntmps20
        go_wp2_with (go_at_call 45; refine (power_any _ _ ?_ ?_).mono ?_; (all_goals try omega); rintro e w' ⟨rfl, rfl⟩)
        go_ret
        exact ⟨ret_bool (by simp [inB, roomI, c4]), rfl⟩
      · have c5 : decide (size < pw bits.toNat) = false := by simp; omega
        go_enter Try.func20, Try.ntmps20
        go_wp2_with (go_at_call 45; refine (power_any _ _ ?_ ?_).mono ?_; (all_goals try omega); rintro e w' ⟨rfl, rfl⟩)
        go_ret
        exact ⟨ret_bool (by simp [inB, roomI, c0, c4]; omega), rfl⟩
  · by_cases c4 : size < pw (bits.toNat - 1)
    · go_enter Try.func20, Try.ntmps20
      go_wp2_with (go_at_call 45; refine (power_any _ _ ?_ ?_).mono ?_; (all_goals try omega); rintro e w' ⟨rfl, rfl⟩)
      go_ret
      exact ⟨ret_bool (by simp [inB, roomI, c4]), rfl⟩
    · have c5 : decide (size < pw (bits.toNat - 1)) = false := by simp; omega
      go_enter Try.func20, Try.ntmps20
      go_wp2_with (go_at_call 45; refine (power_any _ _ ?_ ?_).mono ?_; (all_goals try omega); rintro e w' ⟨rfl, rfl⟩)
      go_ret
      exact ⟨ret_bool (by simp [inB, roomI, c0, c4]; omega), rfl⟩
  · go_enter Try.func20, Try.ntmps20
    go_wp2
    go_ret
    exact ⟨ret_bool (by simp [inB, roomI, c0]), rfl⟩
  · by_cases c4 : size < pw (bits.toNat - 1)
    · go_enter Try.func20, Try.ntmps20
      go_wp2_with (go_at_call 45; refine (power_any _ _ ?_ ?_).mono ?_; (all_goals try omega); rintro e w' ⟨rfl, rfl⟩)
      go_ret
      exact ⟨ret_bool (by simp [inB, roomI, c4]), rfl⟩
    · have c5 : decide (size < pw (bits.toNat - 1)) = false := by simp; omega
      by_cases c6 : size = pw (bits.toNat - 1)
      · have c7 : (size == pw (bits.toNat - 1)) = true := by simp [c6]
        have HZ : Hid (size = pw (bits.toNat - 1)) := c6
        clear c6
        go_enter Try.func20, Try.ntmps20
        go_wp2_with (go_at_call 45; refine (power_any _ _ ?_ ?_).mono ?_; (all_goals try omega); rintro e w' ⟨rfl, rfl⟩)
        go_ret
        exact ⟨ret_bool (by have := HZ.out; simp [inB, roomI, this]), rfl⟩
      · have c7 : (size == pw (bits.toNat - 1)) = false := by simp [c6]
        go_enter Try.func20, Try.ntmps20
        go_wp2_with (go_at_call 45; refine (power_any _ _ ?_ ?_).mono ?_; (all_goals try omega); rintro e w' ⟨rfl, rfl⟩)
        go_ret
        exact ⟨ret_bool (by simp [inB, roomI, c0, c6]; omega), rfl⟩

theorem fits_any (ok want : Bool) (got x : Int) (w : World) (h1 : want = ok) (h2 : ok = true → got = x) (h3 : ok = false → got = 0) :
    Calls Try.prog 19 #[.bool ok, .int .i64 got, .int .i64 x, .bool want] w fun e w' => e = .returned (.bool true) ∧ w' = w := by
  subst h1
  cases want
  · have e1 : (got == 0) = true := by simp [h3]
    clear h2 h3
    go_enter Try.func19, Try.ntmps19
    go_wp2
    go_ret
    exact ⟨rfl, rfl⟩
  · have e1 : (got == x) = true := by simp [h2]
    clear h2 h3
    go_enter Try.func19, Try.ntmps19
    go_wp2
    go_ret
    exact ⟨rfl, rfl⟩

theorem bare_any (ok want : Bool) (got x : Int) (w : World) (h1 : want = ok) (h2 : ok = true → got = x) (h3 : ok = false → got = 0) :
    Calls Try.prog 31 #[.bool ok, .int .u64 got, .int .u64 x, .bool want] w fun e w' => e = .returned (.bool true) ∧ w' = w := by
  subst h1
  cases want
  · have e1 : (got == 0) = true := by simp [h3]
    clear h2 h3
    go_enter Try.func31, Try.ntmps31
    go_wp2
    go_ret
    exact ⟨rfl, rfl⟩
  · have e1 : (got == x) = true := by simp [h2]
    clear h2 h3
    go_enter Try.func31, Try.ntmps31
    go_wp2
    go_ret
    exact ⟨rfl, rfl⟩

/-! ### Fit, in one form for both answers -/
def loK : IntKind → Int
  | .i8 => -128
  | .i16 => -32768
  | .i32 => -2147483648
  | .i64 => -9223372036854775808
  | .u8 => 0
  | .u16 => 0
  | .u32 => 0
  | .u64 => 0
def hiK : IntKind → Int
  | .i8 => 127
  | .i16 => 32767
  | .i32 => 2147483647
  | .i64 => 9223372036854775807
  | .u8 => 255
  | .u16 => 65535
  | .u32 => 4294967295
  | .u64 => 18446744073709551615
def fitB (k : IntKind) (x : Int) : Bool := decide (loK k ≤ x ∧ x ≤ hiK k)
def fitV (k : IntKind) (x : Int) : Int := if loK k ≤ x ∧ x ≤ hiK k then x else 0
theorem fitV_yes (k : IntKind) (x : Int) (h : fitB k x = true) : fitV k x = x := by
  unfold fitB at h; unfold fitV; rw [if_pos (of_decide_eq_true h)]
theorem fitV_no (k : IntKind) (x : Int) (h : fitB k x = false) : fitV k x = 0 := by
  unfold fitB at h; unfold fitV; rw [if_neg (of_decide_eq_false h)]
theorem fitV_i8 (x : Int) : -128 ≤ fitV .i8 x ∧ fitV .i8 x ≤ 127 := by
  unfold fitV; simp only [loK, hiK]; omega
theorem fitV_i16 (x : Int) : -32768 ≤ fitV .i16 x ∧ fitV .i16 x ≤ 32767 := by
  unfold fitV; simp only [loK, hiK]; omega
theorem fitV_i32 (x : Int) : -2147483648 ≤ fitV .i32 x ∧ fitV .i32 x ≤ 2147483647 := by
  unfold fitV; simp only [loK, hiK]; omega
theorem fitV_i64 (x : Int) : -9223372036854775808 ≤ fitV .i64 x ∧ fitV .i64 x ≤ 9223372036854775807 := by
  unfold fitV; simp only [loK, hiK]; omega
theorem fitV_u8 (x : Int) : 0 ≤ fitV .u8 x ∧ fitV .u8 x ≤ 255 := by
  unfold fitV; simp only [loK, hiK]; omega
theorem fitV_u16 (x : Int) : 0 ≤ fitV .u16 x ∧ fitV .u16 x ≤ 65535 := by
  unfold fitV; simp only [loK, hiK]; omega
theorem fitV_u32 (x : Int) : 0 ≤ fitV .u32 x ∧ fitV .u32 x ≤ 4294967295 := by
  unfold fitV; simp only [loK, hiK]; omega
theorem fitV_u64 (x : Int) : 0 ≤ fitV .u64 x ∧ fitV .u64 x ≤ 18446744073709551615 := by
  unfold fitV; simp only [loK, hiK]; omega
theorem ret_fit {k : IntKind} {a b : Int} {c d : Bool} (h : a = b) (h' : c = d) : Ending.returned (.tuple #[.int k a, .bool c]) = .returned (.tuple #[.int k b, .bool d]) := by rw [h, h']
theorem fit9_any (x : Int) (w : World) (l0 : -9223372036854775808 ≤ x) (l1 : x ≤ 9223372036854775807) :
    Calls Try.prog 9 #[.int .i64 x] w fun e w' => e = .returned (.tuple #[.int .i8 (fitV .i8 x), .bool (fitB .i8 x)]) ∧ w' = w := by
  by_cases c : -128 ≤ x ∧ x ≤ 127
  · refine (fit9_yes x w l0 l1 c.1 c.2).mono ?_
    rintro e w' ⟨rfl, rfl⟩
    exact ⟨ret_fit (by unfold fitV; exact (if_pos c).symm) (by unfold fitB; exact (decide_eq_true c).symm), rfl⟩
  · refine (fit9_no x w l0 l1 (by omega)).mono ?_
    rintro e w' ⟨rfl, rfl⟩
    exact ⟨ret_fit (by unfold fitV; exact (if_neg c).symm) (by unfold fitB; exact (decide_eq_false c).symm), rfl⟩
theorem fit10_any (x : Int) (w : World) (l0 : -9223372036854775808 ≤ x) (l1 : x ≤ 9223372036854775807) :
    Calls Try.prog 10 #[.int .i64 x] w fun e w' => e = .returned (.tuple #[.int .i16 (fitV .i16 x), .bool (fitB .i16 x)]) ∧ w' = w := by
  by_cases c : -32768 ≤ x ∧ x ≤ 32767
  · refine (fit10_yes x w l0 l1 c.1 c.2).mono ?_
    rintro e w' ⟨rfl, rfl⟩
    exact ⟨ret_fit (by unfold fitV; exact (if_pos c).symm) (by unfold fitB; exact (decide_eq_true c).symm), rfl⟩
  · refine (fit10_no x w l0 l1 (by omega)).mono ?_
    rintro e w' ⟨rfl, rfl⟩
    exact ⟨ret_fit (by unfold fitV; exact (if_neg c).symm) (by unfold fitB; exact (decide_eq_false c).symm), rfl⟩
theorem fit11_any (x : Int) (w : World) (l0 : -9223372036854775808 ≤ x) (l1 : x ≤ 9223372036854775807) :
    Calls Try.prog 11 #[.int .i64 x] w fun e w' => e = .returned (.tuple #[.int .i32 (fitV .i32 x), .bool (fitB .i32 x)]) ∧ w' = w := by
  by_cases c : -2147483648 ≤ x ∧ x ≤ 2147483647
  · refine (fit11_yes x w l0 l1 c.1 c.2).mono ?_
    rintro e w' ⟨rfl, rfl⟩
    exact ⟨ret_fit (by unfold fitV; exact (if_pos c).symm) (by unfold fitB; exact (decide_eq_true c).symm), rfl⟩
  · refine (fit11_no x w l0 l1 (by omega)).mono ?_
    rintro e w' ⟨rfl, rfl⟩
    exact ⟨ret_fit (by unfold fitV; exact (if_neg c).symm) (by unfold fitB; exact (decide_eq_false c).symm), rfl⟩
theorem fit14_any (x : Int) (w : World) (l0 : -9223372036854775808 ≤ x) (l1 : x ≤ 9223372036854775807) :
    Calls Try.prog 14 #[.int .i64 x] w fun e w' => e = .returned (.tuple #[.int .u8 (fitV .u8 x), .bool (fitB .u8 x)]) ∧ w' = w := by
  by_cases c : 0 ≤ x ∧ x ≤ 255
  · refine (fit14_yes x w l0 l1 c.1 c.2).mono ?_
    rintro e w' ⟨rfl, rfl⟩
    exact ⟨ret_fit (by unfold fitV; exact (if_pos c).symm) (by unfold fitB; exact (decide_eq_true c).symm), rfl⟩
  · refine (fit14_no x w l0 l1 (by omega)).mono ?_
    rintro e w' ⟨rfl, rfl⟩
    exact ⟨ret_fit (by unfold fitV; exact (if_neg c).symm) (by unfold fitB; exact (decide_eq_false c).symm), rfl⟩
theorem fit15_any (x : Int) (w : World) (l0 : -9223372036854775808 ≤ x) (l1 : x ≤ 9223372036854775807) :
    Calls Try.prog 15 #[.int .i64 x] w fun e w' => e = .returned (.tuple #[.int .u16 (fitV .u16 x), .bool (fitB .u16 x)]) ∧ w' = w := by
  by_cases c : 0 ≤ x ∧ x ≤ 65535
  · refine (fit15_yes x w l0 l1 c.1 c.2).mono ?_
    rintro e w' ⟨rfl, rfl⟩
    exact ⟨ret_fit (by unfold fitV; exact (if_pos c).symm) (by unfold fitB; exact (decide_eq_true c).symm), rfl⟩
  · refine (fit15_no x w l0 l1 (by omega)).mono ?_
    rintro e w' ⟨rfl, rfl⟩
    exact ⟨ret_fit (by unfold fitV; exact (if_neg c).symm) (by unfold fitB; exact (decide_eq_false c).symm), rfl⟩
theorem fit16_any (x : Int) (w : World) (l0 : -9223372036854775808 ≤ x) (l1 : x ≤ 9223372036854775807) :
    Calls Try.prog 16 #[.int .i64 x] w fun e w' => e = .returned (.tuple #[.int .u32 (fitV .u32 x), .bool (fitB .u32 x)]) ∧ w' = w := by
  by_cases c : 0 ≤ x ∧ x ≤ 4294967295
  · refine (fit16_yes x w l0 l1 c.1 c.2).mono ?_
    rintro e w' ⟨rfl, rfl⟩
    exact ⟨ret_fit (by unfold fitV; exact (if_pos c).symm) (by unfold fitB; exact (decide_eq_true c).symm), rfl⟩
  · refine (fit16_no x w l0 l1 (by omega)).mono ?_
    rintro e w' ⟨rfl, rfl⟩
    exact ⟨ret_fit (by unfold fitV; exact (if_neg c).symm) (by unfold fitB; exact (decide_eq_false c).symm), rfl⟩
theorem fit17_any (x : Int) (w : World) (l0 : -9223372036854775808 ≤ x) (l1 : x ≤ 9223372036854775807) :
    Calls Try.prog 17 #[.int .i64 x] w fun e w' => e = .returned (.tuple #[.int .u64 (fitV .u64 x), .bool (fitB .u64 x)]) ∧ w' = w := by
  by_cases c : 0 ≤ x ∧ x ≤ 18446744073709551615
  · refine (fit17_yes x w l0 l1 c.1 c.2).mono ?_
    rintro e w' ⟨rfl, rfl⟩
    exact ⟨ret_fit (by unfold fitV; exact (if_pos c).symm) (by unfold fitB; exact (decide_eq_true c).symm), rfl⟩
  · refine (fit17_no x w l0 l1 (by omega)).mono ?_
    rintro e w' ⟨rfl, rfl⟩
    exact ⟨ret_fit (by unfold fitV; exact (if_neg c).symm) (by unfold fitB; exact (decide_eq_false c).symm), rfl⟩
theorem fit21_any (x : Int) (w : World) (l0 : 0 ≤ x) (l1 : x ≤ 18446744073709551615) :
    Calls Try.prog 21 #[.int .u64 x] w fun e w' => e = .returned (.tuple #[.int .i8 (fitV .i8 x), .bool (fitB .i8 x)]) ∧ w' = w := by
  by_cases c : -128 ≤ x ∧ x ≤ 127
  · refine (fit21_yes x w l0 l1 c.1 c.2).mono ?_
    rintro e w' ⟨rfl, rfl⟩
    exact ⟨ret_fit (by unfold fitV; exact (if_pos c).symm) (by unfold fitB; exact (decide_eq_true c).symm), rfl⟩
  · refine (fit21_no x w l0 l1 (by omega)).mono ?_
    rintro e w' ⟨rfl, rfl⟩
    exact ⟨ret_fit (by unfold fitV; exact (if_neg c).symm) (by unfold fitB; exact (decide_eq_false c).symm), rfl⟩
theorem fit22_any (x : Int) (w : World) (l0 : 0 ≤ x) (l1 : x ≤ 18446744073709551615) :
    Calls Try.prog 22 #[.int .u64 x] w fun e w' => e = .returned (.tuple #[.int .i16 (fitV .i16 x), .bool (fitB .i16 x)]) ∧ w' = w := by
  by_cases c : -32768 ≤ x ∧ x ≤ 32767
  · refine (fit22_yes x w l0 l1 c.1 c.2).mono ?_
    rintro e w' ⟨rfl, rfl⟩
    exact ⟨ret_fit (by unfold fitV; exact (if_pos c).symm) (by unfold fitB; exact (decide_eq_true c).symm), rfl⟩
  · refine (fit22_no x w l0 l1 (by omega)).mono ?_
    rintro e w' ⟨rfl, rfl⟩
    exact ⟨ret_fit (by unfold fitV; exact (if_neg c).symm) (by unfold fitB; exact (decide_eq_false c).symm), rfl⟩
theorem fit23_any (x : Int) (w : World) (l0 : 0 ≤ x) (l1 : x ≤ 18446744073709551615) :
    Calls Try.prog 23 #[.int .u64 x] w fun e w' => e = .returned (.tuple #[.int .i32 (fitV .i32 x), .bool (fitB .i32 x)]) ∧ w' = w := by
  by_cases c : -2147483648 ≤ x ∧ x ≤ 2147483647
  · refine (fit23_yes x w l0 l1 c.1 c.2).mono ?_
    rintro e w' ⟨rfl, rfl⟩
    exact ⟨ret_fit (by unfold fitV; exact (if_pos c).symm) (by unfold fitB; exact (decide_eq_true c).symm), rfl⟩
  · refine (fit23_no x w l0 l1 (by omega)).mono ?_
    rintro e w' ⟨rfl, rfl⟩
    exact ⟨ret_fit (by unfold fitV; exact (if_neg c).symm) (by unfold fitB; exact (decide_eq_false c).symm), rfl⟩
theorem fit24_any (x : Int) (w : World) (l0 : 0 ≤ x) (l1 : x ≤ 18446744073709551615) :
    Calls Try.prog 24 #[.int .u64 x] w fun e w' => e = .returned (.tuple #[.int .i64 (fitV .i64 x), .bool (fitB .i64 x)]) ∧ w' = w := by
  by_cases c : -9223372036854775808 ≤ x ∧ x ≤ 9223372036854775807
  · refine (fit24_yes x w l0 l1 c.1 c.2).mono ?_
    rintro e w' ⟨rfl, rfl⟩
    exact ⟨ret_fit (by unfold fitV; exact (if_pos c).symm) (by unfold fitB; exact (decide_eq_true c).symm), rfl⟩
  · refine (fit24_no x w l0 l1 (by omega)).mono ?_
    rintro e w' ⟨rfl, rfl⟩
    exact ⟨ret_fit (by unfold fitV; exact (if_neg c).symm) (by unfold fitB; exact (decide_eq_false c).symm), rfl⟩
theorem fit25_any (x : Int) (w : World) (l0 : 0 ≤ x) (l1 : x ≤ 18446744073709551615) :
    Calls Try.prog 25 #[.int .u64 x] w fun e w' => e = .returned (.tuple #[.int .i64 (fitV .i64 x), .bool (fitB .i64 x)]) ∧ w' = w := by
  by_cases c : -9223372036854775808 ≤ x ∧ x ≤ 9223372036854775807
  · refine (fit25_yes x w l0 l1 c.1 c.2).mono ?_
    rintro e w' ⟨rfl, rfl⟩
    exact ⟨ret_fit (by unfold fitV; exact (if_pos c).symm) (by unfold fitB; exact (decide_eq_true c).symm), rfl⟩
  · refine (fit25_no x w l0 l1 (by omega)).mono ?_
    rintro e w' ⟨rfl, rfl⟩
    exact ⟨ret_fit (by unfold fitV; exact (if_neg c).symm) (by unfold fitB; exact (decide_eq_false c).symm), rfl⟩
theorem fit26_any (x : Int) (w : World) (l0 : 0 ≤ x) (l1 : x ≤ 18446744073709551615) :
    Calls Try.prog 26 #[.int .u64 x] w fun e w' => e = .returned (.tuple #[.int .u8 (fitV .u8 x), .bool (fitB .u8 x)]) ∧ w' = w := by
  by_cases c : 0 ≤ x ∧ x ≤ 255
  · refine (fit26_yes x w l0 l1 c.1 c.2).mono ?_
    rintro e w' ⟨rfl, rfl⟩
    exact ⟨ret_fit (by unfold fitV; exact (if_pos c).symm) (by unfold fitB; exact (decide_eq_true c).symm), rfl⟩
  · refine (fit26_no x w l0 l1 (by omega)).mono ?_
    rintro e w' ⟨rfl, rfl⟩
    exact ⟨ret_fit (by unfold fitV; exact (if_neg c).symm) (by unfold fitB; exact (decide_eq_false c).symm), rfl⟩
theorem fit27_any (x : Int) (w : World) (l0 : 0 ≤ x) (l1 : x ≤ 18446744073709551615) :
    Calls Try.prog 27 #[.int .u64 x] w fun e w' => e = .returned (.tuple #[.int .u16 (fitV .u16 x), .bool (fitB .u16 x)]) ∧ w' = w := by
  by_cases c : 0 ≤ x ∧ x ≤ 65535
  · refine (fit27_yes x w l0 l1 c.1 c.2).mono ?_
    rintro e w' ⟨rfl, rfl⟩
    exact ⟨ret_fit (by unfold fitV; exact (if_pos c).symm) (by unfold fitB; exact (decide_eq_true c).symm), rfl⟩
  · refine (fit27_no x w l0 l1 (by omega)).mono ?_
    rintro e w' ⟨rfl, rfl⟩
    exact ⟨ret_fit (by unfold fitV; exact (if_neg c).symm) (by unfold fitB; exact (decide_eq_false c).symm), rfl⟩
theorem fit28_any (x : Int) (w : World) (l0 : 0 ≤ x) (l1 : x ≤ 18446744073709551615) :
    Calls Try.prog 28 #[.int .u64 x] w fun e w' => e = .returned (.tuple #[.int .u32 (fitV .u32 x), .bool (fitB .u32 x)]) ∧ w' = w := by
  by_cases c : 0 ≤ x ∧ x ≤ 4294967295
  · refine (fit28_yes x w l0 l1 c.1 c.2).mono ?_
    rintro e w' ⟨rfl, rfl⟩
    exact ⟨ret_fit (by unfold fitV; exact (if_pos c).symm) (by unfold fitB; exact (decide_eq_true c).symm), rfl⟩
  · refine (fit28_no x w l0 l1 (by omega)).mono ?_
    rintro e w' ⟨rfl, rfl⟩
    exact ⟨ret_fit (by unfold fitV; exact (if_neg c).symm) (by unfold fitB; exact (decide_eq_false c).symm), rfl⟩
theorem fit30_any (x : Int) (w : World) (l0 : 0 ≤ x) (l1 : x ≤ 65535) :
    Calls Try.prog 30 #[.int .u16 x] w fun e w' => e = .returned (.tuple #[.int .i8 (fitV .i8 x), .bool (fitB .i8 x)]) ∧ w' = w := by
  by_cases c : -128 ≤ x ∧ x ≤ 127
  · refine (fit30_yes x w l0 l1 c.1 c.2).mono ?_
    rintro e w' ⟨rfl, rfl⟩
    exact ⟨ret_fit (by unfold fitV; exact (if_pos c).symm) (by unfold fitB; exact (decide_eq_true c).symm), rfl⟩
  · refine (fit30_no x w l0 l1 (by omega)).mono ?_
    rintro e w' ⟨rfl, rfl⟩
    exact ⟨ret_fit (by unfold fitV; exact (if_neg c).symm) (by unfold fitB; exact (decide_eq_false c).symm), rfl⟩
end Go.Proofs.Ytbfpcpagiiamoaa

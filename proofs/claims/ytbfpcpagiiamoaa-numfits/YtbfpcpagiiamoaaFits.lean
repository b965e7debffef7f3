/- What Fit answers, kind by kind: the number and true where it lies within the other kind, 0 and false where not. Condition: the number lies within its own kind. -/
import Derived.Test.YtbfpcpagiiamoaaWalks
namespace Go.Proofs.Ytbfpcpagiiamoaa
open Go.ChangeShapes Go.WideShapes Go.ChangeAt Go.RowKit
set_option linter.unusedVariables false

theorem fit9_yes (x : Int) (w : World) (l0 : -9223372036854775808 ≤ x) (l1 : x ≤ 9223372036854775807) (m0 : -128 ≤ x) (m1 : x ≤ 127) :
    Calls Try.prog 9 #[.int .i64 x] w fun e w' => e = .returned (.tuple #[.int .i8 x, .bool true]) ∧ w' = w := by
  by_cases s : x < 0
  · go_enter Try.func9, Try.ntmps9
    go_wp2
    go_ret2
    exact ⟨rfl, rfl⟩
  · go_enter Try.func9, Try.ntmps9
    go_wp2
    go_ret2
    exact ⟨rfl, rfl⟩

theorem fit9_no (x : Int) (w : World) (l0 : -9223372036854775808 ≤ x) (l1 : x ≤ 9223372036854775807) (m : x < -128 ∨ 127 < x) :
    Calls Try.prog 9 #[.int .i64 x] w fun e w' => e = .returned (.tuple #[.int .i8 0, .bool false]) ∧ w' = w := by
  obtain ⟨y, hy, hl, hh⟩ : ∃ y, IntKind.i8.wrap x = y ∧ -128 ≤ y ∧ y ≤ 127 := ⟨_, rfl, by rw [w_i8]; omega, by rw [w_i8]; omega⟩
  go_enter Try.func9, Try.ntmps9
  go_wp2
  go_ret2
  exact ⟨rfl, rfl⟩

theorem fit10_yes (x : Int) (w : World) (l0 : -9223372036854775808 ≤ x) (l1 : x ≤ 9223372036854775807) (m0 : -32768 ≤ x) (m1 : x ≤ 32767) :
    Calls Try.prog 10 #[.int .i64 x] w fun e w' => e = .returned (.tuple #[.int .i16 x, .bool true]) ∧ w' = w := by
  by_cases s : x < 0
  · go_enter Try.func10, Try.ntmps10
    go_wp2
    go_ret2
    exact ⟨rfl, rfl⟩
  · go_enter Try.func10, Try.ntmps10
    go_wp2
    go_ret2
    exact ⟨rfl, rfl⟩

theorem fit10_no (x : Int) (w : World) (l0 : -9223372036854775808 ≤ x) (l1 : x ≤ 9223372036854775807) (m : x < -32768 ∨ 32767 < x) :
    Calls Try.prog 10 #[.int .i64 x] w fun e w' => e = .returned (.tuple #[.int .i16 0, .bool false]) ∧ w' = w := by
  obtain ⟨y, hy, hl, hh⟩ : ∃ y, IntKind.i16.wrap x = y ∧ -32768 ≤ y ∧ y ≤ 32767 := ⟨_, rfl, by rw [w_i16]; omega, by rw [w_i16]; omega⟩
  go_enter Try.func10, Try.ntmps10
  go_wp2
  go_ret2
  exact ⟨rfl, rfl⟩

theorem fit11_yes (x : Int) (w : World) (l0 : -9223372036854775808 ≤ x) (l1 : x ≤ 9223372036854775807) (m0 : -2147483648 ≤ x) (m1 : x ≤ 2147483647) :
    Calls Try.prog 11 #[.int .i64 x] w fun e w' => e = .returned (.tuple #[.int .i32 x, .bool true]) ∧ w' = w := by
  by_cases s : x < 0
  · go_enter Try.func11, Try.ntmps11
    go_wp2
    go_ret2
    exact ⟨rfl, rfl⟩
  · go_enter Try.func11, Try.ntmps11
    go_wp2
    go_ret2
    exact ⟨rfl, rfl⟩

theorem fit11_no (x : Int) (w : World) (l0 : -9223372036854775808 ≤ x) (l1 : x ≤ 9223372036854775807) (m : x < -2147483648 ∨ 2147483647 < x) :
    Calls Try.prog 11 #[.int .i64 x] w fun e w' => e = .returned (.tuple #[.int .i32 0, .bool false]) ∧ w' = w := by
  obtain ⟨y, hy, hl, hh⟩ : ∃ y, wrap32 x = y ∧ -2147483648 ≤ y ∧ y ≤ 2147483647 := ⟨_, rfl, by rw [w_i32]; omega, by rw [w_i32]; omega⟩
  go_enter Try.func11, Try.ntmps11
  go_wp2
  go_ret2
  exact ⟨rfl, rfl⟩

theorem fit12_yes (x : Int) (w : World) (l0 : -9223372036854775808 ≤ x) (l1 : x ≤ 9223372036854775807) (m0 : -9223372036854775808 ≤ x) (m1 : x ≤ 9223372036854775807) :
    Calls Try.prog 12 #[.int .i64 x] w fun e w' => e = .returned (.tuple #[.int .i64 x, .bool true]) ∧ w' = w := by
  by_cases s : x < 0
  · go_enter Try.func12, Try.ntmps12
    go_wp2
    go_ret2
    exact ⟨rfl, rfl⟩
  · go_enter Try.func12, Try.ntmps12
    go_wp2
    go_ret2
    exact ⟨rfl, rfl⟩

theorem fit13_yes (x : Int) (w : World) (l0 : -9223372036854775808 ≤ x) (l1 : x ≤ 9223372036854775807) (m0 : -9223372036854775808 ≤ x) (m1 : x ≤ 9223372036854775807) :
    Calls Try.prog 13 #[.int .i64 x] w fun e w' => e = .returned (.tuple #[.int .i64 x, .bool true]) ∧ w' = w := by
  by_cases s : x < 0
  · go_enter Try.func13, Try.ntmps13
    go_wp2
    go_ret2
    exact ⟨rfl, rfl⟩
  · go_enter Try.func13, Try.ntmps13
    go_wp2
    go_ret2
    exact ⟨rfl, rfl⟩

theorem fit14_yes (x : Int) (w : World) (l0 : -9223372036854775808 ≤ x) (l1 : x ≤ 9223372036854775807) (m0 : 0 ≤ x) (m1 : x ≤ 255) :
    Calls Try.prog 14 #[.int .i64 x] w fun e w' => e = .returned (.tuple #[.int .u8 x, .bool true]) ∧ w' = w := by
  by_cases s : x < 0
  · go_enter Try.func14, Try.ntmps14
    go_wp2
    go_ret2
    exact ⟨rfl, rfl⟩
  · go_enter Try.func14, Try.ntmps14
    go_wp2
    go_ret2
    exact ⟨rfl, rfl⟩

theorem fit14_no (x : Int) (w : World) (l0 : -9223372036854775808 ≤ x) (l1 : x ≤ 9223372036854775807) (m : x < 0 ∨ 255 < x) :
    Calls Try.prog 14 #[.int .i64 x] w fun e w' => e = .returned (.tuple #[.int .u8 0, .bool false]) ∧ w' = w := by
  obtain ⟨y, hy, hl, hh⟩ : ∃ y, IntKind.u8.wrap x = y ∧ 0 ≤ y ∧ y ≤ 255 := ⟨_, rfl, by rw [w_u8]; omega, by rw [w_u8]; omega⟩
  go_enter Try.func14, Try.ntmps14
  go_wp2
  go_ret2
  exact ⟨rfl, rfl⟩

theorem fit15_yes (x : Int) (w : World) (l0 : -9223372036854775808 ≤ x) (l1 : x ≤ 9223372036854775807) (m0 : 0 ≤ x) (m1 : x ≤ 65535) :
    Calls Try.prog 15 #[.int .i64 x] w fun e w' => e = .returned (.tuple #[.int .u16 x, .bool true]) ∧ w' = w := by
  by_cases s : x < 0
  · go_enter Try.func15, Try.ntmps15
    go_wp2
    go_ret2
    exact ⟨rfl, rfl⟩
  · go_enter Try.func15, Try.ntmps15
    go_wp2
    go_ret2
    exact ⟨rfl, rfl⟩

theorem fit15_no (x : Int) (w : World) (l0 : -9223372036854775808 ≤ x) (l1 : x ≤ 9223372036854775807) (m : x < 0 ∨ 65535 < x) :
    Calls Try.prog 15 #[.int .i64 x] w fun e w' => e = .returned (.tuple #[.int .u16 0, .bool false]) ∧ w' = w := by
  obtain ⟨y, hy, hl, hh⟩ : ∃ y, IntKind.u16.wrap x = y ∧ 0 ≤ y ∧ y ≤ 65535 := ⟨_, rfl, by rw [w_u16]; omega, by rw [w_u16]; omega⟩
  go_enter Try.func15, Try.ntmps15
  go_wp2
  go_ret2
  exact ⟨rfl, rfl⟩

theorem fit16_yes (x : Int) (w : World) (l0 : -9223372036854775808 ≤ x) (l1 : x ≤ 9223372036854775807) (m0 : 0 ≤ x) (m1 : x ≤ 4294967295) :
    Calls Try.prog 16 #[.int .i64 x] w fun e w' => e = .returned (.tuple #[.int .u32 x, .bool true]) ∧ w' = w := by
  by_cases s : x < 0
  · go_enter Try.func16, Try.ntmps16
    go_wp2
    go_ret2
    exact ⟨rfl, rfl⟩
  · go_enter Try.func16, Try.ntmps16
    go_wp2
    go_ret2
    exact ⟨rfl, rfl⟩

theorem fit16_no (x : Int) (w : World) (l0 : -9223372036854775808 ≤ x) (l1 : x ≤ 9223372036854775807) (m : x < 0 ∨ 4294967295 < x) :
    Calls Try.prog 16 #[.int .i64 x] w fun e w' => e = .returned (.tuple #[.int .u32 0, .bool false]) ∧ w' = w := by
  obtain ⟨y, hy, hl, hh⟩ : ∃ y, IntKind.u32.wrap x = y ∧ 0 ≤ y ∧ y ≤ 4294967295 := ⟨_, rfl, by rw [w_u32]; omega, by rw [w_u32]; omega⟩
  go_enter Try.func16, Try.ntmps16
  go_wp2
  go_ret2
  exact ⟨rfl, rfl⟩

theorem fit17_yes (x : Int) (w : World) (l0 : -9223372036854775808 ≤ x) (l1 : x ≤ 9223372036854775807) (m0 : 0 ≤ x) (m1 : x ≤ 18446744073709551615) :
    Calls Try.prog 17 #[.int .i64 x] w fun e w' => e = .returned (.tuple #[.int .u64 x, .bool true]) ∧ w' = w := by
  by_cases s : x < 0
  · go_enter Try.func17, Try.ntmps17
    go_wp2
    go_ret2
    exact ⟨rfl, rfl⟩
  · go_enter Try.func17, Try.ntmps17
    go_wp2
    go_ret2
    exact ⟨rfl, rfl⟩

theorem fit17_no (x : Int) (w : World) (l0 : -9223372036854775808 ≤ x) (l1 : x ≤ 9223372036854775807) (m : x < 0 ∨ 18446744073709551615 < x) :
    Calls Try.prog 17 #[.int .i64 x] w fun e w' => e = .returned (.tuple #[.int .u64 0, .bool false]) ∧ w' = w := by
  obtain ⟨y, hy, hl, hh⟩ : ∃ y, IntKind.u64.wrap x = y ∧ 0 ≤ y ∧ y ≤ 18446744073709551615 := ⟨_, rfl, by rw [w_u64]; omega, by rw [w_u64]; omega⟩
  by_cases c : 9223372036854775807 < y
  · obtain ⟨z, hz⟩ : ∃ z, wrap64 y = z := ⟨_, rfl⟩
    by_cases e : z = x
    · have s1 : decide (y < 0) = false := by simp; omega
      have s2 : decide (x < 0) = true := by rw [w_u64] at hy; rw [w_i64] at hz; simp; omega
      rw [e] at hz
      clear e
      go_enter Try.func17, Try.ntmps17
      go_wp2
      go_ret2
      exact ⟨rfl, rfl⟩
    · go_enter Try.func17, Try.ntmps17
      go_wp2
      go_ret2
      exact ⟨rfl, rfl⟩
  · go_enter Try.func17, Try.ntmps17
    go_wp2
    go_ret2
    exact ⟨rfl, rfl⟩

theorem fit21_yes (x : Int) (w : World) (l0 : 0 ≤ x) (l1 : x ≤ 18446744073709551615) (m0 : -128 ≤ x) (m1 : x ≤ 127) :
    Calls Try.prog 21 #[.int .u64 x] w fun e w' => e = .returned (.tuple #[.int .i8 x, .bool true]) ∧ w' = w := by
  by_cases s : x < 0
  · go_enter Try.func21, Try.ntmps21
    go_wp2
    go_ret2
    exact ⟨rfl, rfl⟩
  · go_enter Try.func21, Try.ntmps21
    go_wp2
    go_ret2
    exact ⟨rfl, rfl⟩

theorem fit21_no (x : Int) (w : World) (l0 : 0 ≤ x) (l1 : x ≤ 18446744073709551615) (m : x < -128 ∨ 127 < x) :
    Calls Try.prog 21 #[.int .u64 x] w fun e w' => e = .returned (.tuple #[.int .i8 0, .bool false]) ∧ w' = w := by
  obtain ⟨y, hy, hl, hh⟩ : ∃ y, IntKind.i8.wrap x = y ∧ -128 ≤ y ∧ y ≤ 127 := ⟨_, rfl, by rw [w_i8]; omega, by rw [w_i8]; omega⟩
  by_cases c : y < 0
  · obtain ⟨z, hz⟩ : ∃ z, IntKind.u64.wrap y = z := ⟨_, rfl⟩
    by_cases e : z = x
    · have s1 : decide (y < 0) = true := by simp; omega
      have s2 : decide (x < 0) = false := by rw [w_i8] at hy; rw [w_u64] at hz; simp; omega
      rw [e] at hz
      clear e
      go_enter Try.func21, Try.ntmps21
      go_wp2
      go_ret2
      exact ⟨rfl, rfl⟩
    · go_enter Try.func21, Try.ntmps21
      go_wp2
      go_ret2
      exact ⟨rfl, rfl⟩
  · go_enter Try.func21, Try.ntmps21
    go_wp2
    go_ret2
    exact ⟨rfl, rfl⟩

theorem fit22_yes (x : Int) (w : World) (l0 : 0 ≤ x) (l1 : x ≤ 18446744073709551615) (m0 : -32768 ≤ x) (m1 : x ≤ 32767) :
    Calls Try.prog 22 #[.int .u64 x] w fun e w' => e = .returned (.tuple #[.int .i16 x, .bool true]) ∧ w' = w := by
  by_cases s : x < 0
  · go_enter Try.func22, Try.ntmps22
    go_wp2
    go_ret2
    exact ⟨rfl, rfl⟩
  · go_enter Try.func22, Try.ntmps22
    go_wp2
    go_ret2
    exact ⟨rfl, rfl⟩

theorem fit22_no (x : Int) (w : World) (l0 : 0 ≤ x) (l1 : x ≤ 18446744073709551615) (m : x < -32768 ∨ 32767 < x) :
    Calls Try.prog 22 #[.int .u64 x] w fun e w' => e = .returned (.tuple #[.int .i16 0, .bool false]) ∧ w' = w := by
  obtain ⟨y, hy, hl, hh⟩ : ∃ y, IntKind.i16.wrap x = y ∧ -32768 ≤ y ∧ y ≤ 32767 := ⟨_, rfl, by rw [w_i16]; omega, by rw [w_i16]; omega⟩
  by_cases c : y < 0
  · obtain ⟨z, hz⟩ : ∃ z, IntKind.u64.wrap y = z := ⟨_, rfl⟩
    by_cases e : z = x
    · have s1 : decide (y < 0) = true := by simp; omega
      have s2 : decide (x < 0) = false := by rw [w_i16] at hy; rw [w_u64] at hz; simp; omega
      rw [e] at hz
      clear e
      go_enter Try.func22, Try.ntmps22
      go_wp2
      go_ret2
      exact ⟨rfl, rfl⟩
    · go_enter Try.func22, Try.ntmps22
      go_wp2
      go_ret2
      exact ⟨rfl, rfl⟩
  · go_enter Try.func22, Try.ntmps22
    go_wp2
    go_ret2
    exact ⟨rfl, rfl⟩

theorem fit23_yes (x : Int) (w : World) (l0 : 0 ≤ x) (l1 : x ≤ 18446744073709551615) (m0 : -2147483648 ≤ x) (m1 : x ≤ 2147483647) :
    Calls Try.prog 23 #[.int .u64 x] w fun e w' => e = .returned (.tuple #[.int .i32 x, .bool true]) ∧ w' = w := by
  by_cases s : x < 0
  · go_enter Try.func23, Try.ntmps23
    go_wp2
    go_ret2
    exact ⟨rfl, rfl⟩
  · go_enter Try.func23, Try.ntmps23
    go_wp2
    go_ret2
    exact ⟨rfl, rfl⟩

theorem fit23_no (x : Int) (w : World) (l0 : 0 ≤ x) (l1 : x ≤ 18446744073709551615) (m : x < -2147483648 ∨ 2147483647 < x) :
    Calls Try.prog 23 #[.int .u64 x] w fun e w' => e = .returned (.tuple #[.int .i32 0, .bool false]) ∧ w' = w := by
  obtain ⟨y, hy, hl, hh⟩ : ∃ y, wrap32 x = y ∧ -2147483648 ≤ y ∧ y ≤ 2147483647 := ⟨_, rfl, by rw [w_i32]; omega, by rw [w_i32]; omega⟩
  by_cases c : y < 0
  · obtain ⟨z, hz⟩ : ∃ z, IntKind.u64.wrap y = z := ⟨_, rfl⟩
    by_cases e : z = x
    · have s1 : decide (y < 0) = true := by simp; omega
      have s2 : decide (x < 0) = false := by rw [w_i32] at hy; rw [w_u64] at hz; simp; omega
      rw [e] at hz
      clear e
      go_enter Try.func23, Try.ntmps23
      go_wp2
      go_ret2
      exact ⟨rfl, rfl⟩
    · go_enter Try.func23, Try.ntmps23
      go_wp2
      go_ret2
      exact ⟨rfl, rfl⟩
  · go_enter Try.func23, Try.ntmps23
    go_wp2
    go_ret2
    exact ⟨rfl, rfl⟩

theorem fit24_yes (x : Int) (w : World) (l0 : 0 ≤ x) (l1 : x ≤ 18446744073709551615) (m0 : -9223372036854775808 ≤ x) (m1 : x ≤ 9223372036854775807) :
    Calls Try.prog 24 #[.int .u64 x] w fun e w' => e = .returned (.tuple #[.int .i64 x, .bool true]) ∧ w' = w := by
  by_cases s : x < 0
  · go_enter Try.func24, Try.ntmps24
    go_wp2
    go_ret2
    exact ⟨rfl, rfl⟩
  · go_enter Try.func24, Try.ntmps24
    go_wp2
    go_ret2
    exact ⟨rfl, rfl⟩

theorem fit24_no (x : Int) (w : World) (l0 : 0 ≤ x) (l1 : x ≤ 18446744073709551615) (m : x < -9223372036854775808 ∨ 9223372036854775807 < x) :
    Calls Try.prog 24 #[.int .u64 x] w fun e w' => e = .returned (.tuple #[.int .i64 0, .bool false]) ∧ w' = w := by
  obtain ⟨y, hy, hl, hh⟩ : ∃ y, wrap64 x = y ∧ -9223372036854775808 ≤ y ∧ y ≤ 9223372036854775807 := ⟨_, rfl, by rw [w_i64]; omega, by rw [w_i64]; omega⟩
  by_cases c : y < 0
  · obtain ⟨z, hz⟩ : ∃ z, IntKind.u64.wrap y = z := ⟨_, rfl⟩
    by_cases e : z = x
    · have s1 : decide (y < 0) = true := by simp; omega
      have s2 : decide (x < 0) = false := by rw [w_i64] at hy; rw [w_u64] at hz; simp; omega
      rw [e] at hz
      clear e
      go_enter Try.func24, Try.ntmps24
      go_wp2
      go_ret2
      exact ⟨rfl, rfl⟩
    · go_enter Try.func24, Try.ntmps24
      go_wp2
      go_ret2
      exact ⟨rfl, rfl⟩
  · go_enter Try.func24, Try.ntmps24
    go_wp2
    go_ret2
    exact ⟨rfl, rfl⟩

theorem fit25_yes (x : Int) (w : World) (l0 : 0 ≤ x) (l1 : x ≤ 18446744073709551615) (m0 : -9223372036854775808 ≤ x) (m1 : x ≤ 9223372036854775807) :
    Calls Try.prog 25 #[.int .u64 x] w fun e w' => e = .returned (.tuple #[.int .i64 x, .bool true]) ∧ w' = w := by
  by_cases s : x < 0
  · go_enter Try.func25, Try.ntmps25
    go_wp2
    go_ret2
    exact ⟨rfl, rfl⟩
  · go_enter Try.func25, Try.ntmps25
    go_wp2
    go_ret2
    exact ⟨rfl, rfl⟩

theorem fit25_no (x : Int) (w : World) (l0 : 0 ≤ x) (l1 : x ≤ 18446744073709551615) (m : x < -9223372036854775808 ∨ 9223372036854775807 < x) :
    Calls Try.prog 25 #[.int .u64 x] w fun e w' => e = .returned (.tuple #[.int .i64 0, .bool false]) ∧ w' = w := by
  obtain ⟨y, hy, hl, hh⟩ : ∃ y, wrap64 x = y ∧ -9223372036854775808 ≤ y ∧ y ≤ 9223372036854775807 := ⟨_, rfl, by rw [w_i64]; omega, by rw [w_i64]; omega⟩
  by_cases c : y < 0
  · obtain ⟨z, hz⟩ : ∃ z, IntKind.u64.wrap y = z := ⟨_, rfl⟩
    by_cases e : z = x
    · have s1 : decide (y < 0) = true := by simp; omega
      have s2 : decide (x < 0) = false := by rw [w_i64] at hy; rw [w_u64] at hz; simp; omega
      rw [e] at hz
      clear e
      go_enter Try.func25, Try.ntmps25
      go_wp2
      go_ret2
      exact ⟨rfl, rfl⟩
    · go_enter Try.func25, Try.ntmps25
      go_wp2
      go_ret2
      exact ⟨rfl, rfl⟩
  · go_enter Try.func25, Try.ntmps25
    go_wp2
    go_ret2
    exact ⟨rfl, rfl⟩

theorem fit26_yes (x : Int) (w : World) (l0 : 0 ≤ x) (l1 : x ≤ 18446744073709551615) (m0 : 0 ≤ x) (m1 : x ≤ 255) :
    Calls Try.prog 26 #[.int .u64 x] w fun e w' => e = .returned (.tuple #[.int .u8 x, .bool true]) ∧ w' = w := by
  by_cases s : x < 0
  · go_enter Try.func26, Try.ntmps26
    go_wp2
    go_ret2
    exact ⟨rfl, rfl⟩
  · go_enter Try.func26, Try.ntmps26
    go_wp2
    go_ret2
    exact ⟨rfl, rfl⟩

theorem fit26_no (x : Int) (w : World) (l0 : 0 ≤ x) (l1 : x ≤ 18446744073709551615) (m : x < 0 ∨ 255 < x) :
    Calls Try.prog 26 #[.int .u64 x] w fun e w' => e = .returned (.tuple #[.int .u8 0, .bool false]) ∧ w' = w := by
  obtain ⟨y, hy, hl, hh⟩ : ∃ y, IntKind.u8.wrap x = y ∧ 0 ≤ y ∧ y ≤ 255 := ⟨_, rfl, by rw [w_u8]; omega, by rw [w_u8]; omega⟩
  go_enter Try.func26, Try.ntmps26
  go_wp2
  go_ret2
  exact ⟨rfl, rfl⟩

theorem fit27_yes (x : Int) (w : World) (l0 : 0 ≤ x) (l1 : x ≤ 18446744073709551615) (m0 : 0 ≤ x) (m1 : x ≤ 65535) :
    Calls Try.prog 27 #[.int .u64 x] w fun e w' => e = .returned (.tuple #[.int .u16 x, .bool true]) ∧ w' = w := by
  by_cases s : x < 0
  · go_enter Try.func27, Try.ntmps27
    go_wp2
    go_ret2
    exact ⟨rfl, rfl⟩
  · go_enter Try.func27, Try.ntmps27
    go_wp2
    go_ret2
    exact ⟨rfl, rfl⟩

theorem fit27_no (x : Int) (w : World) (l0 : 0 ≤ x) (l1 : x ≤ 18446744073709551615) (m : x < 0 ∨ 65535 < x) :
    Calls Try.prog 27 #[.int .u64 x] w fun e w' => e = .returned (.tuple #[.int .u16 0, .bool false]) ∧ w' = w := by
  obtain ⟨y, hy, hl, hh⟩ : ∃ y, IntKind.u16.wrap x = y ∧ 0 ≤ y ∧ y ≤ 65535 := ⟨_, rfl, by rw [w_u16]; omega, by rw [w_u16]; omega⟩
  go_enter Try.func27, Try.ntmps27
  go_wp2
  go_ret2
  exact ⟨rfl, rfl⟩

theorem fit28_yes (x : Int) (w : World) (l0 : 0 ≤ x) (l1 : x ≤ 18446744073709551615) (m0 : 0 ≤ x) (m1 : x ≤ 4294967295) :
    Calls Try.prog 28 #[.int .u64 x] w fun e w' => e = .returned (.tuple #[.int .u32 x, .bool true]) ∧ w' = w := by
  by_cases s : x < 0
  · go_enter Try.func28, Try.ntmps28
    go_wp2
    go_ret2
    exact ⟨rfl, rfl⟩
  · go_enter Try.func28, Try.ntmps28
    go_wp2
    go_ret2
    exact ⟨rfl, rfl⟩

theorem fit28_no (x : Int) (w : World) (l0 : 0 ≤ x) (l1 : x ≤ 18446744073709551615) (m : x < 0 ∨ 4294967295 < x) :
    Calls Try.prog 28 #[.int .u64 x] w fun e w' => e = .returned (.tuple #[.int .u32 0, .bool false]) ∧ w' = w := by
  obtain ⟨y, hy, hl, hh⟩ : ∃ y, IntKind.u32.wrap x = y ∧ 0 ≤ y ∧ y ≤ 4294967295 := ⟨_, rfl, by rw [w_u32]; omega, by rw [w_u32]; omega⟩
  go_enter Try.func28, Try.ntmps28
  go_wp2
  go_ret2
  exact ⟨rfl, rfl⟩

theorem fit29_yes (x : Int) (w : World) (l0 : 0 ≤ x) (l1 : x ≤ 18446744073709551615) (m0 : 0 ≤ x) (m1 : x ≤ 18446744073709551615) :
    Calls Try.prog 29 #[.int .u64 x] w fun e w' => e = .returned (.tuple #[.int .u64 x, .bool true]) ∧ w' = w := by
  by_cases s : x < 0
  · go_enter Try.func29, Try.ntmps29
    go_wp2
    go_ret2
    exact ⟨rfl, rfl⟩
  · go_enter Try.func29, Try.ntmps29
    go_wp2
    go_ret2
    exact ⟨rfl, rfl⟩

theorem fit30_yes (x : Int) (w : World) (l0 : 0 ≤ x) (l1 : x ≤ 65535) (m0 : -128 ≤ x) (m1 : x ≤ 127) :
    Calls Try.prog 30 #[.int .u16 x] w fun e w' => e = .returned (.tuple #[.int .i8 x, .bool true]) ∧ w' = w := by
  by_cases s : x < 0
  · go_enter Try.func30, Try.ntmps30
    go_wp2
    go_ret2
    exact ⟨rfl, rfl⟩
  · go_enter Try.func30, Try.ntmps30
    go_wp2
    go_ret2
    exact ⟨rfl, rfl⟩

theorem fit30_no (x : Int) (w : World) (l0 : 0 ≤ x) (l1 : x ≤ 65535) (m : x < -128 ∨ 127 < x) :
    Calls Try.prog 30 #[.int .u16 x] w fun e w' => e = .returned (.tuple #[.int .i8 0, .bool false]) ∧ w' = w := by
  obtain ⟨y, hy, hl, hh⟩ : ∃ y, IntKind.i8.wrap x = y ∧ -128 ≤ y ∧ y ≤ 127 := ⟨_, rfl, by rw [w_i8]; omega, by rw [w_i8]; omega⟩
  by_cases c : y < 0
  · obtain ⟨z, hz⟩ : ∃ z, IntKind.u16.wrap y = z := ⟨_, rfl⟩
    by_cases e : z = x
    · have s1 : decide (y < 0) = true := by simp; omega
      have s2 : decide (x < 0) = false := by rw [w_i8] at hy; rw [w_u16] at hz; simp; omega
      rw [e] at hz
      clear e
      go_enter Try.func30, Try.ntmps30
      go_wp2
      go_ret2
      exact ⟨rfl, rfl⟩
    · go_enter Try.func30, Try.ntmps30
      go_wp2
      go_ret2
      exact ⟨rfl, rfl⟩
  · go_enter Try.func30, Try.ntmps30
    go_wp2
    go_ret2
    exact ⟨rfl, rfl⟩

theorem fit42_yes (x : Int) (w : World) (l0 : -32768 ≤ x) (l1 : x ≤ 32767) (m0 : -9223372036854775808 ≤ x) (m1 : x ≤ 9223372036854775807) :
    Calls Try.prog 42 #[.int .i16 x] w fun e w' => e = .returned (.tuple #[.int .i64 x, .bool true]) ∧ w' = w := by
  by_cases s : x < 0
  · go_enter Try.func42, Try.ntmps42
    go_wp2
    go_ret2
    exact ⟨rfl, rfl⟩
  · go_enter Try.func42, Try.ntmps42
    go_wp2
    go_ret2
    exact ⟨rfl, rfl⟩

theorem fit43_yes (x : Int) (w : World) (l0 : 0 ≤ x) (l1 : x ≤ 4294967295) (m0 : 0 ≤ x) (m1 : x ≤ 18446744073709551615) :
    Calls Try.prog 43 #[.int .u32 x] w fun e w' => e = .returned (.tuple #[.int .u64 x, .bool true]) ∧ w' = w := by
  by_cases s : x < 0
  · go_enter Try.func43, Try.ntmps43
    go_wp2
    go_ret2
    exact ⟨rfl, rfl⟩
  · go_enter Try.func43, Try.ntmps43
    go_wp2
    go_ret2
    exact ⟨rfl, rfl⟩

theorem fit50_yes (x : Int) (w : World) (l0 : -9223372036854775808 ≤ x) (l1 : x ≤ 9223372036854775807) (m0 : -128 ≤ x) (m1 : x ≤ 127) :
    Calls Try.prog 50 #[.int .i64 x] w fun e w' => e = .returned (.tuple #[.int .i8 x, .bool true]) ∧ w' = w := by
  by_cases s : x < 0
  · go_enter Try.func50, Try.ntmps50
    go_wp2
    go_ret2
    exact ⟨rfl, rfl⟩
  · go_enter Try.func50, Try.ntmps50
    go_wp2
    go_ret2
    exact ⟨rfl, rfl⟩

theorem fit50_no (x : Int) (w : World) (l0 : -9223372036854775808 ≤ x) (l1 : x ≤ 9223372036854775807) (m : x < -128 ∨ 127 < x) :
    Calls Try.prog 50 #[.int .i64 x] w fun e w' => e = .returned (.tuple #[.int .i8 0, .bool false]) ∧ w' = w := by
  obtain ⟨y, hy, hl, hh⟩ : ∃ y, IntKind.i8.wrap x = y ∧ -128 ≤ y ∧ y ≤ 127 := ⟨_, rfl, by rw [w_i8]; omega, by rw [w_i8]; omega⟩
  go_enter Try.func50, Try.ntmps50
  go_wp2
  go_ret2
  exact ⟨rfl, rfl⟩
end Go.Proofs.Ytbfpcpagiiamoaa

/- What each function of package num answers, as the walk over the loaded program shows it: Turn, Zigzag, Zagzig, within, lowest, Bits, Put, Fit; and that the statements' own check of some fixed answers is true. Conditions: each number lies within its kind. -/
import Derived.Test.YtbfpcpagiiamoaaRows
import Derived.Test.YtbfpcpagiiamoaaPlain
import Derived.WalkKit
import Derived.ProofKit
import Derived.OpenShut
import Derived.Deep.QuietTactic
import Derived.BigQuiet
namespace Go.Proofs.Ytbfpcpagiiamoaa
open Go.ChangeShapes Go.WideShapes Go.ChangeAt Go.RowKit

theorem ret_int {k : IntKind} {a b : Int} (h : a = b) : Ending.returned (.int k a) = .returned (.int k b) := by rw [h]
theorem ret_two {k : IntKind} {a b : Int} {c : Bool} (h : a = b) : Ending.returned (.tuple #[.int k a, .bool c]) = .returned (.tuple #[.int k b, .bool c]) := by rw [h]

theorem ret_bool {a b : Bool} (h : a = b) : Ending.returned (.bool a) = .returned (.bool b) := by rw [h]

theorem turn_any (x n : Int) (w : World) (x0 : 0 ≤ x) (x1 : x < 4294967296) (n0 : -9223372036854775808 ≤ n) (n1 : n ≤ 9223372036854775807) :
    Calls Try.prog 36 #[.int .u32 x, .int .i64 n] w fun e w' => e = .returned (.int .u32 (turn x n)) ∧ ∃ q, w' = w.drewN q := by
  have hk : bits .and .i64 n 31 = n % 32 := and_31 n n0 n1
  have b0 : 0 ≤ n % 32 := by omega
  have b1 : n % 32 < 32 := by omega
  go_enter Try.func36, Try.ntmps36
  go_wp2
  go_quiet (fail)
  go_wp2
  go_ret
  exact ⟨ret_int (or_turn x (n % 32) x0 x1 b0 b1), _, rfl⟩

theorem zig_any (x : Int) (w : World) (h0 : -9223372036854775808 ≤ x) (h1 : x ≤ 9223372036854775807) :
    Calls Try.prog 38 #[.int .i64 x] w fun e w' => e = .returned (.int .u64 (zig x)) ∧ w' = w := by
  go_enter Try.func38, Try.ntmps38
  go_wp2
  go_ret
  exact ⟨ret_int (zig_code x h0 h1), rfl⟩

theorem zag_any (x : Int) (w : World) (h0 : 0 ≤ x) (h1 : x ≤ 18446744073709551615) :
    Calls Try.prog 40 #[.int .u64 x] w fun e w' => e = .returned (.int .i64 (zag x)) ∧ w' = w := by
  go_enter Try.func40, Try.ntmps40
  go_wp2
  go_ret
  exact ⟨ret_int (zag_code x h0 h1), rfl⟩

theorem low_any (n : Int) (w : World) (h0 : 0 ≤ n) (h1 : n ≤ 64) :
    Calls Try.prog 47 #[.int .i64 n] w fun e w' => e = .returned (.int .u64 (lowN n.toNat : Nat)) ∧ w' = w := by
  go_enter Try.func47, Try.ntmps47
  go_wp2
  go_ret
  exact ⟨ret_int (low_code n h0 h1), rfl⟩

theorem within_yes (f n : Int) (w : World) (h0 : 0 ≤ f) (h1 : 0 ≤ n) (h2 : f + n ≤ 64) :
    Calls Try.prog 46 #[.int .i64 f, .int .i64 n] w fun e w' => e = .returned (.bool true) ∧ w' = w := by
  have h3 : n ≤ 64 := by omega
  have h4 : f ≤ 64 - n := by omega
  go_enter Try.func46, Try.ntmps46
  go_wp2
  go_ret
  exact ⟨rfl, rfl⟩

theorem within_no (f n : Int) (w : World) (f0 : -9223372036854775808 ≤ f) (f1 : f ≤ 9223372036854775807) (n0 : -9223372036854775808 ≤ n) (n1 : n ≤ 9223372036854775807) (h : f < 0 ∨ n < 0 ∨ 64 < f + n) :
    Calls Try.prog 46 #[.int .i64 f, .int .i64 n] w fun e w' => e = .returned (.bool false) ∧ w' = w := by
  by_cases c0 : f < 0
  · go_enter Try.func46, Try.ntmps46
    go_wp2
    go_ret
    exact ⟨rfl, rfl⟩
  by_cases c1 : n < 0
  · go_enter Try.func46, Try.ntmps46
    go_wp2
    go_ret
    exact ⟨rfl, rfl⟩
  by_cases c2 : 64 < n
  · go_enter Try.func46, Try.ntmps46
    go_wp2
    go_ret
    exact ⟨rfl, rfl⟩
  go_enter Try.func46, Try.ntmps46
  go_wp2
  go_ret
  exact ⟨ret_bool (decide_eq_false (by omega)), rfl⟩

theorem bits_yes (x f n : Int) (w : World) (x0 : 0 ≤ x) (x1 : x < 18446744073709551616) (h0 : 0 ≤ f) (h1 : 0 ≤ n) (h2 : f + n ≤ 64) :
    Calls Try.prog 32 #[.int .u64 x, .int .i64 f, .int .i64 n] w fun e w' => e = .returned (.tuple #[.int .u64 (bitsN x.toNat f.toNat n.toNat : Nat), .bool true]) ∧ ∃ q, w' = w.drewN q := by
  go_enter Try.func32, Try.ntmps32
  go_wp2_with (go_at_call 46; refine (within_yes _ _ _ h0 h1 h2).mono ?_; rintro e w' ⟨rfl, rfl⟩)
  go_quiet ((go_at_call 47; exact Calls.quiet_of_same (low_any _ _ h1 (by omega))))
  go_wp2
  go_ret2
  exact ⟨ret_two (bits_code x f n x0 x1 h0 h1 h2), _, rfl⟩

theorem bits_no (x f n : Int) (w : World) (f0 : -9223372036854775808 ≤ f) (f1 : f ≤ 9223372036854775807) (n0 : -9223372036854775808 ≤ n) (n1 : n ≤ 9223372036854775807) (h : f < 0 ∨ n < 0 ∨ 64 < f + n) :
    Calls Try.prog 32 #[.int .u64 x, .int .i64 f, .int .i64 n] w fun e w' => e = .returned (.tuple #[.int .u64 0, .bool false]) ∧ w' = w := by
  go_enter Try.func32, Try.ntmps32
  go_wp2_with (go_at_call 46; refine (within_no _ _ _ f0 f1 n0 n1 h).mono ?_; rintro e w' ⟨rfl, rfl⟩)
  go_ret2
  exact ⟨rfl, rfl⟩

theorem put_yes (x f n v : Int) (w : World) (x0 : 0 ≤ x) (x1 : x < 18446744073709551616) (v0 : 0 ≤ v) (v1 : v ≤ (lowN n.toNat : Nat)) (h0 : 0 ≤ f) (h1 : 0 ≤ n) (h2 : f + n ≤ 64) :
    Calls Try.prog 33 #[.int .u64 x, .int .i64 f, .int .i64 n, .int .u64 v] w fun e w' => e = .returned (.tuple #[.int .u64 (putN x.toNat f.toNat n.toNat v.toNat : Nat), .bool true]) ∧ ∃ q, w' = w.drewN q := by
  go_enter Try.func33, Try.ntmps33
  go_wp2_with (first | (go_at_call 46; refine (within_yes _ _ _ h0 h1 h2).mono ?_; rintro e w' ⟨rfl, rfl⟩) | (go_at_call 47; refine (low_any _ _ h1 (by omega)).mono ?_; rintro e w' ⟨rfl, rfl⟩))
  go_quiet ((go_at_call 47; exact Calls.quiet_of_same (low_any _ _ h1 (by omega))))
  go_wp2
  go_ret2
  exact ⟨ret_two (put_code x f n v x0 x1 v0 v1 h0 h1 h2), _, rfl⟩

theorem put_no (x f n v : Int) (w : World) (f0 : -9223372036854775808 ≤ f) (f1 : f ≤ 9223372036854775807) (n0 : -9223372036854775808 ≤ n) (n1 : n ≤ 9223372036854775807) (h : f < 0 ∨ n < 0 ∨ 64 < f + n) :
    Calls Try.prog 33 #[.int .u64 x, .int .i64 f, .int .i64 n, .int .u64 v] w fun e w' => e = .returned (.tuple #[.int .u64 0, .bool false]) ∧ w' = w := by
  go_enter Try.func33, Try.ntmps33
  go_wp2_with (go_at_call 46; refine (within_no _ _ _ f0 f1 n0 n1 h).mono ?_; rintro e w' ⟨rfl, rfl⟩)
  go_ret2
  exact ⟨rfl, rfl⟩

theorem put_big (x f n v : Int) (w : World) (v1 : ((lowN n.toNat : Nat) : Int) < v) (h0 : 0 ≤ f) (h1 : 0 ≤ n) (h2 : f + n ≤ 64) :
    Calls Try.prog 33 #[.int .u64 x, .int .i64 f, .int .i64 n, .int .u64 v] w fun e w' => e = .returned (.tuple #[.int .u64 0, .bool false]) ∧ w' = w := by
  go_enter Try.func33, Try.ntmps33
  go_wp2_with (first | (go_at_call 46; refine (within_yes _ _ _ h0 h1 h2).mono ?_; rintro e w' ⟨rfl, rfl⟩) | (go_at_call 47; refine (low_any _ _ h1 (by omega)).mono ?_; rintro e w' ⟨rfl, rfl⟩))
  go_ret2
  exact ⟨rfl, rfl⟩
end Go.Proofs.Ytbfpcpagiiamoaa

/- What the reference's Turn, Zigzag, Zagzig, power and bit answer. Conditions: each number lies within its kind; power's argument is from 0 to 63, bit's place is not below 0. -/
import Derived.Test.YtbfpcpagiiamoaaWalks
namespace Go.Proofs.Ytbfpcpagiiamoaa
open Go.ChangeShapes Go.WideShapes Go.ChangeAt Go.RowKit
set_option linter.unusedVariables false

theorem tmod32 (n : Int) : -32 < n.tmod 32 ∧ n.tmod 32 < 32 ∧ (0 ≤ n.tmod 32 → n % 32 = n.tmod 32) ∧ (n.tmod 32 < 0 → n % 32 = n.tmod 32 + 32) := by
  by_cases h : 0 ≤ n
  · rw [Int.tmod_eq_emod_of_nonneg h]; omega
  · have e : n.tmod 32 = -((-n) % 32) := by
      rw [← Int.tmod_eq_emod_of_nonneg (by omega : 0 ≤ -n), Int.neg_tmod, Int.neg_neg]
    rw [e]; omega
theorem turn_of (x : Int) (n : Int) (k : Nat) (h : n % 32 = (k : Int)) : ((rots k x.toNat : Nat) : Int) = turn x n := by
  unfold turn; rw [h, Int.toNat_natCast]
theorem rot1_code (r : Nat) : 2 * (r : Int) % 4294967296 + (r : Int) / 2147483648 = (rot1 r : Nat) := by
  unfold rot1; omega

set_option maxHeartbeats 400000 in
theorem rturn_any (x n : Int) (w : World) (x0 : 0 ≤ x) (x1 : x < 4294967296) (n0 : -9223372036854775808 ≤ n) (n1 : n ≤ 9223372036854775807) :
    Calls Try.prog 37 #[.int .u32 x, .int .i64 n] w fun e w' => e = .returned (.int .u32 (turn x n)) ∧ w' = w := by
  obtain ⟨t0, t1, hp, hn⟩ := tmod32 n
  obtain ⟨t, ht⟩ : ∃ t, n.tmod 32 = t := ⟨_, rfl⟩
  rw [ht] at t0 t1 hp hn
  have HP : Hid (0 ≤ t → n % 32 = t) := hp
  have HN : Hid (t < 0 → n % 32 = t + 32) := hn
  have HX : Hid (x.toNat < 4294967296) := by show x.toNat < 4294967296; omega
  clear hp hn
  by_cases s : t < 0
  · have HE : Hid (n % 32 = t + 32) := by show n % 32 = t + 32; have := HP.out; have := HN.out; omega
    clear HP HN
    go_enter Try.func37, Try.ntmps37
    go_wp2
    go_loop [0, 6] (fun y i => ∃ k r : Nat, (k : Int) ≤ t + 32 ∧ i = .int .i64 k ∧ y = .int .u32 (r : Int) ∧ r < 4294967296 ∧ Hid (r = rots k x.toNat)) (fun _ i => (t + 32).toNat - (intOf i).toNat)
    case atStart => exact ⟨0, x.toNat, by omega, rfl, by congr 1; omega, HX.out, rfl⟩
    case round =>
      obtain ⟨k, r, hk, rfl, rfl, hr, E⟩ := hrel
      by_cases hlt : (k : Int) < t + 32
      · go_wp2
        go_round
        case rel => exact ⟨k + 1, rot1 r, by omega, by go_num, by rw [rot1_code], rot1_lt r hr, by show _ = rot1 _; rw [E.out]⟩
        case measure => simp [intOf]; omega
      · go_wp2
        go_ret
        exact ⟨ret_int (by rw [E.out]; exact turn_of x n k (by have := HE.out; omega)), rfl⟩
  · have HE : Hid (n % 32 = t) := by show n % 32 = t; have := HP.out; have := HN.out; omega
    clear HP HN
    go_enter Try.func37, Try.ntmps37
    go_wp2
    go_loop [0, 6] (fun y i => ∃ k r : Nat, (k : Int) ≤ t ∧ i = .int .i64 k ∧ y = .int .u32 (r : Int) ∧ r < 4294967296 ∧ Hid (r = rots k x.toNat)) (fun _ i => (t).toNat - (intOf i).toNat)
    case atStart => exact ⟨0, x.toNat, by omega, rfl, by congr 1; omega, HX.out, rfl⟩
    case round =>
      obtain ⟨k, r, hk, rfl, rfl, hr, E⟩ := hrel
      by_cases hlt : (k : Int) < t
      · go_wp2
        go_round
        case rel => exact ⟨k + 1, rot1 r, by omega, by go_num, by rw [rot1_code], rot1_lt r hr, by show _ = rot1 _; rw [E.out]⟩
        case measure => simp [intOf]; omega
      · go_wp2
        go_ret
        exact ⟨ret_int (by rw [E.out]; exact turn_of x n k (by have := HE.out; omega)), rfl⟩

theorem rzig_any (x : Int) (w : World) (h0 : -9223372036854775808 ≤ x) (h1 : x ≤ 9223372036854775807) :
    Calls Try.prog 39 #[.int .i64 x] w fun e w' => e = .returned (.int .u64 (zig x)) ∧ w' = w := by
  by_cases s : x < 0
  · go_enter Try.func39, Try.ntmps39
    go_wp2
    go_ret
    exact ⟨ret_int (by unfold zig; rw [if_pos s]; omega), rfl⟩
  · go_enter Try.func39, Try.ntmps39
    go_wp2
    go_ret
    exact ⟨ret_int (by unfold zig; rw [if_neg (by omega)]), rfl⟩

theorem rzag_any (x : Int) (w : World) (h0 : 0 ≤ x) (h1 : x ≤ 18446744073709551615) :
    Calls Try.prog 41 #[.int .u64 x] w fun e w' => e = .returned (.int .i64 (zag x)) ∧ w' = w := by
  by_cases s : x % 2 = 0
  · have s' : (x % 2 == 0) = true := by simp [s]
    have E : Hid (x % 2 = 0) := s
    clear s
    go_enter Try.func41, Try.ntmps41
    go_wp2
    go_ret
    exact ⟨ret_int (by unfold zag; rw [if_pos E.out]), rfl⟩
  · have s' : (x % 2 == 0) = false := by simp [s]
    go_enter Try.func41, Try.ntmps41
    go_wp2
    go_ret
    exact ⟨ret_int (by unfold zag; rw [if_neg s]), rfl⟩

/-- 2 to the k, as a whole number. -/
def pw (k : Nat) : Int := ((2 ^ k : Nat) : Int)
theorem pw_succ (k : Nat) : pw (k + 1) = 2 * pw k := by unfold pw; rw [Nat.pow_succ]; omega
theorem pw_bd (k : Nat) (h : k < 64) : 1 ≤ pw k ∧ pw k ≤ 9223372036854775808 := by
  have hl := two_pow_le k 63 (by omega)
  have hp : 0 < 2 ^ k := Nat.two_pow_pos _
  simp only [Nat.reducePow] at hl
  unfold pw; generalize 2 ^ k = P at *; omega
theorem power_any (n : Int) (w : World) (h0 : 0 ≤ n) (h1 : n < 64) :
    Calls Try.prog 45 #[.int .i64 n] w fun e w' => e = .returned (.int .u64 (pw n.toNat)) ∧ w' = w := by
  go_enter Try.func45, Try.ntmps45
  go_wp2
  go_loop [3, 4] (fun p i => ∃ k : Nat, (k : Int) ≤ n ∧ i = .int .i64 k ∧ p = .int .u64 (pw k)) (fun _ i => n.toNat - (intOf i).toNat)
  case atStart => exact ⟨0, by omega, rfl, rfl⟩
  case round =>
    obtain ⟨k, hk, rfl, rfl⟩ := hrel
    obtain ⟨p0, p1⟩ := pw_bd k (by omega)
    by_cases hlt : (k : Int) < n
    · have hb := pw_bd (k + 1) (by omega)
      rw [pw_succ] at hb
      obtain ⟨p2, p3⟩ := hb
      go_wp2
      go_round
      case rel => exact ⟨k + 1, by omega, by go_num, by rw [pw_succ]⟩
      case measure => simp [intOf]; omega
    · go_wp2
      go_ret
      exact ⟨ret_int (by rw [show n.toNat = k by omega]), rfl⟩

def bitI (x n : Int) : Int := ((x.toNat / 2 ^ n.toNat % 2 : Nat) : Int)
theorem bitI_of (x n : Int) (k m : Nat) (e : n.toNat = k) (E : m = x.toNat / 2 ^ k) : (m : Int) % 2 = bitI x n := by
  unfold bitI; rw [e, ← E]; omega
theorem bit_any (x n : Int) (w : World) (x0 : 0 ≤ x) (x1 : x ≤ 18446744073709551615) (h0 : 0 ≤ n) (h1 : n ≤ 64) :
    Calls Try.prog 49 #[.int .u64 x, .int .i64 n] w fun e w' => e = .returned (.int .u64 (bitI x n)) ∧ w' = w := by
  go_enter Try.func49, Try.ntmps49
  go_wp2
  go_loop [0, 5] (fun y i => ∃ k m : Nat, (k : Int) ≤ n ∧ i = .int .i64 k ∧ y = .int .u64 (m : Int) ∧ m ≤ 18446744073709551615 ∧ Hid (m = x.toNat / 2 ^ k)) (fun _ i => n.toNat - (intOf i).toNat)
  case atStart => exact ⟨0, x.toNat, by omega, rfl, by congr 1; omega, by omega, by show _ = _; simp⟩
  case round =>
    obtain ⟨k, m, hk, rfl, rfl, hm, E⟩ := hrel
    by_cases hlt : (k : Int) < n
    · go_wp2
      go_round
      case rel => exact ⟨k + 1, m / 2, by omega, by go_num, by go_num, by omega, by show _ = _; rw [E.out, Nat.pow_succ, Nat.div_div_eq_div_mul]⟩
      case measure => simp [intOf]; omega
    · go_wp2
      go_ret
      exact ⟨ret_int (bitI_of x n k m (by omega) E.out), rfl⟩
end Go.Proofs.Ytbfpcpagiiamoaa

/- What the reference's Many, Bits and Put answer: the same ranges of bits as package num's. Conditions: each number lies within its kind. -/
import Derived.Test.YtbfpcpagiiamoaaRefs
import Derived.Test.YtbfpcpagiiamoaaRange
namespace Go.Proofs.Ytbfpcpagiiamoaa
open Go.ChangeShapes Go.WideShapes Go.ChangeAt Go.RowKit
set_option linter.unusedVariables false

theorem many_yes (f n : Int) (w : World) (h0 : 0 ≤ f) (h1 : 0 ≤ n) (h2 : f + n ≤ 64) :
    Calls Try.prog 48 #[.int .i64 f, .int .i64 n] w fun e w' => e = .returned (.bool true) ∧ w' = w := by
  have h3 : f ≤ 64 := by omega
  have h4 : n ≤ 64 - f := by omega
  go_enter Try.func48, Try.ntmps48
  go_wp2
  go_ret
  exact ⟨rfl, rfl⟩

theorem many_no (f n : Int) (w : World) (f0 : -9223372036854775808 ≤ f) (f1 : f ≤ 9223372036854775807) (n0 : -9223372036854775808 ≤ n) (n1 : n ≤ 9223372036854775807) (h : f < 0 ∨ n < 0 ∨ 64 < f + n) :
    Calls Try.prog 48 #[.int .i64 f, .int .i64 n] w fun e w' => e = .returned (.bool false) ∧ w' = w := by
  by_cases c0 : f < 0
  · go_enter Try.func48, Try.ntmps48
    go_wp2
    go_ret
    exact ⟨rfl, rfl⟩
  by_cases c1 : n < 0
  · go_enter Try.func48, Try.ntmps48
    go_wp2
    go_ret
    exact ⟨rfl, rfl⟩
  by_cases c2 : 64 < f
  · go_enter Try.func48, Try.ntmps48
    go_wp2
    go_ret
    exact ⟨rfl, rfl⟩
  go_enter Try.func48, Try.ntmps48
  go_wp2
  go_ret
  exact ⟨ret_bool (decide_eq_false (by omega)), rfl⟩

theorem rbits_no (x f n : Int) (w : World) (f0 : -9223372036854775808 ≤ f) (f1 : f ≤ 9223372036854775807) (n0 : -9223372036854775808 ≤ n) (n1 : n ≤ 9223372036854775807) (h : f < 0 ∨ n < 0 ∨ 64 < f + n) :
    Calls Try.prog 34 #[.int .u64 x, .int .i64 f, .int .i64 n] w fun e w' => e = .returned (.tuple #[.int .u64 0, .bool false]) ∧ w' = w := by
  go_enter Try.func34, Try.ntmps34
  go_wp2_with (go_at_call 48; refine (many_no _ _ _ f0 f1 n0 n1 h).mono ?_; rintro e w' ⟨rfl, rfl⟩)
  go_ret2
  exact ⟨rfl, rfl⟩

/-- The number behind the top bits of T down to place k. -/
def topN (T k : Nat) : Nat := T / 2 ^ k
theorem topN_lt (T k : Nat) (h : T < 18446744073709551616) : topN T k < 18446744073709551616 := Nat.lt_of_le_of_lt (Nat.div_le_self _ _) h
theorem topN_step (T k : Nat) : topN T k = 2 * topN T (k + 1) + T / 2 ^ k % 2 := half_step T k
theorem topN_zero (T : Nat) : topN T 0 = T := by simp [topN]

theorem bitI_bd (x n : Int) : 0 ≤ bitI x n ∧ bitI x n ≤ 1 := by unfold bitI; omega

theorem bit_is (x n : Int) (w : World) (b : Int) (h : bitI x n = b) (x0 : 0 ≤ x) (x1 : x ≤ 18446744073709551615) (h0 : 0 ≤ n) (h1 : n ≤ 64) :
    Calls Try.prog 49 #[.int .u64 x, .int .i64 n] w fun e w' => e = .returned (.int .u64 b) ∧ w' = w := by
  rw [← h]; exact bit_any x n w x0 x1 h0 h1

set_option maxHeartbeats 800000 in
theorem rbits_yes (x f n : Int) (w : World) (x0 : 0 ≤ x) (x1 : x < 18446744073709551616) (h0 : 0 ≤ f) (h1 : 0 ≤ n) (h2 : f + n ≤ 64) :
    Calls Try.prog 34 #[.int .u64 x, .int .i64 f, .int .i64 n] w fun e w' => e = .returned (.tuple #[.int .u64 (bitsN x.toNat f.toNat n.toNat : Nat), .bool true]) ∧ w' = w := by
  obtain ⟨T, hT⟩ : ∃ T : Nat, bitsN x.toNat f.toNat n.toNat = T := ⟨_, rfl⟩
  rw [hT]
  have HT : Hid (bitsN x.toNat f.toNat n.toNat = T) := hT
  have hTl : T < 18446744073709551616 := by rw [← hT]; exact bits_lt _ _ _ (by omega)
  have hTp : T < 2 ^ n.toNat := by rw [← hT]; exact Nat.mod_lt _ (Nat.two_pow_pos _)
  have HZ : Hid (topN T n.toNat = 0) := Nat.div_eq_of_lt hTp
  clear hT hTp
  go_enter Try.func34, Try.ntmps34
  go_wp2_with (go_at_call 48; refine (many_yes _ _ _ h0 h1 h2).mono ?_; rintro e w' ⟨rfl, rfl⟩)
  go_loop [8, 9] (fun v i => ∃ k o : Nat, (k : Int) ≤ n ∧ i = .int .i64 ((k : Int) - 1) ∧ v = .int .u64 (o : Int) ∧ o < 18446744073709551616 ∧ Hid (o = topN T k)) (fun _ i => (intOf i + 1).toNat)
  case atStart => exact ⟨n.toNat, 0, by omega, by congr 1; omega, rfl, by omega, HZ.out.symm⟩
  case round =>
    obtain ⟨k, o, hk, rfl, rfl, ho, E⟩ := hrel
    by_cases hlt : k = 0
    · subst hlt
      go_wp2
      go_ret2
      exact ⟨ret_two (by rw [E.out, topN_zero]), rfl⟩
    · obtain ⟨j, rfl⟩ : ∃ j, k = j + 1 := ⟨k - 1, by omega⟩
      clear hlt
      obtain ⟨B, hB⟩ : ∃ B : Nat, T / 2 ^ j % 2 = B := ⟨_, rfl⟩
      have b1 : B ≤ 1 := by omega
      have hs := topN_step T j
      rw [hB, ← E.out] at hs
      have hsl : 2 * o + B < 18446744073709551616 := by rw [← hs]; exact topN_lt T j hTl
      have HS : Hid (topN T j = 2 * o + B) := hs
      have HB : Hid (∀ z : Int, z = f + j → bitI x z = (B : Int)) := by
        intro z hz
        unfold bitI
        rw [hz, show (f + (j : Int)).toNat = f.toNat + j by omega, ← bits_step x.toNat f.toNat n.toNat j (by omega), HT.out, hB]
      clear hs hB
      go_wp2_with (go_at_call 49; refine (bit_is _ _ _ (B : Int) (HB.out _ ?_) x0 ?_ ?_ ?_).mono ?_; (all_goals try omega); rintro e w' ⟨rfl, rfl⟩)
      go_round
      case rel => exact ⟨j, 2 * o + B, by omega, by go_num, by go_num, hsl, HS.out.symm⟩
      case measure => simp [intOf]

theorem rput_no (x f n v : Int) (w : World) (f0 : -9223372036854775808 ≤ f) (f1 : f ≤ 9223372036854775807) (n0 : -9223372036854775808 ≤ n) (n1 : n ≤ 9223372036854775807) (h : f < 0 ∨ n < 0 ∨ 64 < f + n) :
    Calls Try.prog 35 #[.int .u64 x, .int .i64 f, .int .i64 n, .int .u64 v] w fun e w' => e = .returned (.tuple #[.int .u64 0, .bool false]) ∧ w' = w := by
  go_enter Try.func35, Try.ntmps35
  go_wp2_with (go_at_call 48; refine (many_no _ _ _ f0 f1 n0 n1 h).mono ?_; rintro e w' ⟨rfl, rfl⟩)
  go_ret2
  exact ⟨rfl, rfl⟩

theorem pw_low (k : Nat) : pw k = ((lowN k : Nat) : Int) + 1 := by
  have hp : 0 < 2 ^ k := Nat.two_pow_pos _
  unfold pw lowN; omega
theorem low_64 : lowN 64 = 18446744073709551615 := by decide

theorem rput_big (x f n v : Int) (w : World) (v0 : 0 ≤ v) (v1 : v ≤ 18446744073709551615) (cv : ((lowN n.toNat : Nat) : Int) < v) (h0 : 0 ≤ f) (h1 : 0 ≤ n) (h2 : f + n ≤ 64) :
    Calls Try.prog 35 #[.int .u64 x, .int .i64 f, .int .i64 n, .int .u64 v] w fun e w' => e = .returned (.tuple #[.int .u64 0, .bool false]) ∧ w' = w := by
  have h3 : n < 64 := by
    have h4 : n ≤ 64 := by omega
    by_cases h5 : n = 64
    · rw [h5, show (64 : Int).toNat = 64 by decide, low_64] at cv; omega
    · omega
  have h6 : pw n.toNat ≤ v := by rw [pw_low]; omega
  clear cv
  go_enter Try.func35, Try.ntmps35
  go_wp2_with (first | (go_at_call 48; refine (many_yes _ _ _ h0 h1 h2).mono ?_; rintro e w' ⟨rfl, rfl⟩) | (go_at_call 45; refine (power_any _ _ h1 h3).mono ?_; rintro e w' ⟨rfl, rfl⟩))
  go_ret2
  exact ⟨rfl, rfl⟩

set_option maxHeartbeats 1600000 in
theorem rput_small (x f n v : Int) (w : World) (x0 : 0 ≤ x) (x1 : x < 18446744073709551616) (v0 : 0 ≤ v) (v1 : v ≤ 18446744073709551615) (cv : v ≤ ((lowN n.toNat : Nat) : Int)) (h0 : 0 ≤ f) (h1 : 0 ≤ n) (h2 : f + n ≤ 64) (h3 : n < 64) :
    Calls Try.prog 35 #[.int .u64 x, .int .i64 f, .int .i64 n, .int .u64 v] w fun e w' => e = .returned (.tuple #[.int .u64 (putN x.toNat f.toNat n.toNat v.toNat : Nat), .bool true]) ∧ w' = w := by
  have hX : x.toNat < 18446744073709551616 := by omega
  have hV : v.toNat ≤ lowN n.toNat := by omega
  have hF : f.toNat + n.toNat ≤ 64 := by omega
  obtain ⟨T, hT⟩ : ∃ T : Nat, putN x.toNat f.toNat n.toNat v.toNat = T := ⟨_, rfl⟩
  rw [hT]
  have HT : Hid (putN x.toNat f.toNat n.toNat v.toNat = T) := hT
  have HV : Hid (v.toNat ≤ lowN n.toNat) := hV
  have hTl : T < 18446744073709551616 := by rw [← hT]; exact put_lt _ _ _ _ hF hX hV
  have HZ : Hid (topN T 64 = 0) := Nat.div_eq_of_lt (by simpa using hTl)
  have h6 : v < pw n.toNat := by rw [pw_low]; omega
  clear hT hV cv
  go_enter Try.func35, Try.ntmps35
  go_wp2_with (first | (go_at_call 48; refine (many_yes _ _ _ h0 h1 h2).mono ?_; rintro e w' ⟨rfl, rfl⟩) | (go_at_call 45; refine (power_any _ _ h1 h3).mono ?_; rintro e w' ⟨rfl, rfl⟩))
  clear h6
  go_loop [10, 11] (fun u i => ∃ k o : Nat, k ≤ 64 ∧ i = .int .i64 ((k : Int) - 1) ∧ u = .int .u64 (o : Int) ∧ o < 18446744073709551616 ∧ Hid (o = topN T k)) (fun _ i => (intOf i + 1).toNat)
  case atStart => exact ⟨64, 0, by omega, rfl, rfl, by omega, HZ.out.symm⟩
  case round =>
    obtain ⟨k, o, hk, rfl, rfl, ho, E⟩ := hrel
    by_cases hlt : k = 0
    · subst hlt
      go_wp2
      go_ret2
      exact ⟨ret_two (by rw [E.out, topN_zero]), rfl⟩
    · obtain ⟨j, rfl⟩ : ∃ j, k = j + 1 := ⟨k - 1, by omega⟩
      clear hlt
      obtain ⟨B, hB⟩ : ∃ B : Nat, T / 2 ^ j % 2 = B := ⟨_, rfl⟩
      have b1 : B ≤ 1 := by omega
      have hs := topN_step T j
      rw [hB, ← E.out] at hs
      have hsl : 2 * o + B < 18446744073709551616 := by rw [← hs]; exact topN_lt T j hTl
      have HS : Hid (topN T j = 2 * o + B) := hs
      clear hs
      by_cases c1 : f ≤ (j : Int) ∧ (j : Int) < f + n
      · obtain ⟨c2, c3⟩ := c1
        have HB : Hid (∀ z : Int, z = j - f → bitI v z = (B : Int)) := by
          intro z hz
          unfold bitI
          rw [hz, show ((j : Int) - f).toNat = j - f.toNat by omega, ← put_bit_in x.toNat f.toNat n.toNat v.toNat j hF (by omega) (by omega), HT.out, hB]
        clear hB
        go_wp2_with fail
        refine (bit_any _ _ _ ?_ ?_ ?_ ?_).mono ?_; (all_goals try omega); rintro e w' ⟨rfl, rfl⟩
        go_wp2_with fail
        refine (bit_is _ _ _ (B : Int) (HB.out _ ?_) ?_ ?_ ?_ ?_).mono ?_; (all_goals try omega); rintro e w' ⟨rfl, rfl⟩
        go_wp2
        go_round
        case rel => exact ⟨j, 2 * o + B, by omega, by go_num, by go_num, hsl, HS.out.symm⟩
        case measure => simp [intOf]
      · have HB : Hid (∀ z : Int, z = j → bitI x z = (B : Int)) := by
          intro z hz
          unfold bitI
          rw [hz, show (j : Int).toNat = j by omega, ← put_bit_out x.toNat f.toNat n.toNat v.toNat j hF hX HV.out (by omega), HT.out, hB]
        clear hB
        by_cases c2 : (j : Int) < f
        · clear c1
          go_wp2_with fail
          refine (bit_is _ _ _ (B : Int) (HB.out _ ?_) ?_ ?_ ?_ ?_).mono ?_; (all_goals try omega); rintro e w' ⟨rfl, rfl⟩
          go_wp2
          go_round
          case rel => exact ⟨j, 2 * o + B, by omega, by go_num, by go_num, hsl, HS.out.symm⟩
          case measure => simp [intOf]
        · have c3 : f + n ≤ (j : Int) := by omega
          clear c1
          go_wp2_with fail
          refine (bit_is _ _ _ (B : Int) (HB.out _ ?_) ?_ ?_ ?_ ?_).mono ?_; (all_goals try omega); rintro e w' ⟨rfl, rfl⟩
          go_wp2
          go_round
          case rel => exact ⟨j, 2 * o + B, by omega, by go_num, by go_num, hsl, HS.out.symm⟩
          case measure => simp [intOf]

set_option maxHeartbeats 1600000 in
theorem rput_whole (x f n v : Int) (w : World) (x0 : 0 ≤ x) (x1 : x < 18446744073709551616) (v0 : 0 ≤ v) (v1 : v ≤ 18446744073709551615) (cv : v ≤ ((lowN n.toNat : Nat) : Int)) (h0 : 0 ≤ f) (h1 : 0 ≤ n) (h2 : f + n ≤ 64) (h3 : 64 ≤ n) :
    Calls Try.prog 35 #[.int .u64 x, .int .i64 f, .int .i64 n, .int .u64 v] w fun e w' => e = .returned (.tuple #[.int .u64 (putN x.toNat f.toNat n.toNat v.toNat : Nat), .bool true]) ∧ w' = w := by
  have hX : x.toNat < 18446744073709551616 := by omega
  have hV : v.toNat ≤ lowN n.toNat := by omega
  have hF : f.toNat + n.toNat ≤ 64 := by omega
  obtain ⟨T, hT⟩ : ∃ T : Nat, putN x.toNat f.toNat n.toNat v.toNat = T := ⟨_, rfl⟩
  rw [hT]
  have HT : Hid (putN x.toNat f.toNat n.toNat v.toNat = T) := hT
  have HV : Hid (v.toNat ≤ lowN n.toNat) := hV
  have hTl : T < 18446744073709551616 := by rw [← hT]; exact put_lt _ _ _ _ hF hX hV
  have HZ : Hid (topN T 64 = 0) := Nat.div_eq_of_lt (by simpa using hTl)
  have h6 : (0 : Int) ≤ n := by omega
  clear hT hV cv
  go_enter Try.func35, Try.ntmps35
  go_wp2_with (first | (go_at_call 48; refine (many_yes _ _ _ h0 h1 h2).mono ?_; rintro e w' ⟨rfl, rfl⟩))
  clear h6
  go_loop [10, 11] (fun u i => ∃ k o : Nat, k ≤ 64 ∧ i = .int .i64 ((k : Int) - 1) ∧ u = .int .u64 (o : Int) ∧ o < 18446744073709551616 ∧ Hid (o = topN T k)) (fun _ i => (intOf i + 1).toNat)
  case atStart => exact ⟨64, 0, by omega, rfl, rfl, by omega, HZ.out.symm⟩
  case round =>
    obtain ⟨k, o, hk, rfl, rfl, ho, E⟩ := hrel
    by_cases hlt : k = 0
    · subst hlt
      go_wp2
      go_ret2
      exact ⟨ret_two (by rw [E.out, topN_zero]), rfl⟩
    · obtain ⟨j, rfl⟩ : ∃ j, k = j + 1 := ⟨k - 1, by omega⟩
      clear hlt
      obtain ⟨B, hB⟩ : ∃ B : Nat, T / 2 ^ j % 2 = B := ⟨_, rfl⟩
      have b1 : B ≤ 1 := by omega
      have hs := topN_step T j
      rw [hB, ← E.out] at hs
      have hsl : 2 * o + B < 18446744073709551616 := by rw [← hs]; exact topN_lt T j hTl
      have HS : Hid (topN T j = 2 * o + B) := hs
      clear hs
      by_cases c1 : f ≤ (j : Int) ∧ (j : Int) < f + n
      · obtain ⟨c2, c3⟩ := c1
        have HB : Hid (∀ z : Int, z = j - f → bitI v z = (B : Int)) := by
          intro z hz
          unfold bitI
          rw [hz, show ((j : Int) - f).toNat = j - f.toNat by omega, ← put_bit_in x.toNat f.toNat n.toNat v.toNat j hF (by omega) (by omega), HT.out, hB]
        clear hB
        go_wp2_with fail
        refine (bit_any _ _ _ ?_ ?_ ?_ ?_).mono ?_; (all_goals try omega); rintro e w' ⟨rfl, rfl⟩
        go_wp2_with fail
        refine (bit_is _ _ _ (B : Int) (HB.out _ ?_) ?_ ?_ ?_ ?_).mono ?_; (all_goals try omega); rintro e w' ⟨rfl, rfl⟩
        go_wp2
        go_round
        case rel => exact ⟨j, 2 * o + B, by omega, by go_num, by go_num, hsl, HS.out.symm⟩
        case measure => simp [intOf]
      · omega

theorem rput_yes (x f n v : Int) (w : World) (x0 : 0 ≤ x) (x1 : x < 18446744073709551616) (v0 : 0 ≤ v) (v1 : v ≤ 18446744073709551615) (cv : v ≤ ((lowN n.toNat : Nat) : Int)) (h0 : 0 ≤ f) (h1 : 0 ≤ n) (h2 : f + n ≤ 64) :
    Calls Try.prog 35 #[.int .u64 x, .int .i64 f, .int .i64 n, .int .u64 v] w fun e w' => e = .returned (.tuple #[.int .u64 (putN x.toNat f.toNat n.toNat v.toNat : Nat), .bool true]) ∧ w' = w := by
  by_cases h3 : n < 64
  · exact rput_small x f n v w x0 x1 v0 v1 cv h0 h1 h2 h3
  · exact rput_whole x f n v w x0 x1 v0 v1 cv h0 h1 h2 (by omega)
end Go.Proofs.Ytbfpcpagiiamoaa

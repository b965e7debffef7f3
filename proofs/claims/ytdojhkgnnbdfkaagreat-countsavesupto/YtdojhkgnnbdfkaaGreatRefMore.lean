/- What CRC answers, and the document's More and CRC; what Hash answers, and the document's. Conditions: a slice of bytes that came in, a sum of 32 bits; a key of fewer than 2^62 bytes. -/
import Derived.Test.YtdojhkgnnbdfkaaGreatMore
namespace Go.Proofs.YtdojhkgnnbdfkaaGreat
open Go.ChangeShapes Go.WideShapes Go.ChangeAt Go.RowKit Go.Lib

set_option maxHeartbeats 4000000 in
set_option maxRecDepth 100000 in
theorem refMore_any (s m : Nat) (ao : Option Addr) (L cap : Nat) (xs : List Nat) (w : World) (hs : s < 4294967296) (hA : BArg w ao L cap xs) (hm : more s xs = m) :
    Calls Tryz.prog 63 #[.int .u32 (s : Int), .slice ao L cap] w fun e w' => e = .returned (.int .u32 (m : Int)) ∧ Fr [] w w' := by
  have HM : Hid (more s xs = m) := hm
  clear hm
  have HL : Hid (L = xs.length) := hA.len
  have hLm := hA.most
  obtain ⟨c0, HC0⟩ : ∃ c0, Hid (c0 = 4294967295 - s) := ⟨_, rfl⟩
  have hc0 : c0 < 4294967296 := by have := HC0.out; omega
  have hsub : (4294967295 : Int) - (s : Int) = (c0 : Int) := by have := HC0.out; omega
  go_enter Tryz.func63, Tryz.ntmps63
  go_wp2_with fail
  go_loop [5, 6] (fun cc ii => ∃ (c i : Nat), cc = .int .u32 (c : Int) ∧ ii = .int .i64 i ∧ i ≤ L ∧ c < 4294967296 ∧ Hid (c = runB c0 (xs.take i))) (fun _ ii => L - (intOf ii).toNat)
  case atStart => exact ⟨c0, 0, rfl, rfl, Nat.zero_le _, hc0, rfl⟩
  case round =>
    obtain ⟨c, i, rfl, rfl, hi, hc, HR⟩ := hrel
    by_cases hiL : i < L
    · obtain ⟨b, off, e, _, hcs⟩ := hA.lies (by omega)
      subst e
      have hcx := hcs i hiL
      have hx := getD_mem_lt xs i (by rw [← HL.out]; exact hiL) hA.low
      obtain ⟨x, HX⟩ : ∃ x, Hid (x = xs.getD i 0) := ⟨_, rfl⟩
      rw [← HX.out] at hcx hx
      obtain ⟨d0, HD0⟩ : ∃ d0, Hid (d0 = c ^^^ x) := ⟨_, rfl⟩
      have hd0 : d0 < 4294967296 := by rw [HD0.out]; exact Nat.xor_lt_two_pow (n := 32) hc (by omega)
      have hx32 : bits .xor .u32 (c : Int) (x : Int) = (d0 : Int) := by rw [HD0.out]; exact u32_xor_nat c x hc (by omega)
      have hc' := stepB_lt c x hc hx
      have HR' : Hid (shN 8 d0 = runB c0 (xs.take (i + 1))) := by
        show _ = _
        rw [take_snoc xs i x (by rw [← HL.out]; exact hiL) HX.out, runB_snoc, ← HR.out, HD0.out]
        rfl
      clear hcs
      go_wp2_with fail
      go_loop [5, 7] (fun cc kk => ∃ (d k : Nat), cc = .int .u32 (d : Int) ∧ kk = .int .i64 k ∧ k ≤ 8 ∧ d < 4294967296 ∧ Hid (d = shN k d0)) (fun _ kk => 8 - (intOf kk).toNat)
      case atStart => exact ⟨d0, 0, rfl, rfl, by omega, hd0, rfl⟩
      case round =>
        obtain ⟨d, k, rfl, rfl, hk, hd, HD⟩ := hrel
        by_cases hk8 : k < 8
        · have hlt := sh_lt d hd
          have HS : Hid (sh d = shN (k + 1) d0) := by show _ = _; rw [shN_succ, ← HD.out]
          by_cases hp : d % 2 = 1
          · have HE : Hid (sh d = (d / 2) ^^^ 2197175160) := by show _ = _; unfold sh; rw [if_pos hp]
            have hp' : ((d : Int) % 2 == 1) = true := by rw [beq_iff_eq]; omega
            have hx2 : bits .xor .u32 ((d : Int) / 2) 2197175160 = ((sh d : Nat) : Int) := by
              have := u32_xor_nat (d / 2) 2197175160 (by omega) (by omega)
              rw [HE.out]
              simpa using this
            clear hp
            go_wp2_with fail
            go_round
            case rel => exact ⟨sh d, k + 1, rfl, by simp, by omega, hlt, HS⟩
            case measure => simp [intOf]; omega
          · have HE : Hid (sh d = d / 2) := by show _ = _; unfold sh; rw [if_neg hp]
            have hp' : ((d : Int) % 2 == 1) = false := by rw [beq_eq_false_iff_ne]; omega
            have hx2 : (d : Int) / 2 = ((sh d : Nat) : Int) := by rw [HE.out]; simp
            clear hp
            go_wp2_with fail
            go_round
            case rel => exact ⟨sh d, k + 1, rfl, by simp, by omega, hlt, HS⟩
            case measure => simp [intOf]; omega
        · obtain rfl : k = 8 := by omega
          have HS : Hid (d = runB c0 (xs.take (i + 1))) := by show _ = _; rw [HD.out, HR'.out]
          go_wp2_with fail
          go_round
          case rel => exact ⟨d, i + 1, rfl, by simp, by omega, hd, HS⟩
          case measure => simp [intOf]; omega
    · obtain rfl : i = L := by omega
      have HM' : Hid (4294967295 - c = m) := by
        show _ = _
        rw [← HM.out, more, ← HC0.out, HR.out, List.take_of_length_le (by rw [← HL.out]; omega)]
      have hn : (4294967295 : Int) - (c : Int) = (m : Int) := by have := HM'.out; omega
      go_wp2_with fail
      go_ret
      exact ⟨rfl, Fr.refl _ _⟩

set_option maxHeartbeats 2000000 in
theorem refCrc_any (m : Nat) (ao : Option Addr) (L cap : Nat) (xs : List Nat) (w : World) (hA : BArg w ao L cap xs) (hm : more 0 xs = m) :
    Calls Tryz.prog 64 #[.slice ao L cap] w fun e w' => e = .returned (.int .u32 (m : Int)) ∧ Fr [] w w' := by
  go_enter Tryz.func64, Tryz.ntmps64
  go_wp2_with fail
  refine (refMore_any 0 m ao L cap xs w (by omega) hA hm).mono ?_
  rintro e w1 ⟨rfl, hF1⟩
  go_wp2_with fail
  go_ret
  exact ⟨rfl, hF1⟩
end Go.Proofs.YtdojhkgnnbdfkaaGreat

/- What Shard answers, the program's and the document's. Conditions: a key of fewer than 2^63 bytes. -/
import Derived.Test.YtakbodlicfmkjaaGreatCf13
namespace Go.Proofs.YtakbodlicfmkjaaGreat
open Go.ChangeShapes Go.WideShapes Go.ChangeAt Go.RowKit Go.Lib
set_option linter.unusedVariables false
set_option linter.unusedSimpArgs false

/-- The shard of a key that may be. -/
def shN13 (s : Int) (key : ByteArray) : Int := ((hashOf (strNs key) : Nat) : Int) % s
/-- What Shard answers. -/
def Cf.shard (c : Cf) (key : ByteArray) : Int × Int := if ¬ c.may then (0, 7) else if ¬ (1 ≤ key.size ∧ key.size ≤ 64) then (0, 1) else (shN13 c.s key, 0)

set_option maxHeartbeats 4000000 in
set_option maxRecDepth 100000 in
theorem shard_any (l s x q : Int) (key : ByteArray) (w : World) (hk : key.size ≤ 9223372036854775807) :
    Calls Tryz.prog 140 #[.agg #[.int .i64 l, .int .i64 s, .int .i64 x, .int .i64 q], .string key] w fun e w' => e = .returned (.tuple #[.int .i64 (Cf.shard ⟨l, s, x, q⟩ key).1, .int .i64 (Cf.shard ⟨l, s, x, q⟩ key).2]) ∧ Fr [] w w' := by
  have HC := fun w => check_cells l s x q w
  by_cases hm : Cf.may ⟨l, s, x, q⟩
  · have E : Cf.err ⟨l, s, x, q⟩ = 0 := if_pos hm
    rw [E] at HC
    have hs : 1 ≤ s ∧ s ≤ 16 := hm.2.1
    by_cases hz : 1 ≤ key.size ∧ key.size ≤ 64
    · have E2 : Cf.shard ⟨l, s, x, q⟩ key = (shN13 s key, 0) := by simp [Cf.shard, hm, hz]
      rw [E2]
      have HK := fun w => fits_yes (key.size : Int) 64 w (by omega)
      obtain ⟨m, HM⟩ : ∃ m, Hid (hashOf (strNs key) = m) := ⟨_, rfl⟩
      have hm32 : m < 4294967296 := by rw [← HM.out]; exact hashOf_lt _
      have HH : ∀ w, Calls Tryz.prog 171 #[.string key] w fun e w' => e = .returned (.int .u32 (m : Int)) ∧ w' = w := fun w => (hash_any m key w hk HM.out).mono fun e w' h => ⟨h.1, h.2.symm⟩
      obtain ⟨r, HR⟩ : ∃ r : Int, Hid (r = (m : Int) % s) := ⟨_, rfl⟩
      have HN : Hid (shN13 s key = r) := by show _ = _; rw [HR.out, shN13, HM.out]
      have hr : 0 ≤ r ∧ r < 16 := by
        have h1 := Int.emod_nonneg (m : Int) (show s ≠ 0 by omega)
        have h2 := Int.emod_lt_of_pos (m : Int) (show 0 < s by omega)
        rw [HR.out]; omega
      have hcv : s % 4294967296 = s := by omega
      have hne : s ≠ 0 := by omega
      have hrem : (m : Int).tmod s = r := by rw [HR.out]; exact Int.tmod_eq_emod_of_nonneg (by omega)
      rw [HN.out]
      clear hm E E2 hz HN HR
      go_enter Tryz.func140, Tryz.ntmps140
      go_wp2_with fail
      refine (HC _).mono ?_
      rintro e w1 ⟨rfl, hF1⟩
      have hc1 : w1.cell? ⟨w.heap.size, 1, none⟩ = some (.int .i64 s) := by
        rw [World.cell?_of_block (hF1.block w.heap.size (by simp) (by simp))]
        simp [World.cell?_alloc_at]
      have HF : Hid (Fr [] w w1) := (Fr.alloc _ _ _).then hF1
      clear hF1 HC
      go_wp2_with fail
      refine (HK _).mono ?_
      rintro e w2 ⟨rfl, rfl⟩
      go_wp2_with fail
      go_quiet ((go_at_call 171; exact Calls.quiet_of_same (HH _)))
      go_wp2_with fail
      refine bodyPost_ret (results_tmp2 rfl _ _ _) rfl ?_
      exact ⟨rfl, HF.out.then (Fr.drewN _ _ _)⟩
    · have E2 : Cf.shard ⟨l, s, x, q⟩ key = (0, 1) := by simp only [Cf.shard, hm, hz]; simp
      rw [E2]
      have HK := fun w => fits_no (key.size : Int) 64 w (by omega)
      clear hm E E2 hz
      go_enter Tryz.func140, Tryz.ntmps140
      go_wp2_with fail
      refine (HC _).mono ?_
      rintro e w1 ⟨rfl, hF1⟩
      have HF : Hid (Fr [] w w1) := (Fr.alloc _ _ _).then hF1
      clear hF1 HC
      go_wp2_with fail
      refine (HK _).mono ?_
      rintro e w2 ⟨rfl, rfl⟩
      go_wp2_with fail
      refine bodyPost_ret (results_tmp2 rfl _ _ _) rfl ?_
      exact ⟨rfl, HF.out⟩
  · have E : Cf.err ⟨l, s, x, q⟩ = 7 := if_neg hm
    rw [E] at HC
    have E2 : Cf.shard ⟨l, s, x, q⟩ key = (0, 7) := by simp only [Cf.shard, hm]; simp
    rw [E2]
    clear hm E E2
    go_enter Tryz.func140, Tryz.ntmps140
    go_wp2_with fail
    refine (HC _).mono ?_
    rintro e w1 ⟨rfl, hF1⟩
    have HF : Hid (Fr [] w w1) := (Fr.alloc _ _ _).then hF1
    clear hF1 HC
    go_wp2_with fail
    refine bodyPost_ret (results_tmp2 rfl _ _ _) rfl ?_
    exact ⟨rfl, HF.out⟩

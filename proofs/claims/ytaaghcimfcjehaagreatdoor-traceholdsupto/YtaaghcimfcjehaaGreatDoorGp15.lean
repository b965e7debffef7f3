/- Texts of this claim laid together, one behind the other: contracts and plain lemmas; conditions as each names them. -/
import Derived.Test.YtaaghcimfcjehaaGreatDoorGp14
/- A configuration as a plain thing, and what Check, Shard and Tasks answer of it, the program's and the document's. Conditions: numbers of 64 bits; a key of fewer than 2^63 bytes. -/
namespace Go.Proofs.YtaaghcimfcjehaaGreatDoor
open Go.ChangeShapes Go.WideShapes Go.ChangeAt Go.RowKit Go.Lib
set_option linter.unusedVariables false
set_option linter.unusedSimpArgs false

/-- A number of 64 bits. -/
def I6 (n : Int) : Prop := -9223372036854775808 ≤ n ∧ n ≤ 9223372036854775807
structure Cf where
  l : Int
  s : Int
  w : Int
  q : Int
def Cf.ok (c : Cf) : Prop := I6 c.l ∧ I6 c.s ∧ I6 c.w ∧ I6 c.q
def Cf.v (c : Cf) : Value := .agg #[.int .i64 c.l, .int .i64 c.s, .int .i64 c.w, .int .i64 c.q]
/-- May it be? -/
def Cf.may (c : Cf) : Prop := (1 ≤ c.l ∧ c.l ≤ 16) ∧ (1 ≤ c.s ∧ c.s ≤ 16) ∧ (1 ≤ c.w ∧ c.w ≤ 64) ∧ (1 ≤ c.q ∧ c.q ≤ 16)
instance (c : Cf) : Decidable c.may := by unfold Cf.may; infer_instance
/-- What Check answers. -/
def Cf.err (c : Cf) : Int := if c.may then 0 else 7

set_option maxHeartbeats 1000000 in
theorem fits_any (n m : Int) (w : World) :
    Calls Tryz.prog 72 #[.int .i64 n, .int .i64 m] w fun e w' => e = .returned (.bool (decide (1 ≤ n ∧ n ≤ m))) ∧ w = w' := by
  by_cases h : 1 ≤ n
  · by_cases h2 : n ≤ m
    · go_enter Tryz.func72, Tryz.ntmps72
      go_wp2
      go_ret
      exact ⟨by simp [h, h2], rfl⟩
    · go_enter Tryz.func72, Tryz.ntmps72
      go_wp2
      go_ret
      exact ⟨by simp [h, h2], rfl⟩
  · go_enter Tryz.func72, Tryz.ntmps72
    go_wp2
    go_ret
    exact ⟨by rw [decide_eq_false (p := 1 ≤ n) (by omega)]; rfl, rfl⟩
set_option maxHeartbeats 1000000 in
theorem in_any (n m : Int) (w : World) :
    Calls Tryz.prog 79 #[.int .i64 n, .int .i64 m] w fun e w' => e = .returned (.bool (decide (1 ≤ n ∧ n ≤ m))) ∧ w = w' := by
  by_cases h : 1 ≤ n
  · by_cases h2 : n ≤ m
    · go_enter Tryz.func79, Tryz.ntmps79
      go_wp2
      go_ret
      exact ⟨by simp [h, h2], rfl⟩
    · go_enter Tryz.func79, Tryz.ntmps79
      go_wp2
      go_ret
      exact ⟨by simp [h, h2], rfl⟩
  · go_enter Tryz.func79, Tryz.ntmps79
    go_wp2
    go_ret
    exact ⟨by rw [decide_eq_false (p := 1 ≤ n) (by omega)]; rfl, rfl⟩
/-- The same, by what is known of the number. -/
theorem fits_yes (n m : Int) (w : World) (h : 1 ≤ n ∧ n ≤ m) : Calls Tryz.prog 72 #[.int .i64 n, .int .i64 m] w fun e w' => e = .returned (.bool true) ∧ w = w' :=
  (fits_any n m w).mono fun e w' k => ⟨by rw [k.1, decide_eq_true h], k.2⟩
theorem fits_no (n m : Int) (w : World) (h : ¬ (1 ≤ n ∧ n ≤ m)) : Calls Tryz.prog 72 #[.int .i64 n, .int .i64 m] w fun e w' => e = .returned (.bool false) ∧ w = w' :=
  (fits_any n m w).mono fun e w' k => ⟨by rw [k.1, decide_eq_false h], k.2⟩
theorem in_yes (n m : Int) (w : World) (h : 1 ≤ n ∧ n ≤ m) : Calls Tryz.prog 79 #[.int .i64 n, .int .i64 m] w fun e w' => e = .returned (.bool true) ∧ w = w' :=
  (in_any n m w).mono fun e w' k => ⟨by rw [k.1, decide_eq_true h], k.2⟩
theorem in_no (n m : Int) (w : World) (h : ¬ (1 ≤ n ∧ n ≤ m)) : Calls Tryz.prog 79 #[.int .i64 n, .int .i64 m] w fun e w' => e = .returned (.bool false) ∧ w = w' :=
  (in_any n m w).mono fun e w' k => ⟨by rw [k.1, decide_eq_false h], k.2⟩

set_option maxHeartbeats 4000000 in
set_option maxRecDepth 100000 in
theorem check_cells (l s x q : Int) (w : World) :
    Calls Tryz.prog 24 #[.agg #[.int .i64 l, .int .i64 s, .int .i64 x, .int .i64 q]] w fun e w' => e = .returned (.int .i64 (Cf.err ⟨l, s, x, q⟩)) ∧ Fr [] w w' := by
  by_cases h1 : 1 ≤ l ∧ l ≤ 16
  · by_cases h2 : 1 ≤ s ∧ s ≤ 16
    · by_cases h3 : 1 ≤ x ∧ x ≤ 64
      · by_cases h4 : 1 ≤ q ∧ q ≤ 16
        · have E : Cf.err ⟨l, s, x, q⟩ = 0 := if_pos ⟨h1, h2, h3, h4⟩
          rw [E]
          have H1 := fun w => fits_yes l 16 w h1
          have H2 := fun w => fits_yes s 16 w h2
          have H3 := fun w => fits_yes x 64 w h3
          have H4 := fun w => fits_yes q 16 w h4
          clear h1 h2 h3 h4 E
          go_enter Tryz.func24, Tryz.ntmps24
          go_wp2_with fail
          refine (H1 _).mono ?_
          rintro e w1 ⟨rfl, rfl⟩
          go_wp2_with fail
          refine (H2 _).mono ?_
          rintro e w1 ⟨rfl, rfl⟩
          go_wp2_with fail
          refine (H3 _).mono ?_
          rintro e w1 ⟨rfl, rfl⟩
          go_wp2_with fail
          refine (H4 _).mono ?_
          rintro e w1 ⟨rfl, rfl⟩
          go_wp2_with fail
          go_ret
          exact ⟨rfl, Fr.alloc _ _ _⟩
        · have E : Cf.err ⟨l, s, x, q⟩ = 7 := if_neg (fun h => h4 h.2.2.2)
          rw [E]
          have H1 := fun w => fits_yes l 16 w h1
          have H2 := fun w => fits_yes s 16 w h2
          have H3 := fun w => fits_yes x 64 w h3
          have H4 := fun w => fits_no q 16 w h4
          clear h1 h2 h3 h4 E
          go_enter Tryz.func24, Tryz.ntmps24
          go_wp2_with fail
          refine (H1 _).mono ?_
          rintro e w1 ⟨rfl, rfl⟩
          go_wp2_with fail
          refine (H2 _).mono ?_
          rintro e w1 ⟨rfl, rfl⟩
          go_wp2_with fail
          refine (H3 _).mono ?_
          rintro e w1 ⟨rfl, rfl⟩
          go_wp2_with fail
          refine (H4 _).mono ?_
          rintro e w1 ⟨rfl, rfl⟩
          go_wp2_with fail
          go_ret
          exact ⟨rfl, Fr.alloc _ _ _⟩
      · have E : Cf.err ⟨l, s, x, q⟩ = 7 := if_neg (fun h => h3 h.2.2.1)
        rw [E]
        have H1 := fun w => fits_yes l 16 w h1
        have H2 := fun w => fits_yes s 16 w h2
        have H3 := fun w => fits_no x 64 w h3
        clear h1 h2 h3 E
        go_enter Tryz.func24, Tryz.ntmps24
        go_wp2_with fail
        refine (H1 _).mono ?_
        rintro e w1 ⟨rfl, rfl⟩
        go_wp2_with fail
        refine (H2 _).mono ?_
        rintro e w1 ⟨rfl, rfl⟩
        go_wp2_with fail
        refine (H3 _).mono ?_
        rintro e w1 ⟨rfl, rfl⟩
        go_wp2_with fail
        go_ret
        exact ⟨rfl, Fr.alloc _ _ _⟩
    · have E : Cf.err ⟨l, s, x, q⟩ = 7 := if_neg (fun h => h2 h.2.1)
      rw [E]
      have H1 := fun w => fits_yes l 16 w h1
      have H2 := fun w => fits_no s 16 w h2
      clear h1 h2 E
      go_enter Tryz.func24, Tryz.ntmps24
      go_wp2_with fail
      refine (H1 _).mono ?_
      rintro e w1 ⟨rfl, rfl⟩
      go_wp2_with fail
      refine (H2 _).mono ?_
      rintro e w1 ⟨rfl, rfl⟩
      go_wp2_with fail
      go_ret
      exact ⟨rfl, Fr.alloc _ _ _⟩
  · have E : Cf.err ⟨l, s, x, q⟩ = 7 := if_neg (fun h => h1 h.1)
    rw [E]
    have H1 := fun w => fits_no l 16 w h1
    clear h1 E
    go_enter Tryz.func24, Tryz.ntmps24
    go_wp2_with fail
    refine (H1 _).mono ?_
    rintro e w1 ⟨rfl, rfl⟩
    go_wp2_with fail
    go_ret
    exact ⟨rfl, Fr.alloc _ _ _⟩
set_option maxHeartbeats 4000000 in
set_option maxRecDepth 100000 in
theorem ocheck_cells (l s x q : Int) (w : World) :
    Calls Tryz.prog 27 #[.agg #[.int .i64 l, .int .i64 s, .int .i64 x, .int .i64 q]] w fun e w' => e = .returned (.int .i64 (Cf.err ⟨l, s, x, q⟩)) ∧ Fr [] w w' := by
  by_cases h1 : 1 ≤ l ∧ l ≤ 16
  · by_cases h2 : 1 ≤ s ∧ s ≤ 16
    · by_cases h3 : 1 ≤ x ∧ x ≤ 64
      · by_cases h4 : 1 ≤ q ∧ q ≤ 16
        · have E : Cf.err ⟨l, s, x, q⟩ = 0 := if_pos ⟨h1, h2, h3, h4⟩
          rw [E]
          have H1 := fun w => in_yes l 16 w h1
          have H2 := fun w => in_yes s 16 w h2
          have H3 := fun w => in_yes x 64 w h3
          have H4 := fun w => in_yes q 16 w h4
          clear h1 h2 h3 h4 E
          go_enter Tryz.func27, Tryz.ntmps27
          go_wp2_with fail
          refine (H1 _).mono ?_
          rintro e w1 ⟨rfl, rfl⟩
          go_wp2_with fail
          refine (H2 _).mono ?_
          rintro e w1 ⟨rfl, rfl⟩
          go_wp2_with fail
          refine (H3 _).mono ?_
          rintro e w1 ⟨rfl, rfl⟩
          go_wp2_with fail
          refine (H4 _).mono ?_
          rintro e w1 ⟨rfl, rfl⟩
          go_wp2_with fail
          go_ret
          exact ⟨rfl, Fr.alloc _ _ _⟩
        · have E : Cf.err ⟨l, s, x, q⟩ = 7 := if_neg (fun h => h4 h.2.2.2)
          rw [E]
          have H1 := fun w => in_yes l 16 w h1
          have H2 := fun w => in_yes s 16 w h2
          have H3 := fun w => in_yes x 64 w h3
          have H4 := fun w => in_no q 16 w h4
          clear h1 h2 h3 h4 E
          go_enter Tryz.func27, Tryz.ntmps27
          go_wp2_with fail
          refine (H1 _).mono ?_
          rintro e w1 ⟨rfl, rfl⟩
          go_wp2_with fail
          refine (H2 _).mono ?_
          rintro e w1 ⟨rfl, rfl⟩
          go_wp2_with fail
          refine (H3 _).mono ?_
          rintro e w1 ⟨rfl, rfl⟩
          go_wp2_with fail
          refine (H4 _).mono ?_
          rintro e w1 ⟨rfl, rfl⟩
          go_wp2_with fail
          go_ret
          exact ⟨rfl, Fr.alloc _ _ _⟩
      · have E : Cf.err ⟨l, s, x, q⟩ = 7 := if_neg (fun h => h3 h.2.2.1)
        rw [E]
        have H1 := fun w => in_yes l 16 w h1
        have H2 := fun w => in_yes s 16 w h2
        have H3 := fun w => in_no x 64 w h3
        clear h1 h2 h3 E
        go_enter Tryz.func27, Tryz.ntmps27
        go_wp2_with fail
        refine (H1 _).mono ?_
        rintro e w1 ⟨rfl, rfl⟩
        go_wp2_with fail
        refine (H2 _).mono ?_
        rintro e w1 ⟨rfl, rfl⟩
        go_wp2_with fail
        refine (H3 _).mono ?_
        rintro e w1 ⟨rfl, rfl⟩
        go_wp2_with fail
        go_ret
        exact ⟨rfl, Fr.alloc _ _ _⟩
    · have E : Cf.err ⟨l, s, x, q⟩ = 7 := if_neg (fun h => h2 h.2.1)
      rw [E]
      have H1 := fun w => in_yes l 16 w h1
      have H2 := fun w => in_no s 16 w h2
      clear h1 h2 E
      go_enter Tryz.func27, Tryz.ntmps27
      go_wp2_with fail
      refine (H1 _).mono ?_
      rintro e w1 ⟨rfl, rfl⟩
      go_wp2_with fail
      refine (H2 _).mono ?_
      rintro e w1 ⟨rfl, rfl⟩
      go_wp2_with fail
      go_ret
      exact ⟨rfl, Fr.alloc _ _ _⟩
  · have E : Cf.err ⟨l, s, x, q⟩ = 7 := if_neg (fun h => h1 h.1)
    rw [E]
    have H1 := fun w => in_no l 16 w h1
    clear h1 E
    go_enter Tryz.func27, Tryz.ntmps27
    go_wp2_with fail
    refine (H1 _).mono ?_
    rintro e w1 ⟨rfl, rfl⟩
    go_wp2_with fail
    go_ret
    exact ⟨rfl, Fr.alloc _ _ _⟩
end Go.Proofs.YtaaghcimfcjehaaGreatDoor
/- What Shard answers, the program's and the document's. Conditions: a key of fewer than 2^63 bytes. -/
namespace Go.Proofs.YtaaghcimfcjehaaGreatDoor
open Go.ChangeShapes Go.WideShapes Go.ChangeAt Go.RowKit Go.Lib
set_option linter.unusedVariables false
set_option linter.unusedSimpArgs false

/-- The shard of a key that may be. -/
def shN13 (s : Int) (key : ByteArray) : Int := ((hashOf (strNs key) : Nat) : Int) % s
/-- What Shard answers. -/
def Cf.shard (c : Cf) (key : ByteArray) : Int × Int := if ¬ c.may then (0, 7) else if ¬ (1 ≤ key.size ∧ key.size ≤ 64) then (0, 1) else (shN13 c.s key, 0)

set_option maxHeartbeats 1000000 in
theorem key_any (s : ByteArray) (w : World) :
    Calls Tryz.prog 155 #[.string s] w fun e w' => e = .returned (.bool (decide (1 ≤ s.size ∧ s.size ≤ 64))) ∧ w = w' := by
  by_cases h : 1 ≤ s.size
  · have h' : (1 : Int) ≤ s.size := by omega
    by_cases h2 : s.size ≤ 64
    · have h2' : (s.size : Int) ≤ 64 := by omega
      go_enter Tryz.func155, Tryz.ntmps155
      go_wp2
      go_ret
      exact ⟨by rw [decide_eq_true (p := 1 ≤ s.size ∧ s.size ≤ 64) ⟨h, h2⟩]; rfl, rfl⟩
    · have h2' : ¬ (s.size : Int) ≤ 64 := by omega
      go_enter Tryz.func155, Tryz.ntmps155
      go_wp2
      go_ret
      exact ⟨rfl, rfl⟩
  · have h' : ¬ (1 : Int) ≤ s.size := by omega
    go_enter Tryz.func155, Tryz.ntmps155
    go_wp2
    go_ret
    exact ⟨rfl, rfl⟩

set_option maxHeartbeats 4000000 in
set_option maxRecDepth 100000 in
theorem shard_any (l s x q : Int) (key : ByteArray) (w : World) (hk : key.size ≤ 9223372036854775807) :
    Calls Tryz.prog 185 #[.agg #[.int .i64 l, .int .i64 s, .int .i64 x, .int .i64 q], .string key] w fun e w' => e = .returned (.tuple #[.int .i64 (Cf.shard ⟨l, s, x, q⟩ key).1, .int .i64 (Cf.shard ⟨l, s, x, q⟩ key).2]) ∧ Fr [] w w' := by
  have HC := fun w => check_cells l s x q w
  by_cases hm : Cf.may ⟨l, s, x, q⟩
  · have E : Cf.err ⟨l, s, x, q⟩ = 0 := if_pos hm
    rw [E] at HC
    have hs : 1 ≤ s ∧ s ≤ 16 := hm.2.1
    by_cases hz : 1 ≤ key.size ∧ key.size ≤ 64
    · have E2 : Cf.shard ⟨l, s, x, q⟩ key = (shN13 s key, 0) := by simp [Cf.shard, hm, hz]
      rw [E2]
      have HK := fun w => fits_yes (key.size : Int) 64 w (by omega)
      obtain ⟨m, HM⟩ : ∃ m, Hid (hashOf (strNs key) = m) := ⟨_, rfl⟩
      have hm32 : m < 4294967296 := by rw [← HM.out]; exact hashOf_lt _
      have HH : ∀ w, Calls Tryz.prog 202 #[.string key] w fun e w' => e = .returned (.int .u32 (m : Int)) ∧ w' = w := fun w => (hash_any m key w hk HM.out).mono fun e w' h => ⟨h.1, h.2.symm⟩
      obtain ⟨r, HR⟩ : ∃ r : Int, Hid (r = (m : Int) % s) := ⟨_, rfl⟩
      have HN : Hid (shN13 s key = r) := by show _ = _; rw [HR.out, shN13, HM.out]
      have hr : 0 ≤ r ∧ r < 16 := by
        have h1 := Int.emod_nonneg (m : Int) (show s ≠ 0 by omega)
        have h2 := Int.emod_lt_of_pos (m : Int) (show 0 < s by omega)
        rw [HR.out]; omega
      have hcv : s % 4294967296 = s := by omega
      have hne : s ≠ 0 := by omega
      have hrem : (m : Int).tmod s = r := by rw [HR.out]; exact Int.tmod_eq_emod_of_nonneg (by omega)
      rw [HN.out]
      clear hm E E2 hz HN HR
      go_enter Tryz.func185, Tryz.ntmps185
      go_wp2_with fail
      refine (HC _).mono ?_
      rintro e w1 ⟨rfl, hF1⟩
      have hc1 : w1.cell? ⟨w.heap.size, 1, none⟩ = some (.int .i64 s) := by
        rw [World.cell?_of_block (hF1.block w.heap.size (by simp) (by simp))]
        simp [World.cell?_alloc_at]
      have HF : Hid (Fr [] w w1) := (Fr.alloc _ _ _).then hF1
      clear hF1 HC
      go_wp2_with fail
      refine (HK _).mono ?_
      rintro e w2 ⟨rfl, rfl⟩
      go_wp2_with fail
      go_quiet ((go_at_call 202; exact Calls.quiet_of_same (HH _)))
      go_wp2_with fail
      refine bodyPost_ret (results_tmp2 rfl _ _ _) rfl ?_
      exact ⟨rfl, HF.out.then (Fr.drewN _ _ _)⟩
    · have E2 : Cf.shard ⟨l, s, x, q⟩ key = (0, 1) := by simp only [Cf.shard, hm, hz]; simp
      rw [E2]
      have HK := fun w => fits_no (key.size : Int) 64 w (by omega)
      clear hm E E2 hz
      go_enter Tryz.func185, Tryz.ntmps185
      go_wp2_with fail
      refine (HC _).mono ?_
      rintro e w1 ⟨rfl, hF1⟩
      have HF : Hid (Fr [] w w1) := (Fr.alloc _ _ _).then hF1
      clear hF1 HC
      go_wp2_with fail
      refine (HK _).mono ?_
      rintro e w2 ⟨rfl, rfl⟩
      go_wp2_with fail
      refine bodyPost_ret (results_tmp2 rfl _ _ _) rfl ?_
      exact ⟨rfl, HF.out⟩
  · have E : Cf.err ⟨l, s, x, q⟩ = 7 := if_neg hm
    rw [E] at HC
    have E2 : Cf.shard ⟨l, s, x, q⟩ key = (0, 7) := by simp only [Cf.shard, hm]; simp
    rw [E2]
    clear hm E E2
    go_enter Tryz.func185, Tryz.ntmps185
    go_wp2_with fail
    refine (HC _).mono ?_
    rintro e w1 ⟨rfl, hF1⟩
    have HF : Hid (Fr [] w w1) := (Fr.alloc _ _ _).then hF1
    clear hF1 HC
    go_wp2_with fail
    refine bodyPost_ret (results_tmp2 rfl _ _ _) rfl ?_
    exact ⟨rfl, HF.out⟩

set_option maxHeartbeats 4000000 in
set_option maxRecDepth 100000 in
theorem oshard_any (l s x q : Int) (key : ByteArray) (w : World) (hk : key.size ≤ 9223372036854775807) :
    Calls Tryz.prog 132 #[.agg #[.int .i64 l, .int .i64 s, .int .i64 x, .int .i64 q], .string key] w fun e w' => e = .returned (.tuple #[.int .i64 (Cf.shard ⟨l, s, x, q⟩ key).1, .int .i64 (Cf.shard ⟨l, s, x, q⟩ key).2]) ∧ Fr [] w w' := by
  have HC := fun w => ocheck_cells l s x q w
  by_cases hm : Cf.may ⟨l, s, x, q⟩
  · have E : Cf.err ⟨l, s, x, q⟩ = 0 := if_pos hm
    rw [E] at HC
    have hs : 1 ≤ s ∧ s ≤ 16 := hm.2.1
    by_cases hz : 1 ≤ key.size ∧ key.size ≤ 64
    · have E2 : Cf.shard ⟨l, s, x, q⟩ key = (shN13 s key, 0) := by simp [Cf.shard, hm, hz]
      rw [E2]
      have HK : ∀ w, Calls Tryz.prog 155 #[.string key] w fun e w' => e = .returned (.bool true) ∧ w = w' := fun w => (key_any key w).mono fun e w' h => ⟨by rw [h.1, decide_eq_true hz], h.2⟩
      obtain ⟨m, HM⟩ : ∃ m, Hid (hashOf (strNs key) = m) := ⟨_, rfl⟩
      have hm32 : m < 4294967296 := by rw [← HM.out]; exact hashOf_lt _
      have HH : ∀ w, Calls Tryz.prog 159 #[.string key] w fun e w' => e = .returned (.int .u32 (m : Int)) ∧ w' = w := fun w => (refHash_any m key w hk HM.out).mono fun e w' h => ⟨h.1, h.2.symm⟩
      obtain ⟨r, HR⟩ : ∃ r : Int, Hid (r = (m : Int) % s) := ⟨_, rfl⟩
      have HN : Hid (shN13 s key = r) := by show _ = _; rw [HR.out, shN13, HM.out]
      have hr : 0 ≤ r ∧ r < 16 := by
        have h1 := Int.emod_nonneg (m : Int) (show s ≠ 0 by omega)
        have h2 := Int.emod_lt_of_pos (m : Int) (show 0 < s by omega)
        rw [HR.out]; omega
      have hcv : s % 4294967296 = s := by omega
      have hne : s ≠ 0 := by omega
      have hrem : (m : Int).tmod s = r := by rw [HR.out]; exact Int.tmod_eq_emod_of_nonneg (by omega)
      rw [HN.out]
      clear hm E E2 hz HN HR
      go_enter Tryz.func132, Tryz.ntmps132
      go_wp2_with fail
      refine (HC _).mono ?_
      rintro e w1 ⟨rfl, hF1⟩
      have hc1 : w1.cell? ⟨w.heap.size, 1, none⟩ = some (.int .i64 s) := by
        rw [World.cell?_of_block (hF1.block w.heap.size (by simp) (by simp))]
        simp [World.cell?_alloc_at]
      have HF : Hid (Fr [] w w1) := (Fr.alloc _ _ _).then hF1
      clear hF1 HC
      go_wp2_with fail
      refine (HK _).mono ?_
      rintro e w2 ⟨rfl, rfl⟩
      go_wp2_with fail
      go_quiet ((go_at_call 159; exact Calls.quiet_of_same (HH _)))
      go_wp2_with fail
      refine bodyPost_ret (results_tmp2 rfl _ _ _) rfl ?_
      exact ⟨rfl, HF.out.then (Fr.drewN _ _ _)⟩
    · have E2 : Cf.shard ⟨l, s, x, q⟩ key = (0, 1) := by simp only [Cf.shard, hm, hz]; simp
      rw [E2]
      have HK : ∀ w, Calls Tryz.prog 155 #[.string key] w fun e w' => e = .returned (.bool false) ∧ w = w' := fun w => (key_any key w).mono fun e w' h => ⟨by rw [h.1, decide_eq_false hz], h.2⟩
      clear hm E E2 hz
      go_enter Tryz.func132, Tryz.ntmps132
      go_wp2_with fail
      refine (HC _).mono ?_
      rintro e w1 ⟨rfl, hF1⟩
      have HF : Hid (Fr [] w w1) := (Fr.alloc _ _ _).then hF1
      clear hF1 HC
      go_wp2_with fail
      refine (HK _).mono ?_
      rintro e w2 ⟨rfl, rfl⟩
      go_wp2_with fail
      refine bodyPost_ret (results_tmp2 rfl _ _ _) rfl ?_
      exact ⟨rfl, HF.out⟩
  · have E : Cf.err ⟨l, s, x, q⟩ = 7 := if_neg hm
    rw [E] at HC
    have E2 : Cf.shard ⟨l, s, x, q⟩ key = (0, 7) := by simp only [Cf.shard, hm]; simp
    rw [E2]
    clear hm E E2
    go_enter Tryz.func132, Tryz.ntmps132
    go_wp2_with fail
    refine (HC _).mono ?_
    rintro e w1 ⟨rfl, hF1⟩
    have HF : Hid (Fr [] w w1) := (Fr.alloc _ _ _).then hF1
    clear hF1 HC
    go_wp2_with fail
    refine bodyPost_ret (results_tmp2 rfl _ _ _) rfl ?_
    exact ⟨rfl, HF.out⟩
end Go.Proofs.YtaaghcimfcjehaaGreatDoor
/- A configuration as it comes in; drawn regions whose calls only make new memory. Conditions as each names them. -/
namespace Go.Proofs.YtaaghcimfcjehaaGreatDoor
open Go.ChangeShapes Go.WideShapes Go.ChangeAt Go.RowKit Go.Lib
set_option linter.unusedVariables false
set_option linter.unusedSimpArgs false

structure Wd13 (w1 : World) where
  W : World
  h : Fr [] w1 W
instance (w1 : World) : Nonempty (Wd13 w1) := ⟨⟨w1, Fr.refl _ _⟩⟩
theorem wp_region_wd13 {P : Program} {w1 wr : World} {id : Nat} {Q : Exit → Act → World → Prop} {a : Act} {l : List Oper} (hm : P.follows .mixedOrders = true) (hB : Region.lexB .any l.toArray = true) (hf : Fr [] w1 wr)
    (h : wpQuiet P l.toArray (fun w' => ∃ x : Wd13 w1, w' = x.W) (fun a' => ∀ w', (∃ x : Wd13 w1, w' = x.W) → Q .normal a' w') l a) : (Code.region id l.toArray true).wp P Q a wr :=
  wp_region_quiet (C := fun w' => ∃ x : Wd13 w1, w' = x.W) hm hB ⟨⟨_, hf.then (Fr.drew [] wr)⟩, rfl⟩ (by simpa using h)

/-- The configuration lies in block b. -/
def CfM (w : World) (b : Nat) (l s x q : Int) : Prop := b < w.heap.size ∧ w.cell? ⟨b, 0, none⟩ = some (.int .i64 l) ∧ w.cell? ⟨b, 1, none⟩ = some (.int .i64 s) ∧ w.cell? ⟨b, 2, none⟩ = some (.int .i64 x) ∧ w.cell? ⟨b, 3, none⟩ = some (.int .i64 q)
theorem CfM.keep {w w' : World} {b : Nat} {l s x q : Int} (h : CfM w b l s x q) (hf : Fr [] w w') : CfM w' b l s x q := by
  have e : ∀ j, w'.cell? ⟨b, j, none⟩ = w.cell? ⟨b, j, none⟩ := fun j => World.cell?_of_block (a := ⟨b, j, none⟩) (hf.block b h.1 (by simp))
  exact ⟨Nat.lt_of_lt_of_le h.1 hf.size, (e 0).trans h.2.1, (e 1).trans h.2.2.1, (e 2).trans h.2.2.2.1, (e 3).trans h.2.2.2.2⟩
theorem CfM.new (w : World) (l s x q : Int) (t : TypeId) : CfM (w.alloc (.cells #[.int .i64 l, .int .i64 s, .int .i64 x, .int .i64 q] t)) w.heap.size l s x q :=
  ⟨by simp, by simp [World.cell?_alloc_at], by simp [World.cell?_alloc_at], by simp [World.cell?_alloc_at], by simp [World.cell?_alloc_at]⟩

theorem Tryz.cellsCf : Tryz.prog.cellsOf 23 = 4 := by kernel_rfl
theorem Tryz.cI13 : Tryz.prog.cellsOf 3 = 1 := by kernel_rfl
theorem Tryz.undI13 : Tryz.prog.underlying 3 = some (.int .i64) := by kernel_rfl
theorem Tryz.cfFields : (match Tryz.prog.underlying 23 with | some (.struct fs) => fs.toList.map (fun f => (f.type, f.offset)) | _ => []) = [(3, 0), (3, 1), (3, 2), (3, 3)] := by kernel_rfl
section
variable {H : Type} {enc : TypeId × Value → H}
set_option maxRecDepth 100000 in
theorem cf_open {w : World} {base : Nat} {spare : Nat → Bool} {held : Bool} {fuel : Nat} {cs : List Value} {x : DataW H × List MemPlace} (h : DataW.trod enc Tryz.prog w base spare held fuel 23 cs = some x) :
    ∃ (a b c d : Int), cs = [.int .i64 a, .int .i64 b, .int .i64 c, .int .i64 d] ∧ Cf.ok ⟨a, b, c, d⟩ := by
  have hF := Tryz.cfFields
  cases hu : Tryz.prog.underlying 23 with
  | none => rw [hu] at hF; simp at hF
  | some u =>
    rw [hu] at hF
    cases u with
    | struct fs =>
      simp only at hF
      obtain ⟨ys, n, _, hx, hlen, hys, hf⟩ := DataW.trod_struct hu h
      rw [Tryz.cellsCf] at hlen
      match cs, hlen with
      | [v0, v1, v2, v3], _ =>
        have hl4 : fs.toList.length = 4 := by have := congrArg List.length hF; simpa using this
        obtain ⟨l, hl⟩ : ∃ l, l = fs.toList := ⟨_, rfl⟩
        rw [← hl] at hF hl4
        match l, hl4 with
        | [f0, f1, f2, f3], _ =>
          simp only [List.map_cons, List.map_nil, List.cons.injEq, Prod.mk.injEq, and_true] at hF
          obtain ⟨⟨t0, o0⟩, ⟨t1, o1⟩, ⟨t2, o2⟩, ⟨t3, o3⟩⟩ := hF
          have g : ∀ (i : Nat) (f : Field), [f0, f1, f2, f3][i]? = some f → fs[i]? = some f := by
            intro i f hi
            rw [hl] at hi
            simpa using hi
          have r0 := hf 0 f0 (g 0 f0 rfl)
          have r1 := hf 1 f1 (g 1 f1 rfl)
          have r2 := hf 2 f2 (g 2 f2 rfl)
          have r3 := hf 3 f3 (g 3 f3 rfl)
          rw [t0, o0, Tryz.cI13] at r0
          rw [t1, o1, Tryz.cI13] at r1
          rw [t2, o2, Tryz.cI13] at r2
          rw [t3, o3, Tryz.cI13] at r3
          simp only [List.drop_zero, List.drop_succ_cons, List.take_succ_cons, List.take_zero] at r0 r1 r2 r3
          have hy4 : ys.length = 4 := by rw [hys]; have := congrArg List.length hl; simpa using this.symm
          match ys, hy4 with
          | [y0, y1, y2, y3], _ =>
            simp only [List.getElem?_cons_zero, List.getElem?_cons_succ] at r0 r1 r2 r3
            obtain ⟨k0, e0, _, w0⟩ := DataW.trod_int Tryz.undI13 r0
            obtain ⟨k1, e1, _, w1⟩ := DataW.trod_int Tryz.undI13 r1
            obtain ⟨k2, e2, _, w2⟩ := DataW.trod_int Tryz.undI13 r2
            obtain ⟨k3, e3, _, w3⟩ := DataW.trod_int Tryz.undI13 r3
            simp only [List.cons.injEq, and_true] at e0 e1 e2 e3
            exact ⟨k0, k1, k2, k3, by rw [e0, e1, e2, e3], bounds_i64 w0, bounds_i64 w1, bounds_i64 w2, bounds_i64 w3⟩
    | _ => simp at hF
end
end Go.Proofs.YtaaghcimfcjehaaGreatDoor

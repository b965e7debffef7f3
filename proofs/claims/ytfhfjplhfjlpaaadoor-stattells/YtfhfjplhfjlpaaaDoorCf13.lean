/- A configuration as a plain thing, and what Check, Shard and Tasks answer of it, the program's and the document's. Conditions: numbers of 64 bits; a key of fewer than 2^63 bytes. -/
import Derived.Test.YtfhfjplhfjlpaaaDoorArg
import Derived.Laws.BitsAllLaws
namespace Go.Proofs.YtfhfjplhfjlpaaaDoor
open Go.ChangeShapes Go.WideShapes Go.ChangeAt Go.RowKit Go.Lib
set_option linter.unusedVariables false
set_option linter.unusedSimpArgs false

/-- A number of 64 bits. -/
def I6 (n : Int) : Prop := -9223372036854775808 ≤ n ∧ n ≤ 9223372036854775807
structure Cf where
  l : Int
  s : Int
  w : Int
  q : Int
def Cf.ok (c : Cf) : Prop := I6 c.l ∧ I6 c.s ∧ I6 c.w ∧ I6 c.q
def Cf.v (c : Cf) : Value := .agg #[.int .i64 c.l, .int .i64 c.s, .int .i64 c.w, .int .i64 c.q]
/-- May it be? -/
def Cf.may (c : Cf) : Prop := (1 ≤ c.l ∧ c.l ≤ 16) ∧ (1 ≤ c.s ∧ c.s ≤ 16) ∧ (1 ≤ c.w ∧ c.w ≤ 64) ∧ (1 ≤ c.q ∧ c.q ≤ 16)
instance (c : Cf) : Decidable c.may := by unfold Cf.may; infer_instance
/-- What Check answers. -/
def Cf.err (c : Cf) : Int := if c.may then 0 else 7

set_option maxHeartbeats 1000000 in
theorem fits_any (n m : Int) (w : World) :
    Calls Tryd.prog 53 #[.int .i64 n, .int .i64 m] w fun e w' => e = .returned (.bool (decide (1 ≤ n ∧ n ≤ m))) ∧ w = w' := by
  by_cases h : 1 ≤ n
  · by_cases h2 : n ≤ m
    · go_enter Tryd.func53, Tryd.ntmps53
      go_wp2
      go_ret
      exact ⟨by simp [h, h2], rfl⟩
    · go_enter Tryd.func53, Tryd.ntmps53
      go_wp2
      go_ret
      exact ⟨by simp [h, h2], rfl⟩
  · go_enter Tryd.func53, Tryd.ntmps53
    go_wp2
    go_ret
    exact ⟨by rw [decide_eq_false (p := 1 ≤ n) (by omega)]; rfl, rfl⟩
set_option maxHeartbeats 1000000 in
theorem in_any (n m : Int) (w : World) :
    Calls Tryd.prog 61 #[.int .i64 n, .int .i64 m] w fun e w' => e = .returned (.bool (decide (1 ≤ n ∧ n ≤ m))) ∧ w = w' := by
  by_cases h : 1 ≤ n
  · by_cases h2 : n ≤ m
    · go_enter Tryd.func61, Tryd.ntmps61
      go_wp2
      go_ret
      exact ⟨by simp [h, h2], rfl⟩
    · go_enter Tryd.func61, Tryd.ntmps61
      go_wp2
      go_ret
      exact ⟨by simp [h, h2], rfl⟩
  · go_enter Tryd.func61, Tryd.ntmps61
    go_wp2
    go_ret
    exact ⟨by rw [decide_eq_false (p := 1 ≤ n) (by omega)]; rfl, rfl⟩
/-- The same, by what is known of the number. -/
theorem fits_yes (n m : Int) (w : World) (h : 1 ≤ n ∧ n ≤ m) : Calls Tryd.prog 53 #[.int .i64 n, .int .i64 m] w fun e w' => e = .returned (.bool true) ∧ w = w' :=
  (fits_any n m w).mono fun e w' k => ⟨by rw [k.1, decide_eq_true h], k.2⟩
theorem fits_no (n m : Int) (w : World) (h : ¬ (1 ≤ n ∧ n ≤ m)) : Calls Tryd.prog 53 #[.int .i64 n, .int .i64 m] w fun e w' => e = .returned (.bool false) ∧ w = w' :=
  (fits_any n m w).mono fun e w' k => ⟨by rw [k.1, decide_eq_false h], k.2⟩
theorem in_yes (n m : Int) (w : World) (h : 1 ≤ n ∧ n ≤ m) : Calls Tryd.prog 61 #[.int .i64 n, .int .i64 m] w fun e w' => e = .returned (.bool true) ∧ w = w' :=
  (in_any n m w).mono fun e w' k => ⟨by rw [k.1, decide_eq_true h], k.2⟩
theorem in_no (n m : Int) (w : World) (h : ¬ (1 ≤ n ∧ n ≤ m)) : Calls Tryd.prog 61 #[.int .i64 n, .int .i64 m] w fun e w' => e = .returned (.bool false) ∧ w = w' :=
  (in_any n m w).mono fun e w' k => ⟨by rw [k.1, decide_eq_false h], k.2⟩

set_option maxHeartbeats 4000000 in
set_option maxRecDepth 100000 in
theorem check_cells (l s x q : Int) (w : World) :
    Calls Tryd.prog 14 #[.agg #[.int .i64 l, .int .i64 s, .int .i64 x, .int .i64 q]] w fun e w' => e = .returned (.int .i64 (Cf.err ⟨l, s, x, q⟩)) ∧ Fr [] w w' := by
  by_cases h1 : 1 ≤ l ∧ l ≤ 16
  · by_cases h2 : 1 ≤ s ∧ s ≤ 16
    · by_cases h3 : 1 ≤ x ∧ x ≤ 64
      · by_cases h4 : 1 ≤ q ∧ q ≤ 16
        · have E : Cf.err ⟨l, s, x, q⟩ = 0 := if_pos ⟨h1, h2, h3, h4⟩
          rw [E]
          have H1 := fun w => fits_yes l 16 w h1
          have H2 := fun w => fits_yes s 16 w h2
          have H3 := fun w => fits_yes x 64 w h3
          have H4 := fun w => fits_yes q 16 w h4
          clear h1 h2 h3 h4 E
          go_enter Tryd.func14, Tryd.ntmps14
          go_wp2_with fail
          refine (H1 _).mono ?_
          rintro e w1 ⟨rfl, rfl⟩
          go_wp2_with fail
          refine (H2 _).mono ?_
          rintro e w1 ⟨rfl, rfl⟩
          go_wp2_with fail
          refine (H3 _).mono ?_
          rintro e w1 ⟨rfl, rfl⟩
          go_wp2_with fail
          refine (H4 _).mono ?_
          rintro e w1 ⟨rfl, rfl⟩
          go_wp2_with fail
          go_ret
          exact ⟨rfl, Fr.alloc _ _ _⟩
        · have E : Cf.err ⟨l, s, x, q⟩ = 7 := if_neg (fun h => h4 h.2.2.2)
          rw [E]
          have H1 := fun w => fits_yes l 16 w h1
          have H2 := fun w => fits_yes s 16 w h2
          have H3 := fun w => fits_yes x 64 w h3
          have H4 := fun w => fits_no q 16 w h4
          clear h1 h2 h3 h4 E
          go_enter Tryd.func14, Tryd.ntmps14
          go_wp2_with fail
          refine (H1 _).mono ?_
          rintro e w1 ⟨rfl, rfl⟩
          go_wp2_with fail
          refine (H2 _).mono ?_
          rintro e w1 ⟨rfl, rfl⟩
          go_wp2_with fail
          refine (H3 _).mono ?_
          rintro e w1 ⟨rfl, rfl⟩
          go_wp2_with fail
          refine (H4 _).mono ?_
          rintro e w1 ⟨rfl, rfl⟩
          go_wp2_with fail
          go_ret
          exact ⟨rfl, Fr.alloc _ _ _⟩
      · have E : Cf.err ⟨l, s, x, q⟩ = 7 := if_neg (fun h => h3 h.2.2.1)
        rw [E]
        have H1 := fun w => fits_yes l 16 w h1
        have H2 := fun w => fits_yes s 16 w h2
        have H3 := fun w => fits_no x 64 w h3
        clear h1 h2 h3 E
        go_enter Tryd.func14, Tryd.ntmps14
        go_wp2_with fail
        refine (H1 _).mono ?_
        rintro e w1 ⟨rfl, rfl⟩
        go_wp2_with fail
        refine (H2 _).mono ?_
        rintro e w1 ⟨rfl, rfl⟩
        go_wp2_with fail
        refine (H3 _).mono ?_
        rintro e w1 ⟨rfl, rfl⟩
        go_wp2_with fail
        go_ret
        exact ⟨rfl, Fr.alloc _ _ _⟩
    · have E : Cf.err ⟨l, s, x, q⟩ = 7 := if_neg (fun h => h2 h.2.1)
      rw [E]
      have H1 := fun w => fits_yes l 16 w h1
      have H2 := fun w => fits_no s 16 w h2
      clear h1 h2 E
      go_enter Tryd.func14, Tryd.ntmps14
      go_wp2_with fail
      refine (H1 _).mono ?_
      rintro e w1 ⟨rfl, rfl⟩
      go_wp2_with fail
      refine (H2 _).mono ?_
      rintro e w1 ⟨rfl, rfl⟩
      go_wp2_with fail
      go_ret
      exact ⟨rfl, Fr.alloc _ _ _⟩
  · have E : Cf.err ⟨l, s, x, q⟩ = 7 := if_neg (fun h => h1 h.1)
    rw [E]
    have H1 := fun w => fits_no l 16 w h1
    clear h1 E
    go_enter Tryd.func14, Tryd.ntmps14
    go_wp2_with fail
    refine (H1 _).mono ?_
    rintro e w1 ⟨rfl, rfl⟩
    go_wp2_with fail
    go_ret
    exact ⟨rfl, Fr.alloc _ _ _⟩
set_option maxHeartbeats 4000000 in
set_option maxRecDepth 100000 in
theorem ocheck_cells (l s x q : Int) (w : World) :
    Calls Tryd.prog 17 #[.agg #[.int .i64 l, .int .i64 s, .int .i64 x, .int .i64 q]] w fun e w' => e = .returned (.int .i64 (Cf.err ⟨l, s, x, q⟩)) ∧ Fr [] w w' := by
  by_cases h1 : 1 ≤ l ∧ l ≤ 16
  · by_cases h2 : 1 ≤ s ∧ s ≤ 16
    · by_cases h3 : 1 ≤ x ∧ x ≤ 64
      · by_cases h4 : 1 ≤ q ∧ q ≤ 16
        · have E : Cf.err ⟨l, s, x, q⟩ = 0 := if_pos ⟨h1, h2, h3, h4⟩
          rw [E]
          have H1 := fun w => in_yes l 16 w h1
          have H2 := fun w => in_yes s 16 w h2
          have H3 := fun w => in_yes x 64 w h3
          have H4 := fun w => in_yes q 16 w h4
          clear h1 h2 h3 h4 E
          go_enter Tryd.func17, Tryd.ntmps17
          go_wp2_with fail
          refine (H1 _).mono ?_
          rintro e w1 ⟨rfl, rfl⟩
          go_wp2_with fail
          refine (H2 _).mono ?_
          rintro e w1 ⟨rfl, rfl⟩
          go_wp2_with fail
          refine (H3 _).mono ?_
          rintro e w1 ⟨rfl, rfl⟩
          go_wp2_with fail
          refine (H4 _).mono ?_
          rintro e w1 ⟨rfl, rfl⟩
          go_wp2_with fail
          go_ret
          exact ⟨rfl, Fr.alloc _ _ _⟩
        · have E : Cf.err ⟨l, s, x, q⟩ = 7 := if_neg (fun h => h4 h.2.2.2)
          rw [E]
          have H1 := fun w => in_yes l 16 w h1
          have H2 := fun w => in_yes s 16 w h2
          have H3 := fun w => in_yes x 64 w h3
          have H4 := fun w => in_no q 16 w h4
          clear h1 h2 h3 h4 E
          go_enter Tryd.func17, Tryd.ntmps17
          go_wp2_with fail
          refine (H1 _).mono ?_
          rintro e w1 ⟨rfl, rfl⟩
          go_wp2_with fail
          refine (H2 _).mono ?_
          rintro e w1 ⟨rfl, rfl⟩
          go_wp2_with fail
          refine (H3 _).mono ?_
          rintro e w1 ⟨rfl, rfl⟩
          go_wp2_with fail
          refine (H4 _).mono ?_
          rintro e w1 ⟨rfl, rfl⟩
          go_wp2_with fail
          go_ret
          exact ⟨rfl, Fr.alloc _ _ _⟩
      · have E : Cf.err ⟨l, s, x, q⟩ = 7 := if_neg (fun h => h3 h.2.2.1)
        rw [E]
        have H1 := fun w => in_yes l 16 w h1
        have H2 := fun w => in_yes s 16 w h2
        have H3 := fun w => in_no x 64 w h3
        clear h1 h2 h3 E
        go_enter Tryd.func17, Tryd.ntmps17
        go_wp2_with fail
        refine (H1 _).mono ?_
        rintro e w1 ⟨rfl, rfl⟩
        go_wp2_with fail
        refine (H2 _).mono ?_
        rintro e w1 ⟨rfl, rfl⟩
        go_wp2_with fail
        refine (H3 _).mono ?_
        rintro e w1 ⟨rfl, rfl⟩
        go_wp2_with fail
        go_ret
        exact ⟨rfl, Fr.alloc _ _ _⟩
    · have E : Cf.err ⟨l, s, x, q⟩ = 7 := if_neg (fun h => h2 h.2.1)
      rw [E]
      have H1 := fun w => in_yes l 16 w h1
      have H2 := fun w => in_no s 16 w h2
      clear h1 h2 E
      go_enter Tryd.func17, Tryd.ntmps17
      go_wp2_with fail
      refine (H1 _).mono ?_
      rintro e w1 ⟨rfl, rfl⟩
      go_wp2_with fail
      refine (H2 _).mono ?_
      rintro e w1 ⟨rfl, rfl⟩
      go_wp2_with fail
      go_ret
      exact ⟨rfl, Fr.alloc _ _ _⟩
  · have E : Cf.err ⟨l, s, x, q⟩ = 7 := if_neg (fun h => h1 h.1)
    rw [E]
    have H1 := fun w => in_no l 16 w h1
    clear h1 E
    go_enter Tryd.func17, Tryd.ntmps17
    go_wp2_with fail
    refine (H1 _).mono ?_
    rintro e w1 ⟨rfl, rfl⟩
    go_wp2_with fail
    go_ret
    exact ⟨rfl, Fr.alloc _ _ _⟩
end Go.Proofs.YtfhfjplhfjlpaaaDoor

/- The document's Key, Val, Write, Number. Conditions as each names them. -/
import Derived.Test.YtkplammapbiebaaGreatDoorHs9
import Derived.Test.YtkplammapbiebaaGreatDoorUc8
namespace Go.Proofs.YtkplammapbiebaaGreatDoor
open BigFrame Go.ChangeShapes Go.WideShapes Go.ChangeAt Go.RowKit Go.Lib
set_option linter.unusedVariables false
set_option linter.unusedSimpArgs false

/-- A write: key, value, drop. -/
structure Wt where
  key : ByteArray
  val : ByteArray
  drop : Bool
/-- May a write be? -/
def okW (x : Wt) : Prop := 1 ≤ x.key.size ∧ x.key.size ≤ 64 ∧ x.val.size ≤ 1024 ∧ (x.drop = true → x.val = noS)
theorem xKey_any (s : ByteArray) (B : Bool) (w : World) (hs : s.size ≤ 140737488355328) (hB : B = true ↔ 1 ≤ s.size ∧ s.size ≤ 64) : Calls Tryz.prog 85 #[.string s] w fun e w' => e = .returned (.bool B) ∧ w = w' := by
  have HB : Hid (B = true ↔ 1 ≤ s.size ∧ s.size ≤ 64) := hB
  clear hB
  by_cases h1 : 1 ≤ s.size
  · have h1' : (1 : Int) ≤ s.size := by omega
    by_cases h2 : s.size ≤ 64
    · have h2' : (s.size : Int) ≤ 64 := by omega
      have HR : Hid (B = true) := HB.out.2 ⟨h1, h2⟩
      go_enter Tryz.func85, Tryz.ntmps85
      go_wp2
      go_ret
      rw [HR.out]
      simp [h2']
    · have h2' : decide ((s.size : Int) ≤ 64) = false := by simp; omega
      have HR : Hid (B = false) := by show B = false; simpa using fun h : B = true => h2 (HB.out.1 h).2
      clear h2
      go_enter Tryz.func85, Tryz.ntmps85
      go_wp2
      go_ret
      rw [HR.out]
      simp [h2']
  · have h1' : decide ((1 : Int) ≤ s.size) = false := by simp; omega
    have h1'' : (s.size : Int) < 1 := by omega
    have HR : Hid (B = false) := by show B = false; simpa using fun h : B = true => h1 (HB.out.1 h).1
    clear h1
    go_enter Tryz.func85, Tryz.ntmps85
    go_wp2
    go_ret
    rw [HR.out]
    simp
theorem xVal_any (s : ByteArray) (B : Bool) (w : World) (hs : s.size ≤ 140737488355328) (hB : B = true ↔ s.size ≤ 1024) : Calls Tryz.prog 130 #[.string s] w fun e w' => e = .returned (.bool B) ∧ w = w' := by
  have HB : Hid (decide ((s.size : Int) ≤ 1024) = B) := by
    show _ = _
    cases B with
    | true => have := hB.1 rfl; simp; omega
    | false => have : ¬ s.size ≤ 1024 := fun h => by have := hB.2 h; simp at this
               simp; omega
  clear hB
  go_enter Tryz.func130, Tryz.ntmps130
  go_wp2
  go_ret
  rw [← HB.out]
  exact ⟨rfl, rfl⟩
/-- It tells whether the write may be. -/
def TellsY (e : Ending) (x : Wt) : Prop := ∃ B : Bool, e = .returned (.bool B) ∧ (B = true ↔ okW x)
set_option maxHeartbeats 2000000 in
set_option maxRecDepth 100000 in
theorem xWrite_any (key val : ByteArray) (drop : Bool) (w : World) (hk : key.size ≤ 140737488355328) (hv : val.size ≤ 140737488355328) :
    Calls Tryz.prog 113 #[.agg #[.string key, .string val, .bool drop]] w fun e w' => TellsY e ⟨key, val, drop⟩ ∧ Fr [] w w' := by
  have hF0 : Fr [] w (w.alloc (.cells #[.string key, .string val, .bool drop] 58)) := Fr.alloc [] w _
  have HO : Hid (okW ⟨key, val, drop⟩ ↔ (1 ≤ key.size ∧ key.size ≤ 64) ∧ val.size ≤ 1024 ∧ (drop = true → val.size = 0)) := by
    show _ ↔ _
    unfold okW
    rw [← noS_iff]
    simp only
    constructor
    · rintro ⟨a, b, c, d⟩; exact ⟨⟨a, b⟩, c, d⟩
    · rintro ⟨⟨a, b⟩, c, d⟩; exact ⟨a, b, c, d⟩
  by_cases h1 : 1 ≤ key.size ∧ key.size ≤ 64
  · by_cases h2 : val.size ≤ 1024
    · cases drop with
      | true =>
        by_cases h3 : val.size = 0
        · have h3' : ((val.size : Int) == 0) = true := by rw [h3]; rfl
          have HA : Hid (okW ⟨key, val, true⟩) := HO.out.2 ⟨h1, h2, fun _ => h3⟩
          go_enter Tryz.func113, Tryz.ntmps113
          go_wp2_with fail
          refine (xKey_any key true _ hk (by simpa using h1)).mono ?_
          rintro e w1 ⟨rfl, rfl⟩
          go_wp2_with fail
          refine (xVal_any val true _ hv (by simpa using h2)).mono ?_
          rintro e w1 ⟨rfl, rfl⟩
          go_wp2
          go_ret
          exact ⟨⟨true, by simp [h3'], by simp [HA.out]⟩, hF0⟩
        · have h3' : ((val.size : Int) == 0) = false := by rw [beq_eq_false_iff_ne]; omega
          have HA : Hid (¬ okW ⟨key, val, true⟩) := fun h => h3 ((HO.out.1 h).2.2 rfl)
          clear h3
          go_enter Tryz.func113, Tryz.ntmps113
          go_wp2_with fail
          refine (xKey_any key true _ hk (by simpa using h1)).mono ?_
          rintro e w1 ⟨rfl, rfl⟩
          go_wp2_with fail
          refine (xVal_any val true _ hv (by simpa using h2)).mono ?_
          rintro e w1 ⟨rfl, rfl⟩
          go_wp2
          go_ret
          exact ⟨⟨false, by simp [h3'], by simp [HA.out]⟩, hF0⟩
      | false =>
        have HA : Hid (okW ⟨key, val, false⟩) := HO.out.2 ⟨h1, h2, fun h => by simp at h⟩
        go_enter Tryz.func113, Tryz.ntmps113
        go_wp2_with fail
        refine (xKey_any key true _ hk (by simpa using h1)).mono ?_
        rintro e w1 ⟨rfl, rfl⟩
        go_wp2_with fail
        refine (xVal_any val true _ hv (by simpa using h2)).mono ?_
        rintro e w1 ⟨rfl, rfl⟩
        go_wp2
        go_ret
        exact ⟨⟨true, by simp, by simp [HA.out]⟩, hF0⟩
    · have HA : Hid (¬ okW ⟨key, val, drop⟩) := fun h => h2 (HO.out.1 h).2.1
      go_enter Tryz.func113, Tryz.ntmps113
      go_wp2_with fail
      refine (xKey_any key true _ hk (by simpa using h1)).mono ?_
      rintro e w1 ⟨rfl, rfl⟩
      go_wp2_with fail
      refine (xVal_any val false _ hv (by simpa using h2)).mono ?_
      rintro e w1 ⟨rfl, rfl⟩
      go_wp2
      go_ret
      exact ⟨⟨false, by simp, by simp [HA.out]⟩, hF0⟩
  · have HA : Hid (¬ okW ⟨key, val, drop⟩) := fun h => h1 (HO.out.1 h).1
    have HB : Hid (false = true ↔ 1 ≤ key.size ∧ key.size ≤ 64) := ⟨fun h => by simp at h, fun h => absurd h h1⟩
    clear h1
    go_enter Tryz.func113, Tryz.ntmps113
    go_wp2_with fail
    refine (xKey_any key false _ hk HB.out).mono ?_
    rintro e w1 ⟨rfl, rfl⟩
    go_wp2
    go_ret
    exact ⟨⟨false, by simp, by simp [HA.out]⟩, hF0⟩
theorem xNumber_any (n : Int) (B : Bool) (w : World) (hB : B = true ↔ 1 ≤ n ∧ n ≤ 65536) : Calls Tryz.prog 112 #[.int .i64 n] w fun e w' => e = .returned (.bool B) ∧ w = w' := by
  have HB : Hid (B = true ↔ 1 ≤ n ∧ n ≤ 65536) := hB
  clear hB
  by_cases h1 : 1 ≤ n
  · have HR : Hid (decide (n ≤ 65536) = B) := by
      show _ = _
      cases B with
      | true => have := HB.out.1 rfl; simp; omega
      | false => have : ¬ n ≤ 65536 := fun h => by have := HB.out.2 ⟨h1, h⟩; simp at this
                 simp; omega
    go_enter Tryz.func112, Tryz.ntmps112
    go_wp2
    go_ret
    rw [← HR.out]
    exact ⟨by simp, rfl⟩
  · have h1' : n < 1 := by omega
    have HR : Hid (B = false) := by show B = false; simpa using fun h : B = true => h1 (HB.out.1 h).1
    clear h1
    go_enter Tryz.func112, Tryz.ntmps112
    go_wp2
    go_ret
    rw [HR.out]
    simp

end Go.Proofs.YtkplammapbiebaaGreatDoor

/- Which calls may be, by the document. Conditions: texts of fewer than 2^63 bytes. -/
import Derived.Test.YtdojhkgnnbdfkaaCk17
namespace Go.Proofs.Ytdojhkgnnbdfkaa
open Go.ChangeShapes Go.WideShapes Go.ChangeAt Go.RowKit Go.Lib
set_option linter.unusedVariables false
set_option linter.unusedSimpArgs false
set_option maxHeartbeats 4000000 in
set_option maxRecDepth 100000 in
theorem yccheck_any (k : Int) (key en : ByteArray) (w : World) (hk : 0 ≤ k ∧ k ≤ 255) : Calls Try.prog 32 #[.agg #[.int .u8 k, .string key, .string en]] w fun e w' => e = .returned (.int .i64 (ckE k key en)) ∧ Fr [] w w' := by
  have e0 := eNil17
  have hE1 := tl_beq17 key
  have hE2 := tl_beq17 en
  have HF : Hid (Fr [] w (w.alloc (.cells #[.int .u8 k, .string key, .string en] 42))) := Fr.alloc _ _ _
  by_cases h1 : k = 1
  · subst h1
    by_cases hA : okK key
    · by_cases hB : en.size = 0
      · have E : decide (okC 1 key en) = true := decide_eq_true (by unfold okC; simp [hA, hB])
        have E2 : ckE _ key en = 0 := if_pos (of_decide_eq_true E)
        rw [E2]
        clear E2
        have HK := fun w => (yokey_any key w)
        rw [decide_eq_true hA] at HK
        simp only [hB, decide_true] at hE2
        clear E
        by_cases hk0 : key.size = 0
        · simp only [hk0, decide_true] at hE1
          by_cases he0 : en.size = 0
          · try simp only [he0, decide_true] at hE2
            exfalso
            (try unfold okK at hA)
            omega
          · try simp only [he0, decide_false] at hE2
            exfalso
            (try unfold okK at hA)
            omega
        · simp only [hk0, decide_false] at hE1
          go_enter Try.func32, Try.ntmps32
          go_wp2_with (first | (refine (HK _).mono ?_; rintro e w1 ⟨rfl, rfl⟩))
          all_goals (go_ret; exact ⟨rfl, HF.out⟩)
      · have E : decide (okC 1 key en) = false := decide_eq_false (by unfold okC; simp [hB])
        have E2 : ckE _ key en = 1 := if_neg (of_decide_eq_false E)
        rw [E2]
        clear E2
        have HK := fun w => (yokey_any key w)
        rw [decide_eq_true hA] at HK
        simp only [hB, decide_false] at hE2
        clear E
        by_cases hk0 : key.size = 0
        · simp only [hk0, decide_true] at hE1
          by_cases he0 : en.size = 0
          · try simp only [he0, decide_true] at hE2
            exfalso
            (try unfold okK at hA)
            omega
          · try simp only [he0, decide_false] at hE2
            exfalso
            (try unfold okK at hA)
            omega
        · simp only [hk0, decide_false] at hE1
          go_enter Try.func32, Try.ntmps32
          go_wp2_with (first | (refine (HK _).mono ?_; rintro e w1 ⟨rfl, rfl⟩))
          all_goals (go_ret; exact ⟨rfl, HF.out⟩)
    · have E : decide (okC 1 key en) = false := decide_eq_false (by unfold okC; simp [hA])
      have E2 : ckE _ key en = 1 := if_neg (of_decide_eq_false E)
      rw [E2]
      clear E2
      have HK := fun w => (yokey_any key w)
      rw [decide_eq_false hA] at HK
      clear E
      by_cases hk0 : key.size = 0
      · simp only [hk0, decide_true] at hE1
        by_cases he0 : en.size = 0
        · try simp only [he0, decide_true] at hE2
          go_enter Try.func32, Try.ntmps32
          go_wp2_with (first | (refine (HK _).mono ?_; rintro e w1 ⟨rfl, rfl⟩))
          all_goals (go_ret; exact ⟨rfl, HF.out⟩)
        · try simp only [he0, decide_false] at hE2
          go_enter Try.func32, Try.ntmps32
          go_wp2_with (first | (refine (HK _).mono ?_; rintro e w1 ⟨rfl, rfl⟩))
          all_goals (go_ret; exact ⟨rfl, HF.out⟩)
      · simp only [hk0, decide_false] at hE1
        go_enter Try.func32, Try.ntmps32
        go_wp2_with (first | (refine (HK _).mono ?_; rintro e w1 ⟨rfl, rfl⟩))
        all_goals (go_ret; exact ⟨rfl, HF.out⟩)
  by_cases h2 : k = 2
  · subst h2
    by_cases hA : key.size ≤ 64
    · by_cases hB : en.size ≤ 64
      · have E : decide (okC 2 key en) = true := decide_eq_true (by unfold okC; simp [hA, hB])
        have E2 : ckE _ key en = 0 := if_pos (of_decide_eq_true E)
        rw [E2]
        clear E2
        have hAz : (key.size : Int) ≤ 64 := by omega
        have hBz : (en.size : Int) ≤ 64 := by omega
        clear E
        by_cases hk0 : key.size = 0
        · simp only [hk0, decide_true] at hE1
          by_cases he0 : en.size = 0
          · try simp only [he0, decide_true] at hE2
            go_enter Try.func32, Try.ntmps32
            go_wp2
            all_goals (go_ret; exact ⟨rfl, HF.out⟩)
          · try simp only [he0, decide_false] at hE2
            go_enter Try.func32, Try.ntmps32
            go_wp2
            all_goals (go_ret; exact ⟨rfl, HF.out⟩)
        · simp only [hk0, decide_false] at hE1
          go_enter Try.func32, Try.ntmps32
          go_wp2
          all_goals (go_ret; exact ⟨rfl, HF.out⟩)
      · have E : decide (okC 2 key en) = false := decide_eq_false (by unfold okC; simp [hB])
        have E2 : ckE _ key en = 1 := if_neg (of_decide_eq_false E)
        rw [E2]
        clear E2
        have hAz : (key.size : Int) ≤ 64 := by omega
        have hBz : ¬ (en.size : Int) ≤ 64 := by omega
        clear E
        by_cases hk0 : key.size = 0
        · simp only [hk0, decide_true] at hE1
          by_cases he0 : en.size = 0
          · try simp only [he0, decide_true] at hE2
            exfalso
            (try unfold okK at hA)
            omega
          · try simp only [he0, decide_false] at hE2
            go_enter Try.func32, Try.ntmps32
            go_wp2
            all_goals (go_ret; exact ⟨rfl, HF.out⟩)
        · simp only [hk0, decide_false] at hE1
          go_enter Try.func32, Try.ntmps32
          go_wp2
          all_goals (go_ret; exact ⟨rfl, HF.out⟩)
    · have E : decide (okC 2 key en) = false := decide_eq_false (by unfold okC; simp [hA])
      have E2 : ckE _ key en = 1 := if_neg (of_decide_eq_false E)
      rw [E2]
      clear E2
      have hAz : ¬ (key.size : Int) ≤ 64 := by omega
      clear E
      by_cases hk0 : key.size = 0
      · simp only [hk0, decide_true] at hE1
        by_cases he0 : en.size = 0
        · try simp only [he0, decide_true] at hE2
          exfalso
          (try unfold okK at hA)
          omega
        · try simp only [he0, decide_false] at hE2
          exfalso
          (try unfold okK at hA)
          omega
      · simp only [hk0, decide_false] at hE1
        go_enter Try.func32, Try.ntmps32
        go_wp2
        all_goals (go_ret; exact ⟨rfl, HF.out⟩)
  by_cases h3 : k = 3
  · subst h3
    by_cases hA : key.size = 0
    · by_cases hB : en.size = 0
      · have E : decide (okC 3 key en) = true := decide_eq_true (by unfold okC; simp [hA, hB])
        have E2 : ckE _ key en = 0 := if_pos (of_decide_eq_true E)
        rw [E2]
        clear E2
        simp only [hA, decide_true] at hE1
        simp only [hB, decide_true] at hE2
        clear E
        go_enter Try.func32, Try.ntmps32
        go_wp2
        all_goals (go_ret; exact ⟨rfl, HF.out⟩)
      · have E : decide (okC 3 key en) = false := decide_eq_false (by unfold okC; simp [hB])
        have E2 : ckE _ key en = 1 := if_neg (of_decide_eq_false E)
        rw [E2]
        clear E2
        simp only [hA, decide_true] at hE1
        simp only [hB, decide_false] at hE2
        clear E
        go_enter Try.func32, Try.ntmps32
        go_wp2
        all_goals (go_ret; exact ⟨rfl, HF.out⟩)
    · have E : decide (okC 3 key en) = false := decide_eq_false (by unfold okC; simp [hA])
      have E2 : ckE _ key en = 1 := if_neg (of_decide_eq_false E)
      rw [E2]
      clear E2
      simp only [hA, decide_false] at hE1
      clear E
      go_enter Try.func32, Try.ntmps32
      go_wp2
      all_goals (go_ret; exact ⟨rfl, HF.out⟩)
  by_cases h4 : k = 4
  · subst h4
    by_cases hA : key.size = 0
    · by_cases hB : en.size = 0
      · have E : decide (okC 4 key en) = true := decide_eq_true (by unfold okC; simp [hA, hB])
        have E2 : ckE _ key en = 0 := if_pos (of_decide_eq_true E)
        rw [E2]
        clear E2
        simp only [hA, decide_true] at hE1
        simp only [hB, decide_true] at hE2
        clear E
        go_enter Try.func32, Try.ntmps32
        go_wp2
        all_goals (go_ret; exact ⟨rfl, HF.out⟩)
      · have E : decide (okC 4 key en) = false := decide_eq_false (by unfold okC; simp [hB])
        have E2 : ckE _ key en = 1 := if_neg (of_decide_eq_false E)
        rw [E2]
        clear E2
        simp only [hA, decide_true] at hE1
        simp only [hB, decide_false] at hE2
        clear E
        go_enter Try.func32, Try.ntmps32
        go_wp2
        all_goals (go_ret; exact ⟨rfl, HF.out⟩)
    · have E : decide (okC 4 key en) = false := decide_eq_false (by unfold okC; simp [hA])
      have E2 : ckE _ key en = 1 := if_neg (of_decide_eq_false E)
      rw [E2]
      clear E2
      simp only [hA, decide_false] at hE1
      clear E
      go_enter Try.func32, Try.ntmps32
      go_wp2
      all_goals (go_ret; exact ⟨rfl, HF.out⟩)
  have E : decide (okC k key en) = false := decide_eq_false (by unfold okC; simp [h1, h2, h3, h4])
  have E2 : ckE _ key en = 1 := if_neg (of_decide_eq_false E)
  rw [E2]
  clear E2
  clear E
  by_cases hk0 : key.size = 0
  · simp only [hk0, decide_true] at hE1
    by_cases he0 : en.size = 0
    · simp only [he0, decide_true] at hE2
      go_enter Try.func32, Try.ntmps32
      go_wp2
      all_goals (go_ret; exact ⟨rfl, HF.out⟩)
    · simp only [he0, decide_false] at hE2
      go_enter Try.func32, Try.ntmps32
      go_wp2
      all_goals (go_ret; exact ⟨rfl, HF.out⟩)
  · simp only [hk0, decide_false] at hE1
    go_enter Try.func32, Try.ntmps32
    go_wp2
    all_goals (go_ret; exact ⟨rfl, HF.out⟩)
end Go.Proofs.Ytdojhkgnnbdfkaa

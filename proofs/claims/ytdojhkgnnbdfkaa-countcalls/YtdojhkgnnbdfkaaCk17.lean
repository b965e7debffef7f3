/- Which calls may be: Check, the program's and the document's. Conditions: texts of fewer than 2^63 bytes. -/
import Derived.Test.YtdojhkgnnbdfkaaCi13
namespace Go.Proofs.Ytdojhkgnnbdfkaa
open Go.ChangeShapes Go.WideShapes Go.ChangeAt Go.RowKit Go.Lib
set_option linter.unusedVariables false
set_option linter.unusedSimpArgs false

/-- May a key be? -/
def okK (k : ByteArray) : Prop := 1 ≤ k.size ∧ k.size ≤ 64
instance (k : ByteArray) : Decidable (okK k) := by unfold okK; infer_instance
/-- May a call be? -/
def okC (k : Int) (key en : ByteArray) : Prop := (k = 1 ∧ okK key ∧ en.size = 0) ∨ (k = 2 ∧ key.size ≤ 64 ∧ en.size ≤ 64) ∨ ((k = 3 ∨ k = 4) ∧ key.size = 0 ∧ en.size = 0)
instance (k : Int) (key en : ByteArray) : Decidable (okC k key en) := by unfold okC; infer_instance
theorem tl_nil17 (s : ByteArray) : s.toList = [] ↔ s.size = 0 := by
  rw [ByteArray.toList_eq]
  cases s with
  | mk d => simp [ByteArray.size, ← Array.toList_eq_nil_iff]
theorem tl_beq17 (s : ByteArray) : (s.toList == ([] : List UInt8)) = decide (s.size = 0) := by
  have := tl_nil17 s
  by_cases h : s.size = 0
  · rw [this.2 h]; simp [h]
  · simp [h, this]
theorem eNil17 : (⟨#[]⟩ : ByteArray).toList = [] := (tl_nil17 _).2 rfl
set_option maxHeartbeats 1000000 in
theorem qiskey_any (key : ByteArray) (w : World) : Calls Try.prog 47 #[.string key] w fun e w' => e = .returned (.bool (decide (okK key))) ∧ w = w' := by
  have hE := tl_beq17 key
  have hE2 : (key.toList != ([] : List UInt8)) = !decide (key.size = 0) := by rw [bne, hE]
  by_cases h : key.size = 0
  · have hd : decide (okK key) = false := decide_eq_false (fun h2 => by have := h2.1; omega)
    rw [hd]
    simp only [h, decide_true, Bool.not_true] at hE hE2
    have e0 := eNil17
    clear hd
    go_enter Try.func47, Try.ntmps47
    go_wp2
    all_goals (go_ret; exact ⟨rfl, rfl⟩)
  · have hd : decide (okK key) = decide ((key.size : Int) ≤ 64) := by
      rw [Bool.eq_iff_iff, decide_eq_true_eq, decide_eq_true_eq]
      unfold okK
      omega
    rw [hd]
    simp only [h, decide_false, Bool.not_false] at hE hE2
    have e0 := eNil17
    clear hd
    go_enter Try.func47, Try.ntmps47
    go_wp2
    all_goals (go_ret; exact ⟨rfl, rfl⟩)
set_option maxHeartbeats 1000000 in
theorem qisbound_any (key : ByteArray) (w : World) : Calls Try.prog 48 #[.string key] w fun e w' => e = .returned (.bool (decide (key.size ≤ 64))) ∧ w = w' := by
  have hE := tl_beq17 key
  have e0 := eNil17
  by_cases h : key.size = 0
  · have hd : decide (key.size ≤ 64) = true := by simp; omega
    rw [hd]
    simp only [h, decide_true] at hE
    clear hd
    go_enter Try.func48, Try.ntmps48
    go_wp2
    all_goals (go_ret; exact ⟨rfl, rfl⟩)
  · have hd : decide (key.size ≤ 64) = decide (okK key) := by
      rw [Bool.eq_iff_iff, decide_eq_true_eq, decide_eq_true_eq]
      unfold okK
      omega
    rw [hd]
    simp only [h, decide_false] at hE
    clear hd
    go_enter Try.func48, Try.ntmps48
    go_wp2_with (first | (refine (qiskey_any key _).mono ?_; rintro e w1 ⟨rfl, rfl⟩))
    all_goals (go_ret; exact ⟨rfl, rfl⟩)
set_option maxHeartbeats 1000000 in
theorem yokey_any (s : ByteArray) (w : World) : Calls Try.prog 43 #[.string s] w fun e w' => e = .returned (.bool (decide (okK s))) ∧ w = w' := by
  by_cases h : 1 ≤ s.size
  · have h' : (0 : Int) < s.size := by omega
    have h0 : 0 < s.size := by omega
    have hd : decide (okK s) = decide ((s.size : Int) ≤ 64) := by
      rw [Bool.eq_iff_iff, decide_eq_true_eq, decide_eq_true_eq]
      unfold okK
      omega
    rw [hd]
    clear hd
    go_enter Try.func43, Try.ntmps43
    go_wp2
    all_goals (go_ret; exact ⟨rfl, rfl⟩)
  · have h' : ¬ (0 : Int) < s.size := by omega
    have h0 : ¬ 0 < s.size := by omega
    have hd : decide (okK s) = false := decide_eq_false (fun h2 => by have := h2.1; omega)
    rw [hd]
    clear hd
    go_enter Try.func43, Try.ntmps43
    go_wp2
    all_goals (go_ret; exact ⟨rfl, rfl⟩)
set_option maxHeartbeats 4000000 in
set_option maxRecDepth 100000 in
theorem qmaybe_any (k : Int) (key en : ByteArray) (w : World) (hk : 0 ≤ k ∧ k ≤ 255) : Calls Try.prog 41 #[.agg #[.int .u8 k, .string key, .string en]] w fun e w' => e = .returned (.bool (decide (okC k key en))) ∧ Fr [] w w' := by
  have e0 := eNil17
  have hE1 := tl_beq17 key
  have hE2 := tl_beq17 en
  have HF : Hid (Fr [] w (w.alloc (.cells #[.int .u8 k, .string key, .string en] 42))) := Fr.alloc _ _ _
  by_cases h1 : k = 1
  · subst h1
    by_cases hA : okK key
    · by_cases hB : en.size = 0
      · have E : decide (okC 1 key en) = true := decide_eq_true (by unfold okC; simp [hA, hB])
        rw [E]
        have HK := fun w => (qiskey_any key w)
        rw [decide_eq_true hA] at HK
        simp only [hB, decide_true] at hE2
        clear E
        go_enter Try.func41, Try.ntmps41
        go_wp2_with (first | (refine (HK _).mono ?_; rintro e w1 ⟨rfl, rfl⟩))
        all_goals (go_ret; exact ⟨rfl, HF.out⟩)
      · have E : decide (okC 1 key en) = false := decide_eq_false (by unfold okC; simp [hB])
        rw [E]
        have HK := fun w => (qiskey_any key w)
        rw [decide_eq_true hA] at HK
        simp only [hB, decide_false] at hE2
        clear E
        go_enter Try.func41, Try.ntmps41
        go_wp2_with (first | (refine (HK _).mono ?_; rintro e w1 ⟨rfl, rfl⟩))
        all_goals (go_ret; exact ⟨rfl, HF.out⟩)
    · have E : decide (okC 1 key en) = false := decide_eq_false (by unfold okC; simp [hA])
      rw [E]
      have HK := fun w => (qiskey_any key w)
      rw [decide_eq_false hA] at HK
      clear E
      go_enter Try.func41, Try.ntmps41
      go_wp2_with (first | (refine (HK _).mono ?_; rintro e w1 ⟨rfl, rfl⟩))
      all_goals (go_ret; exact ⟨rfl, HF.out⟩)
  by_cases h2 : k = 2
  · subst h2
    by_cases hA : key.size ≤ 64
    · by_cases hB : en.size ≤ 64
      · have E : decide (okC 2 key en) = true := decide_eq_true (by unfold okC; simp [hA, hB])
        rw [E]
        have HK := fun w => (qisbound_any key w)
        rw [decide_eq_true hA] at HK
        have HK2 := fun w => (qisbound_any en w)
        rw [decide_eq_true hB] at HK2
        clear E
        go_enter Try.func41, Try.ntmps41
        go_wp2_with (first | (refine (HK _).mono ?_; rintro e w1 ⟨rfl, rfl⟩) | (refine (HK2 _).mono ?_; rintro e w1 ⟨rfl, rfl⟩))
        all_goals (go_ret; exact ⟨rfl, HF.out⟩)
      · have E : decide (okC 2 key en) = false := decide_eq_false (by unfold okC; simp [hB])
        rw [E]
        have HK := fun w => (qisbound_any key w)
        rw [decide_eq_true hA] at HK
        have HK2 := fun w => (qisbound_any en w)
        rw [decide_eq_false hB] at HK2
        clear E
        go_enter Try.func41, Try.ntmps41
        go_wp2_with (first | (refine (HK _).mono ?_; rintro e w1 ⟨rfl, rfl⟩) | (refine (HK2 _).mono ?_; rintro e w1 ⟨rfl, rfl⟩))
        all_goals (go_ret; exact ⟨rfl, HF.out⟩)
    · have E : decide (okC 2 key en) = false := decide_eq_false (by unfold okC; simp [hA])
      rw [E]
      have HK := fun w => (qisbound_any key w)
      rw [decide_eq_false hA] at HK
      clear E
      go_enter Try.func41, Try.ntmps41
      go_wp2_with (first | (refine (HK _).mono ?_; rintro e w1 ⟨rfl, rfl⟩))
      all_goals (go_ret; exact ⟨rfl, HF.out⟩)
  by_cases h3 : k = 3
  · subst h3
    by_cases hA : key.size = 0
    · by_cases hB : en.size = 0
      · have E : decide (okC 3 key en) = true := decide_eq_true (by unfold okC; simp [hA, hB])
        rw [E]
        simp only [hA, decide_true] at hE1
        simp only [hB, decide_true] at hE2
        clear E
        go_enter Try.func41, Try.ntmps41
        go_wp2
        all_goals (go_ret; exact ⟨rfl, HF.out⟩)
      · have E : decide (okC 3 key en) = false := decide_eq_false (by unfold okC; simp [hB])
        rw [E]
        simp only [hA, decide_true] at hE1
        simp only [hB, decide_false] at hE2
        clear E
        go_enter Try.func41, Try.ntmps41
        go_wp2
        all_goals (go_ret; exact ⟨rfl, HF.out⟩)
    · have E : decide (okC 3 key en) = false := decide_eq_false (by unfold okC; simp [hA])
      rw [E]
      simp only [hA, decide_false] at hE1
      clear E
      go_enter Try.func41, Try.ntmps41
      go_wp2
      all_goals (go_ret; exact ⟨rfl, HF.out⟩)
  by_cases h4 : k = 4
  · subst h4
    by_cases hA : key.size = 0
    · by_cases hB : en.size = 0
      · have E : decide (okC 4 key en) = true := decide_eq_true (by unfold okC; simp [hA, hB])
        rw [E]
        simp only [hA, decide_true] at hE1
        simp only [hB, decide_true] at hE2
        clear E
        go_enter Try.func41, Try.ntmps41
        go_wp2
        all_goals (go_ret; exact ⟨rfl, HF.out⟩)
      · have E : decide (okC 4 key en) = false := decide_eq_false (by unfold okC; simp [hB])
        rw [E]
        simp only [hA, decide_true] at hE1
        simp only [hB, decide_false] at hE2
        clear E
        go_enter Try.func41, Try.ntmps41
        go_wp2
        all_goals (go_ret; exact ⟨rfl, HF.out⟩)
    · have E : decide (okC 4 key en) = false := decide_eq_false (by unfold okC; simp [hA])
      rw [E]
      simp only [hA, decide_false] at hE1
      clear E
      go_enter Try.func41, Try.ntmps41
      go_wp2
      all_goals (go_ret; exact ⟨rfl, HF.out⟩)
  have E : decide (okC k key en) = false := decide_eq_false (by unfold okC; simp [h1, h2, h3, h4])
  rw [E]
  clear E
  go_enter Try.func41, Try.ntmps41
  go_wp2
  all_goals (go_ret; exact ⟨rfl, HF.out⟩)
/-- What Check answers. -/
def ckE (k : Int) (key en : ByteArray) : Int := if okC k key en then 0 else 1
set_option maxHeartbeats 1000000 in
theorem qcheck_any (k : Int) (key en : ByteArray) (w : World) (hk : 0 ≤ k ∧ k ≤ 255) : Calls Try.prog 30 #[.agg #[.int .u8 k, .string key, .string en]] w fun e w' => e = .returned (.int .i64 (ckE k key en)) ∧ Fr [] w w' := by
  have HM := fun w => qmaybe_any k key en w hk
  by_cases h : okC k key en
  · have E : ckE k key en = 0 := if_pos h
    rw [E]
    rw [decide_eq_true h] at HM
    clear E h
    go_enter Try.func30, Try.ntmps30
    go_wp2_with fail
    refine (HM _).mono ?_
    rintro e w1 ⟨rfl, hf⟩
    have HF : Hid (Fr [] w w1) := (Fr.alloc _ _ _).then hf
    clear hf HM
    go_wp2
    go_ret
    exact ⟨rfl, HF.out⟩
  · have E : ckE k key en = 1 := if_neg h
    rw [E]
    rw [decide_eq_false h] at HM
    clear E h
    go_enter Try.func30, Try.ntmps30
    go_wp2_with fail
    refine (HM _).mono ?_
    rintro e w1 ⟨rfl, hf⟩
    have HF : Hid (Fr [] w w1) := (Fr.alloc _ _ _).then hf
    clear hf HM
    go_wp2
    go_ret
    exact ⟨rfl, HF.out⟩
end Go.Proofs.Ytdojhkgnnbdfkaa

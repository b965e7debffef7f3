/- mayBe: contract. Conditions as each names them. -/
import Derived.Test.YtakbodlicfmkjaaGreatMb15
namespace Go.Proofs.YtakbodlicfmkjaaGreat.O
open Go.ChangeShapes Go.WideShapes Go.ChangeAt Go.RowKit Go.Lib
set_option linter.unusedVariables false
set_option linter.unusedSimpArgs false
section
variable {k f n : Int} {wk wv : ByteArray} {wd : Bool} {key en : ByteArray} {bo : Option Addr} {bl bc : Nat} {ns : List Int}
set_option maxHeartbeats 2000000 in
set_option maxRecDepth 100000 in
theorem omay_0 (w : World) (h : f = 0 ∨ n < 0 ∨ 65536 < n) : Calls Tryz.prog 286 #[.agg #[.int .u8 k, .int .i64 f, .int .i64 n, .string wk, .string wv, .bool wd, .string key, .string en, .slice bo bl bc]] w fun e w' => e = .returned (.bool false) ∧ Fr [] w w' := by
  have HF : Hid (Fr [] w (w.alloc (.cells #[.int .u8 k, .int .i64 f, .int .i64 n, .string wk, .string wv, .bool wd, .string key, .string en, .slice bo bl bc] 278))) := Fr.alloc _ _ _
  have e0 := eNil
  by_cases h1 : f = 0
  · subst h1
    clear h
    go_enter Tryz.func286, Tryz.ntmps286
    go_wp2
    go_ret
    exact ⟨rfl, HF.out⟩
  · by_cases h2 : n < 0
    · clear h
      go_enter Tryz.func286, Tryz.ntmps286
      go_wp2
      go_ret
      exact ⟨rfl, HF.out⟩
    · have h3 : 65536 < n := by omega
      clear h
      go_enter Tryz.func286, Tryz.ntmps286
      go_wp2
      go_ret
      exact ⟨rfl, HF.out⟩
set_option maxHeartbeats 4000000 in
set_option maxRecDepth 100000 in
theorem omay_1 (w : World) (h1 : ¬ f = 0) (h2 : ¬ n < 0) (h3 : ¬ 65536 < n) (KE EE NB NW : Bool) (hKE : (key.toList == ([] : List UInt8)) = KE) (hEE : (en.toList == ([] : List UInt8)) = EE) (hNB : decide (bl = 0) = NB) (hNW : (wk.toList == ([] : List UInt8) && (wv.toList == ([] : List UInt8) && wd == false)) = NW) :
    Calls Tryz.prog 286 #[.agg #[.int .u8 1, .int .i64 f, .int .i64 n, .string wk, .string wv, .bool wd, .string key, .string en, .slice bo bl bc]] w fun e w' => e = .returned (.bool (KE && EE && NB && decide (0 < f) && decide (0 < n) && decide (okWr wk wv wd))) ∧ Fr [] w w' := by
  have HF : Hid (Fr [] w (w.alloc (.cells #[.int .u8 1, .int .i64 f, .int .i64 n, .string wk, .string wv, .bool wd, .string key, .string en, .slice bo bl bc] 278))) := Fr.alloc _ _ _
  have e0 := eNil
  have hq : ∀ W, (binOp .eql 56 (.agg #[.string wk, .string wv, .bool wd]) (.agg #[.string ⟨#[]⟩, .string ⟨#[]⟩, .bool false])).run Tryz.prog W = .ok (.bool NW) W := fun W => by rw [wt_eql15, eNil, hNW]
  have hNB2 : decide ((bl : Int) = 0) = NB := by rw [← hNB, Bool.eq_iff_iff, decide_eq_true_eq, decide_eq_true_eq]; omega
  have hNB3 : ((bl : Int) == 0) = NB := by rw [← hNB2]; rfl
  clear hNW hNB
  cases KE <;> cases EE <;> cases NB
  all_goals (
    go_enter Tryz.func286, Tryz.ntmps286
    go_wp2_with fail
    go_quiet (fail)
    go_wp2_with (first | (refine (oiswrite_any wk wv wd _).mono ?_; rintro e w1 ⟨rfl, hF1⟩)))
  all_goals (first
    | (go_ret; exact ⟨by first | (simp [*]; done) | (simp [*]; intros; omega), HF.out.then (Fr.drewN _ _ _)⟩)
    | (go_ret; exact ⟨by simp [*], (HF.out.then (Fr.drewN _ _ _)).then hF1⟩))
set_option maxHeartbeats 4000000 in
set_option maxRecDepth 100000 in
theorem omay_2 (w : World) (h1 : ¬ f = 0) (h2 : ¬ n < 0) (h3 : ¬ 65536 < n) (KE EE NB NW : Bool) (hKE : (key.toList == ([] : List UInt8)) = KE) (hEE : (en.toList == ([] : List UInt8)) = EE) (hNB : decide (bl = 0) = NB) (hNW : (wk.toList == ([] : List UInt8) && (wv.toList == ([] : List UInt8) && wd == false)) = NW) :
    Calls Tryz.prog 286 #[.agg #[.int .u8 2, .int .i64 f, .int .i64 n, .string wk, .string wv, .bool wd, .string key, .string en, .slice bo bl bc]] w fun e w' => e = .returned (.bool (NW && NB && decide (okK9 key) && EE)) ∧ Fr [] w w' := by
  have HF : Hid (Fr [] w (w.alloc (.cells #[.int .u8 2, .int .i64 f, .int .i64 n, .string wk, .string wv, .bool wd, .string key, .string en, .slice bo bl bc] 278))) := Fr.alloc _ _ _
  have e0 := eNil
  have hq : ∀ W, (binOp .eql 56 (.agg #[.string wk, .string wv, .bool wd]) (.agg #[.string ⟨#[]⟩, .string ⟨#[]⟩, .bool false])).run Tryz.prog W = .ok (.bool NW) W := fun W => by rw [wt_eql15, eNil, hNW]
  have hNB2 : decide ((bl : Int) = 0) = NB := by rw [← hNB, Bool.eq_iff_iff, decide_eq_true_eq, decide_eq_true_eq]; omega
  have hNB3 : ((bl : Int) == 0) = NB := by rw [← hNB2]; rfl
  clear hNW hNB
  cases KE <;> cases NW <;> cases NB
  all_goals (
    go_enter Tryz.func286, Tryz.ntmps286
    go_wp2_with fail
    go_quiet (fail)
    go_wp2_with (first | (refine (oiskey_any key _).mono ?_; rintro e w1 ⟨rfl, rfl⟩)))
  all_goals (first
    | (go_ret; exact ⟨by first | (simp [*]; done) | (simp [*]; intros; omega), HF.out.then (Fr.drewN _ _ _)⟩)
    | (go_ret; exact ⟨by simp [*], (HF.out.then (Fr.drewN _ _ _)).then hF1⟩))
set_option maxHeartbeats 4000000 in
set_option maxRecDepth 100000 in
theorem omay_3 (w : World) (h1 : ¬ f = 0) (h2 : ¬ n < 0) (h3 : ¬ 65536 < n) (KE EE NB NW : Bool) (hKE : (key.toList == ([] : List UInt8)) = KE) (hEE : (en.toList == ([] : List UInt8)) = EE) (hNB : decide (bl = 0) = NB) (hNW : (wk.toList == ([] : List UInt8) && (wv.toList == ([] : List UInt8) && wd == false)) = NW) :
    Calls Tryz.prog 286 #[.agg #[.int .u8 3, .int .i64 f, .int .i64 n, .string wk, .string wv, .bool wd, .string key, .string en, .slice bo bl bc]] w fun e w' => e = .returned (.bool (NW && NB && decide (key.size ≤ 64) && decide (en.size ≤ 64))) ∧ Fr [] w w' := by
  have HF : Hid (Fr [] w (w.alloc (.cells #[.int .u8 3, .int .i64 f, .int .i64 n, .string wk, .string wv, .bool wd, .string key, .string en, .slice bo bl bc] 278))) := Fr.alloc _ _ _
  have e0 := eNil
  have hq : ∀ W, (binOp .eql 56 (.agg #[.string wk, .string wv, .bool wd]) (.agg #[.string ⟨#[]⟩, .string ⟨#[]⟩, .bool false])).run Tryz.prog W = .ok (.bool NW) W := fun W => by rw [wt_eql15, eNil, hNW]
  have hNB2 : decide ((bl : Int) = 0) = NB := by rw [← hNB, Bool.eq_iff_iff, decide_eq_true_eq, decide_eq_true_eq]; omega
  have hNB3 : ((bl : Int) == 0) = NB := by rw [← hNB2]; rfl
  clear hNW hNB
  cases KE <;> cases NW <;> cases NB
  all_goals (
    go_enter Tryz.func286, Tryz.ntmps286
    go_wp2_with fail
    go_quiet (fail)
    go_wp2_with (first | (with_reducible refine (oisbound_any key _).mono ?_; rintro e w1 ⟨rfl, rfl⟩) | (with_reducible refine (oisbound_any en _).mono ?_; rintro e w1 ⟨rfl, rfl⟩)))
  all_goals (first
    | (go_ret; exact ⟨by first | (simp [*]; done) | (simp [*]; intros; omega), HF.out.then (Fr.drewN _ _ _)⟩)
    | (go_ret; exact ⟨by simp [*], (HF.out.then (Fr.drewN _ _ _)).then hF1⟩))
set_option maxHeartbeats 4000000 in
set_option maxRecDepth 100000 in
theorem omay_4 (w : World) (h1 : ¬ f = 0) (h2 : ¬ n < 0) (h3 : ¬ 65536 < n) (KE EE NB NW : Bool) (hKE : (key.toList == ([] : List UInt8)) = KE) (hEE : (en.toList == ([] : List UInt8)) = EE) (hNB : decide (bl = 0) = NB) (hNW : (wk.toList == ([] : List UInt8) && (wv.toList == ([] : List UInt8) && wd == false)) = NW) :
    Calls Tryz.prog 286 #[.agg #[.int .u8 4, .int .i64 f, .int .i64 n, .string wk, .string wv, .bool wd, .string key, .string en, .slice bo bl bc]] w fun e w' => e = .returned (.bool (NW && (KE && EE) && NB)) ∧ Fr [] w w' := by
  have HF : Hid (Fr [] w (w.alloc (.cells #[.int .u8 4, .int .i64 f, .int .i64 n, .string wk, .string wv, .bool wd, .string key, .string en, .slice bo bl bc] 278))) := Fr.alloc _ _ _
  have e0 := eNil
  have hq : ∀ W, (binOp .eql 56 (.agg #[.string wk, .string wv, .bool wd]) (.agg #[.string ⟨#[]⟩, .string ⟨#[]⟩, .bool false])).run Tryz.prog W = .ok (.bool NW) W := fun W => by rw [wt_eql15, eNil, hNW]
  have hNB2 : decide ((bl : Int) = 0) = NB := by rw [← hNB, Bool.eq_iff_iff, decide_eq_true_eq, decide_eq_true_eq]; omega
  have hNB3 : ((bl : Int) == 0) = NB := by rw [← hNB2]; rfl
  clear hNW hNB
  cases KE <;> cases EE <;> cases NW <;> cases NB
  all_goals (
    go_enter Tryz.func286, Tryz.ntmps286
    go_wp2_with fail
    go_quiet (fail)
    go_wp2_with (fail))
  all_goals (first
    | (go_ret; exact ⟨by first | (simp [*]; done) | (simp [*]; intros; omega), HF.out.then (Fr.drewN _ _ _)⟩)
    | (go_ret; exact ⟨by simp [*], (HF.out.then (Fr.drewN _ _ _)).then hF1⟩))
set_option maxHeartbeats 4000000 in
set_option maxRecDepth 100000 in
theorem omay_5 (w : World) (h1 : ¬ f = 0) (h2 : ¬ n < 0) (h3 : ¬ 65536 < n) (KE EE NB NW : Bool) (hKE : (key.toList == ([] : List UInt8)) = KE) (hEE : (en.toList == ([] : List UInt8)) = EE) (hNB : decide (bl = 0) = NB) (hNW : (wk.toList == ([] : List UInt8) && (wv.toList == ([] : List UInt8) && wd == false)) = NW) (RS : Bool) (hI : IRs w bo ns) (hL : bl = ns.length) (hRS : RS = true ↔ Ab n ns) :
    Calls Tryz.prog 286 #[.agg #[.int .u8 5, .int .i64 f, .int .i64 n, .string wk, .string wv, .bool wd, .string key, .string en, .slice bo bl bc]] w fun e w' => e = .returned (.bool (NW && (KE && EE) && RS)) ∧ Fr [] w w' := by
  have HF : Hid (Fr [] w (w.alloc (.cells #[.int .u8 5, .int .i64 f, .int .i64 n, .string wk, .string wv, .bool wd, .string key, .string en, .slice bo bl bc] 278))) := Fr.alloc _ _ _
  have e0 := eNil
  have hq : ∀ W, (binOp .eql 56 (.agg #[.string wk, .string wv, .bool wd]) (.agg #[.string ⟨#[]⟩, .string ⟨#[]⟩, .bool false])).run Tryz.prog W = .ok (.bool NW) W := fun W => by rw [wt_eql15, eNil, hNW]
  have hNB2 : decide ((bl : Int) = 0) = NB := by rw [← hNB, Bool.eq_iff_iff, decide_eq_true_eq, decide_eq_true_eq]; omega
  have hNB3 : ((bl : Int) == 0) = NB := by rw [← hNB2]; rfl
  have HRi : Hid (∀ W, Fr [] (w.alloc (.cells #[.int .u8 5, .int .i64 f, .int .i64 n, .string wk, .string wv, .bool wd, .string key, .string en, .slice bo bl bc] 278)) W → Calls Tryz.prog 296 #[.int .i64 n, .slice bo bl bc] W fun e w1 => e = .returned (.bool RS) ∧ W = w1) := fun W hf => orise_any n bo bl bc ns RS W (hI.keep (HF.out.then hf)) hL hRS
  clear hI hL hRS
  clear hNW hNB
  cases KE <;> cases EE <;> cases NW
  all_goals (
    go_enter Tryz.func286, Tryz.ntmps286
    go_wp2_with fail
    go_quiet (fail)
    go_wp2_with (first | (with_reducible refine (HRi.out _ (Fr.drewN _ _ _)).mono ?_; rintro e w1 ⟨rfl, rfl⟩)))
  all_goals (first
    | (go_ret; exact ⟨by first | (simp [*]; done) | (simp [*]; intros; omega), HF.out.then (Fr.drewN _ _ _)⟩)
    | (go_ret; exact ⟨by simp [*], (HF.out.then (Fr.drewN _ _ _)).then hF1⟩))
set_option maxHeartbeats 4000000 in
set_option maxRecDepth 100000 in
theorem omay_6 (w : World) (h1 : ¬ f = 0) (h2 : ¬ n < 0) (h3 : ¬ 65536 < n) (KE EE NB NW : Bool) (hKE : (key.toList == ([] : List UInt8)) = KE) (hEE : (en.toList == ([] : List UInt8)) = EE) (hNB : decide (bl = 0) = NB) (hNW : (wk.toList == ([] : List UInt8) && (wv.toList == ([] : List UInt8) && wd == false)) = NW) (g1 : ¬ k = 1) (g2 : ¬ k = 2) (g3 : ¬ k = 3) (g4 : ¬ k = 4) (g5 : ¬ k = 5) :
    Calls Tryz.prog 286 #[.agg #[.int .u8 k, .int .i64 f, .int .i64 n, .string wk, .string wv, .bool wd, .string key, .string en, .slice bo bl bc]] w fun e w' => e = .returned (.bool (false)) ∧ Fr [] w w' := by
  have HF : Hid (Fr [] w (w.alloc (.cells #[.int .u8 k, .int .i64 f, .int .i64 n, .string wk, .string wv, .bool wd, .string key, .string en, .slice bo bl bc] 278))) := Fr.alloc _ _ _
  have e0 := eNil
  have hq : ∀ W, (binOp .eql 56 (.agg #[.string wk, .string wv, .bool wd]) (.agg #[.string ⟨#[]⟩, .string ⟨#[]⟩, .bool false])).run Tryz.prog W = .ok (.bool NW) W := fun W => by rw [wt_eql15, eNil, hNW]
  have hNB2 : decide ((bl : Int) = 0) = NB := by rw [← hNB, Bool.eq_iff_iff, decide_eq_true_eq, decide_eq_true_eq]; omega
  have hNB3 : ((bl : Int) == 0) = NB := by rw [← hNB2]; rfl
  clear hNW hNB
  cases KE
  all_goals (
    go_enter Tryz.func286, Tryz.ntmps286
    go_wp2_with fail
    go_quiet (fail)
    go_wp2_with (fail))
  all_goals (first
    | (go_ret; exact ⟨by first | (simp [*]; done) | (simp [*]; intros; omega), HF.out.then (Fr.drewN _ _ _)⟩)
    | (go_ret; exact ⟨by simp [*], (HF.out.then (Fr.drewN _ _ _)).then hF1⟩))
/-- Which requests may be. -/
theorem omay_any (x : Rv) (ns : List Int) (B : Bool) (w : World) (h : RqB w x ns) (hB : B = true ↔ okR (x.q ns)) : Calls Tryz.prog 286 #[x.v] w fun e w' => e = .returned (.bool B) ∧ Fr [] w w' := by
  obtain ⟨k, f, n, wk, wv, wd, key, en, bo, bl, bc⟩ := x
  have hlen : bl = ns.length := h.len
  have hI : IRs w bo ns := h.is
  by_cases h0 : f = 0 ∨ n < 0 ∨ 65536 < n
  · have hBf : B = false := by
      cases B with
      | false => rfl
      | true => obtain ⟨a1, a2, a3, _⟩ := hB.1 rfl; simp only [Rv.q] at a1 a2 a3; omega
    subst hBf
    exact omay_0 w h0
  · have h1 : ¬ f = 0 := by omega
    have h2 : ¬ n < 0 := by omega
    have h3 : ¬ 65536 < n := by omega
    have h2' : 0 ≤ n := by omega
    have h3' : n ≤ 65536 := by omega
    have hnb : decide (bl = 0) = decide (ns = []) := by
      rw [Bool.eq_iff_iff, decide_eq_true_eq, decide_eq_true_eq, hlen]
      exact List.length_eq_zero_iff
    have hnw : (wk.toList == ([] : List UInt8) && (wv.toList == ([] : List UInt8) && wd == false)) = decide (noWr wk wv wd) := by
      rw [tl_beq, tl_beq]
      cases wd <;> simp [noWr]
    obtain ⟨RS, hRS⟩ : ∃ RS : Bool, RS = true ↔ Ab n ns := by
      by_cases hh : Ab n ns
      · exact ⟨true, fun _ => hh, fun _ => rfl⟩
      · exact ⟨false, fun e => (by cases e), fun e => absurd e hh⟩
    have fin : ∀ R : Bool, (R = true ↔ okR ⟨k, f, n, wk, wv, wd, key, en, ns⟩) → R = B := fun R hR => by
      rw [Bool.eq_iff_iff, hR]
      exact hB.symm
    by_cases g1 : k = 1
    · subst g1
      rw [← fin _ ?_]
      · exact omay_1 w h1 h2 h3 _ _ _ _ (tl_beq key) (tl_beq en) hnb hnw
      · simp [okR, h1, h2', h3', and_assoc]
    by_cases g2 : k = 2
    · subst g2
      rw [← fin _ ?_]
      · exact omay_2 w h1 h2 h3 _ _ _ _ (tl_beq key) (tl_beq en) hnb hnw
      · simp [okR, h1, h2', h3', and_assoc]
    by_cases g3 : k = 3
    · subst g3
      rw [← fin _ ?_]
      · exact omay_3 w h1 h2 h3 _ _ _ _ (tl_beq key) (tl_beq en) hnb hnw
      · simp [okR, h1, h2', h3', and_assoc]
    by_cases g4 : k = 4
    · subst g4
      rw [← fin _ ?_]
      · exact omay_4 w h1 h2 h3 _ _ _ _ (tl_beq key) (tl_beq en) hnb hnw
      · simp [okR, h1, h2', h3', and_assoc]
    by_cases g5 : k = 5
    · subst g5
      rw [← fin _ ?_]
      · exact omay_5 w h1 h2 h3 _ _ _ _ (tl_beq key) (tl_beq en) hnb hnw RS hI hlen hRS
      · simp [okR, hRS, h1, h2', h3', and_assoc]
    rw [← fin _ ?_]
    · exact omay_6 w h1 h2 h3 _ _ _ _ (tl_beq key) (tl_beq en) hnb hnw g1 g2 g3 g4 g5
    · simp [okR, g1, g2, g3, g4, g5]
end
end Go.Proofs.YtakbodlicfmkjaaGreat.O

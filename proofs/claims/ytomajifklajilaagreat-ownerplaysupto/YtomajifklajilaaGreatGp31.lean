/- Texts of this claim laid together, one behind the other: contracts and plain lemmas; conditions as each names them. -/
import Derived.Test.YtomajifklajilaaGreatGp30
import Derived.Test.YtomajifklajilaaGreatGp14
import Derived.Deep.RegionHeld3
/- The document's May: contract. Conditions as each names them. -/
namespace Go.Proofs.YtomajifklajilaaGreat
open Go.ChangeShapes Go.WideShapes Go.ChangeAt Go.RowKit Go.Lib
set_option linter.unusedVariables false
set_option linter.unusedSimpArgs false
section
variable {k f n : Int} {wk wv : ByteArray} {wd : Bool} {key en : ByteArray} {bo : Option Addr} {bl bc : Nat} {ns : List Int}
set_option maxHeartbeats 4000000 in
set_option maxRecDepth 100000 in
theorem yomay_4 (w : World) (KE EE : Bool) (hKE : (key.toList == ([] : List UInt8)) = KE) (hEE : (en.toList == ([] : List UInt8)) = EE) (h1 : ¬ f = 0) (h2 : 0 ≤ n) (h3 : n ≤ 65536) (NB : Bool) (hNB : decide (bl = 0) = NB) (NW : Bool) (hNW : decide (noWr wk wv wd) = NW) :
    Calls Tryz.prog 44 #[.agg #[.int .u8 4, .int .i64 f, .int .i64 n, .string wk, .string wv, .bool wd, .string key, .string en, .slice bo bl bc]] w fun e w' => e = .returned (.bool (NW && (KE && EE) && NB)) ∧ Fr [] w w' := by
  have HF : Hid (Fr [] w (w.alloc (.cells #[.int .u8 4, .int .i64 f, .int .i64 n, .string wk, .string wv, .bool wd, .string key, .string en, .slice bo bl bc] 36))) := Fr.alloc _ _ _
  have e0 := eNil
  have hNB2 : decide ((bl : Int) = 0) = NB := by rw [← hNB, Bool.eq_iff_iff, decide_eq_true_eq, decide_eq_true_eq]; omega
  have hNB3 : ((bl : Int) == 0) = NB := by rw [← hNB2]; rfl
  clear hNB
  have HW : Hid (Calls Tryz.prog 83 #[.agg #[.string wk, .string wv, .bool wd]] (w.alloc (.cells #[.int .u8 4, .int .i64 f, .int .i64 n, .string wk, .string wv, .bool wd, .string key, .string en, .slice bo bl bc] 36)) fun e w1 => e = .returned (.bool NW) ∧ Fr [] w w1 ∧ w1.cell? ⟨w.heap.size, 2, none⟩ = some (.int .i64 n) ∧ w1.cell? ⟨w.heap.size, 6, none⟩ = some (.string key) ∧ w1.cell? ⟨w.heap.size, 7, none⟩ = some (.string en) ∧ w1.cell? ⟨w.heap.size, 8, none⟩ = some (.slice bo bl bc)) := by
    refine (yonowrite_any wk wv wd _).mono ?_
    rintro e w1 ⟨rfl, hf⟩
    have hr := hf.keep (heap_alloc_new w (.cells #[.int .u8 4, .int .i64 f, .int .i64 n, .string wk, .string wv, .bool wd, .string key, .string en, .slice bo bl bc] 36)) (by simp)
    rw [hNW]
    refine ⟨rfl, HF.out.then hf, ?_, ?_, ?_, ?_⟩ <;> (rw [cell_of_row _ _ _ _ _ _ hr]; rfl)
  clear hNW
  cases KE <;> cases EE <;> cases NW <;> cases NB
  all_goals (
    go_enter Tryz.func44, Tryz.ntmps44
    go_wp2_with (first | (with_reducible refine HW.out.mono ?_; rintro e w1 ⟨rfl, hF1, q2, q6, q7, q8⟩)))
  all_goals (go_ret; first | exact ⟨by simp, hF1⟩ | exact ⟨by simp, HF.out⟩ | exact ⟨by simp [*], hF1⟩ | exact ⟨by simp [*], HF.out⟩)
end
end Go.Proofs.YtomajifklajilaaGreat
/- The document's May: contract. Conditions as each names them. -/
namespace Go.Proofs.YtomajifklajilaaGreat
open Go.ChangeShapes Go.WideShapes Go.ChangeAt Go.RowKit Go.Lib
set_option linter.unusedVariables false
set_option linter.unusedSimpArgs false
section
variable {k f n : Int} {wk wv : ByteArray} {wd : Bool} {key en : ByteArray} {bo : Option Addr} {bl bc : Nat} {ns : List Int}
set_option maxHeartbeats 4000000 in
set_option maxRecDepth 100000 in
theorem yomay_5 (w : World) (KE EE : Bool) (hKE : (key.toList == ([] : List UInt8)) = KE) (hEE : (en.toList == ([] : List UInt8)) = EE) (h1 : ¬ f = 0) (h2 : 0 ≤ n) (h3 : n ≤ 65536) (NB : Bool) (hNB : decide (bl = 0) = NB) (NW : Bool) (hNW : decide (noWr wk wv wd) = NW) (RS : Bool) (hI : IRs w bo ns) (hL : bl = ns.length) (hRS : RS = true ↔ Ab n ns) :
    Calls Tryz.prog 44 #[.agg #[.int .u8 5, .int .i64 f, .int .i64 n, .string wk, .string wv, .bool wd, .string key, .string en, .slice bo bl bc]] w fun e w' => e = .returned (.bool (NW && (KE && EE) && RS)) ∧ Fr [] w w' := by
  have HF : Hid (Fr [] w (w.alloc (.cells #[.int .u8 5, .int .i64 f, .int .i64 n, .string wk, .string wv, .bool wd, .string key, .string en, .slice bo bl bc] 36))) := Fr.alloc _ _ _
  have e0 := eNil
  have hNB2 : decide ((bl : Int) = 0) = NB := by rw [← hNB, Bool.eq_iff_iff, decide_eq_true_eq, decide_eq_true_eq]; omega
  have hNB3 : ((bl : Int) == 0) = NB := by rw [← hNB2]; rfl
  clear hNB
  have HW : Hid (Calls Tryz.prog 83 #[.agg #[.string wk, .string wv, .bool wd]] (w.alloc (.cells #[.int .u8 5, .int .i64 f, .int .i64 n, .string wk, .string wv, .bool wd, .string key, .string en, .slice bo bl bc] 36)) fun e w1 => e = .returned (.bool NW) ∧ Fr [] w w1 ∧ w1.cell? ⟨w.heap.size, 2, none⟩ = some (.int .i64 n) ∧ w1.cell? ⟨w.heap.size, 6, none⟩ = some (.string key) ∧ w1.cell? ⟨w.heap.size, 7, none⟩ = some (.string en) ∧ w1.cell? ⟨w.heap.size, 8, none⟩ = some (.slice bo bl bc)) := by
    refine (yonowrite_any wk wv wd _).mono ?_
    rintro e w1 ⟨rfl, hf⟩
    have hr := hf.keep (heap_alloc_new w (.cells #[.int .u8 5, .int .i64 f, .int .i64 n, .string wk, .string wv, .bool wd, .string key, .string en, .slice bo bl bc] 36)) (by simp)
    rw [hNW]
    refine ⟨rfl, HF.out.then hf, ?_, ?_, ?_, ?_⟩ <;> (rw [cell_of_row _ _ _ _ _ _ hr]; rfl)
  clear hNW
  have HRi : Hid (∀ W, Fr [] w W → Calls Tryz.prog 84 #[.slice bo bl bc, .int .i64 n] W fun e w1 => e = .returned (.bool RS) ∧ W = w1) := fun W hf => yoabove_any n bo bl bc ns RS W (hI.keep hf) hL hRS
  clear hI hL hRS
  cases KE <;> cases EE <;> cases NW
  all_goals (
    go_enter Tryz.func44, Tryz.ntmps44
    go_wp2_with (first | (with_reducible refine HW.out.mono ?_; rintro e w1 ⟨rfl, hF1, q2, q6, q7, q8⟩) | (with_reducible refine (HRi.out _ hF1).mono ?_; rintro e w2 ⟨rfl, rfl⟩)))
  all_goals (go_ret; first | exact ⟨by simp, hF1⟩ | exact ⟨by simp, HF.out⟩ | exact ⟨by simp [*], hF1⟩ | exact ⟨by simp [*], HF.out⟩)
end
end Go.Proofs.YtomajifklajilaaGreat
/- The document's May: contract. Conditions as each names them. -/
namespace Go.Proofs.YtomajifklajilaaGreat
open Go.ChangeShapes Go.WideShapes Go.ChangeAt Go.RowKit Go.Lib
set_option linter.unusedVariables false
set_option linter.unusedSimpArgs false
section
variable {k f n : Int} {wk wv : ByteArray} {wd : Bool} {key en : ByteArray} {bo : Option Addr} {bl bc : Nat} {ns : List Int}
set_option maxHeartbeats 4000000 in
set_option maxRecDepth 100000 in
theorem yomay_6 (w : World) (KE EE : Bool) (hKE : (key.toList == ([] : List UInt8)) = KE) (hEE : (en.toList == ([] : List UInt8)) = EE) (h1 : ¬ f = 0) (g1 : ¬ k = 1) (g2 : ¬ k = 2) (g3 : ¬ k = 3) (g4 : ¬ k = 4) (g5 : ¬ k = 5) :
    Calls Tryz.prog 44 #[.agg #[.int .u8 k, .int .i64 f, .int .i64 n, .string wk, .string wv, .bool wd, .string key, .string en, .slice bo bl bc]] w fun e w' => e = .returned (.bool (false)) ∧ Fr [] w w' := by
  have HF : Hid (Fr [] w (w.alloc (.cells #[.int .u8 k, .int .i64 f, .int .i64 n, .string wk, .string wv, .bool wd, .string key, .string en, .slice bo bl bc] 36))) := Fr.alloc _ _ _
  have e0 := eNil
  obtain ⟨M1, hM1⟩ : ∃ M, decide (0 ≤ n) = M := ⟨_, rfl⟩
  obtain ⟨M2, hM2⟩ : ∃ M, decide (n ≤ 65536) = M := ⟨_, rfl⟩
  cases M1 <;> cases M2 <;> cases KE <;> cases EE <;> simp only [decide_eq_true_eq, decide_eq_false_iff_not] at hM1 hM2 <;> (try (exfalso; omega))
  all_goals (
    go_enter Tryz.func44, Tryz.ntmps44
    go_wp2_with (fail))
  all_goals (go_ret; exact ⟨rfl, HF.out⟩)
end
end Go.Proofs.YtomajifklajilaaGreat
/- The document's May: which requests may be. Conditions as each names them. -/
namespace Go.Proofs.YtomajifklajilaaGreat
open Go.ChangeShapes Go.WideShapes Go.ChangeAt Go.RowKit Go.Lib
set_option linter.unusedVariables false
set_option linter.unusedSimpArgs false
theorem yomay_any (x : Rv) (ns : List Int) (B : Bool) (w : World) (h : RqB w x ns) (hB : B = true ↔ okR (x.q ns)) : Calls Tryz.prog 44 #[x.v] w fun e w' => e = .returned (.bool B) ∧ Fr [] w w' := by
  obtain ⟨k, f, n, wk, wv, wd, key, en, bo, bl, bc⟩ := x
  have hlen : bl = ns.length := h.len
  have hI : IRs w bo ns := h.is
  have b1 := h.wk
  have b2 := h.wv
  have b3 := h.key
  have b4 := h.en
  simp only at b1 b2 b3 b4
  have hF : ¬ okR (Rv.q ⟨k, f, n, wk, wv, wd, key, en, bo, bl, bc⟩ ns) → B = false := fun hn => by
    cases B with
    | false => rfl
    | true => exact absurd (hB.1 rfl) hn
  by_cases h1 : f = 0
  · rw [hF (fun h => h.1 h1)]
    exact yomay_0 w _ _ rfl rfl h1
  by_cases g : k = 1 ∨ k = 2 ∨ k = 3 ∨ k = 4 ∨ k = 5
  rotate_left
  · rw [hF (fun h => by
      obtain ⟨_, _, _, h⟩ := h
      simp only [Rv.q] at h
      omega)]
    exact yomay_6 w _ _ rfl rfl h1 (fun e => g (Or.inl e)) (fun e => g (Or.inr (Or.inl e))) (fun e => g (Or.inr (Or.inr (Or.inl e)))) (fun e => g (Or.inr (Or.inr (Or.inr (Or.inl e))))) (fun e => g (Or.inr (Or.inr (Or.inr (Or.inr e)))))
  by_cases h0 : n < 0 ∨ 65536 < n
  · rw [hF (fun h => by
      obtain ⟨_, a2, a3, _⟩ := h
      simp only [Rv.q] at a2 a3
      omega)]
    exact yomay_m w _ _ rfl rfl h1 h0 g
  have h2 : 0 ≤ n := by omega
  have h3 : n ≤ 65536 := by omega
  have hnb : decide (bl = 0) = decide (ns = []) := by
    rw [Bool.eq_iff_iff, decide_eq_true_eq, decide_eq_true_eq, hlen]
    exact List.length_eq_zero_iff
  obtain ⟨RS, hRS⟩ : ∃ RS : Bool, RS = true ↔ Ab n ns := by
    by_cases hh : Ab n ns
    · exact ⟨true, fun _ => hh, fun _ => rfl⟩
    · exact ⟨false, fun e => (by cases e), fun e => absurd e hh⟩
  have fin : ∀ R : Bool, (R = true ↔ okR ⟨k, f, n, wk, wv, wd, key, en, ns⟩) → R = B := fun R hR => by
    rw [Bool.eq_iff_iff, hR]
    exact hB.symm
  have c1 : ∀ s : ByteArray, ((s.size : Int) ≤ 64) = (s.size ≤ 64) := fun s => by rw [eq_iff_iff]; omega
  have c2 : ((wv.size : Int) ≤ 1024) = (wv.size ≤ 1024) := by rw [eq_iff_iff]; omega
  rcases g with rfl | rfl | rfl | rfl | rfl
  · rw [← fin _ ?_]
    · exact yomay_1 w _ _ (tl_beq key) (tl_beq en) h1 h2 h3 _ hnb _ b1 b2 rfl _ (tl_beq wv)
    · simp [okR, okWr, h1, h2, h3, and_assoc, c2]
  · rw [← fin _ ?_]
    · exact yomay_2 w _ _ (tl_beq key) (tl_beq en) h1 h2 h3 _ hnb _ rfl _ b3 rfl
    · simp [okR, h1, h2, h3, and_assoc]
  · rw [← fin _ ?_]
    · exact yomay_3 w _ _ (tl_beq key) (tl_beq en) h1 h2 h3 _ hnb _ rfl b3 b4
    · simp [okR, h1, h2, h3, and_assoc, c1]
  · rw [← fin _ ?_]
    · exact yomay_4 w _ _ (tl_beq key) (tl_beq en) h1 h2 h3 _ hnb _ rfl
    · simp [okR, h1, h2, h3, and_assoc]
  · rw [← fin _ ?_]
    · exact yomay_5 w _ _ (tl_beq key) (tl_beq en) h1 h2 h3 _ hnb _ rfl RS hI hlen hRS
    · simp [okR, hRS, h1, h2, h3, and_assoc]
end Go.Proofs.YtomajifklajilaaGreat
/- The document's owner in memory: its struct, what waits; Len, Room, Ask. Conditions as each names them. -/
namespace Go.Proofs.YtomajifklajilaaGreat
open Go.ChangeShapes Go.WideShapes Go.ChangeAt Go.RowKit Go.Lib Go.Maps
set_option linter.unusedVariables false
set_option linter.unusedSimpArgs false
/-- The document's owner: its struct at yb, its shard s, its room C; xs wait. -/
structure YoM (w : World) (yb : Nat) (s : Option Addr) (C : Nat) (lo : Option Addr) (n c : Nat) (xs : List Rv) : Prop where
  row : w.heap[yb]? = some (.cells #[.pointer s, .int .i64 C, .slice lo n c] 78 (0, 0))
  q : QV w lo n c xs
  ne : qb lo ≠ some yb
  cap : C ≤ 16
  few : n ≤ C
section
variable {w w' : World} {yb C n c : Nat} {s lo : Option Addr} {xs : List Rv}
theorem YoM.keep {S : List Nat} (h : YoM w yb s C lo n c xs) (hf : Fr S w w') (h1 : yb ∉ S) (h2 : ∀ b, qb lo = some b → b ∉ S) : YoM w' yb s C lo n c xs := ⟨hf.keep h.row h1, h.q.keep hf h2, h.ne, h.cap, h.few⟩
theorem YoM.same (h : YoM w yb s C lo n c xs) (hf : Fr [] w w') : YoM w' yb s C lo n c xs := h.keep hf (by simp) (by simp)
theorem YoM.c0 (h : YoM w yb s C lo n c xs) : w.cell? ⟨yb, 0, none⟩ = some (.pointer s) := by rw [cell_of_row _ _ _ _ _ _ h.row]; rfl
theorem YoM.c1 (h : YoM w yb s C lo n c xs) : w.cell? ⟨yb, 1, none⟩ = some (.int .i64 C) := by rw [cell_of_row _ _ _ _ _ _ h.row]; rfl
theorem YoM.c2 (h : YoM w yb s C lo n c xs) : w.cell? ⟨yb, 2, none⟩ = some (.slice lo n c) := by rw [cell_of_row _ _ _ _ _ _ h.row]; rfl
theorem YoM.lt (h : YoM w yb s C lo n c xs) : yb < w.heap.size := lt_of_block h.row
theorem yolen_any (h : YoM w yb s C lo n c xs) : Calls Tryz.prog 21 #[.pointer (some ⟨yb, 0, none⟩)] w fun e w' => e = .returned (.int .i64 n) ∧ w = w' := by
  have c2 := h.c2
  clear h
  go_enter Tryz.func21, Tryz.ntmps21
  go_wp2
  go_ret
  exact ⟨rfl, rfl⟩
theorem yoroom_any (h : YoM w yb s C lo n c xs) : Calls Tryz.prog 23 #[.pointer (some ⟨yb, 0, none⟩)] w fun e w' => e = .returned (.int .i64 ((C : Int) - n)) ∧ Fr [] w w' := by
  have c1 := h.c1
  have c2 := h.c2
  have h1 := h.cap
  have h2 := h.few
  clear h
  go_enter Tryz.func23, Tryz.ntmps23
  go_wp2_with fail
  go_quiet (fail)
  go_wp2
  go_ret
  exact ⟨rfl, Fr.drewN _ _ _⟩
set_option maxHeartbeats 2000000 in
theorem yoask_no (h : YoM w yb s C lo n c xs) (x : Rv) (ns : List Int) (hR : RqB w x ns) (hB : ¬ okR (x.q ns)) : Calls Tryz.prog 18 #[.pointer (some ⟨yb, 0, none⟩), x.v] w fun e w' => e = .returned (.tuple #[.bool false, .int .i64 1]) ∧ Fr [] w w' := by
  have hF0 : Fr [] w (w.alloc (.cells #[.int .u8 x.k, .int .i64 x.f, .int .i64 x.n, .string x.wk, .string x.wv, .bool x.wd, .string x.key, .string x.en, .slice x.bo x.bl x.bc] 36)) := Fr.alloc _ _ _
  have HM : Hid (Calls _ _ _ _ _) := yomay_any x ns false _ (hR.keep hF0) ⟨fun e => (by cases e), fun e => absurd e hB⟩
  have HF0 : Hid (Fr _ _ _) := hF0
  clear h hR hB hF0
  obtain ⟨xk, xf, xn, xa, xb, xd, xc, xe, xo, xl, xm⟩ := x
  simp only [Rv.v] at HM HF0 ⊢
  go_enter Tryz.func18, Tryz.ntmps18
  go_wp2_with fail
  refine Calls.mono HM.out ?_
  rintro e w1 ⟨rfl, hF1⟩
  go_wp2
  go_ret2
  exact ⟨rfl, HF0.out.then hF1⟩
set_option maxHeartbeats 2000000 in
theorem yoask_full (h : YoM w yb s C lo n c xs) (x : Rv) (ns : List Int) (hR : RqB w x ns) (hB : okR (x.q ns)) (hn : C ≤ n) : Calls Tryz.prog 18 #[.pointer (some ⟨yb, 0, none⟩), x.v] w fun e w' => e = .returned (.tuple #[.bool false, .int .i64 0]) ∧ Fr [] w w' := by
  have hF0 : Fr [] w (w.alloc (.cells #[.int .u8 x.k, .int .i64 x.f, .int .i64 x.n, .string x.wk, .string x.wv, .bool x.wd, .string x.key, .string x.en, .slice x.bo x.bl x.bc] 36)) := Fr.alloc _ _ _
  have HM : Hid (Calls _ _ _ _ _) := yomay_any x ns true _ (hR.keep hF0) ⟨fun _ => hB, fun _ => rfl⟩
  have HF0 : Hid (Fr _ _ _) := hF0
  have HY : Hid (∀ W, Fr [] w W → YoM W yb s C lo n c xs) := fun W hf => h.same hf
  have h1 := h.cap
  have h2 := h.few
  clear h hR hB hF0
  obtain ⟨xk, xf, xn, xa, xb, xd, xc, xe, xo, xl, xm⟩ := x
  simp only [Rv.v] at HM HF0 ⊢
  have hd2 : decide (C ≤ n) = true := by simp; omega
  go_enter Tryz.func18, Tryz.ntmps18
  go_wp2_with fail
  refine Calls.mono HM.out ?_
  rintro e w1 ⟨rfl, hF1⟩
  have c1 := (HY.out _ (HF0.out.then hF1)).c1
  have c2 := (HY.out _ (HF0.out.then hF1)).c2
  go_wp2_with fail
  go_quiet (fail)
  go_wp2
  go_ret2
  exact ⟨rfl, (HF0.out.then hF1).then (Fr.drewN _ _ _)⟩
end
end Go.Proofs.YtomajifklajilaaGreat
/- The document's Ask: one more waits. Conditions as each names them. -/
namespace Go.Proofs.YtomajifklajilaaGreat
open Go.ChangeShapes Go.WideShapes Go.ChangeAt Go.RowKit Go.Lib Go.Maps
set_option linter.unusedVariables false
set_option linter.unusedSimpArgs false
theorem step_appR (w : World) {ops : Array Oper} {o : Oper} {a : Act} {K : Act → World → Prop} {Q : Exit → Act → World → Prop} {E : Prop} (hg : o.guard = none) (s x : Operand)
    (ho : o.op = .call { callee := .builtin .append, args := #[s, x], argTypes := #[76, 76] })
    (lo : Option Addr) (n c : Nat) (xs : List Rv) (hs : a.eval s = .slice lo n c) (hQ : QV w lo n c xs) (hn : n ≤ 65536)
    (r : Rv) (sb : Nat) (hx : a.eval x = .slice (some ⟨sb, 0, none⟩) 1 1) (hb : w.heap[sb]? = some (.cells r.cs.toArray 36 (0, 0)))
    (h : ∀ lo' c' w', QV w' lo' (n + 1) c' (xs ++ [r]) → Fr (qb lo).toList w w' → (qb lo' = qb lo ∨ ∃ k, qb lo' = some k ∧ w.heap.size ≤ k) → K (a.put o.dst (.slice lo' (n + 1) c')) w') :
    if Region.wanted o (yielded ops a.tmps) = true then Oper.wp Tryz.prog o a w K Q else E := by
  have hw : Region.wanted o (yielded ops a.tmps) = true := by simp [Region.wanted, hg]
  rw [if_pos hw]
  obtain ⟨lo', c', w', hr, h2, h3, h4⟩ := run_appV9 w o.type lo n c xs r sb hQ hn hb
  unfold Oper.wp execOp
  simp only [ho, resolve, invoke, builtin, Sem.run_bind, Sem.run_pure, Result.andThen_ok, List.map_toArray, List.map_cons, List.map_nil, hs, hx, hr]
  exact h lo' c' w' h2 h3 h4
section
variable {w w' : World} {yb C n c : Nat} {s lo : Option Addr} {xs : List Rv}
theorem YoM.qlt (h : YoM w yb s C lo n c xs) : ∀ k, qb lo = some k → k < w.heap.size := fun k hk => by
  obtain ⟨cur, hc⟩ := h.q.blk hk
  exact lt_of_block hc
set_option maxHeartbeats 4000000 in
set_option maxRecDepth 100000 in
theorem yoask_any (h : YoM w yb s C lo n c xs) (x : Rv) (ns : List Int) (hR : RqB w x ns) (hB : okR (x.q ns)) (hn : n < C) : Calls Tryz.prog 18 #[.pointer (some ⟨yb, 0, none⟩), x.v] w fun e w' => e = .returned (.tuple #[.bool true, .int .i64 0]) ∧ ∃ lo' c', YoM w' yb s C lo' (n + 1) c' (xs ++ [x]) ∧ Fr (yb :: (qb lo).toList) w w' ∧ (qb lo' = qb lo ∨ ∃ k, qb lo' = some k ∧ w.heap.size ≤ k) := by
  obtain ⟨xk, xf, xn, xa, xb, xd, xc, xe, xo, xl, xm⟩ := x
  obtain ⟨w0, HW0⟩ : ∃ w0, Hid (w.alloc (.cells #[.int .u8 xk, .int .i64 xf, .int .i64 xn, .string xa, .string xb, .bool xd, .string xc, .string xe, .slice xo xl xm] 36) = w0) := ⟨_, rfl⟩
  have hF0 : Fr [] w w0 := by rw [← HW0.out]; exact Fr.alloc _ _ _
  have hr0 : w0.heap[w.heap.size]? = some (.cells #[.int .u8 xk, .int .i64 xf, .int .i64 xn, .string xa, .string xb, .bool xd, .string xc, .string xe, .slice xo xl xm] 36 (0, 0)) := by rw [← HW0.out]; exact heap_alloc_new _ _
  obtain ⟨Z, HZ⟩ : ∃ Z, Hid (w.heap.size = Z) := ⟨_, rfl⟩
  rw [HZ.out] at hr0
  have HM : Hid (Calls _ _ _ _ _) := yomay_any ⟨xk, xf, xn, xa, xb, xd, xc, xe, xo, xl, xm⟩ ns true w0 (hR.keep hF0) ⟨fun _ => hB, fun _ => rfl⟩
  have h1 := h.cap
  have h2 := h.few
  have hyl := h.lt
  have HY : Hid (∀ W, Fr [] w0 W → YoM W yb s C lo n c xs ∧ W.heap[Z]? = some (.cells #[.int .u8 xk, .int .i64 xf, .int .i64 xn, .string xa, .string xb, .bool xd, .string xc, .string xe, .slice xo xl xm] 36 (0, 0)) ∧ Fr [] w W) := fun W hf => ⟨h.same (hF0.then hf), hf.keep hr0 (by simp), hF0.then hf⟩
  have HNe : Hid (yb ≠ Z ∧ qb lo ≠ some yb ∧ (∀ k, qb lo = some k → k ≠ Z ∧ k < w.heap.size)) := ⟨by have := HZ.out; omega, h.ne, fun k hk => ⟨by have := h.qlt k hk; have := HZ.out; omega, h.qlt k hk⟩⟩
  have HYl : Hid (yb < w.heap.size) := hyl
  simp only [Rv.v] at HM
  clear h hR hB hF0 hr0 hyl
  simp only [Rv.v]
  have hd1 : ¬ (C : Int) ≤ (n : Int) := by omega
  have hd2 : decide (C ≤ n) = false := by simp; omega
  go_enter Tryz.func18, Tryz.ntmps18
  go_upto_region 3 with fail
  rw [HW0.out]
  rw [HZ.out]
  obtain ⟨hy0, hz0, _⟩ := HY.out _ (Fr.refl _ _)
  have hld0 := load_req ⟨xk, xf, xn, xa, xb, xd, xc, xe, xo, xl, xm⟩ hz0
  have z0 := RvAt.ofRow (x := ⟨xk, xf, xn, xa, xb, xd, xc, xe, xo, xl, xm⟩) hz0
  obtain ⟨r0, r1, r2, r3, r4, r5, r6, r7, r8⟩ := z0
  simp only [Nat.zero_add] at r0 r1 r2 r3 r4 r5 r6 r7 r8
  clear hy0
  go_wp2_with fail
  refine Calls.mono HM.out ?_
  rintro e w1 ⟨rfl, hF1⟩
  have HF1 : Hid (Fr [] w0 w1) := hF1
  obtain ⟨hy1, hz1, _⟩ := HY.out _ hF1
  have c1 := hy1.c1
  have c2 := hy1.c2
  clear hy1 hz1 hF1 hld0 r0 r1 r2 r3 r4 r5 r6 r7 r8 hz0
  go_wp2_with fail
  go_quiet (fail)
  obtain ⟨w2, HW2⟩ : ∃ w2, Hid (w1.drewN nq = w2) := ⟨_, rfl⟩
  have HF2 : Hid (Fr [] w0 w2) := by show Fr _ _ _; rw [← HW2.out]; exact HF1.out.then (Fr.drewN _ _ _)
  rw [HW2.out]
  obtain ⟨hy2, hz2, _⟩ := HY.out _ HF2.out
  have d2 := hy2.c2
  obtain ⟨r0, r1, r2, r3, r4, r5, r6, r7, r8⟩ := RvAt.ofRow (x := ⟨xk, xf, xn, xa, xb, xd, xc, xe, xo, xl, xm⟩) hz2
  simp only [Nat.zero_add] at r0 r1 r2 r3 r4 r5 r6 r7 r8
  clear c1 c2 hy2 hz2 HW2
  have HX : Hid (∀ W, Fr [] w2 W → QV (W.alloc (.cells #[.int .u8 xk, .int .i64 xf, .int .i64 xn, .string xa, .string xb, .bool xd, .string xc, .string xe, .slice xo xl xm] 36)) lo n c xs ∧ (W.alloc (.cells #[.int .u8 xk, .int .i64 xf, .int .i64 xn, .string xa, .string xb, .bool xd, .string xc, .string xe, .slice xo xl xm] 36)).heap[W.heap.size]? = some (.cells (Rv.cs ⟨xk, xf, xn, xa, xb, xd, xc, xe, xo, xl, xm⟩).toArray 36 (0, 0))) := fun W hf => ⟨(HY.out _ ((HF2.out.then hf).then (Fr.alloc _ _ _))).1.q, heap_alloc_new _ _⟩
  have HG : Hid (∀ W, Fr [] w2 W → ∀ lo' c' w', QV w' lo' (n + 1) c' (xs ++ [⟨xk, xf, xn, xa, xb, xd, xc, xe, xo, xl, xm⟩]) → Fr (qb lo).toList (W.alloc (.cells #[.int .u8 xk, .int .i64 xf, .int .i64 xn, .string xa, .string xb, .bool xd, .string xc, .string xe, .slice xo xl xm] 36)) w' → (qb lo' = qb lo ∨ ∃ k, qb lo' = some k ∧ (W.alloc (.cells #[.int .u8 xk, .int .i64 xf, .int .i64 xn, .string xa, .string xb, .bool xd, .string xc, .string xe, .slice xo xl xm] 36)).heap.size ≤ k) →
      ((w'.cell? ⟨yb, 2, none⟩ = some (.slice lo n c) ∧ w'.cell? ⟨Z, 0, none⟩ = some (.int .u8 xk) ∧ w'.cell? ⟨Z, 1, none⟩ = some (.int .i64 xf) ∧ w'.cell? ⟨Z, 2, none⟩ = some (.int .i64 xn) ∧ w'.cell? ⟨Z, 3, none⟩ = some (.string xa) ∧ w'.cell? ⟨Z, 4, none⟩ = some (.string xb) ∧ w'.cell? ⟨Z, 5, none⟩ = some (.bool xd) ∧ w'.cell? ⟨Z, 6, none⟩ = some (.string xc) ∧ w'.cell? ⟨Z, 7, none⟩ = some (.string xe) ∧ w'.cell? ⟨Z, 8, none⟩ = some (.slice xo xl xm)) ∧ w'.frozen? ⟨yb, 2, none⟩ = false) ∧ YoM (w'.setCell ⟨yb, 2, none⟩ (.slice lo' (n + 1) c')) yb s C lo' (n + 1) c' (xs ++ [⟨xk, xf, xn, xa, xb, xd, xc, xe, xo, xl, xm⟩]) ∧ Fr (yb :: (qb lo).toList) w (w'.setCell ⟨yb, 2, none⟩ (.slice lo' (n + 1) c')) ∧ (qb lo' = qb lo ∨ ∃ k, qb lo' = some k ∧ w.heap.size ≤ k)) := fun W hf lo' c' w' hQ hF hm => by
    obtain ⟨hyW, hzW, hwW⟩ := HY.out _ ((HF2.out.then hf).then (Fr.alloc [] _ (.cells #[.int .u8 xk, .int .i64 xf, .int .i64 xn, .string xa, .string xb, .bool xd, .string xc, .string xe, .slice xo xl xm] 36)))
    have hyn : yb ∉ (qb lo).toList := by simp only [Option.mem_toList]; exact HNe.out.2.1
    have hzn : Z ∉ (qb lo).toList := by simp only [Option.mem_toList]; exact fun e => (HNe.out.2.2 Z e).1 rfl
    have hb := hF.keep hyW.row hyn
    have hz := RvAt.ofRow (x := ⟨xk, xf, xn, xa, xb, xd, xc, xe, xo, xl, xm⟩) (hF.keep hzW hzn)
    obtain ⟨q0, q1, q2, q3, q4, q5, q6, q7, q8⟩ := hz
    simp only [Nat.zero_add] at q0 q1 q2 q3 q4 q5 q6 q7 q8
    have hsz := hwW.size
    have hne : qb lo' ≠ some yb := by
      rcases hm with e | ⟨k, e, hk⟩
      · rw [e]; exact HNe.out.2.1
      · rw [e]; intro e2; cases e2; have := HYl.out; omega
    have hfs : Fr [yb] w' (w'.setCell ⟨yb, 2, none⟩ (.slice lo' (n + 1) c')) := Fr.set _ _ _ (by simp)
    refine ⟨⟨⟨by rw [cell_of_row _ _ _ _ _ _ hb]; rfl, q0, q1, q2, q3, q4, q5, q6, q7, q8⟩, by simp [World.frozen?, hb]⟩, ⟨by rw [qrow_setCell _ hb]; rfl, hQ.keep hfs (fun b e => by simp; rintro rfl; exact hne e), hne, h1, by omega⟩, (hwW.mono (by simp)).then ((hF.mono (by intro y hy _; exact List.mem_cons_of_mem _ hy)).then (hfs.mono (by simp))), ?_⟩
    rcases hm with e | ⟨k, e, hk⟩
    · exact Or.inl e
    · exact Or.inr ⟨k, e, by omega⟩
  have hyz := HNe.out.1
  have hyl2 : yb < w2.heap.size := by have := (HY.out _ HF2.out).1.lt; exact this
  go_wp2_with fail
  go_region_law (first
    | (refine step_appR _ (by rfl) _ _ (by rfl) lo n c xs (by rfl) (HX.out _ (Fr.drewN _ _ _)).1 (by omega) ⟨xk, xf, xn, xa, xb, xd, xc, xe, xo, xl, xm⟩ _ (by rfl) (HX.out _ (Fr.drewN _ _ _)).2 ?_; intro lo' c' w3 hQ3 hF3 hm3; obtain ⟨⟨⟨e2, j0, j1, j2, j3, j4, j5, j6, j7, j8⟩, f2⟩, hG3⟩ := HG.out _ (Fr.drewN _ _ _) lo' c' w3 hQ3 hF3 hm3)
    | (refine step_appR _ (by rfl) _ _ (by rfl) lo n c xs (by rfl) (HX.out _ (Fr.drew _ _)).1 (by omega) ⟨xk, xf, xn, xa, xb, xd, xc, xe, xo, xl, xm⟩ _ (by rfl) (HX.out _ (Fr.drew _ _)).2 ?_; intro lo' c' w3 hQ3 hF3 hm3; obtain ⟨⟨⟨e2, j0, j1, j2, j3, j4, j5, j6, j7, j8⟩, f2⟩, hG3⟩ := HG.out _ (Fr.drew _ _) lo' c' w3 hQ3 hF3 hm3)
    | (refine step_appR _ (by rfl) _ _ (by rfl) lo n c xs (by rfl) (HX.out _ (Fr.refl _ _)).1 (by omega) ⟨xk, xf, xn, xa, xb, xd, xc, xe, xo, xl, xm⟩ _ (by rfl) (HX.out _ (Fr.refl _ _)).2 ?_; intro lo' c' w3 hQ3 hF3 hm3; obtain ⟨⟨⟨e2, j0, j1, j2, j3, j4, j5, j6, j7, j8⟩, f2⟩, hG3⟩ := HG.out _ (Fr.refl _ _) lo' c' w3 hQ3 hF3 hm3))
  all_goals go_wp2
  all_goals (go_ret2; exact ⟨rfl, lo', c', hG3⟩)
end
end Go.Proofs.YtomajifklajilaaGreat

/- Texts of this claim laid together, one behind the other: contracts and plain lemmas; conditions as each names them. -/
import Derived.Test.YtpdkdgmaofhlkaaGreatDoorGp3
import Derived.Laws.StructEq
/- Which calls may be: Check, the program's and the document's. Conditions: texts of fewer than 2^63 bytes. -/
namespace Go.Proofs.YtpdkdgmaofhlkaaGreatDoor
open Go.ChangeShapes Go.WideShapes Go.ChangeAt Go.RowKit Go.Lib
set_option linter.unusedVariables false
set_option linter.unusedSimpArgs false

/-- May a key be? -/
def okK (k : ByteArray) : Prop := 1 ≤ k.size ∧ k.size ≤ 64
instance (k : ByteArray) : Decidable (okK k) := by unfold okK; infer_instance
/-- May a call be? -/
def okC (k : Int) (key en : ByteArray) : Prop := (k = 1 ∧ okK key ∧ en.size = 0) ∨ (k = 2 ∧ key.size ≤ 64 ∧ en.size ≤ 64) ∨ ((k = 3 ∨ k = 4) ∧ key.size = 0 ∧ en.size = 0)
instance (k : Int) (key en : ByteArray) : Decidable (okC k key en) := by unfold okC; infer_instance
theorem tl_nil17 (s : ByteArray) : s.toList = [] ↔ s.size = 0 := by
  rw [ByteArray.toList_eq]
  cases s with
  | mk d => simp [ByteArray.size, ← Array.toList_eq_nil_iff]
theorem tl_beq17 (s : ByteArray) : (s.toList == ([] : List UInt8)) = decide (s.size = 0) := by
  have := tl_nil17 s
  by_cases h : s.size = 0
  · rw [this.2 h]; simp [h]
  · simp [h, this]
theorem eNil17 : (⟨#[]⟩ : ByteArray).toList = [] := (tl_nil17 _).2 rfl
set_option maxHeartbeats 1000000 in
theorem qiskey_any (key : ByteArray) (w : World) : Calls Tryz.prog 101 #[.string key] w fun e w' => e = .returned (.bool (decide (okK key))) ∧ w = w' := by
  have hE := tl_beq17 key
  have hE2 : (key.toList != ([] : List UInt8)) = !decide (key.size = 0) := by rw [bne, hE]
  by_cases h : key.size = 0
  · have hd : decide (okK key) = false := decide_eq_false (fun h2 => by have := h2.1; omega)
    rw [hd]
    simp only [h, decide_true, Bool.not_true] at hE hE2
    have e0 := eNil17
    clear hd
    go_enter Tryz.func101, Tryz.ntmps101
    go_wp2
    all_goals (go_ret; exact ⟨rfl, rfl⟩)
  · have hd : decide (okK key) = decide ((key.size : Int) ≤ 64) := by
      rw [Bool.eq_iff_iff, decide_eq_true_eq, decide_eq_true_eq]
      unfold okK
      omega
    rw [hd]
    simp only [h, decide_false, Bool.not_false] at hE hE2
    have e0 := eNil17
    clear hd
    go_enter Tryz.func101, Tryz.ntmps101
    go_wp2
    all_goals (go_ret; exact ⟨rfl, rfl⟩)
set_option maxHeartbeats 1000000 in
theorem qisbound_any (key : ByteArray) (w : World) : Calls Tryz.prog 102 #[.string key] w fun e w' => e = .returned (.bool (decide (key.size ≤ 64))) ∧ w = w' := by
  have hE := tl_beq17 key
  have e0 := eNil17
  by_cases h : key.size = 0
  · have hd : decide (key.size ≤ 64) = true := by simp; omega
    rw [hd]
    simp only [h, decide_true] at hE
    clear hd
    go_enter Tryz.func102, Tryz.ntmps102
    go_wp2
    all_goals (go_ret; exact ⟨rfl, rfl⟩)
  · have hd : decide (key.size ≤ 64) = decide (okK key) := by
      rw [Bool.eq_iff_iff, decide_eq_true_eq, decide_eq_true_eq]
      unfold okK
      omega
    rw [hd]
    simp only [h, decide_false] at hE
    clear hd
    go_enter Tryz.func102, Tryz.ntmps102
    go_wp2_with (first | (refine (qiskey_any key _).mono ?_; rintro e w1 ⟨rfl, rfl⟩))
    all_goals (go_ret; exact ⟨rfl, rfl⟩)
set_option maxHeartbeats 4000000 in
set_option maxRecDepth 100000 in
theorem qmaybe_any (k : Int) (key en : ByteArray) (w : World) (hk : 0 ≤ k ∧ k ≤ 255) : Calls Tryz.prog 67 #[.agg #[.int .u8 k, .string key, .string en]] w fun e w' => e = .returned (.bool (decide (okC k key en))) ∧ Fr [] w w' := by
  have e0 := eNil17
  have hE1 := tl_beq17 key
  have hE2 := tl_beq17 en
  have HF : Hid (Fr [] w (w.alloc (.cells #[.int .u8 k, .string key, .string en] 26))) := Fr.alloc _ _ _
  by_cases h1 : k = 1
  · subst h1
    by_cases hA : okK key
    · by_cases hB : en.size = 0
      · have E : decide (okC 1 key en) = true := decide_eq_true (by unfold okC; simp [hA, hB])
        rw [E]
        have HK := fun w => (qiskey_any key w)
        rw [decide_eq_true hA] at HK
        simp only [hB, decide_true] at hE2
        clear E
        go_enter Tryz.func67, Tryz.ntmps67
        go_wp2_with (first | (refine (HK _).mono ?_; rintro e w1 ⟨rfl, rfl⟩))
        all_goals (go_ret; exact ⟨rfl, HF.out⟩)
      · have E : decide (okC 1 key en) = false := decide_eq_false (by unfold okC; simp [hB])
        rw [E]
        have HK := fun w => (qiskey_any key w)
        rw [decide_eq_true hA] at HK
        simp only [hB, decide_false] at hE2
        clear E
        go_enter Tryz.func67, Tryz.ntmps67
        go_wp2_with (first | (refine (HK _).mono ?_; rintro e w1 ⟨rfl, rfl⟩))
        all_goals (go_ret; exact ⟨rfl, HF.out⟩)
    · have E : decide (okC 1 key en) = false := decide_eq_false (by unfold okC; simp [hA])
      rw [E]
      have HK := fun w => (qiskey_any key w)
      rw [decide_eq_false hA] at HK
      clear E
      go_enter Tryz.func67, Tryz.ntmps67
      go_wp2_with (first | (refine (HK _).mono ?_; rintro e w1 ⟨rfl, rfl⟩))
      all_goals (go_ret; exact ⟨rfl, HF.out⟩)
  by_cases h2 : k = 2
  · subst h2
    by_cases hA : key.size ≤ 64
    · by_cases hB : en.size ≤ 64
      · have E : decide (okC 2 key en) = true := decide_eq_true (by unfold okC; simp [hA, hB])
        rw [E]
        have HK := fun w => (qisbound_any key w)
        rw [decide_eq_true hA] at HK
        have HK2 := fun w => (qisbound_any en w)
        rw [decide_eq_true hB] at HK2
        clear E
        go_enter Tryz.func67, Tryz.ntmps67
        go_wp2_with (first | (refine (HK _).mono ?_; rintro e w1 ⟨rfl, rfl⟩) | (refine (HK2 _).mono ?_; rintro e w1 ⟨rfl, rfl⟩))
        all_goals (go_ret; exact ⟨rfl, HF.out⟩)
      · have E : decide (okC 2 key en) = false := decide_eq_false (by unfold okC; simp [hB])
        rw [E]
        have HK := fun w => (qisbound_any key w)
        rw [decide_eq_true hA] at HK
        have HK2 := fun w => (qisbound_any en w)
        rw [decide_eq_false hB] at HK2
        clear E
        go_enter Tryz.func67, Tryz.ntmps67
        go_wp2_with (first | (refine (HK _).mono ?_; rintro e w1 ⟨rfl, rfl⟩) | (refine (HK2 _).mono ?_; rintro e w1 ⟨rfl, rfl⟩))
        all_goals (go_ret; exact ⟨rfl, HF.out⟩)
    · have E : decide (okC 2 key en) = false := decide_eq_false (by unfold okC; simp [hA])
      rw [E]
      have HK := fun w => (qisbound_any key w)
      rw [decide_eq_false hA] at HK
      clear E
      go_enter Tryz.func67, Tryz.ntmps67
      go_wp2_with (first | (refine (HK _).mono ?_; rintro e w1 ⟨rfl, rfl⟩))
      all_goals (go_ret; exact ⟨rfl, HF.out⟩)
  by_cases h3 : k = 3
  · subst h3
    by_cases hA : key.size = 0
    · by_cases hB : en.size = 0
      · have E : decide (okC 3 key en) = true := decide_eq_true (by unfold okC; simp [hA, hB])
        rw [E]
        simp only [hA, decide_true] at hE1
        simp only [hB, decide_true] at hE2
        clear E
        go_enter Tryz.func67, Tryz.ntmps67
        go_wp2
        all_goals (go_ret; exact ⟨rfl, HF.out⟩)
      · have E : decide (okC 3 key en) = false := decide_eq_false (by unfold okC; simp [hB])
        rw [E]
        simp only [hA, decide_true] at hE1
        simp only [hB, decide_false] at hE2
        clear E
        go_enter Tryz.func67, Tryz.ntmps67
        go_wp2
        all_goals (go_ret; exact ⟨rfl, HF.out⟩)
    · have E : decide (okC 3 key en) = false := decide_eq_false (by unfold okC; simp [hA])
      rw [E]
      simp only [hA, decide_false] at hE1
      clear E
      go_enter Tryz.func67, Tryz.ntmps67
      go_wp2
      all_goals (go_ret; exact ⟨rfl, HF.out⟩)
  by_cases h4 : k = 4
  · subst h4
    by_cases hA : key.size = 0
    · by_cases hB : en.size = 0
      · have E : decide (okC 4 key en) = true := decide_eq_true (by unfold okC; simp [hA, hB])
        rw [E]
        simp only [hA, decide_true] at hE1
        simp only [hB, decide_true] at hE2
        clear E
        go_enter Tryz.func67, Tryz.ntmps67
        go_wp2
        all_goals (go_ret; exact ⟨rfl, HF.out⟩)
      · have E : decide (okC 4 key en) = false := decide_eq_false (by unfold okC; simp [hB])
        rw [E]
        simp only [hA, decide_true] at hE1
        simp only [hB, decide_false] at hE2
        clear E
        go_enter Tryz.func67, Tryz.ntmps67
        go_wp2
        all_goals (go_ret; exact ⟨rfl, HF.out⟩)
    · have E : decide (okC 4 key en) = false := decide_eq_false (by unfold okC; simp [hA])
      rw [E]
      simp only [hA, decide_false] at hE1
      clear E
      go_enter Tryz.func67, Tryz.ntmps67
      go_wp2
      all_goals (go_ret; exact ⟨rfl, HF.out⟩)
  have E : decide (okC k key en) = false := decide_eq_false (by unfold okC; simp [h1, h2, h3, h4])
  rw [E]
  clear E
  go_enter Tryz.func67, Tryz.ntmps67
  go_wp2
  all_goals (go_ret; exact ⟨rfl, HF.out⟩)
/-- What Check answers. -/
def ckE (k : Int) (key en : ByteArray) : Int := if okC k key en then 0 else 1
set_option maxHeartbeats 1000000 in
theorem qcheck_any (k : Int) (key en : ByteArray) (w : World) (hk : 0 ≤ k ∧ k ≤ 255) : Calls Tryz.prog 17 #[.agg #[.int .u8 k, .string key, .string en]] w fun e w' => e = .returned (.int .i64 (ckE k key en)) ∧ Fr [] w w' := by
  have HM := fun w => qmaybe_any k key en w hk
  by_cases h : okC k key en
  · have E : ckE k key en = 0 := if_pos h
    rw [E]
    rw [decide_eq_true h] at HM
    clear E h
    go_enter Tryz.func17, Tryz.ntmps17
    go_wp2_with fail
    refine (HM _).mono ?_
    rintro e w1 ⟨rfl, hf⟩
    have HF : Hid (Fr [] w w1) := (Fr.alloc _ _ _).then hf
    clear hf HM
    go_wp2
    go_ret
    exact ⟨rfl, HF.out⟩
  · have E : ckE k key en = 1 := if_neg h
    rw [E]
    rw [decide_eq_false h] at HM
    clear E h
    go_enter Tryz.func17, Tryz.ntmps17
    go_wp2_with fail
    refine (HM _).mono ?_
    rintro e w1 ⟨rfl, hf⟩
    have HF : Hid (Fr [] w w1) := (Fr.alloc _ _ _).then hf
    clear hf HM
    go_wp2
    go_ret
    exact ⟨rfl, HF.out⟩
end Go.Proofs.YtpdkdgmaofhlkaaGreatDoor
/- The statements' helpers SameInts, SameReq. Conditions as each names them. -/
namespace Go.Proofs.YtpdkdgmaofhlkaaGreatDoor
open Go.ChangeShapes Go.WideShapes Go.ChangeAt Go.RowKit Go.Lib
set_option linter.unusedVariables false
set_option linter.unusedSimpArgs false

theorem Tryz.undWt15 : Tryz.prog.underlying 62 = some (.struct (Tryz.prog.fieldsOf 62)) := by kernel_rfl
theorem Tryz.heldWt15 : Tryz.prog.stoodInHeld 62 = false := by kernel_rfl
theorem Tryz.guardWt15 : Tryz.prog.eqGuardType Tryz.prog.depth 62 = false := by kernel_rfl
theorem Tryz.fieldsWt15 : (Tryz.prog.fieldsOf 62).toList.map (fun f => (f.name == "_", f.type, f.offset)) = [(false, 9, 0), (false, 9, 1), (false, 4, 2)] := by kernel_rfl
theorem Tryz.undBool15 : Tryz.prog.underlying 4 = some .bool := by kernel_rfl
theorem Tryz.infoStr115 : (Tryz.prog.info? 9).map (fun i => i.size) = some 1 := by kernel_rfl
theorem Tryz.infoBool115 : (Tryz.prog.info? 4).map (fun i => i.size) = some 1 := by kernel_rfl
theorem part_str15 (w : World) (cs : Array Value) (off : Nat) (v : Value) (h : cs[off]? = some v) : (part 9 cs off).run Tryz.prog w = .ok v w := by
  simp [part, isAgg, run_underlying Tryz.undStr, h, Sem.run_bind]
theorem part_bool15 (w : World) (cs : Array Value) (off : Nat) (v : Value) (h : cs[off]? = some v) : (part 4 cs off).run Tryz.prog w = .ok v w := by
  simp [part, isAgg, run_underlying Tryz.undBool15, h, Sem.run_bind]
theorem eq_str15 (w : World) (a b : ByteArray) : (Op.equalIn 9999 9 (.string a) (.string b)).run Tryz.prog w = .ok (a.toList == b.toList) w := run_equalIn_string w 9998 _ a b Tryz.undStr
theorem eq_bool15 (w : World) (a b : Bool) : (Op.equalIn 9999 4 (.bool a) (.bool b)).run Tryz.prog w = .ok (a == b) w := run_equalIn_bool w 9998 _ a b Tryz.undBool15
theorem step_field15 {P : Program} {w : World} {A B : Sem Value} {E : Value → Value → Sem Bool} {K : Sem Bool} {a b : Value} {r : Bool} (hA : A.run P w = .ok a w) (hB : B.run P w = .ok b w) (hE : (E a b).run P w = .ok r w) :
    (do let a ← A; let b ← B; let r ← E a b; if (!r) = true then pure false else K : Sem Bool).run P w = if r = true then K.run P w else .ok false w := by
  simp only [Sem.run_bind, hA, hB, hE, Result.andThen_ok]
  cases r <;> simp
set_option maxRecDepth 100000 in
theorem wt_fields15 (w : World) (k1 v1 k2 v2 : ByteArray) (p1 p2 : Bool) : (Op.equalIn 10000 62 (.agg #[.string k1, .string v1, .bool p1]) (.agg #[.string k2, .string v2, .bool p2])).run Tryz.prog w = .ok (k1.toList == k2.toList && (v1.toList == v2.toList && p1 == p2)) w := by
  rw [run_equalIn_struct w 9999 _ _ _ Tryz.undWt15 Tryz.heldWt15]
  have hF := Tryz.fieldsWt15
  obtain ⟨l, hl⟩ : ∃ l, l = (Tryz.prog.fieldsOf 62).toList := ⟨_, rfl⟩
  rw [← hl] at hF ⊢
  match l, hF with
  | [f0, f1, f2], hF =>
    simp only [List.map_cons, List.map_nil, List.cons.injEq, Prod.mk.injEq, and_true] at hF
    obtain ⟨⟨n0, t0, o0⟩, ⟨n1, t1, o1⟩, ⟨n2, t2, o2⟩⟩ := hF
    have m0 : f0.name ≠ "_" := by simpa using n0
    have m1 : f1.name ≠ "_" := by simpa using n1
    have m2 : f2.name ≠ "_" := by simpa using n2
    simp only [Op.eqFields, if_pos m0, if_pos m1, if_pos m2, t0, t1, t2, o0, o1, o2]
    rw [step_field15 (part_str15 w _ 0 _ rfl) (part_str15 w _ 0 _ rfl) (eq_str15 w k1 k2)]
    rw [step_field15 (part_str15 w _ 1 _ rfl) (part_str15 w _ 1 _ rfl) (eq_str15 w v1 v2)]
    rw [step_field15 (part_bool15 w _ 2 _ rfl) (part_bool15 w _ 2 _ rfl) (eq_bool15 w p1 p2)]
    cases (k1.toList == k2.toList) <;> cases (v1.toList == v2.toList) <;> cases (p1 == p2) <;> simp
theorem wt_eql15 (w : World) (k1 v1 k2 v2 : ByteArray) (p1 p2 : Bool) : (binOp .eql 62 (.agg #[.string k1, .string v1, .bool p1]) (.agg #[.string k2, .string v2, .bool p2])).run Tryz.prog w = .ok (.bool (k1.toList == k2.toList && (v1.toList == v2.toList && p1 == p2))) w := by
  rw [run_eql_struct, wt_fields15]
  rfl
/-- A request as it lies in memory: of no write. -/
structure Rv where
  k : Int
  f : Int
  n : Int
  key : ByteArray
  en : ByteArray
  bo : Option Addr
  bl : Nat
  bc : Nat
def Rv.cs (r : Rv) : List Value := [.int .u8 r.k, .int .i64 r.f, .int .i64 r.n, .string ⟨#[]⟩, .string ⟨#[]⟩, .bool false, .string r.key, .string r.en, .slice r.bo r.bl r.bc]
def Rv.v (r : Rv) : Value := .agg #[.int .u8 r.k, .int .i64 r.f, .int .i64 r.n, .string ⟨#[]⟩, .string ⟨#[]⟩, .bool false, .string r.key, .string r.en, .slice r.bo r.bl r.bc]
def Rv.zero : Rv := ⟨0, 0, 0, ⟨#[]⟩, ⟨#[]⟩, none, 0, 0⟩
/-- Two requests that say the same. -/
def Rv.like (r s : Rv) : Prop := r.k = s.k ∧ r.f = s.f ∧ r.n = s.n ∧ r.key = s.key ∧ r.en = s.en ∧ r.bl = s.bl
end Go.Proofs.YtpdkdgmaofhlkaaGreatDoor

/- What == says of a write and the zero one; requests as plain things: which may be. Conditions as each names them. -/
import Derived.Test.YtakbodlicfmkjaaGreatHl9
import Derived.Test.YtakbodlicfmkjaaGreatIn15
import Derived.Test.YtakbodlicfmkjaaGreatRf15
import Derived.Laws.StructEq
namespace Go.Proofs.YtakbodlicfmkjaaGreat.O
open Go.ChangeShapes Go.WideShapes Go.ChangeAt Go.RowKit Go.Lib
set_option linter.unusedVariables false
set_option linter.unusedSimpArgs false
theorem Tryz.undWt15 : Tryz.prog.underlying 56 = some (.struct (Tryz.prog.fieldsOf 56)) := by kernel_rfl
theorem Tryz.heldWt15 : Tryz.prog.stoodInHeld 56 = false := by kernel_rfl
theorem Tryz.guardWt15 : Tryz.prog.eqGuardType Tryz.prog.depth 56 = false := by kernel_rfl
theorem Tryz.fieldsWt15 : (Tryz.prog.fieldsOf 56).toList.map (fun f => (f.name == "_", f.type, f.offset)) = [(false, 9, 0), (false, 9, 1), (false, 4, 2)] := by kernel_rfl
theorem Tryz.undBool15 : Tryz.prog.underlying 4 = some .bool := by kernel_rfl
theorem Tryz.infoStr115 : (Tryz.prog.info? 9).map (fun i => i.size) = some 1 := by kernel_rfl
theorem Tryz.infoBool115 : (Tryz.prog.info? 4).map (fun i => i.size) = some 1 := by kernel_rfl
theorem part_str15 (w : World) (cs : Array Value) (off : Nat) (v : Value) (h : cs[off]? = some v) : (part 9 cs off).run Tryz.prog w = .ok v w := by
  simp [part, isAgg, run_underlying Tryz.undStr, h, Sem.run_bind]
theorem part_bool15 (w : World) (cs : Array Value) (off : Nat) (v : Value) (h : cs[off]? = some v) : (part 4 cs off).run Tryz.prog w = .ok v w := by
  simp [part, isAgg, run_underlying Tryz.undBool15, h, Sem.run_bind]
theorem eq_str15 (w : World) (a b : ByteArray) : (Op.equalIn 9999 9 (.string a) (.string b)).run Tryz.prog w = .ok (a.toList == b.toList) w := run_equalIn_string w 9998 _ a b Tryz.undStr
theorem eq_bool15 (w : World) (a b : Bool) : (Op.equalIn 9999 4 (.bool a) (.bool b)).run Tryz.prog w = .ok (a == b) w := run_equalIn_bool w 9998 _ a b Tryz.undBool15
theorem step_field15 {P : Program} {w : World} {A B : Sem Value} {E : Value → Value → Sem Bool} {K : Sem Bool} {a b : Value} {r : Bool} (hA : A.run P w = .ok a w) (hB : B.run P w = .ok b w) (hE : (E a b).run P w = .ok r w) :
    (do let a ← A; let b ← B; let r ← E a b; if (!r) = true then pure false else K : Sem Bool).run P w = if r = true then K.run P w else .ok false w := by
  simp only [Sem.run_bind, hA, hB, hE, Result.andThen_ok]
  cases r <;> simp
set_option maxRecDepth 100000 in
theorem wt_fields15 (w : World) (k1 v1 k2 v2 : ByteArray) (p1 p2 : Bool) : (Op.equalIn 10000 56 (.agg #[.string k1, .string v1, .bool p1]) (.agg #[.string k2, .string v2, .bool p2])).run Tryz.prog w = .ok (k1.toList == k2.toList && (v1.toList == v2.toList && p1 == p2)) w := by
  rw [run_equalIn_struct w 9999 _ _ _ Tryz.undWt15 Tryz.heldWt15]
  have hF := Tryz.fieldsWt15
  obtain ⟨l, hl⟩ : ∃ l, l = (Tryz.prog.fieldsOf 56).toList := ⟨_, rfl⟩
  rw [← hl] at hF ⊢
  match l, hF with
  | [f0, f1, f2], hF =>
    simp only [List.map_cons, List.map_nil, List.cons.injEq, Prod.mk.injEq, and_true] at hF
    obtain ⟨⟨n0, t0, o0⟩, ⟨n1, t1, o1⟩, ⟨n2, t2, o2⟩⟩ := hF
    have m0 : f0.name ≠ "_" := by simpa using n0
    have m1 : f1.name ≠ "_" := by simpa using n1
    have m2 : f2.name ≠ "_" := by simpa using n2
    simp only [Op.eqFields, if_pos m0, if_pos m1, if_pos m2, t0, t1, t2, o0, o1, o2]
    rw [step_field15 (part_str15 w _ 0 _ rfl) (part_str15 w _ 0 _ rfl) (eq_str15 w k1 k2)]
    rw [step_field15 (part_str15 w _ 1 _ rfl) (part_str15 w _ 1 _ rfl) (eq_str15 w v1 v2)]
    rw [step_field15 (part_bool15 w _ 2 _ rfl) (part_bool15 w _ 2 _ rfl) (eq_bool15 w p1 p2)]
    cases (k1.toList == k2.toList) <;> cases (v1.toList == v2.toList) <;> cases (p1 == p2) <;> simp
theorem wt_eql15 (w : World) (k1 v1 k2 v2 : ByteArray) (p1 p2 : Bool) : (binOp .eql 56 (.agg #[.string k1, .string v1, .bool p1]) (.agg #[.string k2, .string v2, .bool p2])).run Tryz.prog w = .ok (.bool (k1.toList == k2.toList && (v1.toList == v2.toList && p1 == p2))) w := by
  rw [run_eql_struct, wt_fields15]
  rfl
theorem eNil : (⟨#[]⟩ : ByteArray).toList = [] := (tl_nil _).2 rfl
/-- A request as a plain thing. -/
structure Rq where
  k : Int
  f : Int
  n : Int
  wk : ByteArray
  wv : ByteArray
  wd : Bool
  key : ByteArray
  en : ByteArray
  bs : List Int
def Rv.q (r : Rv) (ns : List Int) : Rq := ⟨r.k, r.f, r.n, r.wk, r.wv, r.wd, r.key, r.en, ns⟩
instance (k : ByteArray) : Decidable (okK9 k) := by unfold okK9; infer_instance
/-- May a write be? -/
def okWr (k v : ByteArray) (d : Bool) : Prop := okK9 k ∧ v.size ≤ 1024 ∧ (v.size = 0 ∨ d = false)
instance (k v : ByteArray) (d : Bool) : Decidable (okWr k v d) := by unfold okWr; infer_instance
/-- Is a write the zero one? -/
def noWr (k v : ByteArray) (d : Bool) : Prop := k.size = 0 ∧ v.size = 0 ∧ d = false
instance (k v : ByteArray) (d : Bool) : Decidable (noWr k v d) := by unfold noWr; infer_instance
/-- Numbers that rise, each above one, at most 65536. -/
def Ab : Int → List Int → Prop
  | _, [] => True
  | a, n :: ns => a < n ∧ n ≤ 65536 ∧ Ab n ns
/-- May a request be? -/
def okR (r : Rq) : Prop := r.f ≠ 0 ∧ 0 ≤ r.n ∧ r.n ≤ 65536 ∧
  ((r.k = 1 ∧ (r.key.size = 0 ∧ r.en.size = 0) ∧ r.bs = [] ∧ 0 < r.f ∧ 0 < r.n ∧ okWr r.wk r.wv r.wd) ∨
   (r.k = 2 ∧ noWr r.wk r.wv r.wd ∧ r.bs = [] ∧ okK9 r.key ∧ r.en.size = 0) ∨
   (r.k = 3 ∧ noWr r.wk r.wv r.wd ∧ r.bs = [] ∧ r.key.size ≤ 64 ∧ r.en.size ≤ 64) ∨
   (r.k = 4 ∧ noWr r.wk r.wv r.wd ∧ (r.key.size = 0 ∧ r.en.size = 0) ∧ r.bs = []) ∨
   (r.k = 5 ∧ noWr r.wk r.wv r.wd ∧ (r.key.size = 0 ∧ r.en.size = 0) ∧ Ab r.n r.bs))
theorem tl_beq (s : ByteArray) : (s.toList == ([] : List UInt8)) = decide (s.size = 0) := by
  have := tl_nil s
  by_cases h : s.size = 0
  · rw [this.2 h]; simp [h]
  · simp [h, this]
set_option maxHeartbeats 1000000 in
theorem oiskey_any (key : ByteArray) (w : World) : Calls Tryz.prog 294 #[.string key] w fun e w' => e = .returned (.bool (decide (okK9 key))) ∧ w = w' := by
  have hE := tl_beq key
  have hE2 : (key.toList != ([] : List UInt8)) = !decide (key.size = 0) := by rw [bne, hE]
  by_cases h : key.size = 0
  · have hd : decide (okK9 key) = false := decide_eq_false (fun h2 => by have := h2.1; omega)
    rw [hd]
    simp only [h, decide_true, Bool.not_true] at hE hE2
    have e0 := eNil
    clear hd
    go_enter Tryz.func294, Tryz.ntmps294
    go_wp2
    all_goals (go_ret; exact ⟨rfl, rfl⟩)
  · have hd : decide (okK9 key) = decide ((key.size : Int) ≤ 64) := by
      rw [Bool.eq_iff_iff, decide_eq_true_eq, decide_eq_true_eq]
      unfold okK9
      omega
    rw [hd]
    simp only [h, decide_false, Bool.not_false] at hE hE2
    have e0 := eNil
    clear hd
    go_enter Tryz.func294, Tryz.ntmps294
    go_wp2
    all_goals (go_ret; exact ⟨rfl, rfl⟩)
set_option maxHeartbeats 1000000 in
theorem oisbound_any (key : ByteArray) (w : World) : Calls Tryz.prog 295 #[.string key] w fun e w' => e = .returned (.bool (decide (key.size ≤ 64))) ∧ w = w' := by
  have hE := tl_beq key
  have e0 := eNil
  by_cases h : key.size = 0
  · have hd : decide (key.size ≤ 64) = true := by simp; omega
    rw [hd]
    simp only [h, decide_true] at hE
    clear hd
    go_enter Tryz.func295, Tryz.ntmps295
    go_wp2
    all_goals (go_ret; exact ⟨rfl, rfl⟩)
  · have hd : decide (key.size ≤ 64) = decide (okK9 key) := by
      rw [Bool.eq_iff_iff, decide_eq_true_eq, decide_eq_true_eq]
      unfold okK9
      omega
    rw [hd]
    simp only [h, decide_false] at hE
    clear hd
    go_enter Tryz.func295, Tryz.ntmps295
    go_wp2_with (first | (refine (oiskey_any key _).mono ?_; rintro e w1 ⟨rfl, rfl⟩))
    all_goals (go_ret; exact ⟨rfl, rfl⟩)
set_option maxHeartbeats 1000000 in
theorem oiswrite_any (k v : ByteArray) (d : Bool) (w : World) : Calls Tryz.prog 293 #[.agg #[.string k, .string v, .bool d]] w fun e w' => e = .returned (.bool (decide (okWr k v d))) ∧ Fr [] w w' := by
  have hE := tl_beq v
  have e0 := eNil
  have HF : Hid (Fr [] w (w.alloc (.cells #[.string k, .string v, .bool d] 56))) := Fr.alloc _ _ _
  by_cases hk : okK9 k
  · by_cases hv : v.size ≤ 1024
    · by_cases h0 : v.size = 0
      · have hd : decide (okWr k v d) = true := by simp [okWr, hk, h0]
        rw [hd]
        have hv1 : (v.size : Int) ≤ 1024 := by omega
        simp only [h0, decide_true] at hE
        go_enter Tryz.func293, Tryz.ntmps293
        go_wp2_with fail
        refine (oiskey_any k _).mono ?_
        rw [decide_eq_true hk]
        rintro e w1 ⟨rfl, rfl⟩
        go_wp2
        all_goals (go_ret; exact ⟨rfl, HF.out⟩)
      · have hd : decide (okWr k v d) = !d := by cases d <;> simp [okWr, hk, hv, h0]
        rw [hd]
        have hv1 : (v.size : Int) ≤ 1024 := by omega
        simp only [h0, decide_false] at hE
        go_enter Tryz.func293, Tryz.ntmps293
        go_wp2_with fail
        refine (oiskey_any k _).mono ?_
        rw [decide_eq_true hk]
        rintro e w1 ⟨rfl, rfl⟩
        go_wp2
        all_goals (go_ret; exact ⟨rfl, HF.out⟩)
    · have hd : decide (okWr k v d) = false := by simp [okWr, hv]
      rw [hd]
      have hv1 : ¬ (v.size : Int) ≤ 1024 := by omega
      go_enter Tryz.func293, Tryz.ntmps293
      go_wp2_with fail
      refine (oiskey_any k _).mono ?_
      rw [decide_eq_true hk]
      rintro e w1 ⟨rfl, rfl⟩
      go_wp2
      all_goals (go_ret; exact ⟨rfl, HF.out⟩)
  · have hd : decide (okWr k v d) = false := by simp [okWr, hk]
    rw [hd]
    go_enter Tryz.func293, Tryz.ntmps293
    go_wp2_with fail
    refine (oiskey_any k _).mono ?_
    rw [decide_eq_false hk]
    rintro e w1 ⟨rfl, rfl⟩
    go_wp2
    all_goals (go_ret; exact ⟨rfl, HF.out⟩)
end Go.Proofs.YtakbodlicfmkjaaGreat.O

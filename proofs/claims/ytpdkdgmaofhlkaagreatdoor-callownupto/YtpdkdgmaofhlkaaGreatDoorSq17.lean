/- The statements' helpers SameInts, SameReq. Conditions as each names them. -/
import Derived.Test.YtpdkdgmaofhlkaaGreatDoorIr17
import Derived.Test.YtpdkdgmaofhlkaaGreatDoorCk17
import Derived.Laws.StructEq
namespace Go.Proofs.YtpdkdgmaofhlkaaGreatDoor
open Go.ChangeShapes Go.WideShapes Go.ChangeAt Go.RowKit Go.Lib
set_option linter.unusedVariables false
set_option linter.unusedSimpArgs false

theorem Tryz.undWt15 : Tryz.prog.underlying 62 = some (.struct (Tryz.prog.fieldsOf 62)) := by kernel_rfl
theorem Tryz.heldWt15 : Tryz.prog.stoodInHeld 62 = false := by kernel_rfl
theorem Tryz.guardWt15 : Tryz.prog.eqGuardType Tryz.prog.depth 62 = false := by kernel_rfl
theorem Tryz.fieldsWt15 : (Tryz.prog.fieldsOf 62).toList.map (fun f => (f.name == "_", f.type, f.offset)) = [(false, 9, 0), (false, 9, 1), (false, 4, 2)] := by kernel_rfl
theorem Tryz.undBool15 : Tryz.prog.underlying 4 = some .bool := by kernel_rfl
theorem Tryz.infoStr115 : (Tryz.prog.info? 9).map (fun i => i.size) = some 1 := by kernel_rfl
theorem Tryz.infoBool115 : (Tryz.prog.info? 4).map (fun i => i.size) = some 1 := by kernel_rfl
theorem part_str15 (w : World) (cs : Array Value) (off : Nat) (v : Value) (h : cs[off]? = some v) : (part 9 cs off).run Tryz.prog w = .ok v w := by
  simp [part, isAgg, run_underlying Tryz.undStr, h, Sem.run_bind]
theorem part_bool15 (w : World) (cs : Array Value) (off : Nat) (v : Value) (h : cs[off]? = some v) : (part 4 cs off).run Tryz.prog w = .ok v w := by
  simp [part, isAgg, run_underlying Tryz.undBool15, h, Sem.run_bind]
theorem eq_str15 (w : World) (a b : ByteArray) : (Op.equalIn 9999 9 (.string a) (.string b)).run Tryz.prog w = .ok (a.toList == b.toList) w := run_equalIn_string w 9998 _ a b Tryz.undStr
theorem eq_bool15 (w : World) (a b : Bool) : (Op.equalIn 9999 4 (.bool a) (.bool b)).run Tryz.prog w = .ok (a == b) w := run_equalIn_bool w 9998 _ a b Tryz.undBool15
theorem step_field15 {P : Program} {w : World} {A B : Sem Value} {E : Value → Value → Sem Bool} {K : Sem Bool} {a b : Value} {r : Bool} (hA : A.run P w = .ok a w) (hB : B.run P w = .ok b w) (hE : (E a b).run P w = .ok r w) :
    (do let a ← A; let b ← B; let r ← E a b; if (!r) = true then pure false else K : Sem Bool).run P w = if r = true then K.run P w else .ok false w := by
  simp only [Sem.run_bind, hA, hB, hE, Result.andThen_ok]
  cases r <;> simp
set_option maxRecDepth 100000 in
theorem wt_fields15 (w : World) (k1 v1 k2 v2 : ByteArray) (p1 p2 : Bool) : (Op.equalIn 10000 62 (.agg #[.string k1, .string v1, .bool p1]) (.agg #[.string k2, .string v2, .bool p2])).run Tryz.prog w = .ok (k1.toList == k2.toList && (v1.toList == v2.toList && p1 == p2)) w := by
  rw [run_equalIn_struct w 9999 _ _ _ Tryz.undWt15 Tryz.heldWt15]
  have hF := Tryz.fieldsWt15
  obtain ⟨l, hl⟩ : ∃ l, l = (Tryz.prog.fieldsOf 62).toList := ⟨_, rfl⟩
  rw [← hl] at hF ⊢
  match l, hF with
  | [f0, f1, f2], hF =>
    simp only [List.map_cons, List.map_nil, List.cons.injEq, Prod.mk.injEq, and_true] at hF
    obtain ⟨⟨n0, t0, o0⟩, ⟨n1, t1, o1⟩, ⟨n2, t2, o2⟩⟩ := hF
    have m0 : f0.name ≠ "_" := by simpa using n0
    have m1 : f1.name ≠ "_" := by simpa using n1
    have m2 : f2.name ≠ "_" := by simpa using n2
    simp only [Op.eqFields, if_pos m0, if_pos m1, if_pos m2, t0, t1, t2, o0, o1, o2]
    rw [step_field15 (part_str15 w _ 0 _ rfl) (part_str15 w _ 0 _ rfl) (eq_str15 w k1 k2)]
    rw [step_field15 (part_str15 w _ 1 _ rfl) (part_str15 w _ 1 _ rfl) (eq_str15 w v1 v2)]
    rw [step_field15 (part_bool15 w _ 2 _ rfl) (part_bool15 w _ 2 _ rfl) (eq_bool15 w p1 p2)]
    cases (k1.toList == k2.toList) <;> cases (v1.toList == v2.toList) <;> cases (p1 == p2) <;> simp
theorem wt_eql15 (w : World) (k1 v1 k2 v2 : ByteArray) (p1 p2 : Bool) : (binOp .eql 62 (.agg #[.string k1, .string v1, .bool p1]) (.agg #[.string k2, .string v2, .bool p2])).run Tryz.prog w = .ok (.bool (k1.toList == k2.toList && (v1.toList == v2.toList && p1 == p2))) w := by
  rw [run_eql_struct, wt_fields15]
  rfl
/-- A request as it lies in memory: of no write. -/
structure Rv where
  k : Int
  f : Int
  n : Int
  key : ByteArray
  en : ByteArray
  bo : Option Addr
  bl : Nat
  bc : Nat
def Rv.cs (r : Rv) : List Value := [.int .u8 r.k, .int .i64 r.f, .int .i64 r.n, .string ⟨#[]⟩, .string ⟨#[]⟩, .bool false, .string r.key, .string r.en, .slice r.bo r.bl r.bc]
def Rv.v (r : Rv) : Value := .agg #[.int .u8 r.k, .int .i64 r.f, .int .i64 r.n, .string ⟨#[]⟩, .string ⟨#[]⟩, .bool false, .string r.key, .string r.en, .slice r.bo r.bl r.bc]
def Rv.zero : Rv := ⟨0, 0, 0, ⟨#[]⟩, ⟨#[]⟩, none, 0, 0⟩
/-- Two requests that say the same. -/
def Rv.like (r s : Rv) : Prop := r.k = s.k ∧ r.f = s.f ∧ r.n = s.n ∧ r.key = s.key ∧ r.en = s.en ∧ r.bl = s.bl
/- The statements' helpers SameInts, SameReq. Conditions as each names them. -/
import Derived.Test.YtpdkdgmaofhlkaaIr17
import Derived.Test.YtpdkdgmaofhlkaaCk17
import Derived.Laws.StructEq
namespace Go.Proofs.Ytpdkdgmaofhlkaa
open Go.ChangeShapes Go.WideShapes Go.ChangeAt Go.RowKit Go.Lib
set_option linter.unusedVariables false
set_option linter.unusedSimpArgs false

theorem Try.undWt15 : Try.prog.underlying 53 = some (.struct (Try.prog.fieldsOf 53)) := by kernel_rfl
theorem Try.heldWt15 : Try.prog.stoodInHeld 53 = false := by kernel_rfl
theorem Try.guardWt15 : Try.prog.eqGuardType Try.prog.depth 53 = false := by kernel_rfl
theorem Try.fieldsWt15 : (Try.prog.fieldsOf 53).toList.map (fun f => (f.name == "_", f.type, f.offset)) = [(false, 9, 0), (false, 9, 1), (false, 4, 2)] := by kernel_rfl
theorem Try.undBool15 : Try.prog.underlying 4 = some .bool := by kernel_rfl
theorem Try.infoStr115 : (Try.prog.info? 9).map (fun i => i.size) = some 1 := by kernel_rfl
theorem Try.infoBool115 : (Try.prog.info? 4).map (fun i => i.size) = some 1 := by kernel_rfl
theorem part_str15 (w : World) (cs : Array Value) (off : Nat) (v : Value) (h : cs[off]? = some v) : (part 9 cs off).run Try.prog w = .ok v w := by
  simp [part, isAgg, run_underlying Try.undStr, h, Sem.run_bind]
theorem part_bool15 (w : World) (cs : Array Value) (off : Nat) (v : Value) (h : cs[off]? = some v) : (part 4 cs off).run Try.prog w = .ok v w := by
  simp [part, isAgg, run_underlying Try.undBool15, h, Sem.run_bind]
theorem eq_str15 (w : World) (a b : ByteArray) : (Op.equalIn 9999 9 (.string a) (.string b)).run Try.prog w = .ok (a.toList == b.toList) w := run_equalIn_string w 9998 _ a b Try.undStr
theorem eq_bool15 (w : World) (a b : Bool) : (Op.equalIn 9999 4 (.bool a) (.bool b)).run Try.prog w = .ok (a == b) w := run_equalIn_bool w 9998 _ a b Try.undBool15
theorem step_field15 {P : Program} {w : World} {A B : Sem Value} {E : Value → Value → Sem Bool} {K : Sem Bool} {a b : Value} {r : Bool} (hA : A.run P w = .ok a w) (hB : B.run P w = .ok b w) (hE : (E a b).run P w = .ok r w) :
    (do let a ← A; let b ← B; let r ← E a b; if (!r) = true then pure false else K : Sem Bool).run P w = if r = true then K.run P w else .ok false w := by
  simp only [Sem.run_bind, hA, hB, hE, Result.andThen_ok]
  cases r <;> simp
set_option maxRecDepth 100000 in
theorem wt_fields15 (w : World) (k1 v1 k2 v2 : ByteArray) (p1 p2 : Bool) : (Op.equalIn 10000 53 (.agg #[.string k1, .string v1, .bool p1]) (.agg #[.string k2, .string v2, .bool p2])).run Try.prog w = .ok (k1.toList == k2.toList && (v1.toList == v2.toList && p1 == p2)) w := by
  rw [run_equalIn_struct w 9999 _ _ _ Try.undWt15 Try.heldWt15]
  have hF := Try.fieldsWt15
  obtain ⟨l, hl⟩ : ∃ l, l = (Try.prog.fieldsOf 53).toList := ⟨_, rfl⟩
  rw [← hl] at hF ⊢
  match l, hF with
  | [f0, f1, f2], hF =>
    simp only [List.map_cons, List.map_nil, List.cons.injEq, Prod.mk.injEq, and_true] at hF
    obtain ⟨⟨n0, t0, o0⟩, ⟨n1, t1, o1⟩, ⟨n2, t2, o2⟩⟩ := hF
    have m0 : f0.name ≠ "_" := by simpa using n0
    have m1 : f1.name ≠ "_" := by simpa using n1
    have m2 : f2.name ≠ "_" := by simpa using n2
    simp only [Op.eqFields, if_pos m0, if_pos m1, if_pos m2, t0, t1, t2, o0, o1, o2]
    rw [step_field15 (part_str15 w _ 0 _ rfl) (part_str15 w _ 0 _ rfl) (eq_str15 w k1 k2)]
    rw [step_field15 (part_str15 w _ 1 _ rfl) (part_str15 w _ 1 _ rfl) (eq_str15 w v1 v2)]
    rw [step_field15 (part_bool15 w _ 2 _ rfl) (part_bool15 w _ 2 _ rfl) (eq_bool15 w p1 p2)]
    cases (k1.toList == k2.toList) <;> cases (v1.toList == v2.toList) <;> cases (p1 == p2) <;> simp
theorem wt_eql15 (w : World) (k1 v1 k2 v2 : ByteArray) (p1 p2 : Bool) : (binOp .eql 53 (.agg #[.string k1, .string v1, .bool p1]) (.agg #[.string k2, .string v2, .bool p2])).run Try.prog w = .ok (.bool (k1.toList == k2.toList && (v1.toList == v2.toList && p1 == p2))) w := by
  rw [run_eql_struct, wt_fields15]
  rfl
set_option maxHeartbeats 2000000 in
set_option maxRecDepth 100000 in
theorem sameI17 (a b : Option Addr) (L ca cb : Nat) (xs : List Int) (w : World) (ha : IRs w a xs) (hb : IRs w b xs) (hL : L = xs.length) (hLl : L < 2 ^ 40) :
    Calls Try.prog 44 #[.slice a L ca, .slice b L cb] w fun e w' => e = .returned (.bool true) ∧ Fr [] w w' := by
  have HL : Hid (L = xs.length) := hL
  have hne : ((L : Int) != L) = false := by simp
  clear hL
  by_cases h0 : 0 < L
  · obtain ⟨ba, oa, rfl, _, hca⟩ := ha.lies (by rw [← HL.out]; exact h0)
    obtain ⟨bb, ob, rfl, _, hcb⟩ := hb.lies (by rw [← HL.out]; exact h0)
    rw [← HL.out] at hca hcb
    go_enter Try.func44, Try.ntmps44
    go_wp2_with fail
    go_loopw [5] (fun ii wr => ∃ (i q : Nat), ii = .int .i64 i ∧ i ≤ L ∧ wr = w.drewN q) (fun ii _ => L - (RowKit.intOf ii).toNat)
    case atStart => exact ⟨0, 0, rfl, Nat.zero_le _, rfl⟩
    case round =>
      obtain ⟨i, q, rfl, hiL, rfl⟩ := hrel
      by_cases hi : i < L
      · have hx := hca i hi
        have hy := hcb i hi
        obtain ⟨x, hxx⟩ : ∃ x, x = xs.getD i 0 := ⟨_, rfl⟩
        rw [← hxx] at hx hy
        clear hxx hca hcb
        have hb1 : (x != x) = false := by simp
        go_wp2_with fail
        go_quiet (fail)
        go_wp2
        go_roundw
        case rel => exact ⟨i + 1, q + nq, by simp, by omega, by simp⟩
        case measure => simp [RowKit.intOf]; omega
      · go_wp2
        go_ret
        exact ⟨rfl, Fr.drewN _ _ _⟩
  · obtain rfl : L = 0 := by omega
    go_enter Try.func44, Try.ntmps44
    go_wp2_with fail
    refine wp_loop_rounds 1 ?_
    rw [rounds_succ]
    go_wp2
    go_ret
    exact ⟨rfl, Fr.refl _ _⟩
/-- A request as it lies in memory: of no write. -/
structure Rv where
  k : Int
  f : Int
  n : Int
  key : ByteArray
  en : ByteArray
  bo : Option Addr
  bl : Nat
  bc : Nat
def Rv.cs (r : Rv) : List Value := [.int .u8 r.k, .int .i64 r.f, .int .i64 r.n, .string ⟨#[]⟩, .string ⟨#[]⟩, .bool false, .string r.key, .string r.en, .slice r.bo r.bl r.bc]
def Rv.v (r : Rv) : Value := .agg #[.int .u8 r.k, .int .i64 r.f, .int .i64 r.n, .string ⟨#[]⟩, .string ⟨#[]⟩, .bool false, .string r.key, .string r.en, .slice r.bo r.bl r.bc]
def Rv.zero : Rv := ⟨0, 0, 0, ⟨#[]⟩, ⟨#[]⟩, none, 0, 0⟩
/-- Two requests that say the same. -/
def Rv.like (r s : Rv) : Prop := r.k = s.k ∧ r.f = s.f ∧ r.n = s.n ∧ r.key = s.key ∧ r.en = s.en ∧ r.bl = s.bl
set_option maxHeartbeats 4000000 in
set_option maxRecDepth 100000 in
theorem sameRq_any (r s : Rv) (ns : List Int) (w : World) (h : Rv.like r s) (hr : IRs w r.bo ns) (hs : IRs w s.bo ns) (hl : r.bl = ns.length) (hlt : r.bl < 1099511627776) : Calls Try.prog 16 #[r.v, s.v] w fun e w' => e = .returned (.bool true) ∧ Fr [] w w' := by
  obtain ⟨k, f, n, key, en, bo, bl, bc⟩ := r
  obtain ⟨k2, f2, n2, key2, en2, bo2, bl2, bc2⟩ := s
  obtain ⟨h1, h2, h3, h4, h5, h6⟩ := h
  simp only at h1 h2 h3 h4 h5 h6 hl hlt hr hs
  subst h1 h2 h3 h4 h5 h6
  have hw : ∀ W, (binOp .eql 53 (.agg #[.string ⟨#[]⟩, .string ⟨#[]⟩, .bool false]) (.agg #[.string ⟨#[]⟩, .string ⟨#[]⟩, .bool false])).run Try.prog W = .ok (.bool true) W := fun W => by
    have := wt_eql15 W ⟨#[]⟩ ⟨#[]⟩ ⟨#[]⟩ ⟨#[]⟩ false false
    simpa using this
  have HS : Hid (∀ W, Fr [] w W → Calls Try.prog 44 #[.slice bo bl bc, .slice bo2 bl bc2] W fun e w' => e = .returned (.bool true) ∧ Fr [] W w') := fun W hf => sameI17 bo bo2 bl bc bc2 ns W (hr.keep hf) (hs.keep hf) hl (by omega)
  clear hr hs hl hlt
  simp only [Rv.v]
  go_enter Try.func16, Try.ntmps16
  go_wp2_with fail
  refine (HS.out _ ((Fr.alloc _ _ _).then (Fr.alloc _ _ _))).mono ?_
  rintro e w1 ⟨rfl, hf⟩
  have HF : Hid (Fr [] w w1) := ((Fr.alloc _ _ _).then (Fr.alloc _ _ _)).then hf
  clear hf
  go_wp2
  go_ret
  exact ⟨rfl, HF.out⟩
end Go.Proofs.Ytpdkdgmaofhlkaa

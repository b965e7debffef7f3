/- Texts of this claim laid together, one behind the other: contracts and plain lemmas; conditions as each names them. -/
import Derived.Test.YtibgdfjfhjckoaaGreatDoorGp24
import Derived.Laws.StructEq
/- What == and != say of two writes. No conditions. -/
namespace Go.Proofs.YtibgdfjfhjckoaaGreatDoor
open Go.ChangeShapes Go.WideShapes Go.ChangeAt Go.RowKit Go.Lib
set_option linter.unusedVariables false
theorem Tryz.undWt : Tryz.prog.underlying 81 = some (.struct (Tryz.prog.fieldsOf 81)) := by kernel_rfl
theorem Tryz.heldWt : Tryz.prog.stoodInHeld 81 = false := by kernel_rfl
theorem Tryz.guardWt : Tryz.prog.eqGuardType Tryz.prog.depth 81 = false := by kernel_rfl
theorem Tryz.fieldsWt : (Tryz.prog.fieldsOf 81).toList.map (fun f => (f.name == "_", f.type, f.offset)) = [(false, 9, 0), (false, 9, 1), (false, 4, 2)] := by kernel_rfl
theorem Tryz.undBool : Tryz.prog.underlying 4 = some .bool := by kernel_rfl
theorem Tryz.infoStr1 : (Tryz.prog.info? 9).map (fun i => i.size) = some 1 := by kernel_rfl
theorem Tryz.infoBool1 : (Tryz.prog.info? 4).map (fun i => i.size) = some 1 := by kernel_rfl
theorem part_str (w : World) (cs : Array Value) (off : Nat) (v : Value) (h : cs[off]? = some v) : (part 9 cs off).run Tryz.prog w = .ok v w := by
  simp [part, isAgg, run_underlying Tryz.undStr, h, Sem.run_bind]
theorem part_bool (w : World) (cs : Array Value) (off : Nat) (v : Value) (h : cs[off]? = some v) : (part 4 cs off).run Tryz.prog w = .ok v w := by
  simp [part, isAgg, run_underlying Tryz.undBool, h, Sem.run_bind]
theorem eq_str (w : World) (a b : ByteArray) : (Op.equalIn 9999 9 (.string a) (.string b)).run Tryz.prog w = .ok (a.toList == b.toList) w := run_equalIn_string w 9998 _ a b Tryz.undStr
theorem eq_bool (w : World) (a b : Bool) : (Op.equalIn 9999 4 (.bool a) (.bool b)).run Tryz.prog w = .ok (a == b) w := run_equalIn_bool w 9998 _ a b Tryz.undBool
theorem step_field {P : Program} {w : World} {A B : Sem Value} {E : Value → Value → Sem Bool} {K : Sem Bool} {a b : Value} {r : Bool} (hA : A.run P w = .ok a w) (hB : B.run P w = .ok b w) (hE : (E a b).run P w = .ok r w) :
    (do let a ← A; let b ← B; let r ← E a b; if (!r) = true then pure false else K : Sem Bool).run P w = if r = true then K.run P w else .ok false w := by
  simp only [Sem.run_bind, hA, hB, hE, Result.andThen_ok]
  cases r <;> simp
set_option maxRecDepth 100000 in
theorem wt_fields (w : World) (k1 v1 k2 v2 : ByteArray) (p1 p2 : Bool) : (Op.equalIn 10000 81 (.agg #[.string k1, .string v1, .bool p1]) (.agg #[.string k2, .string v2, .bool p2])).run Tryz.prog w = .ok (k1.toList == k2.toList && (v1.toList == v2.toList && p1 == p2)) w := by
  rw [run_equalIn_struct w 9999 _ _ _ Tryz.undWt Tryz.heldWt]
  have hF := Tryz.fieldsWt
  obtain ⟨l, hl⟩ : ∃ l, l = (Tryz.prog.fieldsOf 81).toList := ⟨_, rfl⟩
  rw [← hl] at hF ⊢
  match l, hF with
  | [f0, f1, f2], hF =>
    simp only [List.map_cons, List.map_nil, List.cons.injEq, Prod.mk.injEq, and_true] at hF
    obtain ⟨⟨n0, t0, o0⟩, ⟨n1, t1, o1⟩, ⟨n2, t2, o2⟩⟩ := hF
    have m0 : f0.name ≠ "_" := by simpa using n0
    have m1 : f1.name ≠ "_" := by simpa using n1
    have m2 : f2.name ≠ "_" := by simpa using n2
    simp only [Op.eqFields, if_pos m0, if_pos m1, if_pos m2, t0, t1, t2, o0, o1, o2]
    rw [step_field (part_str w _ 0 _ rfl) (part_str w _ 0 _ rfl) (eq_str w k1 k2)]
    rw [step_field (part_str w _ 1 _ rfl) (part_str w _ 1 _ rfl) (eq_str w v1 v2)]
    rw [step_field (part_bool w _ 2 _ rfl) (part_bool w _ 2 _ rfl) (eq_bool w p1 p2)]
    cases (k1.toList == k2.toList) <;> cases (v1.toList == v2.toList) <;> cases (p1 == p2) <;> simp
/-- Are two writes the same? -/
def sameW (x y : Wt) : Bool := x.key.toList == y.key.toList && (x.val.toList == y.val.toList && x.drop == y.drop)
theorem sameW_iff (x y : Wt) : sameW x y = true ↔ x = y := by
  obtain ⟨k1, v1, p1⟩ := x
  obtain ⟨k2, v2, p2⟩ := y
  simp only [sameW, Bool.and_eq_true, beq_iff_eq, tl_inj, Wt.mk.injEq]
theorem wt_in (w : World) (x y : Wt) : (Op.equalIn 10000 81 (.agg #[.string x.key, .string x.val, .bool x.drop]) (.agg #[.string y.key, .string y.val, .bool y.drop])).run Tryz.prog w = .ok (sameW x y) w := wt_fields w _ _ _ _ _ _
theorem wt_neq (w : World) (x y : Wt) : (binOp .neq 81 (.agg #[.string x.key, .string x.val, .bool x.drop]) (.agg #[.string y.key, .string y.val, .bool y.drop])).run Tryz.prog w = .ok (.bool (!sameW x y)) w := by
  rw [run_neq_struct, wt_fields]
  rfl
theorem wt_eql (w : World) (x y : Wt) : (binOp .eql 81 (.agg #[.string x.key, .string x.val, .bool x.drop]) (.agg #[.string y.key, .string y.val, .bool y.drop])).run Tryz.prog w = .ok (.bool (sameW x y)) w := by
  rw [run_eql_struct, wt_fields]
  rfl
end Go.Proofs.YtibgdfjfhjckoaaGreatDoor
/- The statements' own helpers: SameWrites, SameTxn, WritesSize, TxnSize, Beyond of two; a transaction that came in. Conditions as each names them. -/
namespace Go.Proofs.YtibgdfjfhjckoaaGreatDoor
open Go.ChangeShapes Go.WideShapes Go.ChangeAt Go.RowKit Go.Lib
set_option linter.unusedVariables false

theorem wsame_upto (xs ys : List Wt) (hl : xs.length = ys.length) (h : ∀ j, j < xs.length → xs.getD j Wt.zero = ys.getD j Wt.zero) : xs = ys := by
  apply List.ext_getElem hl
  intro i h1 h2
  have := h i h1
  simpa [List.getD, h1, h2] using this

set_option maxHeartbeats 4000000 in
set_option maxRecDepth 100000 in
theorem sameWs_any (a b : Option Addr) (L M ca cb : Nat) (R : Bool) (xs ys : List Wt) (w : World) (ha : WRs w a xs) (hb : WRs w b ys) (hL : L = xs.length) (hM : M = ys.length) (hR : R = true ↔ xs = ys) :
    Calls Tryz.prog 27 #[.slice a L ca, .slice b M cb] w fun e w' => e = .returned (.bool R) ∧ ∃ q, w' = w.drewN q := by
  have HR : Hid (R = true ↔ xs = ys) := hR
  have HL : Hid (L = xs.length) := hL
  have HM : Hid (M = ys.length) := hM
  have hLl : L ≤ 140737488355328 := by have := ha.few; omega
  have hMl : M ≤ 140737488355328 := by have := hb.few; omega
  clear hR hL hM
  by_cases hLM : L = M
  · subst hLM
    have hne : ((L : Int) != L) = false := by simp
    by_cases h0 : 0 < L
    · obtain ⟨ba, oa, rfl, _, hca⟩ := ha.lies (by rw [← HL.out]; exact h0)
      obtain ⟨bb, ob, rfl, _, hcb⟩ := hb.lies (by rw [← HM.out]; exact h0)
      rw [← HL.out] at hca
      rw [← HM.out] at hcb
      go_enter Tryz.func27, Tryz.ntmps27
      go_wp2_with fail
      go_loopw [5] (fun ii wr => ∃ (i q : Nat), ii = .int .i64 i ∧ i ≤ L ∧ Hid (∀ j, j < i → xs.getD j Wt.zero = ys.getD j Wt.zero) ∧ wr = w.drewN q) (fun ii _ => L - (RowKit.intOf ii).toNat)
      case atStart => exact ⟨0, 0, rfl, Nat.zero_le _, fun j hj => by omega, rfl⟩
      case round =>
        obtain ⟨i, q, rfl, hiL, HE, rfl⟩ := hrel
        by_cases hi : i < L
        · obtain ⟨c0, c1, c2⟩ := hca i hi
          obtain ⟨d0, d1, d2⟩ := hcb i hi
          obtain ⟨x, hxx⟩ : ∃ x, x = xs.getD i Wt.zero := ⟨_, rfl⟩
          obtain ⟨y, hyy⟩ : ∃ y, y = ys.getD i Wt.zero := ⟨_, rfl⟩
          rw [← hxx] at c0 c1 c2
          rw [← hyy] at d0 d1 d2
          have HX : Hid (x = xs.getD i Wt.zero) := hxx
          have HY : Hid (y = ys.getD i Wt.zero) := hyy
          clear hxx hyy hca hcb
          have hq : ∀ w', (Op.equalIn 10000 81 (.agg #[.string x.key, .string x.val, .bool x.drop]) (.agg #[.string y.key, .string y.val, .bool y.drop])).run Tryz.prog w' = .ok (sameW x y) w' := fun w' => wt_in w' x y
          have hgd := Tryz.guardWt
          obtain ⟨B, hB⟩ : ∃ B, B = sameW x y := ⟨_, rfl⟩
          rw [← hB] at hq
          have HB : Hid (B = true ↔ x = y) := by rw [hB]; exact sameW_iff x y
          clear hB
          cases B with
          | true =>
            have hxy : x = y := HB.out.1 rfl
            have HE2 : Hid (∀ j, j < i + 1 → xs.getD j Wt.zero = ys.getD j Wt.zero) := by
              intro j hj
              by_cases hji : j = i
              · subst hji; exact HX.out.symm.trans (hxy.trans HY.out)
              · exact HE.out j (by omega)
            clear HB hxy
            go_wp2_with fail
            go_quiet (fail)
            go_wp2
            go_roundw
            case rel => exact ⟨i + 1, _, by simp, by omega, HE2, rfl⟩
            case measure => simp [RowKit.intOf]; omega
          | false =>
            have HR' : Hid (R = false) := by
              show R = false
              have : ¬ R = true := fun h => by
                have hxy : x = y := by rw [HX.out, HY.out, HR.out.1 h]
                exact absurd (HB.out.2 hxy) (by simp)
              simpa using this
            clear HB
            go_wp2_with fail
            go_quiet (fail)
            go_wp2
            go_ret
            rw [HR'.out]
            exact ⟨rfl, q + nq, by simp⟩
        · have HR' : Hid (R = true) := by
            show R = true
            exact HR.out.2 (wsame_upto xs ys (HL.out.symm.trans HM.out) (fun j hj => HE.out j (by rw [← HL.out] at hj; omega)))
          go_wp2
          go_ret
          rw [HR'.out]
          exact ⟨rfl, _, rfl⟩
    · obtain rfl : L = 0 := by omega
      have HR' : Hid (R = true) := by
        show R = true
        rw [HR.out, List.eq_nil_of_length_eq_zero HL.out.symm, List.eq_nil_of_length_eq_zero HM.out.symm]
      go_enter Tryz.func27, Tryz.ntmps27
      go_wp2_with fail
      refine wp_loop_rounds 1 ?_
      rw [rounds_succ]
      go_wp2
      go_ret
      rw [HR'.out]
      exact ⟨rfl, 0, rfl⟩
  · have hne : ((L : Int) != M) = true := by rw [bne_iff_ne]; omega
    have HR' : Hid (R = false) := by
      show R = false
      have : ¬ R = true := fun h => hLM (by rw [HL.out, HM.out, HR.out.1 h])
      simpa using this
    clear hLM
    go_enter Tryz.func27, Tryz.ntmps27
    go_wp2
    go_ret
    rw [HR'.out]
    exact ⟨rfl, 0, rfl⟩

set_option maxHeartbeats 2000000 in
set_option maxRecDepth 100000 in
theorem sameTxn_any (m n : Int) (a b : Option Addr) (L M ca cb : Nat) (R : Bool) (xs ys : List Wt) (w : World) (ha : WRs w a xs) (hb : WRs w b ys) (hL : L = xs.length) (hM : M = ys.length) (hR : R = true ↔ m = n ∧ xs = ys) :
    Calls Tryz.prog 10 #[.agg #[.int .i64 m, .slice a L ca], .agg #[.int .i64 n, .slice b M cb]] w fun e w' => e = .returned (.bool R) ∧ Fr [] w w' := by
  have HR : Hid (R = true ↔ m = n ∧ xs = ys) := hR
  have HL : Hid (L = xs.length) := hL
  have HM : Hid (M = ys.length) := hM
  clear hR hL hM
  have hF0 : Fr [] w ((w.alloc (.cells #[.int .i64 m, .slice a L ca] 49)).alloc (.cells #[.int .i64 n, .slice b M cb] 49)) := (Fr.alloc [] w _).then (Fr.alloc [] _ _)
  have ha0 := ha.keep hF0
  have hb0 := hb.keep hF0
  by_cases h : m = n
  · subst h
    have hbb : (m == m) = true := by simp
    have HR' : Hid (R = true ↔ xs = ys) := by show _ ↔ _; rw [HR.out]; simp
    clear HR
    go_enter Tryz.func10, Tryz.ntmps10
    go_wp2_with fail
    refine (sameWs_any a b L M ca cb R xs ys _ ha0 hb0 HL.out HM.out HR'.out).mono ?_
    rintro e w1 ⟨rfl, q, rfl⟩
    go_wp2
    go_ret
    exact ⟨rfl, hF0.then (Fr.drewN _ _ _)⟩
  · have hbb : (m == n) = false := by rw [beq_eq_false_iff_ne]; exact h
    have HR' : Hid (R = false) := by
      show R = false
      have : ¬ R = true := fun hh => h (HR.out.1 hh).1
      simpa using this
    clear h
    go_enter Tryz.func10, Tryz.ntmps10
    go_wp2
    go_ret
    rw [HR'.out]
    exact ⟨rfl, hF0⟩

/-! ### How great a transaction is -/
def wsum : List Wt → Nat
  | [] => 0
  | x :: r => x.key.size + x.val.size + wsum r
theorem wsum_snoc (l : List Wt) (x : Wt) : wsum (l ++ [x]) = wsum l + x.key.size + x.val.size := by
  induction l with
  | nil => simp [wsum]
  | cons a r ih => simp only [List.cons_append, wsum, ih]; omega
/-- The statements' size of some writes: at least 1048577 if they are more. -/
def Wide (N : Nat) (ws : List Wt) : Prop := ws.length ≤ N ∧ N ≤ 2^50 ∧ (N ≤ 1048576 → ∀ x ∈ ws, x.key.size ≤ 1048576 ∧ x.val.size ≤ 1048576)
end Go.Proofs.YtibgdfjfhjckoaaGreatDoor

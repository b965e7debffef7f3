/- The statements' own helpers: SameWrites, SameTxn, WritesSize, TxnSize, Beyond of two; a transaction that came in. Conditions as each names them. -/
import Derived.Test.YtibgdfjfhjckoaaGreatDoorEq
namespace Go.Proofs.YtibgdfjfhjckoaaGreatDoor
open Go.ChangeShapes Go.WideShapes Go.ChangeAt Go.RowKit Go.Lib
set_option linter.unusedVariables false

theorem wsame_upto (xs ys : List Wt) (hl : xs.length = ys.length) (h : ∀ j, j < xs.length → xs.getD j Wt.zero = ys.getD j Wt.zero) : xs = ys := by
  apply List.ext_getElem hl
  intro i h1 h2
  have := h i h1
  simpa [List.getD, h1, h2] using this

set_option maxHeartbeats 4000000 in
set_option maxRecDepth 100000 in
theorem sameWs_any (a b : Option Addr) (L M ca cb : Nat) (R : Bool) (xs ys : List Wt) (w : World) (ha : WRs w a xs) (hb : WRs w b ys) (hL : L = xs.length) (hM : M = ys.length) (hR : R = true ↔ xs = ys) :
    Calls Tryz.prog 27 #[.slice a L ca, .slice b M cb] w fun e w' => e = .returned (.bool R) ∧ ∃ q, w' = w.drewN q := by
  have HR : Hid (R = true ↔ xs = ys) := hR
  have HL : Hid (L = xs.length) := hL
  have HM : Hid (M = ys.length) := hM
  have hLl : L ≤ 140737488355328 := by have := ha.few; omega
  have hMl : M ≤ 140737488355328 := by have := hb.few; omega
  clear hR hL hM
  by_cases hLM : L = M
  · subst hLM
    have hne : ((L : Int) != L) = false := by simp
    by_cases h0 : 0 < L
    · obtain ⟨ba, oa, rfl, _, hca⟩ := ha.lies (by rw [← HL.out]; exact h0)
      obtain ⟨bb, ob, rfl, _, hcb⟩ := hb.lies (by rw [← HM.out]; exact h0)
      rw [← HL.out] at hca
      rw [← HM.out] at hcb
      go_enter Tryz.func27, Tryz.ntmps27
      go_wp2_with fail
      go_loopw [5] (fun ii wr => ∃ (i q : Nat), ii = .int .i64 i ∧ i ≤ L ∧ Hid (∀ j, j < i → xs.getD j Wt.zero = ys.getD j Wt.zero) ∧ wr = w.drewN q) (fun ii _ => L - (intOf ii).toNat)
      case atStart => exact ⟨0, 0, rfl, Nat.zero_le _, fun j hj => by omega, rfl⟩
      case round =>
        obtain ⟨i, q, rfl, hiL, HE, rfl⟩ := hrel
        by_cases hi : i < L
        · obtain ⟨c0, c1, c2⟩ := hca i hi
          obtain ⟨d0, d1, d2⟩ := hcb i hi
          obtain ⟨x, hxx⟩ : ∃ x, x = xs.getD i Wt.zero := ⟨_, rfl⟩
          obtain ⟨y, hyy⟩ : ∃ y, y = ys.getD i Wt.zero := ⟨_, rfl⟩
          rw [← hxx] at c0 c1 c2
          rw [← hyy] at d0 d1 d2
          have HX : Hid (x = xs.getD i Wt.zero) := hxx
          have HY : Hid (y = ys.getD i Wt.zero) := hyy
          clear hxx hyy hca hcb
          have hq : ∀ w', (Op.equalIn 10000 81 (.agg #[.string x.key, .string x.val, .bool x.drop]) (.agg #[.string y.key, .string y.val, .bool y.drop])).run Tryz.prog w' = .ok (sameW x y) w' := fun w' => wt_in w' x y
          have hgd := Tryz.guardWt
          obtain ⟨B, hB⟩ : ∃ B, B = sameW x y := ⟨_, rfl⟩
          rw [← hB] at hq
          have HB : Hid (B = true ↔ x = y) := by rw [hB]; exact sameW_iff x y
          clear hB
          cases B with
          | true =>
            have hxy : x = y := HB.out.1 rfl
            have HE2 : Hid (∀ j, j < i + 1 → xs.getD j Wt.zero = ys.getD j Wt.zero) := by
              intro j hj
              by_cases hji : j = i
              · subst hji; exact HX.out.symm.trans (hxy.trans HY.out)
              · exact HE.out j (by omega)
            clear HB hxy
            go_wp2_with fail
            go_quiet (fail)
            go_wp2
            go_roundw
            case rel => exact ⟨i + 1, _, by simp, by omega, HE2, rfl⟩
            case measure => simp [intOf]; omega
          | false =>
            have HR' : Hid (R = false) := by
              show R = false
              have : ¬ R = true := fun h => by
                have hxy : x = y := by rw [HX.out, HY.out, HR.out.1 h]
                exact absurd (HB.out.2 hxy) (by simp)
              simpa using this
            clear HB
            go_wp2_with fail
            go_quiet (fail)
            go_wp2
            go_ret
            rw [HR'.out]
            exact ⟨rfl, q + nq, by simp⟩
        · have HR' : Hid (R = true) := by
            show R = true
            exact HR.out.2 (wsame_upto xs ys (HL.out.symm.trans HM.out) (fun j hj => HE.out j (by rw [← HL.out] at hj; omega)))
          go_wp2
          go_ret
          rw [HR'.out]
          exact ⟨rfl, _, rfl⟩
    · obtain rfl : L = 0 := by omega
      have HR' : Hid (R = true) := by
        show R = true
        rw [HR.out, List.eq_nil_of_length_eq_zero HL.out.symm, List.eq_nil_of_length_eq_zero HM.out.symm]
      go_enter Tryz.func27, Tryz.ntmps27
      go_wp2_with fail
      refine wp_loop_rounds 1 ?_
      rw [rounds_succ]
      go_wp2
      go_ret
      rw [HR'.out]
      exact ⟨rfl, 0, rfl⟩
  · have hne : ((L : Int) != M) = true := by rw [bne_iff_ne]; omega
    have HR' : Hid (R = false) := by
      show R = false
      have : ¬ R = true := fun h => hLM (by rw [HL.out, HM.out, HR.out.1 h])
      simpa using this
    clear hLM
    go_enter Tryz.func27, Tryz.ntmps27
    go_wp2
    go_ret
    rw [HR'.out]
    exact ⟨rfl, 0, rfl⟩

set_option maxHeartbeats 2000000 in
set_option maxRecDepth 100000 in
theorem sameTxn_any (m n : Int) (a b : Option Addr) (L M ca cb : Nat) (R : Bool) (xs ys : List Wt) (w : World) (ha : WRs w a xs) (hb : WRs w b ys) (hL : L = xs.length) (hM : M = ys.length) (hR : R = true ↔ m = n ∧ xs = ys) :
    Calls Tryz.prog 10 #[.agg #[.int .i64 m, .slice a L ca], .agg #[.int .i64 n, .slice b M cb]] w fun e w' => e = .returned (.bool R) ∧ Fr [] w w' := by
  have HR : Hid (R = true ↔ m = n ∧ xs = ys) := hR
  have HL : Hid (L = xs.length) := hL
  have HM : Hid (M = ys.length) := hM
  clear hR hL hM
  have hF0 : Fr [] w ((w.alloc (.cells #[.int .i64 m, .slice a L ca] 49)).alloc (.cells #[.int .i64 n, .slice b M cb] 49)) := (Fr.alloc [] w _).then (Fr.alloc [] _ _)
  have ha0 := ha.keep hF0
  have hb0 := hb.keep hF0
  by_cases h : m = n
  · subst h
    have hbb : (m == m) = true := by simp
    have HR' : Hid (R = true ↔ xs = ys) := by show _ ↔ _; rw [HR.out]; simp
    clear HR
    go_enter Tryz.func10, Tryz.ntmps10
    go_wp2_with fail
    refine (sameWs_any a b L M ca cb R xs ys _ ha0 hb0 HL.out HM.out HR'.out).mono ?_
    rintro e w1 ⟨rfl, q, rfl⟩
    go_wp2
    go_ret
    exact ⟨rfl, hF0.then (Fr.drewN _ _ _)⟩
  · have hbb : (m == n) = false := by rw [beq_eq_false_iff_ne]; exact h
    have HR' : Hid (R = false) := by
      show R = false
      have : ¬ R = true := fun hh => h (HR.out.1 hh).1
      simpa using this
    clear h
    go_enter Tryz.func10, Tryz.ntmps10
    go_wp2
    go_ret
    rw [HR'.out]
    exact ⟨rfl, hF0⟩

/-! ### How great a transaction is -/
def wsum : List Wt → Nat
  | [] => 0
  | x :: r => x.key.size + x.val.size + wsum r
theorem wsum_snoc (l : List Wt) (x : Wt) : wsum (l ++ [x]) = wsum l + x.key.size + x.val.size := by
  induction l with
  | nil => simp [wsum]
  | cons a r ih => simp only [List.cons_append, wsum, ih]; omega
/-- The statements' size of some writes: at least 1048577 if they are more. -/
def Wide (N : Nat) (ws : List Wt) : Prop := ws.length ≤ N ∧ N ≤ 2^50 ∧ (N ≤ 1048576 → ∀ x ∈ ws, x.key.size ≤ 1048576 ∧ x.val.size ≤ 1048576)

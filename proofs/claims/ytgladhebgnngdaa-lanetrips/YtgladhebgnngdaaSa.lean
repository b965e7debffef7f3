/- The statements' own helpers: SameWrites, SameTxn, WritesSize, TxnSize, Beyond of two; a transaction that came in. Conditions as each names them. -/
import Derived.Test.YtgladhebgnngdaaEq
namespace Go.Proofs.Ytgladhebgnngdaa
open Go.ChangeShapes Go.WideShapes Go.ChangeAt Go.RowKit Go.Lib
set_option linter.unusedVariables false

theorem wsame_upto (xs ys : List Wt) (hl : xs.length = ys.length) (h : ∀ j, j < xs.length → xs.getD j Wt.zero = ys.getD j Wt.zero) : xs = ys := by
  apply List.ext_getElem hl
  intro i h1 h2
  have := h i h1
  simpa [List.getD, h1, h2] using this

/-! ### How great a transaction is -/
def wsum : List Wt → Nat
  | [] => 0
  | x :: r => x.key.size + x.val.size + wsum r
theorem wsum_snoc (l : List Wt) (x : Wt) : wsum (l ++ [x]) = wsum l + x.key.size + x.val.size := by
  induction l with
  | nil => simp [wsum]
  | cons a r ih => simp only [List.cons_append, wsum, ih]; omega
/-- The statements' size of some writes: at least 1048577 if they are more. -/
def Wide (N : Nat) (ws : List Wt) : Prop := ws.length ≤ N ∧ N ≤ 2^50 ∧ (N ≤ 1048576 → ∀ x ∈ ws, x.key.size ≤ 1048576 ∧ x.val.size ≤ 1048576)

set_option maxHeartbeats 4000000 in
set_option maxRecDepth 100000 in
theorem wsSize_any (a : Option Addr) (L ca : Nat) (xs : List Wt) (w : World) (ha : WRs w a xs) (hL : L = xs.length) :
    Calls Try.prog 41 #[.slice a L ca] w fun e w' => ∃ N : Nat, e = .returned (.int .i64 (N : Int)) ∧ Wide N xs ∧ ∃ q, w' = w.drewN q := by
  have HL : Hid (L = xs.length) := hL
  have hLl : L ≤ 140737488355328 := by have := ha.few; omega
  clear hL
  by_cases h0 : 0 < L
  · obtain ⟨ba, oa, rfl, _, hca⟩ := ha.lies (by rw [← HL.out]; exact h0)
    rw [← HL.out] at hca
    go_enter Try.func41, Try.ntmps41
    go_wp2_with fail
    go_loopw [3, 4] (fun vv ii wr => ∃ (n i q : Nat), vv = .int .i64 n ∧ ii = .int .i64 i ∧ i ≤ L ∧ L ≤ n ∧ n ≤ 422212465065984 ∧ Hid (∀ j, j < i → n ≤ 1048576 → (xs.getD j Wt.zero).key.size ≤ 1048576 ∧ (xs.getD j Wt.zero).val.size ≤ 1048576) ∧ wr = w.drewN q) (fun _ ii _ => L - (intOf ii).toNat)
    case atStart => exact ⟨L, 0, 0, rfl, rfl, Nat.zero_le _, Nat.le_refl _, by omega, fun j hj => by omega, rfl⟩
    case round =>
      obtain ⟨n, i, q, rfl, rfl, hiL, hLn, hn, HE, rfl⟩ := hrel
      by_cases hi : i < L
      · by_cases hbig : 1048576 < n
        · have hb' : (1048576 : Int) < n := by omega
          have hi' : (i : Int) < L := by omega
          go_wp2
          go_ret
          exact ⟨n, rfl, ⟨by rw [← HL.out]; omega, by omega, fun h => by omega⟩, q, rfl⟩
        · have hb' : (n : Int) ≤ 1048576 := by omega
          obtain ⟨c0, c1, c2⟩ := hca i hi
          have hm := ha.each _ (wgetD_mem xs i (by rw [← HL.out]; exact hi))
          obtain ⟨x, hxx⟩ : ∃ x, x = xs.getD i Wt.zero := ⟨_, rfl⟩
          rw [← hxx] at c0 c1 c2 hm
          have HX : Hid (x = xs.getD i Wt.zero) := hxx
          clear hxx hca
          obtain ⟨key, val, drop⟩ := x
          simp only at c0 c1 c2 hm
          have HE2 : Hid (∀ j, j < i + 1 → n + key.size + val.size ≤ 1048576 → (xs.getD j Wt.zero).key.size ≤ 1048576 ∧ (xs.getD j Wt.zero).val.size ≤ 1048576) := by
            intro j hj hle
            by_cases hji : j = i
            · subst hji
              rw [← HX.out]
              exact ⟨by simp only; omega, by simp only; omega⟩
            · exact HE.out j (by omega) (by omega)
          obtain ⟨K, hK⟩ : ∃ K, K = key.size := ⟨_, rfl⟩
          obtain ⟨V, hV⟩ : ∃ V, V = val.size := ⟨_, rfl⟩
          have hk1 := hm.1
          have hv1 := hm.2
          clear hm
          go_wp2_with fail
          go_quiet (fail)
          go_wp2
          go_roundw
          case rel => exact ⟨n + key.size + val.size, i + 1, _, by simp, by simp, by omega, by omega, by omega, HE2, rfl⟩
          case measure => simp [intOf]; omega
      · go_wp2
        go_ret
        refine ⟨n, rfl, ⟨by rw [← HL.out]; omega, by omega, fun h x hx => ?_⟩, q, rfl⟩
        obtain ⟨j, hj, rfl⟩ := List.getElem_of_mem hx
        have := HE.out j (by have := HL.out; omega) h
        simpa [List.getD, hj] using this
  · obtain rfl : L = 0 := by omega
    have : xs = [] := List.eq_nil_of_length_eq_zero HL.out.symm
    subst this
    go_enter Try.func41, Try.ntmps41
    go_wp2_with fail
    refine wp_loop_rounds 1 ?_
    rw [rounds_succ]
    go_wp2
    go_ret
    exact ⟨0, rfl, ⟨by simp, by omega, by simp⟩, 0, rfl⟩
set_option maxHeartbeats 2000000 in
set_option maxRecDepth 100000 in
theorem txSize_any (m : Int) (a : Option Addr) (L ca : Nat) (xs : List Wt) (w : World) (ha : WRs w a xs) (hL : L = xs.length) :
    Calls Try.prog 23 #[.agg #[.int .i64 m, .slice a L ca]] w fun e w' => ∃ N : Nat, e = .returned (.int .i64 ((N + 1 : Nat) : Int)) ∧ Wide N xs ∧ Fr [] w w' := by
  have HL : Hid (L = xs.length) := hL
  clear hL
  have hF0 : Fr [] w (w.alloc (.cells #[.int .i64 m, .slice a L ca] 40)) := Fr.alloc [] w _
  have ha0 := ha.keep hF0
  go_enter Try.func23, Try.ntmps23
  go_wp2_with fail
  refine (wsSize_any a L ca xs _ ha0 HL.out).mono ?_
  rintro e w1 ⟨N, rfl, hN, q, rfl⟩
  have hN2 := hN.2.1
  have HN : Hid (Wide N xs) := hN
  clear hN
  go_wp2
  go_ret
  exact ⟨N, by simp; omega, HN.out, hF0.then (Fr.drewN _ _ _)⟩
end Go.Proofs.Ytgladhebgnngdaa

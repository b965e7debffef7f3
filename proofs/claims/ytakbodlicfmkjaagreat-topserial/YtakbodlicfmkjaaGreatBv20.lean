/- Versions told from the end, one by one: the contract of the iterator, for whatever loop body; the newest at a mark. Conditions as each names them. -/
import Derived.Test.YtakbodlicfmkjaaGreatFi20
import Derived.Test.YtakbodlicfmkjaaGreatHl9
namespace Go.Proofs.YtakbodlicfmkjaaGreat
open Go.ChangeShapes Go.WideShapes Go.ChangeAt Go.RowKit Go.Lib
set_option linter.unusedVariables false
set_option linter.unusedSimpArgs false
attribute [local go_sem] Oper.semAt_some

theorem backV_any (o : Option Addr) (n k : Nat) (w : World) : Calls Tryz.prog 80 #[.slice o n k] w fun e w' => e = .returned (.func (Fn.func 110) #[] #[.pointer (some ⟨w.heap.size, 0, none⟩)]) ∧ w' = w.alloc (.cells #[.slice o n k] 124) := by
  go_enter Tryz.func80, Tryz.ntmps80
  go_wp2
  go_ret
  exact ⟨rfl, rfl⟩
set_option maxHeartbeats 8000000 in
set_option maxRecDepth 100000 in
theorem back1v_all (m l bb sb off n cap : Nat) (vs : List O.Vn) (W : World) (J Jx : Nat → World → Prop) (go : Nat → Bool) (hn : n ≤ 4398046511104) (hcap : n ≤ cap)
    (hT : ∀ i w, J i w → w.cell? ⟨bb, 0, none⟩ = some (.slice (some ⟨sb, off, none⟩) n cap) ∧ ∀ k, k < n → O.VAt w sb (off + k * 3) (vs.getD k O.Vn.zero)) (h0 : J 0 W)
    (hY : ∀ (i k : Nat) (w : World), J i w → i + k + 1 = n → YieldAt Fence.wide m Tryz.prog l #[.int .i64 (k : Int), .agg #[.int .i64 (vs.getD k O.Vn.zero).num, .string (vs.getD k O.Vn.zero).val, .bool (vs.getD k O.Vn.zero).drop]] w fun e w' => e = .returned (.bool (go i)) ∧ (go i = true → J (i + 1) w') ∧ (go i = false → Jx i w')) :
    CallsIn Fence.wide (m + 1) Tryz.prog 110 #[.func (.yield l) #[] #[], .pointer (some ⟨bb, 0, none⟩)] W fun e W' => (∃ v, e = .returned v) ∧ BackEnd J Jx go n W' := by
  have cb := (hT 0 W h0).1
  refine callsIn_of_wp Tryz.func110 rfl trivial ?_ rfl
  simp only [Tryz.ntmps110, List.size_toArray, List.length_cons, List.length_nil, Nat.reduceAdd, Nat.reduceSub, Array.replicate_succ, Array.replicate_zero, List.push_toArray, List.append_toArray, List.nil_append, List.cons_append]
  gi_wp2_with fail
  gi_loopw [3] (fun ii wr => ∃ i : Nat, ii = .int .i64 ((n : Int) - 1 - (i : Int)) ∧ i ≤ n ∧ J i wr ∧ Hid (∀ j, j < i → go j = true)) (fun ii _ => (intOf ii + 1).toNat)
  case atStart => exact ⟨0, by simp, Nat.zero_le _, h0, fun j hj => absurd hj (by omega)⟩
  case round =>
    clear cb
    obtain ⟨i, rfl, hiR, hJi, HG⟩ := hrel
    by_cases hi : i < n
    · obtain ⟨k, hk⟩ : ∃ k, i + k + 1 = n := ⟨n - 1 - i, by omega⟩
      have ek : (n : Int) - 1 - (i : Int) = (k : Int) := by omega
      have HK : Hid (i + k + 1 = n) := hk
      have hkn : k < n := by omega
      rw [ek]
      have cb := (hT i wr hJi).1
      obtain ⟨ck0, ck1, ck2⟩ := (hT i wr hJi).2 k hkn
      obtain ⟨fn, tmps, assign, body, hy, hRo⟩ := hY i k wr hJi hk
      obtain ⟨B, hB⟩ : ∃ B, B = go i := ⟨_, rfl⟩
      rw [← hB] at hRo
      have HB : Hid (B = go i) := hB
      obtain ⟨vn, hvn⟩ : ∃ vn, vs.getD k O.Vn.zero = vn := ⟨_, rfl⟩
      rw [hvn] at ck0 ck1 ck2 hy
      clear hB hk ek hvn
      cases B with
      | true =>
        gi_wp2_with fail
        refine hRo.mono ?_
        rintro e W6 ⟨rfl, hJt, _⟩
        have hJ6 := hJt (by trivial)
        clear hRo hy hJt cb ck0 ck1 ck2
        have HG6 : Hid (∀ j, j < i + 1 → go j = true) := fun j hj => by
          rcases Nat.lt_or_ge j i with h | h
          · exact HG.out j h
          · obtain rfl : j = i := by omega
            exact HB.out.symm
        gi_wp2
        refine ⟨⟨i + 1, ?_, by omega, hJ6, HG6⟩, ?_⟩
        · have := HK.out
          congr 1
          omega
        · simp [intOf]
      | false =>
        gi_wp2_with fail
        refine hRo.mono ?_
        rintro e W6 ⟨rfl, _, hJt⟩
        have hJ6 := hJt (by trivial)
        clear hRo hy hJt cb ck0 ck1 ck2
        gi_wp2
        refine bodyPost_ret (results_none rfl _ _ _) rfl ?_
        exact ⟨⟨_, rfl⟩, Or.inr ⟨i, hi, HB.out.symm, HG.out, hJ6⟩⟩
    · obtain rfl : i = n := by omega
      have en : (i : Int) - 1 - (i : Int) = -1 := by omega
      rw [en]
      gi_wp2
      go_end0
      exact ⟨⟨_, rfl⟩, Or.inl ⟨hJi, HG.out⟩⟩
end Go.Proofs.YtakbodlicfmkjaaGreat

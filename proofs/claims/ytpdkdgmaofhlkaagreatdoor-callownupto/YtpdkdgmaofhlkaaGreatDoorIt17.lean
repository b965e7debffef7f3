/- A task's requests, told one by one: the contract of the iterator, for whatever loop body. Conditions as each names them. -/
import Derived.Test.YtpdkdgmaofhlkaaGreatDoorRgf
namespace Go.Proofs.YtpdkdgmaofhlkaaGreatDoor
open Go.ChangeShapes Go.WideShapes Go.ChangeAt Go.RowKit Go.Lib
set_option linter.unusedVariables false
set_option linter.unusedSimpArgs false
attribute [local go_sem] Oper.semAt_some

/-- How many requests a task has. -/
def Tk.nR (T : Tk) : Nat := if T.k = 1 then 1 else T.s.toNat
/-- The shard of its request number i. -/
def Tk.sh (T : Tk) (i : Nat) : Int := if T.k = 1 then (Cf.shard ⟨T.l, T.s, T.x, T.q⟩ T.key).1 else (i : Int)
theorem qrequests_any (p : Option Addr) (w : World) : Calls Tryz.prog 71 #[.pointer p] w fun e w' => e = .returned (.func (Fn.func 106) #[] #[.pointer (some ⟨w.heap.size, 0, none⟩)]) ∧ w' = w.alloc (.cells #[.pointer p] 30) := by
  go_enter Tryz.func71, Tryz.ntmps71
  go_wp2
  go_ret
  exact ⟨rfl, rfl⟩
/-- Where the iterator has ended. -/
def ReqEnd (J Jx : Nat → World → Prop) (go : Nat → Bool) (R : Nat) (W' : World) : Prop :=
  (J R W' ∧ ∀ j, j < R → go j = true) ∨ ∃ i, i < R ∧ go i = false ∧ (∀ j, j < i → go j = true) ∧ Jx i W'
set_option maxHeartbeats 8000000 in
set_option maxRecDepth 100000 in
theorem reqs1_get (m l bb t : Nat) (T : Tk) (W : World) (J Jx : Nat → World → Prop) (go : Nat → Bool) (hk : T.k = 1) (hks : T.key.size ≤ 9223372036854775807)
    (hT : ∀ i w, J i w → TkM w t T ∧ w.cell? ⟨bb, 0, none⟩ = some (.pointer (some ⟨t, 0, none⟩))) (h0 : J 0 W) (hJ0 : ∀ i w w', J i w → Fr [] w w' → J i w')
    (hY : ∀ (i : Nat) (w : World), J i w → i < T.nR → YieldAt Fence.wide m Tryz.prog l #[.int .i64 (T.sh i), .agg #[.int .u8 T.r.k, .int .i64 T.r.f, .int .i64 T.r.n, .string ⟨#[]⟩, .string ⟨#[]⟩, .bool false, .string T.r.key, .string T.r.en, .slice T.r.bo T.r.bl T.r.bc]] w fun e w' => e = .returned (.bool (go i)) ∧ (go i = true → J (i + 1) w') ∧ (go i = false → Jx i w')) :
    CallsIn Fence.wide (m + 1) Tryz.prog 106 #[.func (.yield l) #[] #[], .pointer (some ⟨bb, 0, none⟩)] W fun e W' => (∃ v, e = .returned v) ∧ ReqEnd J Jx go T.nR W' := by
  have hR : T.nR = 1 := if_pos hk
  have hsh : T.sh 0 = (Cf.shard ⟨T.l, T.s, T.x, T.q⟩ T.key).1 := if_pos hk
  rw [hR]
  have hY0 := fun w hw => hY 0 w hw (by rw [hR]; omega)
  rw [hsh] at hY0
  clear hY hR hsh
  have HSh : Hid (∀ w, Calls Tryz.prog 107 #[.agg #[.int .i64 T.l, .int .i64 T.s, .int .i64 T.x, .int .i64 T.q], .string T.key] w fun e w' => e = .returned (.tuple #[.int .i64 (Cf.shard ⟨T.l, T.s, T.x, T.q⟩ T.key).1, .int .i64 (Cf.shard ⟨T.l, T.s, T.x, T.q⟩ T.key).2]) ∧ Fr [] w w') := fun w => shard_any T.l T.s T.x T.q T.key w hks
  obtain ⟨n, l', s, x, q, k, key, en, bg, ma, ⟨rk, rf, rn, rkey, ren, ro, rl, rc⟩, ak, rp, ev, hv, ct⟩ := T
  simp only at hk hY0 HSh hks
  subst hk
  generalize Cf.shard ⟨l', s, x, q⟩ key = sc at HSh hY0
  obtain ⟨s0, s1⟩ := sc
  simp only at HSh hY0
  have HS : Hid (∀ w, Fr [] W w → w.cell? ⟨bb, 0, none⟩ = some (.pointer (some ⟨t, 0, none⟩)) ∧ w.cell? ⟨t, 1, none⟩ = some (.int .i64 l') ∧ w.cell? ⟨t, 2, none⟩ = some (.int .i64 s) ∧ w.cell? ⟨t, 3, none⟩ = some (.int .i64 x) ∧ w.cell? ⟨t, 4, none⟩ = some (.int .i64 q) ∧ w.cell? ⟨t, 6, none⟩ = some (.string key)) := fun w hf => by
    obtain ⟨a, b⟩ := hT 0 w (hJ0 0 W w h0 hf)
    exact ⟨b, a.c1, a.c2, a.c3, a.c4, a.c6⟩
  have c5 := (hT 0 W h0).1.c5
  simp only at c5
  obtain ⟨cb, c1, c2, c3, c4, c6⟩ := HS.out W (Fr.refl _ _)
  have HJ : Hid (∀ w, Fr [] W w → J 0 w) := fun w hf => hJ0 0 W w h0 hf
  refine callsIn_of_wp Tryz.func106 rfl trivial ?_ rfl
  simp only [Tryz.ntmps106, List.size_toArray, List.length_cons, List.length_nil, Nat.reduceAdd, Nat.reduceSub, Array.replicate_succ, Array.replicate_zero, List.push_toArray, List.append_toArray, List.nil_append, List.cons_append]
  gi_wp2_with fail
  refine wpIn_wide.2 ?_
  go_region_held3 (fun w => w.cell? ⟨bb, 0, none⟩ = some (.pointer (some ⟨t, 0, none⟩)) ∧ w.cell? ⟨t, 1, none⟩ = some (.int .i64 l') ∧ w.cell? ⟨t, 2, none⟩ = some (.int .i64 s) ∧ w.cell? ⟨t, 3, none⟩ = some (.int .i64 x) ∧ w.cell? ⟨t, 4, none⟩ = some (.int .i64 q) ∧ w.cell? ⟨t, 6, none⟩ = some (.string key)) (go_keep)
    (first
      | (with_reducible refine Calls.mono (HSh.out _) ?_; rintro e w1 ⟨rfl, hF1⟩; have hF1' := (Fr.drew [] W).then hF1; obtain ⟨db, d1, d2, d3, d4, d6⟩ := HS.out _ hF1'))
  have hJ1 := HJ.out _ hF1'
  have e10 := (hT 0 w1 hJ1).1.c10
  have e11 := (hT 0 w1 hJ1).1.c11
  have e12 := (hT 0 w1 hJ1).1.c12
  have e13 := (hT 0 w1 hJ1).1.c13
  have e14 := (hT 0 w1 hJ1).1.c14
  have e15 := (hT 0 w1 hJ1).1.c15
  have e16 := (hT 0 w1 hJ1).1.c16
  have e17 := (hT 0 w1 hJ1).1.c17
  have e18 := (hT 0 w1 hJ1).1.c18
  simp only at e10 e11 e12 e13 e14 e15 e16 e17 e18
  obtain ⟨fn, tmps, assign, body, hy, hRo⟩ := hY0 w1 hJ1
  clear hF1 hF1' c1 c2 c3 c4 c5 c6 cb d1 d2 d3 d4 d6 HS HJ
  obtain ⟨B, hB⟩ : ∃ B, B = go 0 := ⟨_, rfl⟩
  rw [← hB] at hRo
  have HB : Hid (B = go 0) := hB
  clear hB
  gi_wp2_with fail
  refine hRo.mono ?_
  rintro e W6 ⟨rfl, hJt, hJf⟩
  gi_wp2
  refine bodyPost_ret (results_none rfl _ _ _) rfl ?_
  refine ⟨⟨_, rfl⟩, ?_⟩
  cases B with
  | true => exact Or.inl ⟨hJt rfl, fun j hj => by obtain rfl : j = 0 := by omega
                                                  exact HB.out.symm⟩
  | false => exact Or.inr ⟨0, by omega, HB.out.symm, fun j hj => by omega, hJf rfl⟩
set_option maxHeartbeats 8000000 in
set_option maxRecDepth 100000 in
theorem reqs1_all (m l bb t : Nat) (T : Tk) (W : World) (J Jx : Nat → World → Prop) (go : Nat → Bool) (hk : T.k ≠ 1) (hs : 0 ≤ T.s ∧ T.s ≤ 16)
    (hT : ∀ i w, J i w → TkM w t T ∧ w.cell? ⟨bb, 0, none⟩ = some (.pointer (some ⟨t, 0, none⟩))) (h0 : J 0 W)
    (hY : ∀ (i : Nat) (w : World), J i w → i < T.nR → YieldAt Fence.wide m Tryz.prog l #[.int .i64 (T.sh i), .agg #[.int .u8 T.r.k, .int .i64 T.r.f, .int .i64 T.r.n, .string ⟨#[]⟩, .string ⟨#[]⟩, .bool false, .string T.r.key, .string T.r.en, .slice T.r.bo T.r.bl T.r.bc]] w fun e w' => e = .returned (.bool (go i)) ∧ (go i = true → J (i + 1) w') ∧ (go i = false → Jx i w')) :
    CallsIn Fence.wide (m + 1) Tryz.prog 106 #[.func (.yield l) #[] #[], .pointer (some ⟨bb, 0, none⟩)] W fun e W' => (∃ v, e = .returned v) ∧ ReqEnd J Jx go T.nR W' := by
  have hR : T.nR = T.s.toNat := if_neg hk
  obtain ⟨R, hRR⟩ : ∃ R : Nat, R = T.s.toNat := ⟨_, rfl⟩
  have hsR : T.s = (R : Int) := by omega
  have hRl : R ≤ 16 := by omega
  rw [hR, ← hRR]
  have hY0 : ∀ (i : Nat) (w : World), J i w → i < R → YieldAt Fence.wide m Tryz.prog l #[.int .i64 (i : Int), .agg #[.int .u8 T.r.k, .int .i64 T.r.f, .int .i64 T.r.n, .string ⟨#[]⟩, .string ⟨#[]⟩, .bool false, .string T.r.key, .string T.r.en, .slice T.r.bo T.r.bl T.r.bc]] w fun e w' => e = .returned (.bool (go i)) ∧ (go i = true → J (i + 1) w') ∧ (go i = false → Jx i w') := fun i w hw hi => by
    have := hY i w hw (by rw [hR]; omega)
    rw [show T.sh i = (i : Int) from if_neg hk] at this
    exact this
  clear hY hR hRR hs
  obtain ⟨n, l', s, x, q, k, key, en, bg, ma, ⟨rk, rf, rn, rkey, ren, ro, rl, rc⟩, ak, rp, ev, hv, ct⟩ := T
  simp only at hk hY0 hsR
  subst hsR
  have hkB : (k == 1) = false := by simp [hk]
  have cb := (hT 0 W h0).2
  have c5 := (hT 0 W h0).1.c5
  have c2 := (hT 0 W h0).1.c2
  simp only at c5 c2
  refine callsIn_of_wp Tryz.func106 rfl trivial ?_ rfl
  simp only [Tryz.ntmps106, List.size_toArray, List.length_cons, List.length_nil, Nat.reduceAdd, Nat.reduceSub, Array.replicate_succ, Array.replicate_zero, List.push_toArray, List.append_toArray, List.nil_append, List.cons_append]
  gi_wp2_with fail
  gi_loopw [37] (fun ii wr => ∃ i : Nat, ii = .int .i64 i ∧ i ≤ R ∧ J i wr ∧ Hid (∀ j, j < i → go j = true)) (fun ii _ => R - (intOf ii).toNat)
  case atStart => exact ⟨0, rfl, Nat.zero_le _, h0, fun j hj => absurd hj (by omega)⟩
  case round =>
    clear cb c5 c2
    obtain ⟨i, rfl, hiR, hJi, HG⟩ := hrel
    by_cases hi : i < R
    · have cb := (hT i wr hJi).2
      have e10 := (hT i wr hJi).1.c10
      have e11 := (hT i wr hJi).1.c11
      have e12 := (hT i wr hJi).1.c12
      have e13 := (hT i wr hJi).1.c13
      have e14 := (hT i wr hJi).1.c14
      have e15 := (hT i wr hJi).1.c15
      have e16 := (hT i wr hJi).1.c16
      have e17 := (hT i wr hJi).1.c17
      have e18 := (hT i wr hJi).1.c18
      simp only at e10 e11 e12 e13 e14 e15 e16 e17 e18
      obtain ⟨fn, tmps, assign, body, hy, hRo⟩ := hY0 i wr hJi hi
      obtain ⟨B, hB⟩ : ∃ B, B = go i := ⟨_, rfl⟩
      rw [← hB] at hRo
      have HB : Hid (B = go i) := hB
      clear hB
      cases B with
      | true =>
        gi_wp2_with fail
        refine hRo.mono ?_
        rintro e W6 ⟨rfl, hJt, _⟩
        have hJ6 := hJt (by trivial)
        clear hRo hy hJt cb e10 e11 e12 e13 e14 e15 e16 e17 e18
        have HG6 : Hid (∀ j, j < i + 1 → go j = true) := fun j hj => by
          rcases Nat.lt_or_ge j i with h | h
          · exact HG.out j h
          · obtain rfl : j = i := by omega
            exact HB.out.symm
        gi_wp2
        exact ⟨⟨i + 1, by simp, by omega, hJ6, HG6⟩, by simp [intOf]; omega⟩
      | false =>
        gi_wp2_with fail
        refine hRo.mono ?_
        rintro e W6 ⟨rfl, _, hJt⟩
        have hJ6 := hJt (by trivial)
        clear hRo hy hJt cb e10 e11 e12 e13 e14 e15 e16 e17 e18
        gi_wp2
        refine bodyPost_ret (results_none rfl _ _ _) rfl ?_
        exact ⟨⟨_, rfl⟩, Or.inr ⟨i, hi, HB.out.symm, HG.out, hJ6⟩⟩
    · obtain rfl : i = R := by omega
      gi_wp2
      go_end0
      exact ⟨⟨_, rfl⟩, Or.inl ⟨hJi, HG.out⟩⟩
end Go.Proofs.YtpdkdgmaofhlkaaGreatDoor

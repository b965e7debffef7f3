/- Texts of this claim laid together, one behind the other: contracts and plain lemmas; conditions as each names them. -/
import Derived.Test.YtpdkdgmaofhlkaaGreatDoorGp6
import Derived.Laws.EntriesVeiled
/- A task's requests, told one by one: the contract of the iterator, for whatever loop body. Conditions as each names them. -/
namespace Go.Proofs.YtpdkdgmaofhlkaaGreatDoor
open Go.ChangeShapes Go.WideShapes Go.ChangeAt Go.RowKit Go.Lib
set_option linter.unusedVariables false
set_option linter.unusedSimpArgs false
attribute [local go_sem] Oper.semAt_some

/-- How many requests a task has. -/
def Tk.nR (T : Tk) : Nat := if T.k = 1 then 1 else T.s.toNat
/-- The shard of its request number i. -/
def Tk.sh (T : Tk) (i : Nat) : Int := if T.k = 1 then (Cf.shard ⟨T.l, T.s, T.x, T.q⟩ T.key).1 else (i : Int)
theorem qrequests_any (p : Option Addr) (w : World) : Calls Tryz.prog 71 #[.pointer p] w fun e w' => e = .returned (.func (Fn.func 106) #[] #[.pointer (some ⟨w.heap.size, 0, none⟩)]) ∧ w' = w.alloc (.cells #[.pointer p] 30) := by
  go_enter Tryz.func71, Tryz.ntmps71
  go_wp2
  go_ret
  exact ⟨rfl, rfl⟩
/-- Where the iterator has ended. -/
def ReqEnd (J Jx : Nat → World → Prop) (go : Nat → Bool) (R : Nat) (W' : World) : Prop :=
  (J R W' ∧ ∀ j, j < R → go j = true) ∨ ∃ i, i < R ∧ go i = false ∧ (∀ j, j < i → go j = true) ∧ Jx i W'
set_option maxHeartbeats 8000000 in
set_option maxRecDepth 100000 in
theorem reqs1_get (m l bb t : Nat) (T : Tk) (W : World) (J Jx : Nat → World → Prop) (go : Nat → Bool) (hk : T.k = 1) (hks : T.key.size ≤ 9223372036854775807)
    (hT : ∀ i w, J i w → TkM w t T ∧ w.cell? ⟨bb, 0, none⟩ = some (.pointer (some ⟨t, 0, none⟩))) (h0 : J 0 W) (hJ0 : ∀ i w w', J i w → Fr [] w w' → J i w')
    (hY : ∀ (i : Nat) (w : World), J i w → i < T.nR → YieldAt Fence.wide m Tryz.prog l #[.int .i64 (T.sh i), .agg #[.int .u8 T.r.k, .int .i64 T.r.f, .int .i64 T.r.n, .string ⟨#[]⟩, .string ⟨#[]⟩, .bool false, .string T.r.key, .string T.r.en, .slice T.r.bo T.r.bl T.r.bc]] w fun e w' => e = .returned (.bool (go i)) ∧ (go i = true → J (i + 1) w') ∧ (go i = false → Jx i w')) :
    CallsIn Fence.wide (m + 1) Tryz.prog 106 #[.func (.yield l) #[] #[], .pointer (some ⟨bb, 0, none⟩)] W fun e W' => (∃ v, e = .returned v) ∧ ReqEnd J Jx go T.nR W' := by
  have hR : T.nR = 1 := if_pos hk
  have hsh : T.sh 0 = (Cf.shard ⟨T.l, T.s, T.x, T.q⟩ T.key).1 := if_pos hk
  rw [hR]
  have hY0 := fun w hw => hY 0 w hw (by rw [hR]; omega)
  rw [hsh] at hY0
  clear hY hR hsh
  have HSh : Hid (∀ w, Calls Tryz.prog 107 #[.agg #[.int .i64 T.l, .int .i64 T.s, .int .i64 T.x, .int .i64 T.q], .string T.key] w fun e w' => e = .returned (.tuple #[.int .i64 (Cf.shard ⟨T.l, T.s, T.x, T.q⟩ T.key).1, .int .i64 (Cf.shard ⟨T.l, T.s, T.x, T.q⟩ T.key).2]) ∧ Fr [] w w') := fun w => shard_any T.l T.s T.x T.q T.key w hks
  obtain ⟨n, l', s, x, q, k, key, en, bg, ma, ⟨rk, rf, rn, rkey, ren, ro, rl, rc⟩, ak, rp, ev, hv, ct⟩ := T
  simp only at hk hY0 HSh hks
  subst hk
  generalize Cf.shard ⟨l', s, x, q⟩ key = sc at HSh hY0
  obtain ⟨s0, s1⟩ := sc
  simp only at HSh hY0
  have HS : Hid (∀ w, Fr [] W w → w.cell? ⟨bb, 0, none⟩ = some (.pointer (some ⟨t, 0, none⟩)) ∧ w.cell? ⟨t, 1, none⟩ = some (.int .i64 l') ∧ w.cell? ⟨t, 2, none⟩ = some (.int .i64 s) ∧ w.cell? ⟨t, 3, none⟩ = some (.int .i64 x) ∧ w.cell? ⟨t, 4, none⟩ = some (.int .i64 q) ∧ w.cell? ⟨t, 6, none⟩ = some (.string key)) := fun w hf => by
    obtain ⟨a, b⟩ := hT 0 w (hJ0 0 W w h0 hf)
    exact ⟨b, a.c1, a.c2, a.c3, a.c4, a.c6⟩
  have c5 := (hT 0 W h0).1.c5
  simp only at c5
  obtain ⟨cb, c1, c2, c3, c4, c6⟩ := HS.out W (Fr.refl _ _)
  have HJ : Hid (∀ w, Fr [] W w → J 0 w) := fun w hf => hJ0 0 W w h0 hf
  refine callsIn_of_wp Tryz.func106 rfl trivial ?_ rfl
  simp only [Tryz.ntmps106, List.size_toArray, List.length_cons, List.length_nil, Nat.reduceAdd, Nat.reduceSub, Array.replicate_succ, Array.replicate_zero, List.push_toArray, List.append_toArray, List.nil_append, List.cons_append]
  gi_wp2_with fail
  refine wpIn_wide.2 ?_
  go_region_held3 (fun w => w.cell? ⟨bb, 0, none⟩ = some (.pointer (some ⟨t, 0, none⟩)) ∧ w.cell? ⟨t, 1, none⟩ = some (.int .i64 l') ∧ w.cell? ⟨t, 2, none⟩ = some (.int .i64 s) ∧ w.cell? ⟨t, 3, none⟩ = some (.int .i64 x) ∧ w.cell? ⟨t, 4, none⟩ = some (.int .i64 q) ∧ w.cell? ⟨t, 6, none⟩ = some (.string key)) (go_keep)
    (first
      | (with_reducible refine Calls.mono (HSh.out _) ?_; rintro e w1 ⟨rfl, hF1⟩; have hF1' := (Fr.drew [] W).then hF1; obtain ⟨db, d1, d2, d3, d4, d6⟩ := HS.out _ hF1'))
  have hJ1 := HJ.out _ hF1'
  have e10 := (hT 0 w1 hJ1).1.c10
  have e11 := (hT 0 w1 hJ1).1.c11
  have e12 := (hT 0 w1 hJ1).1.c12
  have e13 := (hT 0 w1 hJ1).1.c13
  have e14 := (hT 0 w1 hJ1).1.c14
  have e15 := (hT 0 w1 hJ1).1.c15
  have e16 := (hT 0 w1 hJ1).1.c16
  have e17 := (hT 0 w1 hJ1).1.c17
  have e18 := (hT 0 w1 hJ1).1.c18
  simp only at e10 e11 e12 e13 e14 e15 e16 e17 e18
  obtain ⟨fn, tmps, assign, body, hy, hRo⟩ := hY0 w1 hJ1
  clear hF1 hF1' c1 c2 c3 c4 c5 c6 cb d1 d2 d3 d4 d6 HS HJ
  obtain ⟨B, hB⟩ : ∃ B, B = go 0 := ⟨_, rfl⟩
  rw [← hB] at hRo
  have HB : Hid (B = go 0) := hB
  clear hB
  gi_wp2_with fail
  refine hRo.mono ?_
  rintro e W6 ⟨rfl, hJt, hJf⟩
  gi_wp2
  refine bodyPost_ret (results_none rfl _ _ _) rfl ?_
  refine ⟨⟨_, rfl⟩, ?_⟩
  cases B with
  | true => exact Or.inl ⟨hJt rfl, fun j hj => by obtain rfl : j = 0 := by omega
                                                  exact HB.out.symm⟩
  | false => exact Or.inr ⟨0, by omega, HB.out.symm, fun j hj => by omega, hJf rfl⟩
set_option maxHeartbeats 8000000 in
set_option maxRecDepth 100000 in
theorem reqs1_all (m l bb t : Nat) (T : Tk) (W : World) (J Jx : Nat → World → Prop) (go : Nat → Bool) (hk : T.k ≠ 1) (hs : 0 ≤ T.s ∧ T.s ≤ 16)
    (hT : ∀ i w, J i w → TkM w t T ∧ w.cell? ⟨bb, 0, none⟩ = some (.pointer (some ⟨t, 0, none⟩))) (h0 : J 0 W)
    (hY : ∀ (i : Nat) (w : World), J i w → i < T.nR → YieldAt Fence.wide m Tryz.prog l #[.int .i64 (T.sh i), .agg #[.int .u8 T.r.k, .int .i64 T.r.f, .int .i64 T.r.n, .string ⟨#[]⟩, .string ⟨#[]⟩, .bool false, .string T.r.key, .string T.r.en, .slice T.r.bo T.r.bl T.r.bc]] w fun e w' => e = .returned (.bool (go i)) ∧ (go i = true → J (i + 1) w') ∧ (go i = false → Jx i w')) :
    CallsIn Fence.wide (m + 1) Tryz.prog 106 #[.func (.yield l) #[] #[], .pointer (some ⟨bb, 0, none⟩)] W fun e W' => (∃ v, e = .returned v) ∧ ReqEnd J Jx go T.nR W' := by
  have hR : T.nR = T.s.toNat := if_neg hk
  obtain ⟨R, hRR⟩ : ∃ R : Nat, R = T.s.toNat := ⟨_, rfl⟩
  have hsR : T.s = (R : Int) := by omega
  have hRl : R ≤ 16 := by omega
  rw [hR, ← hRR]
  have hY0 : ∀ (i : Nat) (w : World), J i w → i < R → YieldAt Fence.wide m Tryz.prog l #[.int .i64 (i : Int), .agg #[.int .u8 T.r.k, .int .i64 T.r.f, .int .i64 T.r.n, .string ⟨#[]⟩, .string ⟨#[]⟩, .bool false, .string T.r.key, .string T.r.en, .slice T.r.bo T.r.bl T.r.bc]] w fun e w' => e = .returned (.bool (go i)) ∧ (go i = true → J (i + 1) w') ∧ (go i = false → Jx i w') := fun i w hw hi => by
    have := hY i w hw (by rw [hR]; omega)
    rw [show T.sh i = (i : Int) from if_neg hk] at this
    exact this
  clear hY hR hRR hs
  obtain ⟨n, l', s, x, q, k, key, en, bg, ma, ⟨rk, rf, rn, rkey, ren, ro, rl, rc⟩, ak, rp, ev, hv, ct⟩ := T
  simp only at hk hY0 hsR
  subst hsR
  have hkB : (k == 1) = false := by simp [hk]
  have cb := (hT 0 W h0).2
  have c5 := (hT 0 W h0).1.c5
  have c2 := (hT 0 W h0).1.c2
  simp only at c5 c2
  refine callsIn_of_wp Tryz.func106 rfl trivial ?_ rfl
  simp only [Tryz.ntmps106, List.size_toArray, List.length_cons, List.length_nil, Nat.reduceAdd, Nat.reduceSub, Array.replicate_succ, Array.replicate_zero, List.push_toArray, List.append_toArray, List.nil_append, List.cons_append]
  gi_wp2_with fail
  gi_loopw [37] (fun ii wr => ∃ i : Nat, ii = .int .i64 i ∧ i ≤ R ∧ J i wr ∧ Hid (∀ j, j < i → go j = true)) (fun ii _ => R - (RowKit.intOf ii).toNat)
  case atStart => exact ⟨0, rfl, Nat.zero_le _, h0, fun j hj => absurd hj (by omega)⟩
  case round =>
    clear cb c5 c2
    obtain ⟨i, rfl, hiR, hJi, HG⟩ := hrel
    by_cases hi : i < R
    · have cb := (hT i wr hJi).2
      have e10 := (hT i wr hJi).1.c10
      have e11 := (hT i wr hJi).1.c11
      have e12 := (hT i wr hJi).1.c12
      have e13 := (hT i wr hJi).1.c13
      have e14 := (hT i wr hJi).1.c14
      have e15 := (hT i wr hJi).1.c15
      have e16 := (hT i wr hJi).1.c16
      have e17 := (hT i wr hJi).1.c17
      have e18 := (hT i wr hJi).1.c18
      simp only at e10 e11 e12 e13 e14 e15 e16 e17 e18
      obtain ⟨fn, tmps, assign, body, hy, hRo⟩ := hY0 i wr hJi hi
      obtain ⟨B, hB⟩ : ∃ B, B = go i := ⟨_, rfl⟩
      rw [← hB] at hRo
      have HB : Hid (B = go i) := hB
      clear hB
      cases B with
      | true =>
        gi_wp2_with fail
        refine hRo.mono ?_
        rintro e W6 ⟨rfl, hJt, _⟩
        have hJ6 := hJt (by trivial)
        clear hRo hy hJt cb e10 e11 e12 e13 e14 e15 e16 e17 e18
        have HG6 : Hid (∀ j, j < i + 1 → go j = true) := fun j hj => by
          rcases Nat.lt_or_ge j i with h | h
          · exact HG.out j h
          · obtain rfl : j = i := by omega
            exact HB.out.symm
        gi_wp2
        exact ⟨⟨i + 1, by simp, by omega, hJ6, HG6⟩, by simp [RowKit.intOf]; omega⟩
      | false =>
        gi_wp2_with fail
        refine hRo.mono ?_
        rintro e W6 ⟨rfl, _, hJt⟩
        have hJ6 := hJt (by trivial)
        clear hRo hy hJt cb e10 e11 e12 e13 e14 e15 e16 e17 e18
        gi_wp2
        refine bodyPost_ret (results_none rfl _ _ _) rfl ?_
        exact ⟨⟨_, rfl⟩, Or.inr ⟨i, hi, HB.out.symm, HG.out, hJ6⟩⟩
    · obtain rfl : i = R := by omega
      gi_wp2
      go_end0
      exact ⟨⟨_, rfl⟩, Or.inl ⟨hJi, HG.out⟩⟩
end Go.Proofs.YtpdkdgmaofhlkaaGreatDoor
/- What a task asks next: next. Conditions as each names them. -/
namespace Go.Proofs.YtpdkdgmaofhlkaaGreatDoor
open Go.ChangeShapes Go.WideShapes Go.ChangeAt Go.RowKit Go.Lib
set_option linter.unusedVariables false
set_option linter.unusedSimpArgs false
attribute [local go_sem] Oper.semAt_some

/-- Between two rounds. -/
structure Nq (w0 : World) (t b2 b3 b4 b5 bb D lr : Nat) (rec : Loop) (v2 : Int) (r3 : Rv) (v4 : Bool) (a5 : Int) (W : World) : Prop where
  c2 : W.heap[b2]? = some (.cells #[.int .i64 v2] 3 (0, 0))
  c3 : W.heap[b3]? = some (.cells r3.a 64 (0, 0))
  c4 : W.heap[b4]? = some (.cells #[.bool v4] 4 (0, 0))
  c5 : W.heap[b5]? = some (.cells #[.int .i64 a5] 3 (0, 0))
  cb : W.heap[bb]? = some (.cells #[.pointer (some ⟨t, 0, none⟩)] 30 (0, 0))
  lp : W.heap[lr]? = some (.loop rec)
  df : W.heap[D]? = some (.deferred (some []))
  fr : Fr [] w0 W
/-- The blocks in their order. -/
structure Nd (w0 : World) (b2 b3 b4 b5 bb D lr : Nat) : Prop where
  a : w0.heap.size ≤ b2 ∧ b2 < b3 ∧ b3 < b4 ∧ b4 < b5 ∧ b5 < bb ∧ bb < D ∧ D < lr
section
variable {w0 W W' : World} {t b2 b3 b4 b5 bb D lr : Nat} {rec : Loop} {v2 a5 : Int} {r3 : Rv} {v4 : Bool}
theorem Nq.quiet (h : Nq w0 t b2 b3 b4 b5 bb D lr rec v2 r3 v4 a5 W) (hf : Fr [] W W') : Nq w0 t b2 b3 b4 b5 bb D lr rec v2 r3 v4 a5 W' :=
  ⟨hf.keep h.c2 (by simp), hf.keep h.c3 (by simp), hf.keep h.c4 (by simp), hf.keep h.c5 (by simp), hf.keep h.cb (by simp), hf.keep h.lp (by simp), hf.keep h.df (by simp), h.fr.then hf⟩
theorem Nq.rec_ (d : Nd w0 b2 b3 b4 b5 bb D lr) (h : Nq w0 t b2 b3 b4 b5 bb D lr rec v2 r3 v4 a5 W) (rec' : Loop) : Nq w0 t b2 b3 b4 b5 bb D lr rec' v2 r3 v4 a5 (W.putObj lr (.loop rec')) := by
  obtain ⟨d0, d1, d2, d3, d4, d5, d6⟩ := d.a
  have hf := Fr.putObj W lr (.loop rec')
  exact ⟨hf.keep h.c2 (by simp; omega), hf.keep h.c3 (by simp; omega), hf.keep h.c4 (by simp; omega), hf.keep h.c5 (by simp; omega), hf.keep h.cb (by simp; omega), World.putObj_heap_same (Array.getElem?_eq_some_iff.1 h.lp).1, hf.keep h.df (by simp; omega), h.fr.on hf (fun x hx => by simp at hx; omega)⟩
theorem Nq.dec (d : Nd w0 b2 b3 b4 b5 bb D lr) (h : Nq w0 t b2 b3 b4 b5 bb D lr rec v2 r3 v4 a5 W) (a' : Int) : Nq w0 t b2 b3 b4 b5 bb D lr rec v2 r3 v4 a' (W.setCell ⟨b5, 0, none⟩ (.int .i64 a')) := by
  obtain ⟨d0, d1, d2, d3, d4, d5, d6⟩ := d.a
  have hf : Fr [b5] W (W.setCell ⟨b5, 0, none⟩ (.int .i64 a')) := Fr.set _ _ _ (by simp)
  exact ⟨hf.keep h.c2 (by simp; omega), hf.keep h.c3 (by simp; omega), hf.keep h.c4 (by simp; omega), row_put17 _ h.c5, hf.keep h.cb (by simp; omega), hf.keep h.lp (by simp; omega), hf.keep h.df (by simp; omega), h.fr.on hf (fun x hx => by simp at hx; omega)⟩
theorem row9_17 {W : World} {b : Nat} {ty : TypeId} {u0 u1 u2 u3 u4 u5 u6 u7 u8 : Value} (v0 v1 v2 v3 v4 v5 v6 v7 v8 : Value) (h : W.heap[b]? = some (.cells #[u0, u1, u2, u3, u4, u5, u6, u7, u8] ty (0, 0))) : (((((((((W.setCell ⟨b, 0, none⟩ v0).setCell ⟨b, 1, none⟩ v1).setCell ⟨b, 2, none⟩ v2).setCell ⟨b, 3, none⟩ v3).setCell ⟨b, 4, none⟩ v4).setCell ⟨b, 5, none⟩ v5).setCell ⟨b, 6, none⟩ v6).setCell ⟨b, 7, none⟩ v7).setCell ⟨b, 8, none⟩ v8).heap[b]? = some (.cells #[v0, v1, v2, v3, v4, v5, v6, v7, v8] ty (0, 0)) := by
  have h0 : (W.setCell ⟨b, 0, none⟩ v0).heap[b]? = some (.cells #[v0, u1, u2, u3, u4, u5, u6, u7, u8] ty (0, 0)) := by rw [row_put17 v0 h]; rfl
  have h1 : ((W.setCell ⟨b, 0, none⟩ v0).setCell ⟨b, 1, none⟩ v1).heap[b]? = some (.cells #[v0, v1, u2, u3, u4, u5, u6, u7, u8] ty (0, 0)) := by rw [row_put17 v1 h0]; rfl
  have h2 : (((W.setCell ⟨b, 0, none⟩ v0).setCell ⟨b, 1, none⟩ v1).setCell ⟨b, 2, none⟩ v2).heap[b]? = some (.cells #[v0, v1, v2, u3, u4, u5, u6, u7, u8] ty (0, 0)) := by rw [row_put17 v2 h1]; rfl
  have h3 : ((((W.setCell ⟨b, 0, none⟩ v0).setCell ⟨b, 1, none⟩ v1).setCell ⟨b, 2, none⟩ v2).setCell ⟨b, 3, none⟩ v3).heap[b]? = some (.cells #[v0, v1, v2, v3, u4, u5, u6, u7, u8] ty (0, 0)) := by rw [row_put17 v3 h2]; rfl
  have h4 : (((((W.setCell ⟨b, 0, none⟩ v0).setCell ⟨b, 1, none⟩ v1).setCell ⟨b, 2, none⟩ v2).setCell ⟨b, 3, none⟩ v3).setCell ⟨b, 4, none⟩ v4).heap[b]? = some (.cells #[v0, v1, v2, v3, v4, u5, u6, u7, u8] ty (0, 0)) := by rw [row_put17 v4 h3]; rfl
  have h5 : ((((((W.setCell ⟨b, 0, none⟩ v0).setCell ⟨b, 1, none⟩ v1).setCell ⟨b, 2, none⟩ v2).setCell ⟨b, 3, none⟩ v3).setCell ⟨b, 4, none⟩ v4).setCell ⟨b, 5, none⟩ v5).heap[b]? = some (.cells #[v0, v1, v2, v3, v4, v5, u6, u7, u8] ty (0, 0)) := by rw [row_put17 v5 h4]; rfl
  have h6 : (((((((W.setCell ⟨b, 0, none⟩ v0).setCell ⟨b, 1, none⟩ v1).setCell ⟨b, 2, none⟩ v2).setCell ⟨b, 3, none⟩ v3).setCell ⟨b, 4, none⟩ v4).setCell ⟨b, 5, none⟩ v5).setCell ⟨b, 6, none⟩ v6).heap[b]? = some (.cells #[v0, v1, v2, v3, v4, v5, v6, u7, u8] ty (0, 0)) := by rw [row_put17 v6 h5]; rfl
  have h7 : ((((((((W.setCell ⟨b, 0, none⟩ v0).setCell ⟨b, 1, none⟩ v1).setCell ⟨b, 2, none⟩ v2).setCell ⟨b, 3, none⟩ v3).setCell ⟨b, 4, none⟩ v4).setCell ⟨b, 5, none⟩ v5).setCell ⟨b, 6, none⟩ v6).setCell ⟨b, 7, none⟩ v7).heap[b]? = some (.cells #[v0, v1, v2, v3, v4, v5, v6, v7, u8] ty (0, 0)) := by rw [row_put17 v7 h6]; rfl
  have h8 : (((((((((W.setCell ⟨b, 0, none⟩ v0).setCell ⟨b, 1, none⟩ v1).setCell ⟨b, 2, none⟩ v2).setCell ⟨b, 3, none⟩ v3).setCell ⟨b, 4, none⟩ v4).setCell ⟨b, 5, none⟩ v5).setCell ⟨b, 6, none⟩ v6).setCell ⟨b, 7, none⟩ v7).setCell ⟨b, 8, none⟩ v8).heap[b]? = some (.cells #[v0, v1, v2, v3, v4, v5, v6, v7, v8] ty (0, 0)) := by rw [row_put17 v8 h7]; rfl
  exact h8
end
theorem results_ccc_row {fn : Func} {p q u : Tmp} {t1 t2 t3 : TypeId} (h : fn.results = #[.cell p t1, .cell q t2, .cell u t3]) (tmps : Array Value) (P : Program) (w : World) (a b c : Nat) (x y z : Value) (hp : tmps.getD p undef = .pointer (some ⟨a, 0, none⟩)) (hq : tmps.getD q undef = .pointer (some ⟨b, 0, none⟩)) (hu : tmps.getD u undef = .pointer (some ⟨c, 0, none⟩))
    (h1 : (loadVar t1 ⟨a, 0, none⟩).run P w = .ok x w) (h2 : (loadVar t2 ⟨b, 0, none⟩).run P w = .ok y w) (h3 : (loadVar t3 ⟨c, 0, none⟩).run P w = .ok z w) :
    (results fn tmps).run P w = .ok (.tuple #[x, y, z]) w := by
  simp only [results, h]
  simp [Sem.run_bind, Result.andThen, ← Array.getD_eq_getD_getElem?, hp, hq, hu, asAddr, h1, h2, h3]
theorem load_int17 {w : World} {g : Nat} {x : Int} (h : w.heap[g]? = some (.cells #[.int .i64 x] 3 (0, 0))) : (loadVar 3 ⟨g, 0, none⟩).run Tryz.prog w = .ok (.int .i64 x) w := by
  have hc : w.cell? ⟨g, 0, none⟩ = some (.int .i64 x) := by rw [cell_of_row _ _ _ _ _ _ h]; rfl
  go_simp
theorem load_bool17 {w : World} {g : Nat} {x : Bool} (h : w.heap[g]? = some (.cells #[.bool x] 4 (0, 0))) : (loadVar 4 ⟨g, 0, none⟩).run Tryz.prog w = .ok (.bool x) w := by
  have hc : w.cell? ⟨g, 0, none⟩ = some (.bool x) := by rw [cell_of_row _ _ _ _ _ _ h]; rfl
  go_simp
/-- What next answers. -/
def Tk.nxS (T : Tk) : Int := if T.bg = true ∧ T.ak < T.nR then T.sh T.ak else 0
def Tk.nxR (T : Tk) : Rv := if T.bg = true ∧ T.ak < T.nR then T.r else Rv.zero
def Tk.nxB (T : Tk) : Bool := decide (T.bg = true ∧ T.ak < T.nR)
set_option maxHeartbeats 1000000 in
theorem qnext_no {p : Value} {w : World} (h : NoT p w) : Calls Tryz.prog 24 #[p] w fun e w' => e = .returned (.tuple #[.int .i64 0, Rv.zero.v, .bool false]) ∧ Fr [] w w' := by
  have hF : Fr [] w (((w.alloc (.cells #[.int .i64 0] 3)).alloc (.cells Rv.zero.a 64)).alloc (.cells #[.bool false] 4)) := ((Fr.alloc [] _ _).then (Fr.alloc [] _ _)).then (Fr.alloc [] _ _)
  have HF : Hid (Fr [] w _) := hF
  have HT : Hid (Calls _ _ _ _ _) := qthere_no (h.keep hF)
  have hp : ∃ o, p = .pointer o := by
    rcases h with h | ⟨t, e, _⟩
    · exact ⟨_, h⟩
    · exact ⟨_, e⟩
  obtain ⟨o, rfl⟩ := hp
  clear h hF
  simp only [Rv.a, Rv.zero] at HT HF
  go_enter Tryz.func24, Tryz.ntmps24
  go_wp2_with fail
  refine Calls.mono HT.out ?_
  rintro e w1 ⟨rfl, rfl⟩
  go_wp2
  refine bodyPost_ret (results_ccc_row rfl _ _ _ w.heap.size (w.heap.size + 1) (w.heap.size + 1 + 1) _ _ _ rfl rfl rfl (load_int17 (x := 0) ?_) (load_req Rv.zero ?_) (load_bool17 (x := false) ?_)) rfl ?_
  · exact (Below.heap_alloc _ _ _ (by simp; omega)).trans ((Below.heap_alloc _ _ _ (by simp)).trans (heap_alloc_new w _))
  · exact (Below.heap_alloc _ _ _ (by simp)).trans (heap_at1 _ _ _)
  · exact heap_at2 _ _ _ _
  · exact ⟨rfl, HF.out⟩
set_option maxHeartbeats 1000000 in
theorem qnext_un {w : World} {t : Nat} {T : Tk} (h : TkM w t T) (hn : T.n < 0) (hb : T.bg = false) : Calls Tryz.prog 24 #[.pointer (some ⟨t, 0, none⟩)] w fun e w' => e = .returned (.tuple #[.int .i64 0, Rv.zero.v, .bool false]) ∧ Fr [] w w' := by
  have hF : Fr [] w (((w.alloc (.cells #[.int .i64 0] 3)).alloc (.cells Rv.zero.a 64)).alloc (.cells #[.bool false] 4)) := ((Fr.alloc [] _ _).then (Fr.alloc [] _ _)).then (Fr.alloc [] _ _)
  have HF : Hid (Fr [] w _) := hF
  have hk := h.keep hF (by simp)
  have HT : Hid (Calls _ _ _ _ _) := qthere_any hk hn
  have c8 := hk.c8
  rw [hb] at c8
  clear h hF hk
  simp only [Rv.a, Rv.zero] at HT HF c8
  go_enter Tryz.func24, Tryz.ntmps24
  go_wp2_with fail
  refine Calls.mono HT.out ?_
  rintro e w1 ⟨rfl, rfl⟩
  go_wp2
  refine bodyPost_ret (results_ccc_row rfl _ _ _ w.heap.size (w.heap.size + 1) (w.heap.size + 1 + 1) _ _ _ rfl rfl rfl (load_int17 (x := 0) ?_) (load_req Rv.zero ?_) (load_bool17 (x := false) ?_)) rfl ?_
  · exact (Below.heap_alloc _ _ _ (by simp; omega)).trans ((Below.heap_alloc _ _ _ (by simp)).trans (heap_alloc_new w _))
  · exact (Below.heap_alloc _ _ _ (by simp)).trans (heap_at1 _ _ _)
  · exact heap_at2 _ _ _ _
  · exact ⟨rfl, HF.out⟩
end Go.Proofs.YtpdkdgmaofhlkaaGreatDoor

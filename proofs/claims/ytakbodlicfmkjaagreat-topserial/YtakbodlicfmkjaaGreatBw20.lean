/- Tasks told from the end, one by one: the contract of the iterator, for whatever loop body. Conditions as each names them. -/
import Derived.Test.YtakbodlicfmkjaaGreatMd20
import Derived.Test.YtakbodlicfmkjaaGreatMa20
import Derived.Test.YtakbodlicfmkjaaGreatRgf
namespace Go.Proofs.YtakbodlicfmkjaaGreat
open Go.ChangeShapes Go.WideShapes Go.ChangeAt Go.RowKit Go.Lib
set_option linter.unusedVariables false
set_option linter.unusedSimpArgs false
attribute [local go_sem] Oper.semAt_some

theorem backT_any (o : Option Addr) (n k : Nat) (w : World) : Calls Tryz.prog 104 #[.slice o n k] w fun e w' => e = .returned (.func (Fn.func 142) #[] #[.pointer (some ⟨w.heap.size, 0, none⟩)]) ∧ w' = w.alloc (.cells #[.slice o n k] 73) := by
  go_enter Tryz.func104, Tryz.ntmps104
  go_wp2
  go_ret
  exact ⟨rfl, rfl⟩
/-- Where the iterator has ended. -/
def BackEnd (J Jx : Nat → World → Prop) (go : Nat → Bool) (R : Nat) (W' : World) : Prop :=
  (J R W' ∧ ∀ j, j < R → go j = true) ∨ ∃ i, i < R ∧ go i = false ∧ (∀ j, j < i → go j = true) ∧ Jx i W'
set_option maxHeartbeats 8000000 in
set_option maxRecDepth 100000 in
theorem back1_all (m l bb sb n cap : Nat) (xs : Nat → Value) (W : World) (J Jx : Nat → World → Prop) (go : Nat → Bool) (hn : n ≤ 100) (hcap : n ≤ cap)
    (hT : ∀ i w, J i w → w.cell? ⟨bb, 0, none⟩ = some (.slice (some ⟨sb, 0, none⟩) n cap) ∧ ∀ k, k < n → w.cell? ⟨sb, k, none⟩ = some (xs k)) (h0 : J 0 W)
    (hY : ∀ (i k : Nat) (w : World), J i w → i + k + 1 = n → YieldAt Fence.wide m Tryz.prog l #[.int .i64 (k : Int), xs k] w fun e w' => e = .returned (.bool (go i)) ∧ (go i = true → J (i + 1) w') ∧ (go i = false → Jx i w')) :
    CallsIn Fence.wide (m + 1) Tryz.prog 142 #[.func (.yield l) #[] #[], .pointer (some ⟨bb, 0, none⟩)] W fun e W' => (∃ v, e = .returned v) ∧ BackEnd J Jx go n W' := by
  have cb := (hT 0 W h0).1
  refine callsIn_of_wp Tryz.func142 rfl trivial ?_ rfl
  simp only [Tryz.ntmps142, List.size_toArray, List.length_cons, List.length_nil, Nat.reduceAdd, Nat.reduceSub, Array.replicate_succ, Array.replicate_zero, List.push_toArray, List.append_toArray, List.nil_append, List.cons_append]
  gi_wp2_with fail
  gi_loopw [3] (fun ii wr => ∃ i : Nat, ii = .int .i64 ((n : Int) - 1 - (i : Int)) ∧ i ≤ n ∧ J i wr ∧ Hid (∀ j, j < i → go j = true)) (fun ii _ => (intOf ii + 1).toNat)
  case atStart => exact ⟨0, by simp, Nat.zero_le _, h0, fun j hj => absurd hj (by omega)⟩
  case round =>
    clear cb
    obtain ⟨i, rfl, hiR, hJi, HG⟩ := hrel
    by_cases hi : i < n
    · obtain ⟨k, hk⟩ : ∃ k, i + k + 1 = n := ⟨n - 1 - i, by omega⟩
      have ek : (n : Int) - 1 - (i : Int) = (k : Int) := by omega
      have HK : Hid (i + k + 1 = n) := hk
      have hkn : k < n := by omega
      rw [ek]
      have cb := (hT i wr hJi).1
      have ck := (hT i wr hJi).2 k hkn
      obtain ⟨fn, tmps, assign, body, hy, hRo⟩ := hY i k wr hJi hk
      obtain ⟨B, hB⟩ : ∃ B, B = go i := ⟨_, rfl⟩
      rw [← hB] at hRo
      have HB : Hid (B = go i) := hB
      clear hB hk ek
      cases B with
      | true =>
        gi_wp2_with fail
        refine hRo.mono ?_
        rintro e W6 ⟨rfl, hJt, _⟩
        have hJ6 := hJt (by trivial)
        clear hRo hy hJt cb ck
        have HG6 : Hid (∀ j, j < i + 1 → go j = true) := fun j hj => by
          rcases Nat.lt_or_ge j i with h | h
          · exact HG.out j h
          · obtain rfl : j = i := by omega
            exact HB.out.symm
        gi_wp2
        refine ⟨⟨i + 1, ?_, by omega, hJ6, HG6⟩, ?_⟩
        · have := HK.out
          congr 1
          omega
        · simp [intOf]
      | false =>
        gi_wp2_with fail
        refine hRo.mono ?_
        rintro e W6 ⟨rfl, _, hJt⟩
        have hJ6 := hJt (by trivial)
        clear hRo hy hJt cb ck
        gi_wp2
        refine bodyPost_ret (results_none rfl _ _ _) rfl ?_
        exact ⟨⟨_, rfl⟩, Or.inr ⟨i, hi, HB.out.symm, HG.out, hJ6⟩⟩
    · obtain rfl : i = n := by omega
      have en : (i : Int) - 1 - (i : Int) = -1 := by omega
      rw [en]
      gi_wp2
      go_end0
      exact ⟨⟨_, rfl⟩, Or.inl ⟨hJi, HG.out⟩⟩
theorem find1_of {w : World} {ty : TypeId} {p : Value} {mb nb : Nat} {i n : Int} (hn : w.heap[nb]? = some (.cells #[.int .i64 n] 3 (0, 0)))
    (MM : ∀ y : Wq w, (method 609 ty p "towpath/replica.number").run Tryz.prog y.W = .ok (250, .agg #[.pointer (some ⟨mb, 0, none⟩), .int .i64 i]) y.W) :
    Calls Tryz.prog 68 #[.iface ty p, .pointer (some ⟨nb, 0, none⟩)] w fun e w' => e = .returned (.bool (decide (i = n))) ∧ Fr [] w w' := by
  have cn : ∀ y : Wq w, y.W.cell? ⟨nb, 0, none⟩ = some (.int .i64 n) := fun y => by rw [cell_of_row _ _ _ _ _ _ (y.h.keep hn (by simp))]; rfl
  have HN : ∀ y : Wq w, Calls Tryz.prog 250 #[.agg #[.pointer (some ⟨mb, 0, none⟩), .int .i64 i]] y.W fun e w' => e = .returned (.int .i64 i) ∧ Fr [] y.W w' := fun y => snum_any _ _ _
  have hd : (i == n) = decide (i = n) := by by_cases h : i = n <;> simp [h]
  have HD : Hid ((i == n) = decide (i = n)) := hd
  clear hd
  go_enter Tryz.func68, Tryz.ntmps68
  go_wp2_with fail
  refine wp_region_wq (w1 := w) (by kernel_rfl) (by kernel_rfl) (Fr.refl _ _) ?_
  repeat (go_big_quiet_step (first
    | (go_at_call 250; with_reducible refine (HN _).mono ?_; exact fun e w3 hh => ⟨hh.1, ⟨_, Fr.then (Wq.h _) hh.2⟩, rfl⟩)
    | simp [go_sem, MM, cn]))
  refine wpQuiet_nil ?_
  rintro _ ⟨z, rfl⟩
  go_wp2
  go_ret
  exact ⟨by rw [← HD.out]; rfl, z.h⟩
/-- Is it the task of this number? -/
theorem find1_any {w0 w : World} {c : Cf} {T : List Tx} {Z : Lay} {s : Ms} (h : MaM w0 w c T Z s) {i nb : Nat} (hi : i < c.l.toNat + c.s.toNat + 2) {n : Int} (hn : w.heap[nb]? = some (.cells #[.int .i64 n] 3 (0, 0))) :
    Calls Tryz.prog 68 #[taskV c Z.z i, .pointer (some ⟨nb, 0, none⟩)] w fun e w' => e = .returned (.bool (decide ((i : Int) = n))) ∧ Fr [] w w' := by
  unfold taskV
  by_cases h1 : i = 0
  · rw [if_pos h1]
    refine find1_of (mb := Z.z.mb) hn fun y => ?_
    have := (h.quiet y.h).kdc
    exact m_dnum this.1 (by rw [this.2, h1]; rfl)
  rw [if_neg h1]
  by_cases h2 : i ≤ c.l.toNat
  · rw [if_pos h2]
    refine find1_of (mb := Z.z.mb) hn fun y => ?_
    have := (h.quiet y.h).kwc (i := i - 1) (by omega)
    exact m_wnum this.1 (by rw [this.2.1, show i - 1 + 1 = i by omega])
  rw [if_neg h2]
  by_cases h3 : i ≤ c.l.toNat + c.s.toNat
  · rw [if_pos h3]
    refine find1_of (mb := Z.z.mb) hn fun y => ?_
    have := (h.quiet y.h).kkc (j := i - c.l.toNat - 1) (by omega)
    exact m_knum this.1 (by rw [this.2.1, show c.l.toNat + 1 + (i - c.l.toNat - 1) = i by omega])
  · rw [if_neg h3]
    refine find1_of (mb := Z.z.mb) hn fun y => ?_
    have := (h.quiet y.h).kgc
    exact m_gnum this.1 (by rw [this.2, show c.l.toNat + c.s.toNat + 1 = i by omega])
end Go.Proofs.YtakbodlicfmkjaaGreat

/- Each task by its number: what it can do, what its step makes. Conditions as each names them. -/
import Derived.Test.YtakbodlicfmkjaaGreatKt20
import Derived.Test.YtakbodlicfmkjaaGreatKy20
import Derived.Test.YtakbodlicfmkjaaGreatKd20
import Derived.Test.YtakbodlicfmkjaaGreatKk20
import Derived.Test.YtakbodlicfmkjaaGreatKw20
import Derived.Test.YtakbodlicfmkjaaGreatWs20
import Derived.Test.YtakbodlicfmkjaaGreatWt20
import Derived.Test.YtakbodlicfmkjaaGreatGs20
import Derived.Test.YtakbodlicfmkjaaGreatWn20
namespace Go.Proofs.YtakbodlicfmkjaaGreat
open Go.ChangeShapes Go.WideShapes Go.ChangeAt Go.RowKit Go.Lib Go.Maps
set_option linter.unusedVariables false
set_option linter.unusedSimpArgs false
/-- A shard is one of them. -/
theorem shW_int {c : Cf} (hm : c.may) (x : Wt) : 0 ≤ (Cf.shard c x.key).1 ∧ (Cf.shard c x.key).1 < c.s := by
  have h := hm.2.1
  unfold Cf.shard
  rw [if_neg (by simpa using hm)]
  split
  · simp only; omega
  · simp only [shN13]
    exact ⟨Int.emod_nonneg _ (by omega), Int.emod_lt_of_pos _ (by omega)⟩
theorem shW_lt {c : Cf} (hm : c.may) (x : Wt) : shW c x < c.s.toNat := by
  have := shW_int hm x
  unfold shW
  omega
open Classical in
theorem ris_of (P : Int → Prop) (d : Nat) (h : ∀ m, P m → 1 ≤ m ∧ m ≤ (d : Int)) : ∃ xs : List Int, Ris xs ∧ ∀ m, m ∈ xs ↔ P m := by
  refine ⟨((List.range d).map fun (i : Nat) => ((i : Int) + 1)).filter fun m => decide (P m), ?_, fun m => ?_⟩
  · refine List.Pairwise.filter _ (List.pairwise_map.2 ?_)
    exact List.pairwise_lt_range.imp fun h => by omega
  · rw [List.mem_filter, List.mem_map]
    constructor
    · rintro ⟨_, h2⟩; exact of_decide_eq_true h2
    · intro hm
      obtain ⟨a, b⟩ := h m hm
      exact ⟨⟨(m - 1).toNat, List.mem_range.2 (by omega), by omega⟩, decide_eq_true hm⟩
theorem adt_is (T : List Tx) (d : Nat) (en : Int → Prop) (ks : List ByteArray) : ∃ xs, AdT (lgT T d) en ks xs := by
  obtain ⟨xs, h1, h2⟩ := ris_of (fun m => Op11 (lgT T d) en m ∧ ∃ k ∈ ks, lst (lgT T d) k = m) d (fun m hm => (op_iff.1 hm.1).1)
  exact ⟨xs, h1, h2⟩
theorem dot_is (T : List Tx) (d : Nat) (en : Int → Prop) (n : Int) : ∃ zs, DoT (lgT T d) (Op11 (lgT T d) en) n zs := by
  obtain ⟨xs, h1, h2⟩ := ris_of (fun o => Op11 (lgT T d) en o ∧ Dep (lgT T d) o n ∧ ∀ m, Op11 (lgT T d) en m → m ≠ n → ¬ Dep (lgT T d) o m) d (fun m hm => (op_iff.1 hm.1).1)
  exact ⟨xs, h1, h2⟩
/-- What the task of a number can do. -/
def canT (c : Cf) (s : Ms) (q : Nat) : Nat := if q = 0 then canD c s else if q ≤ c.l.toNat then canW c s (q - 1) else if q ≤ c.l.toNat + c.s.toNat then canK s (q - c.l.toNat - 1) else canG s
/-- Its type, its value, its methods. -/
def tyT (c : Cf) (q : Nat) : TypeId := if q = 0 then 215 else if q ≤ c.l.toNat then 221 else if q ≤ c.l.toNat + c.s.toNat then 224 else 227
def bT (c : Cf) (Z : St) (q : Nat) : Nat := if q = 0 then Z.kd else if q ≤ c.l.toNat then Z.kw (q - 1) else if q ≤ c.l.toNat + c.s.toNat then Z.kk (q - c.l.toNat - 1) else Z.kg
def canF (c : Cf) (q : Nat) : FuncId := if q = 0 then 248 else if q ≤ c.l.toNat then 268 else if q ≤ c.l.toNat + c.s.toNat then 302 else 335
def stepF (c : Cf) (q : Nat) : FuncId := if q = 0 then 251 else if q ≤ c.l.toNat then 270 else if q ≤ c.l.toNat + c.s.toNat then 303 else 336
theorem taskV_eq (c : Cf) (Z : St) (q : Nat) : taskV c Z q = .iface (tyT c q) (.pointer (some ⟨bT c Z q, 0, none⟩)) := by
  unfold taskV tyT bT
  split
  · rfl
  split
  · rfl
  split
  · rfl
  · rfl
theorem m_can (c : Cf) (Z : St) (q : Nat) (w : World) : (method 609 (tyT c q) (.pointer (some ⟨bT c Z q, 0, none⟩)) "towpath/replica.can").run Tryz.prog w = .ok (canF c q, .pointer (some ⟨bT c Z q, 0, none⟩)) w := by
  unfold tyT bT canF
  split
  · exact m_dcan _ _
  split
  · exact m_wcan _ _
  split
  · exact m_kcan _ _
  · exact m_gcan _ _
theorem m_step (c : Cf) (Z : St) (q : Nat) (w : World) : (method 609 (tyT c q) (.pointer (some ⟨bT c Z q, 0, none⟩)) "towpath/replica.step").run Tryz.prog w = .ok (stepF c q, .pointer (some ⟨bT c Z q, 0, none⟩)) w := by
  unfold tyT bT stepF
  split
  · exact m_dstep _ _
  split
  · exact m_wstep _ _
  split
  · exact m_kstep _ _
  · exact m_gstep _ _
theorem enter_can (c : Cf) (q : Nat) : ∀ args w, (callFunc (canF c q) args).run Tryz.prog w = .ok (.enter (canF c q) args) w := by
  unfold canF
  split
  · exact enters_of Tryz.func248 (by kernel_rfl) rfl
  split
  · exact enters_of Tryz.func268 (by kernel_rfl) rfl
  split
  · exact enters_of Tryz.func302 (by kernel_rfl) rfl
  · exact enters_of Tryz.func335 (by kernel_rfl) rfl
theorem enter_step (c : Cf) (q : Nat) : ∀ args w, (callFunc (stepF c q) args).run Tryz.prog w = .ok (.enter (stepF c q) args) w := by
  unfold stepF
  split
  · exact enters_of Tryz.func251 (by kernel_rfl) rfl
  split
  · exact enters_of Tryz.func270 (by kernel_rfl) rfl
  split
  · exact enters_of Tryz.func303 (by kernel_rfl) rfl
  · exact enters_of Tryz.func336 (by kernel_rfl) rfl
section
variable {w0 w w' : World} {c : Cf} {T : List Tx} {Z : Lay} {s : Ms}
theorem m_num (h : MaM w0 w c T Z s) {q : Nat} (hq : q < c.l.toNat + c.s.toNat + 2) : (method 609 (tyT c q) (.pointer (some ⟨bT c Z.z q, 0, none⟩)) "towpath/replica.number").run Tryz.prog w = .ok (250, .agg #[.pointer (some ⟨Z.z.mb, 0, none⟩), .int .i64 (q : Int)]) w := by
  unfold tyT bT
  by_cases h1 : q = 0
  · rw [if_pos h1, if_pos h1]
    have := h.kdc
    exact m_dnum this.1 (by rw [this.2, h1]; rfl)
  rw [if_neg h1, if_neg h1]
  by_cases h2 : q ≤ c.l.toNat
  · rw [if_pos h2, if_pos h2]
    have := h.kwc (i := q - 1) (by omega)
    exact m_wnum this.1 (by rw [this.2.1, show q - 1 + 1 = q by omega])
  rw [if_neg h2, if_neg h2]
  by_cases h3 : q ≤ c.l.toNat + c.s.toNat
  · rw [if_pos h3, if_pos h3]
    have := h.kkc (j := q - c.l.toNat - 1) (by omega)
    exact m_knum this.1 (by rw [this.2.1, show c.l.toNat + 1 + (q - c.l.toNat - 1) = q by omega])
  · rw [if_neg h3, if_neg h3]
    have := h.kgc
    exact m_gnum this.1 (by rw [this.2, show c.l.toNat + c.s.toNat + 1 = q by omega])
theorem Wf.lnOk (hW : Wf c T s) {i : Nat} (hi : i < c.l.toNat) {g : Hl} (hn : s.ln i = some g) : LnOk c g := by
  have ho := (hW.lane i g hi hn).1
  have hb := (hW.op.1 ho).1
  have hdT := hW.dT
  have hok := hW.txn hb.1 (by omega)
  obtain ⟨A, hA, _⟩ := hW.las i g hi hn
  refine ⟨⟨hok.1, hok.2.1⟩, fun y hy => ⟨hok.2.2.2 y (dd_mem _ y (by rw [hA]; exact List.mem_append_right _ hy)), shW_int hW.may y⟩⟩
/-- What a task can do. -/
theorem can_any (h : MaM w0 w c T Z s) (hW : Wf c T s) {q : Nat} (hq : q < c.l.toNat + c.s.toNat + 2) : Calls Tryz.prog (canF c q) #[.pointer (some ⟨bT c Z.z q, 0, none⟩)] w fun e w' => e = .returned (.int .u8 (canT c s q : Int)) ∧ Fr [] w w' := by
  unfold canF bT canT
  by_cases h1 : q = 0
  · rw [if_pos h1, if_pos h1, if_pos h1]
    exact kd_can h
  rw [if_neg h1, if_neg h1, if_neg h1]
  by_cases h2 : q ≤ c.l.toNat
  · rw [if_pos h2, if_pos h2, if_pos h2]
    exact kw_can h (by omega) (fun g hg => hW.lnOk (by omega) hg)
  rw [if_neg h2, if_neg h2, if_neg h2]
  by_cases h3 : q ≤ c.l.toNat + c.s.toNat
  · rw [if_pos h3, if_pos h3, if_pos h3]
    exact kk_can h (by omega)
  · rw [if_neg h3, if_neg h3, if_neg h3]
    exact kg_can h
/-- Where a step leads. -/
structure Nxt (c : Cf) (T : List Tx) (s s' : Ms) : Prop where
  wf : Wf c T s'
  mu : mu c s' < mu c s
  fd : s'.fd = s.fd
  k : s'.k = s.k + 1
  nu : nu c T s' + 1 = nu c T s
/-- What a task's step makes. -/
theorem step_any (h : MaM w0 w c T Z s) (hnr : Z.nr = s.d) (hW : Wf c T s) (hk : s.k < 16000000) {q : Nat} (hq : q < c.l.toNat + c.s.toNat + 2) (hne : canT c s q ≠ 0) : Calls Tryz.prog (stepF c q) #[.pointer (some ⟨bT c Z.z q, 0, none⟩), .int .u8 (canT c s q : Int)] w fun e w' => ∃ s' n sh ct, StP w0 c T w Z s n sh ct s' e w' ∧ Nxt c T s s' := by
  unfold stepF bT
  unfold canT at hne ⊢
  by_cases h1 : q = 0
  · rw [if_pos h1] at hne
    rw [if_pos h1, if_pos h1, if_pos h1]
    unfold canD at hne
    by_cases hv : s.hv = false
    · rw [if_pos hv] at hne
      by_cases hr : s.rd < s.fd
      · have e : canD c s = 1 := by unfold canD; rw [if_pos hv, if_pos hr]
        rw [e]
        exact (kd_read h hnr hv hr).mono fun e w' hS => ⟨_, _, _, _, hS, hW.read hv hr, mu_read hW hv hr, rfl, rfl, nu_read hW hv hr⟩
      · rw [if_neg hr] at hne; exact absurd rfl hne
    · rw [if_neg hv] at hne
      have hv' : s.hv = true := by simpa using hv
      by_cases hr : (s.rd : Int) ≤ s.ma + c.w
      · have e : canD c s = 3 := by unfold canD; rw [if_neg hv, if_pos hr]
        rw [e]
        obtain ⟨xs, hx⟩ := adt_is T s.d s.en (keysW (wsAt T (s.rd : Int)))
        exact (kd_disp h hnr hW hv' hr hk).mono fun e w' hS => ⟨_, _, _, _, hS, hW.disp hv' hr hx, mu_disp hW hv', rfl, rfl, nu_disp hW hv'⟩
      · rw [if_neg hr] at hne; exact absurd rfl hne
  rw [if_neg h1] at hne
  rw [if_neg h1, if_neg h1, if_neg h1]
  by_cases h2 : q ≤ c.l.toNat
  · rw [if_pos h2] at hne
    rw [if_pos h2, if_pos h2, if_pos h2]
    obtain ⟨i, rfl⟩ : ∃ i, q = i + 1 := ⟨q - 1, by omega⟩
    simp only [Nat.add_sub_cancel] at hne ⊢
    have hi : i < c.l.toNat := by omega
    cases hn : s.ln i with
    | none =>
      cases hl : s.line with
      | nil => exfalso; apply hne; simp [canW, hn, hl]
      | cons n r =>
        have e : canW c s i = 4 := by simp [canW, hn, hl]
        rw [e]
        exact (kw_take h hnr hW hi hn hl).mono fun e w' hS => ⟨_, _, _, _, hS, hW.take hi hn hl, mu_take hW hi hn hl, rfl, rfl, nu_take hW hi hn hl⟩
    | some g =>
      have hLk := hW.lnOk hi hn
      obtain ⟨n, l, ou⟩ := g
      cases l with
      | cons y r =>
        by_cases hq' : ((s.qs (shW c y)).length : Int) < c.q
        · have e : canW c s i = 5 := by simp [canW, hn, hq']
          rw [e]
          have hsh := hLk.sh (y := y) (by simp)
          exact (kw_send h hnr hW hi hn hsh hq' (hLk.x y (by simp)).1 hLk.n).mono fun e w' hS => ⟨_, _, _, _, hS, hW.send hi hn rfl hsh.2 hq', mu_send hW hi hn rfl, rfl, rfl, nu_send hW hi hn rfl⟩
        · exfalso; apply hne; simp only [canW, hn]; rw [if_neg hq']
      | nil =>
        by_cases ho : ou = 0
        · subst ho
          have e : canW c s i = 6 := by simp [canW, hn]
          rw [e]
          exact (kw_done h hnr hW hi hn).mono fun e w' hS => ⟨_, _, _, _, hS, hW.done hi hn rfl rfl, mu_done hW hi hn, rfl, rfl, nu_done hW hi hn⟩
        · exfalso; apply hne; simp [canW, hn, ho]
  rw [if_neg h2] at hne
  rw [if_neg h2, if_neg h2, if_neg h2]
  by_cases h3 : q ≤ c.l.toNat + c.s.toNat
  · rw [if_pos h3] at hne
    rw [if_pos h3, if_pos h3, if_pos h3]
    obtain ⟨j, rfl⟩ : ∃ j, q = c.l.toNat + 1 + j := ⟨q - c.l.toNat - 1, by omega⟩
    have ej : c.l.toNat + 1 + j - c.l.toNat - 1 = j := by omega
    rw [ej] at hne ⊢
    have hj : j < c.s.toNat := by omega
    cases hqs : s.qs j with
    | nil => exfalso; apply hne; simp [canK, hqs]
    | cons e r =>
      have ec : canK s j = 7 := by simp [canK, hqs]
      rw [ec]
      have hej : e ∈ s.qs j := by rw [hqs]; simp
      obtain ⟨hsh, i, g, hi, hef, hn, hgn⟩ := hW.req j e hj hej
      have hLk := hW.lnOk hi hn
      have ho : 0 < g.out := by
        rw [hW.out i g hi hn]
        exact outs_pos (q := s.qs) hj hej hef
      have hyo : okW e.x := by
        have ho' := (hW.lane i g hi hn).1
        have hb := (hW.op.1 ho').1
        have hdT := hW.dT
        have hok := hW.txn hb.1 (by omega)
        obtain ⟨A, hA, _, hA3, _⟩ := hW.las i g hi hn
        exact hok.2.2.2 _ (dd_mem _ _ (by rw [hA]; exact List.mem_append_left _ (hA3 j e hj hej hgn.symm)))
      exact (kk_step h hnr hj hqs hi hef hn ho (by rw [← hgn]; exact hLk.n) hyo (hW.rq3 j e hj hej) hk).mono fun e' w' ⟨M', hP, hS⟩ => ⟨_, _, _, _, hS, hW.serve hj hqs hi hef hn hP, mu_serve hW hj hqs hi hef hn M', rfl, rfl, nu_serve hW hj hqs hi hef hn M'⟩
  · rw [if_neg h3] at hne
    rw [if_neg h3, if_neg h3, if_neg h3]
    cases hp : s.pass with
    | nil => exfalso; apply hne; simp [canG, hp]
    | cons n r =>
      have ec : canG s = 8 := by simp [canG, hp]
      rw [ec]
      obtain ⟨zs, hz⟩ := dot_is T s.d s.en n
      exact (kg_step h hnr hW hp).mono fun e' w' hS => ⟨_, _, _, _, hS, hW.gate hp hz, mu_gate hW hp hz, rfl, rfl, nu_gate hW hp hz⟩
end
end Go.Proofs.YtakbodlicfmkjaaGreat

/- A machine's steps come to an end, and when none can be done all is through. Mathematics. Conditions as each names them. -/
import Derived.Test.YtakbodlicfmkjaaGreatWf20
namespace Go.Proofs.YtakbodlicfmkjaaGreat
set_option linter.unusedVariables false
set_option linter.unusedSimpArgs false

open Classical in
/-- How many wait for others. -/
noncomputable def wtN (wt : Int → Prop) (d : Nat) : Nat := ((List.range d).filter fun i => decide (wt ((i + 1 : Nat) : Int))).length
/-- What a lane still has to do. -/
def lnW (o : Option Hl) : Nat := match o with | none => 0 | some h => 2 * h.l.length + h.out + 2
def sumW (f : Nat → Option Hl) : Nat → Nat
  | 0 => 0
  | n + 1 => sumW f n + lnW (f n)
/-- A bound of the steps that are left. -/
noncomputable def mu (c : Cf) (s : Ms) : Nat := 69 * (s.fd - s.rd) + (if s.hv = true then 68 else 0) + 67 * (wtN s.wt s.d + s.line.length) + sumW s.ln c.l.toNat + s.pass.length
theorem sumW_upd (f : Nat → Option Hl) (i : Nat) (o : Option Hl) : ∀ n, i < n → sumW (upd f i o) n + lnW (f i) = sumW f n + lnW o
  | 0, h => by omega
  | n + 1, h => by
    rw [sumW, sumW]
    by_cases e : i = n
    · subst e
      have : ∀ m, m ≤ i → sumW (upd f i o) m = sumW f m := by
        intro m
        induction m with
        | zero => intro _; rfl
        | succ m ih => intro hm; rw [sumW, sumW, ih (by omega), upd_other _ _ (by omega)]
      rw [this i (Nat.le_refl _), upd_same]
      omega
    · rw [upd_other _ _ (by omega)]
      have := sumW_upd f i o n (by omega)
      omega
section
variable {c : Cf} {T : List Tx} {s : Ms}
theorem mu_read (h : Wf c T s) (hv : s.hv = false) (hr : s.rd < s.fd) : mu c (readM s) < mu c s := by
  show 69 * (s.fd - (s.rd + 1)) + (if true = true then 68 else 0) + 67 * (wtN s.wt s.d + s.line.length) + sumW s.ln c.l.toNat + s.pass.length < 69 * (s.fd - s.rd) + (if s.hv = true then 68 else 0) + 67 * (wtN s.wt s.d + s.line.length) + sumW s.ln c.l.toNat + s.pass.length
  rw [hv, if_pos rfl, if_neg (by simp)]
  omega
open Classical in
theorem wtN_succ (wt : Int → Prop) (d : Nat) : wtN wt (d + 1) = wtN wt d + (if wt ((d + 1 : Nat) : Int) then 1 else 0) := by
  unfold wtN
  rw [List.range_succ, List.filter_append, List.length_append]
  by_cases h : wt ((d + 1 : Nat) : Int)
  · rw [if_pos h, List.filter_cons, if_pos (by simpa using h)]; rfl
  · rw [if_neg h, List.filter_cons, if_neg (by simpa using h)]; rfl
theorem wtN_cong {wt wt' : Int → Prop} : ∀ d : Nat, (∀ n : Int, 1 ≤ n → n ≤ d → (wt n ↔ wt' n)) → wtN wt d = wtN wt' d
  | 0, _ => rfl
  | d + 1, h => by
    rw [wtN_succ, wtN_succ, wtN_cong d (fun n h1 h2 => h n h1 (by omega))]
    congr 1
    have := h ((d + 1 : Nat) : Int) (by omega) (Int.le_refl _)
    by_cases e : wt ((d + 1 : Nat) : Int)
    · rw [if_pos e, if_pos (this.1 e)]
    · rw [if_neg e, if_neg (fun x => e (this.2 x))]
theorem mu_disp (h : Wf c T s) (hv : s.hv = true) : mu c (dispM T s) < mu c s := by
  have hrd := h.hol hv
  have key : wtN (dispM T s).wt (s.d + 1) + (dispM T s).line.length = wtN s.wt s.d + s.line.length + 1 := by
    have hno : ¬ s.wt (s.rd : Int) := fun e => by have := (h.op.1 ((h.wait _).1 e).1).1; omega
    have hrd' : ((s.d + 1 : Nat) : Int) = (s.rd : Int) := by omega
    show wtN (if wtsOf T s = [] then s.wt else fun m => s.wt m ∨ m = (s.rd : Int)) (s.d + 1) + (if wtsOf T s = [] then s.line ++ [(s.rd : Int)] else s.line).length = _
    by_cases e : wtsOf T s = []
    · rw [if_pos e, if_pos e, wtN_succ, hrd', if_neg hno]
      simp; omega
    · rw [if_neg e, if_neg e, wtN_succ, hrd', if_pos (Or.inr rfl), wtN_cong (wt := fun m => s.wt m ∨ m = (s.rd : Int)) (wt' := s.wt) s.d (fun n h1 h2 => ⟨fun x => x.resolve_right (by omega), Or.inl⟩)]
      omega
  show 69 * (s.fd - s.rd) + (if false = true then 68 else 0) + 67 * (wtN (dispM T s).wt (s.d + 1) + (dispM T s).line.length) + sumW s.ln c.l.toNat + s.pass.length < 69 * (s.fd - s.rd) + (if s.hv = true then 68 else 0) + 67 * (wtN s.wt s.d + s.line.length) + sumW s.ln c.l.toNat + s.pass.length
  rw [key, hv, if_pos rfl, if_neg (by simp)]
  omega
theorem dd_few (h : Wf c T s) {n : Int} (ho : Opn T s n) : (dd (wsAt T n)).length ≤ 32 := by
  have h1 := (h.op.1 ho).1
  have h2 := h.dT
  have := (h.txn h1.1 (by omega)).2.2.1
  have := dd_len (wsAt T n)
  omega
theorem mu_take (h : Wf c T s) {i : Nat} (hi : i < c.l.toNat) (hn : s.ln i = none) {n : Int} {r : List Int} (hl : s.line = n :: r) : mu c (takeM T s i n r) < mu c s := by
  have hd := dd_few h (h.line n (by rw [hl]; simp)).1
  have hs := sumW_upd s.ln i (some ⟨n, dd (wsAt T n), 0⟩) c.l.toNat hi
  rw [hn] at hs
  simp only [lnW] at hs
  show 69 * (s.fd - s.rd) + (if s.hv = true then 68 else 0) + 67 * (wtN s.wt s.d + r.length) + sumW (upd s.ln i (some ⟨n, dd (wsAt T n), 0⟩)) c.l.toNat + s.pass.length < 69 * (s.fd - s.rd) + (if s.hv = true then 68 else 0) + 67 * (wtN s.wt s.d + s.line.length) + sumW s.ln c.l.toNat + s.pass.length
  rw [hl, List.length_cons]
  omega
theorem mu_send (h : Wf c T s) {i : Nat} (hi : i < c.l.toNat) {g : Hl} {y : Wt} {r : List Wt} (hn : s.ln i = some g) (hl : g.l = y :: r) : mu c (sendM c s i g y r) < mu c s := by
  have hs := sumW_upd s.ln i (some ⟨g.n, r, g.out + 1⟩) c.l.toNat hi
  rw [hn] at hs
  simp only [lnW, hl, List.length_cons] at hs
  show 69 * (s.fd - s.rd) + (if s.hv = true then 68 else 0) + 67 * (wtN s.wt s.d + s.line.length) + sumW (upd s.ln i (some ⟨g.n, r, g.out + 1⟩)) c.l.toNat + s.pass.length < 69 * (s.fd - s.rd) + (if s.hv = true then 68 else 0) + 67 * (wtN s.wt s.d + s.line.length) + sumW s.ln c.l.toNat + s.pass.length
  omega
theorem mu_done (h : Wf c T s) {i : Nat} (hi : i < c.l.toNat) {g : Hl} (hn : s.ln i = some g) : mu c (doneM s i g.n) < mu c s := by
  have hs := sumW_upd s.ln i none c.l.toNat hi
  rw [hn] at hs
  simp only [lnW] at hs
  show 69 * (s.fd - s.rd) + (if s.hv = true then 68 else 0) + 67 * (wtN s.wt s.d + s.line.length) + sumW (upd s.ln i none) c.l.toNat + (s.pass ++ [g.n]).length < 69 * (s.fd - s.rd) + (if s.hv = true then 68 else 0) + 67 * (wtN s.wt s.d + s.line.length) + sumW s.ln c.l.toNat + s.pass.length
  rw [List.length_append]
  simp only [List.length_cons, List.length_nil]
  omega
theorem outs_pos {q : Nat → List Qe} {f : Int} : ∀ {m : Nat} {j : Nat} {e : Qe}, j < m → e ∈ q j → e.f = f → 1 ≤ outs q f m
  | 0, j, e, hj, _, _ => by omega
  | m + 1, j, e, hj, he, hf => by
    rw [outs]
    by_cases h : j = m
    · subst h
      have : 0 < ((q j).filter fun e => decide (e.f = f)).length := List.length_pos_of_mem (List.mem_filter.2 ⟨he, by simpa using hf⟩)
      omega
    · have := outs_pos (m := m) (by omega) he hf
      omega
theorem mu_serve (h : Wf c T s) {j : Nat} (hj : j < c.s.toNat) {e : Qe} {r : List Qe} (hq : s.qs j = e :: r) {i : Nat} {g : Hl} (hi : i < c.l.toNat) (hf : e.f = ((i + 1 : Nat) : Int)) (hn : s.ln i = some g) (M' : ByteArray → List O.Vn) : mu c (servM s j e r g M') < mu c s := by
  have hidx : e.f.toNat - 1 = i := by omega
  have hs := sumW_upd s.ln i (some (ackH g)) c.l.toNat hi
  have ho := h.out i g hi hn
  have hp := outs_pos (q := s.qs) hj (by rw [hq]; simp) hf
  rw [hn] at hs
  simp only [lnW, ackH] at hs
  show 69 * (s.fd - s.rd) + (if s.hv = true then 68 else 0) + 67 * (wtN s.wt s.d + s.line.length) + sumW (upd s.ln (e.f.toNat - 1) (some (ackH g))) c.l.toNat + s.pass.length < 69 * (s.fd - s.rd) + (if s.hv = true then 68 else 0) + 67 * (wtN s.wt s.d + s.line.length) + sumW s.ln c.l.toNat + s.pass.length
  rw [hidx]
  unfold ackH
  omega
theorem wtN_less (wt : Int → Prop) (d : Nat) (zs : List Int) (hz : zs.Nodup) (hw : ∀ m ∈ zs, wt m ∧ 1 ≤ m ∧ m ≤ (d : Int)) : wtN (fun m => wt m ∧ m ∉ zs) d + zs.length ≤ wtN wt d := by
  let f : Nat → Int := fun i => ((i + 1 : Nat) : Int)
  have hf : ∀ i j, f i = f j → i = j := fun i j e => by have : ((i + 1 : Nat) : Int) = ((j + 1 : Nat) : Int) := e; omega
  have h1 : ((((List.range d).filter fun i => @decide ((fun m => wt m ∧ m ∉ zs) (f i)) (Classical.propDecidable _)).map f) ++ zs).length ≤ (((List.range d).filter fun i => @decide (wt (f i)) (Classical.propDecidable _)).map f).length := by
    refine nd_len22 _ _ ?_ ?_
    · rw [List.nodup_append]
      refine ⟨?_, hz, ?_⟩
      · have : (List.range d).Nodup := List.nodup_range
        have := this.filter (fun i => @decide ((fun m => wt m ∧ m ∉ zs) (f i)) (Classical.propDecidable _))
        exact List.pairwise_map.2 (List.Pairwise.imp (fun hab e => hab (hf _ _ e)) this)
      · intro a ha b hb e
        obtain ⟨i, hi, rfl⟩ := List.mem_map.1 ha
        have := (List.mem_filter.1 hi).2
        simp only [decide_eq_true_eq] at this
        exact this.2 (e ▸ hb)
    · intro x hx
      rcases List.mem_append.1 hx with hx | hx
      · obtain ⟨i, hi, rfl⟩ := List.mem_map.1 hx
        have h3 := List.mem_filter.1 hi
        simp only [decide_eq_true_eq] at h3
        exact List.mem_map.2 ⟨i, List.mem_filter.2 ⟨h3.1, by simpa using h3.2.1⟩, rfl⟩
      · obtain ⟨k1, k2, k3⟩ := hw x hx
        refine List.mem_map.2 ⟨(x - 1).toNat, List.mem_filter.2 ⟨List.mem_range.2 (by omega), ?_⟩, ?_⟩
        · have : f (x - 1).toNat = x := by show (((x - 1).toNat + 1 : Nat) : Int) = x; omega
          rw [this]; simpa using k1
        · show (((x - 1).toNat + 1 : Nat) : Int) = x; omega
  rw [List.length_append, List.length_map, List.length_map] at h1
  unfold wtN
  exact h1
theorem mu_gate (h : Wf c T s) {n : Int} {r : List Int} (hp : s.pass = n :: r) {zs : List Int} (hz : DoT (lgT T s.d) (Op11 (lgT T s.d) s.en) n zs) : mu c (gateM T s n r) < mu c s := by
  have hfr : frx (lgT T s.d) s.en n = zs := frx_eq hz
  have hno := (h.pass n (by rw [hp]; simp)).1
  have hw : ∀ m ∈ zs, s.wt m ∧ 1 ≤ m ∧ m ≤ (s.d : Int) := fun m hm => by
    obtain ⟨h1, h2, _⟩ := (hz.2 m).1 hm
    have := (h.op.1 h1).1
    exact ⟨(h.wait m).2 ⟨h1, n, hno, h2⟩, this⟩
  have hl := wtN_less s.wt s.d zs (hz.1.imp (fun hab => by omega)) hw
  show 69 * (s.fd - s.rd) + (if s.hv = true then 68 else 0) + 67 * (wtN (fun m => s.wt m ∧ m ∉ frx (lgT T s.d) s.en n) s.d + (s.line ++ frx (lgT T s.d) s.en n).length) + sumW s.ln c.l.toNat + r.length < 69 * (s.fd - s.rd) + (if s.hv = true then 68 else 0) + 67 * (wtN s.wt s.d + s.line.length) + sumW s.ln c.l.toNat + s.pass.length
  rw [hfr, hp, List.length_append, List.length_cons]
  omega
/-- When no task can do anything, all that was fed is through. -/
theorem Wf.idle (h : Wf c T s) (hsh : ∀ y : Wt, shW c y < c.s.toNat) (hD : canD c s = 0) (hW : ∀ i, i < c.l.toNat → canW c s i = 0) (hK : ∀ j, j < c.s.toNat → canK s j = 0) (hG : canG s = 0) :
    s.hv = false ∧ s.rd = s.fd ∧ s.d = s.fd ∧ s.ma = (s.fd : Int) ∧ (∀ n, ¬ Opn T s n) ∧ ∀ n, s.en n ↔ 1 ≤ n ∧ n ≤ (s.fd : Int) := by
  have hm := h.may
  have hq : ∀ j, j < c.s.toNat → s.qs j = [] := fun j hj => by
    have := hK j hj
    unfold canK at this
    split at this
    · assumption
    · cases this
  have hp : s.pass = [] := by
    unfold canG at hG
    split at hG
    · assumption
    · cases hG
  have hno : ∀ f m, m ≤ c.s.toNat → outs s.qs f m = 0 := by
    intro f m
    induction m with
    | zero => intro _; rfl
    | succ m ih => intro hm; rw [outs, ih (by omega), hq m (by omega)]; rfl
  have hln : ∀ i, i < c.l.toNat → s.ln i = none := fun i hi => by
    cases e : s.ln i with
    | none => rfl
    | some g =>
      exfalso
      have h1 := hW i hi
      have ho := h.out i g hi e
      rw [hno _ _ (Nat.le_refl _)] at ho
      unfold canW at h1
      rw [e] at h1
      simp only at h1
      cases hl : g.l with
      | nil => rw [hl] at h1; simp only at h1; rw [if_pos ho] at h1; cases h1
      | cons y r =>
        rw [hl] at h1
        simp only at h1
        rw [hq _ (hsh y), if_pos (by simp; have := hm.2.2.2; omega)] at h1
        cases h1
  have hli : s.line = [] := by
    have h0 : 0 < c.l.toNat := by have := hm.1; omega
    have h1 := hW 0 h0
    unfold canW at h1
    rw [hln 0 h0] at h1
    simp only at h1
    split at h1
    · assumption
    · cases h1
  have hwt : ∀ n, Opn T s n → s.wt n := fun n hn => by
    rcases h.all n hn with a | a | a | ⟨i, g, a1, a2, _⟩
    · exact a
    · rw [hli] at a; cases a
    · rw [hp] at a; cases a
    · rw [hln i a1] at a2; cases a2
  have hnone : ∀ k : Nat, ∀ n : Int, n ≤ (k : Int) → ¬ Opn T s n := by
    intro k
    induction k with
    | zero => intro n hk hn; have := (h.op.1 hn).1; omega
    | succ k ih =>
      intro n hk hn
      obtain ⟨_, y, hy, hd⟩ := (h.wait n).1 (hwt n hn)
      have := dep_in hd
      exact ih y (by omega) hy
  have hnn : ∀ n, ¬ Opn T s n := fun n => hnone n.toNat n (by omega)
  have hen : ∀ n : Int, 1 ≤ n → n ≤ (s.d : Int) → s.en n := fun n h1 h2 => Classical.byContradiction fun e => hnn n (h.op.2 ⟨⟨h1, h2⟩, e⟩)
  have hma : s.ma = (s.d : Int) := by
    have hlo := h.gok.1.low
    have h1 : s.ma ≤ (s.d : Int) := by
      by_cases e : 1 ≤ s.ma
      · exact h.enl _ ((h.en _).2 ⟨e, Or.inl (Int.le_refl _)⟩)
      · omega
    apply Classical.byContradiction
    intro hc
    have h2 := hen (s.ma + 1) (by omega) (by omega)
    rcases ((h.en _).1 h2).2 with h3 | h3
    · omega
    · exact h.gok.2 h3
  have hv : s.hv = false := by
    cases e : s.hv with
    | false => rfl
    | true =>
      exfalso
      have h1 := h.hol e
      unfold canD at hD
      rw [if_neg (by rw [e]; simp), if_pos (by rw [hma]; have := hm.2.2.1; omega)] at hD
      cases hD
  have hrd := h.nor hv
  have hfd : s.rd = s.fd := by
    have := h.fdl.1
    unfold canD at hD
    rw [if_pos hv] at hD
    split at hD
    · cases hD
    · omega
  refine ⟨hv, hfd, by omega, by rw [hma]; omega, hnn, fun n => ⟨fun e => ⟨((h.en n).1 e).1, by have := h.enl n e; omega⟩, fun e => hen n e.1 (by omega)⟩⟩
end
end Go.Proofs.YtakbodlicfmkjaaGreat

/- How many steps are left, exactly: five and two a write that counts, of each transaction. Mathematics. Conditions as each names them. -/
import Derived.Test.YtakbodlicfmkjaaGreatWg20
namespace Go.Proofs.YtakbodlicfmkjaaGreat
set_option linter.unusedVariables false
set_option linter.unusedSimpArgs false
/-- What a transaction takes beyond its five steps: two for each write that counts. -/
noncomputable def cst (T : List Tx) (n : Int) : Nat := 2 * (dd (wsAt T n)).length
/-- Of the first k records. -/
noncomputable def rdS (T : List Tx) : Nat → Nat
  | 0 => 0
  | k + 1 => rdS T k + (5 + cst T ((k + 1 : Nat) : Int))
open Classical in
/-- Of those that wait for others. -/
noncomputable def wtS (T : List Tx) (wt : Int → Prop) : Nat → Nat
  | 0 => 0
  | d + 1 => wtS T wt d + (if wt ((d + 1 : Nat) : Int) then 3 + cst T ((d + 1 : Nat) : Int) else 0)
/-- Of a row of numbers. -/
noncomputable def liS (T : List Tx) : List Int → Nat
  | [] => 0
  | n :: r => (3 + cst T n) + liS T r
theorem liS_app (T : List Tx) : ∀ a b : List Int, liS T (a ++ b) = liS T a + liS T b
  | [], b => by simp [liS]
  | n :: r, b => by rw [List.cons_append, liS, liS, liS_app T r b]; omega
theorem rdS_mono (T : List Tx) {a b : Nat} (h : a ≤ b) : rdS T a ≤ rdS T b := by
  induction b with
  | zero => rw [show a = 0 by omega]; exact Nat.le_refl _
  | succ b ih =>
    by_cases e : a = b + 1
    · rw [e]; exact Nat.le_refl _
    · have := ih (by omega)
      rw [rdS]; omega
/-- The steps that are left. -/
noncomputable def nu (c : Cf) (T : List Tx) (s : Ms) : Nat := (rdS T s.fd - rdS T s.rd) + (if s.hv = true then 4 + cst T (s.rd : Int) else 0) + (wtS T s.wt s.d + liS T s.line) + sumW s.ln c.l.toNat + s.pass.length
theorem wtS_cong (T : List Tx) {wt wt' : Int → Prop} : ∀ d : Nat, (∀ n : Int, 1 ≤ n → n ≤ d → (wt n ↔ wt' n)) → wtS T wt d = wtS T wt' d
  | 0, _ => rfl
  | d + 1, h => by
    rw [wtS, wtS, wtS_cong T d (fun n h1 h2 => h n h1 (by omega))]
    congr 1
    have := h ((d + 1 : Nat) : Int) (by omega) (Int.le_refl _)
    by_cases e : wt ((d + 1 : Nat) : Int)
    · rw [if_pos e, if_pos (this.1 e)]
    · rw [if_neg e, if_neg (fun x => e (this.2 x))]
theorem wtS_none (T : List Tx) {wt : Int → Prop} : ∀ d : Nat, (∀ n : Int, 1 ≤ n → n ≤ d → ¬ wt n) → wtS T wt d = 0
  | 0, _ => rfl
  | d + 1, h => by rw [wtS, wtS_none T d (fun n h1 h2 => h n h1 (by omega)), if_neg (h _ (by omega) (Int.le_refl _))]
theorem wtS_one (T : List Tx) {wt : Int → Prop} {z : Int} : ∀ d : Nat, 1 ≤ z → z ≤ (d : Int) → wt z → wtS T (fun m => wt m ∧ m ≠ z) d + (3 + cst T z) = wtS T wt d
  | 0, h1, h2, _ => by omega
  | d + 1, h1, h2, hw => by
    rw [wtS, wtS]
    by_cases e : z = ((d + 1 : Nat) : Int)
    · rw [if_neg (fun x => x.2 e.symm), wtS_cong T (wt := fun m => wt m ∧ m ≠ z) (wt' := wt) d (fun n a b => ⟨fun x => x.1, fun x => ⟨x, by omega⟩⟩), ← e, if_pos hw]
      omega
    · have ih := wtS_one T d h1 (by omega) hw
      by_cases k : wt ((d + 1 : Nat) : Int)
      · rw [if_pos k, if_pos ⟨k, fun x => e x.symm⟩]; omega
      · rw [if_neg k, if_neg (fun x => k x.1)]; omega
theorem wtS_less (T : List Tx) {wt : Int → Prop} {d : Nat} : ∀ zs : List Int, zs.Nodup → (∀ m ∈ zs, wt m ∧ 1 ≤ m ∧ m ≤ (d : Int)) → wtS T (fun m => wt m ∧ m ∉ zs) d + liS T zs = wtS T wt d
  | [], _, _ => by
    rw [liS, wtS_cong T (wt := fun m => wt m ∧ m ∉ []) (wt' := wt) d (fun n a b => ⟨fun x => x.1, fun x => ⟨x, by simp⟩⟩)]
    omega
  | z :: zs, hn, hw => by
    obtain ⟨hz, hn'⟩ := List.nodup_cons.1 hn
    have h1 := wtS_less T (wt := wt) (d := d) zs hn' (fun m hm => hw m (List.mem_cons_of_mem _ hm))
    obtain ⟨k1, k2, k3⟩ := hw z List.mem_cons_self
    have h2 := wtS_one T (wt := fun m => wt m ∧ m ∉ zs) d k2 k3 ⟨k1, hz⟩
    rw [wtS_cong T (wt := fun m => wt m ∧ m ∉ z :: zs) (wt' := fun m => (wt m ∧ m ∉ zs) ∧ m ≠ z) d (fun n a b => by
      constructor
      · rintro ⟨x, y⟩
        exact ⟨⟨x, fun e => y (List.mem_cons_of_mem _ e)⟩, fun e => y (by rw [e]; exact List.mem_cons_self)⟩
      · rintro ⟨⟨x, y⟩, z'⟩
        exact ⟨x, fun e => by
          rcases List.mem_cons.1 e with e | e
          · exact z' e
          · exact y e⟩)]
    rw [liS]
    omega
section
variable {c : Cf} {T : List Tx} {s : Ms}
theorem nu_read (h : Wf c T s) (hv : s.hv = false) (hr : s.rd < s.fd) : nu c T (readM s) + 1 = nu c T s := by
  have hm := rdS_mono T (show s.rd + 1 ≤ s.fd by omega)
  show (rdS T s.fd - rdS T (s.rd + 1)) + (if true = true then 4 + cst T ((s.rd + 1 : Nat) : Int) else 0) + (wtS T s.wt s.d + liS T s.line) + sumW s.ln c.l.toNat + s.pass.length + 1 = (rdS T s.fd - rdS T s.rd) + (if s.hv = true then 4 + cst T (s.rd : Int) else 0) + (wtS T s.wt s.d + liS T s.line) + sumW s.ln c.l.toNat + s.pass.length
  rw [hv, if_pos rfl, if_neg (by simp)]
  rw [rdS] at hm ⊢
  omega
theorem nu_disp (h : Wf c T s) (hv : s.hv = true) : nu c T (dispM T s) + 1 = nu c T s := by
  have hrd := h.hol hv
  have key : wtS T (dispM T s).wt (s.d + 1) + liS T (dispM T s).line = wtS T s.wt s.d + liS T s.line + (3 + cst T (s.rd : Int)) := by
    have hno : ¬ s.wt (s.rd : Int) := fun e => by have := (h.op.1 ((h.wait _).1 e).1).1; omega
    have hrd' : ((s.d + 1 : Nat) : Int) = (s.rd : Int) := by omega
    show wtS T (if wtsOf T s = [] then s.wt else fun m => s.wt m ∨ m = (s.rd : Int)) (s.d + 1) + liS T (if wtsOf T s = [] then s.line ++ [(s.rd : Int)] else s.line) = _
    by_cases e : wtsOf T s = []
    · rw [if_pos e, if_pos e, wtS, hrd', if_neg hno, liS_app]
      simp only [liS]
      omega
    · rw [if_neg e, if_neg e, wtS, hrd', if_pos (Or.inr rfl), wtS_cong T (wt := fun m => s.wt m ∨ m = (s.rd : Int)) (wt' := s.wt) s.d (fun n h1 h2 => ⟨fun x => x.resolve_right (by omega), Or.inl⟩)]
      omega
  show (rdS T s.fd - rdS T s.rd) + (if false = true then 4 + cst T (s.rd : Int) else 0) + (wtS T (dispM T s).wt (s.d + 1) + liS T (dispM T s).line) + sumW s.ln c.l.toNat + s.pass.length + 1 = (rdS T s.fd - rdS T s.rd) + (if s.hv = true then 4 + cst T (s.rd : Int) else 0) + (wtS T s.wt s.d + liS T s.line) + sumW s.ln c.l.toNat + s.pass.length
  rw [key, hv, if_pos rfl, if_neg (by simp)]
  omega
theorem nu_take (h : Wf c T s) {i : Nat} (hi : i < c.l.toNat) (hn : s.ln i = none) {n : Int} {r : List Int} (hl : s.line = n :: r) : nu c T (takeM T s i n r) + 1 = nu c T s := by
  have hs := sumW_upd s.ln i (some ⟨n, dd (wsAt T n), 0⟩) c.l.toNat hi
  rw [hn] at hs
  simp only [lnW] at hs
  show (rdS T s.fd - rdS T s.rd) + (if s.hv = true then 4 + cst T (s.rd : Int) else 0) + (wtS T s.wt s.d + liS T r) + sumW (upd s.ln i (some ⟨n, dd (wsAt T n), 0⟩)) c.l.toNat + s.pass.length + 1 = (rdS T s.fd - rdS T s.rd) + (if s.hv = true then 4 + cst T (s.rd : Int) else 0) + (wtS T s.wt s.d + liS T s.line) + sumW s.ln c.l.toNat + s.pass.length
  rw [hl, liS]
  unfold cst
  omega
theorem nu_send (h : Wf c T s) {i : Nat} (hi : i < c.l.toNat) {g : Hl} {y : Wt} {r : List Wt} (hn : s.ln i = some g) (hl : g.l = y :: r) : nu c T (sendM c s i g y r) + 1 = nu c T s := by
  have hs := sumW_upd s.ln i (some ⟨g.n, r, g.out + 1⟩) c.l.toNat hi
  rw [hn] at hs
  simp only [lnW, hl, List.length_cons] at hs
  show (rdS T s.fd - rdS T s.rd) + (if s.hv = true then 4 + cst T (s.rd : Int) else 0) + (wtS T s.wt s.d + liS T s.line) + sumW (upd s.ln i (some ⟨g.n, r, g.out + 1⟩)) c.l.toNat + s.pass.length + 1 = (rdS T s.fd - rdS T s.rd) + (if s.hv = true then 4 + cst T (s.rd : Int) else 0) + (wtS T s.wt s.d + liS T s.line) + sumW s.ln c.l.toNat + s.pass.length
  omega
theorem nu_done (h : Wf c T s) {i : Nat} (hi : i < c.l.toNat) {n : Int} (hn : s.ln i = some ⟨n, [], 0⟩) : nu c T (doneM s i n) + 1 = nu c T s := by
  have hs := sumW_upd s.ln i none c.l.toNat hi
  rw [hn] at hs
  simp only [lnW, List.length_nil] at hs
  show (rdS T s.fd - rdS T s.rd) + (if s.hv = true then 4 + cst T (s.rd : Int) else 0) + (wtS T s.wt s.d + liS T s.line) + sumW (upd s.ln i none) c.l.toNat + (s.pass ++ [n]).length + 1 = (rdS T s.fd - rdS T s.rd) + (if s.hv = true then 4 + cst T (s.rd : Int) else 0) + (wtS T s.wt s.d + liS T s.line) + sumW s.ln c.l.toNat + s.pass.length
  rw [List.length_append]
  simp only [List.length_cons, List.length_nil]
  omega
theorem nu_serve (h : Wf c T s) {j : Nat} (hj : j < c.s.toNat) {e : Qe} {r : List Qe} (hq : s.qs j = e :: r) {i : Nat} {g : Hl} (hi : i < c.l.toNat) (hf : e.f = ((i + 1 : Nat) : Int)) (hn : s.ln i = some g) (M' : ByteArray → List O.Vn) : nu c T (servM s j e r g M') + 1 = nu c T s := by
  have hidx : e.f.toNat - 1 = i := by omega
  have hs := sumW_upd s.ln i (some (ackH g)) c.l.toNat hi
  have ho := h.out i g hi hn
  have hp := outs_pos (q := s.qs) hj (by rw [hq]; simp) hf
  rw [hn] at hs
  simp only [lnW, ackH] at hs
  show (rdS T s.fd - rdS T s.rd) + (if s.hv = true then 4 + cst T (s.rd : Int) else 0) + (wtS T s.wt s.d + liS T s.line) + sumW (upd s.ln (e.f.toNat - 1) (some (ackH g))) c.l.toNat + s.pass.length + 1 = (rdS T s.fd - rdS T s.rd) + (if s.hv = true then 4 + cst T (s.rd : Int) else 0) + (wtS T s.wt s.d + liS T s.line) + sumW s.ln c.l.toNat + s.pass.length
  rw [hidx]
  unfold ackH
  omega
theorem nu_gate (h : Wf c T s) {n : Int} {r : List Int} (hp : s.pass = n :: r) {zs : List Int} (hz : DoT (lgT T s.d) (Op11 (lgT T s.d) s.en) n zs) : nu c T (gateM T s n r) + 1 = nu c T s := by
  have hfr : frx (lgT T s.d) s.en n = zs := frx_eq hz
  have hno := (h.pass n (by rw [hp]; simp)).1
  have hw : ∀ m ∈ zs, s.wt m ∧ 1 ≤ m ∧ m ≤ (s.d : Int) := fun m hm => by
    obtain ⟨h1, h2, _⟩ := (hz.2 m).1 hm
    have := (h.op.1 h1).1
    exact ⟨(h.wait m).2 ⟨h1, n, hno, h2⟩, this⟩
  have hl := wtS_less T zs (hz.1.imp (fun hab => by omega)) hw
  show (rdS T s.fd - rdS T s.rd) + (if s.hv = true then 4 + cst T (s.rd : Int) else 0) + (wtS T (fun m => s.wt m ∧ m ∉ frx (lgT T s.d) s.en n) s.d + liS T (s.line ++ frx (lgT T s.d) s.en n)) + sumW s.ln c.l.toNat + r.length + 1 = (rdS T s.fd - rdS T s.rd) + (if s.hv = true then 4 + cst T (s.rd : Int) else 0) + (wtS T s.wt s.d + liS T s.line) + sumW s.ln c.l.toNat + s.pass.length
  rw [hfr, hp, liS_app, List.length_cons]
  omega
theorem sumW_none (f : Nat → Option Hl) : ∀ n, (∀ i, i < n → f i = none) → sumW f n = 0
  | 0, _ => rfl
  | n + 1, h => by rw [sumW, sumW_none f n (fun i hi => h i (by omega)), h n (by omega)]; rfl
/-- Where none is open and all is read, none is left. -/
theorem nu_none (h : Wf c T s) (h1 : s.hv = false) (h2 : s.rd = s.fd) (h3 : ∀ n, ¬ Opn T s n) : nu c T s = 0 := by
  have e1 : s.line = [] := List.eq_nil_iff_forall_not_mem.2 fun n hn => h3 n (h.line n hn).1
  have e2 : s.pass = [] := List.eq_nil_iff_forall_not_mem.2 fun n hn => h3 n (h.pass n hn).1
  have e3 : wtS T s.wt s.d = 0 := wtS_none T s.d fun n _ _ hw => h3 n ((h.wait n).1 hw).1
  have e4 : sumW s.ln c.l.toNat = 0 := sumW_none _ _ fun i hi => by
    cases e : s.ln i with
    | none => rfl
    | some g => exact absurd (h.lane i g hi e).1 (h3 _)
  unfold nu
  rw [h1, h2, e1, e2, e3, e4, if_neg (by simp)]
  simp [liS]
end
end Go.Proofs.YtakbodlicfmkjaaGreat

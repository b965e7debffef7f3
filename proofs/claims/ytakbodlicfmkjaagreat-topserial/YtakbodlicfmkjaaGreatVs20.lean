/- All that the shards have: versions. Conditions as each names them. -/
import Derived.Test.YtakbodlicfmkjaaGreatOv20
import Derived.Test.YtakbodlicfmkjaaGreatEt20
import Derived.Test.YtakbodlicfmkjaaGreatSo20
import Derived.Test.YtakbodlicfmkjaaGreatOt15
namespace Go.Proofs.YtakbodlicfmkjaaGreat
open Go.ChangeShapes Go.WideShapes Go.ChangeAt Go.RowKit Go.Lib
set_option linter.unusedVariables false
set_option linter.unusedSimpArgs false
theorem hdsC_ones (ps : List O.Hd) : ∀ u ∈ O.hdsC ps, u.oneCell' = true := by
  intro u hu
  obtain ⟨h, _, h2⟩ := List.mem_flatMap.1 hu
  simp [O.hdC] at h2
  rcases h2 with rfl | rfl <;> rfl
theorem hdsC_append (ps qs : List O.Hd) : O.hdsC (ps ++ qs) = O.hdsC ps ++ O.hdsC qs := by simp [O.hdsC]
/-- A row that is one's own can be read, cell by cell. -/
theorem own_reads {w : World} {base : Nat} {e : TypeId} {ro : Option Addr} {N rc : Nat} {xs : List Value} (h : w.ownsRow base e 2 (.slice ro N rc) N xs) (hx : xs.length = N * 2) : (ro = none → N = 0) ∧ ∀ ad, ro = some ad → ∀ j u, xs[j]? = some u → w.cell? (ad.add j) = some u := by
  rcases h.2 with ⟨hh, h0⟩ | ⟨g, cap, cur, hh, hb, hg, h1, h2, h3, h4⟩
  · cases hh
    exact ⟨fun _ => rfl, fun ad e => (by cases e)⟩
  · cases hh
    refine ⟨fun e => (by cases e), fun ad e j u hu => ?_⟩
    cases e
    have hj : j < xs.length := (List.getElem?_eq_some_iff.1 hu).1
    rw [Addr.add_lit, cell_of_row _ _ _ _ _ _ hg, Nat.zero_add, ← Array.getElem?_toList]
    rw [← h4, List.getElem?_take_of_lt (by omega)] at hu
    exact hu
theorem wpList_appH (w : World) {ops : Array Oper} {rest : List Oper} {o : Oper} {a : Act} {Q : Exit → Act → World → Prop} (hgd : o.guard = none) (s x : Operand)
    (ho : o.op = .call { callee := .builtin .append, args := #[s, x], argTypes := #[82, 82] })
    (base : Nat) (v : Value) (qs : List O.Hd) (hs : a.eval s = v) (hown : w.ownsRow base 126 2 v qs.length (O.hdsC qs))
    (xo : Option Addr) (m c : Nat) (rs : List O.Hd) (hx : a.eval x = .slice xo m c) (hlen : m = rs.length) (hnone : xo = none → m = 0) (hlies : ∀ ad, xo = some ad → ∀ j u, (O.hdsC rs)[j]? = some u → w.cell? (ad.add j) = some u) (hn : qs.length + m < 3518437208884) (hbase : base ≤ w.heap.size)
    (h : ∀ bo n' cap' w', n' = (qs ++ rs).length → w'.ownsRow base 126 2 (.slice bo n' cap') n' (O.hdsC (qs ++ rs)) → Fr v.ownBlock.toList w w' → wpList Tryz.prog ops Q rest (a.put o.dst (.slice bo n' cap')) w') : wpList Tryz.prog ops Q (o :: rest) a w := by
  obtain ⟨i0, hi, hz0, hz1, hz2⟩ := O.infoHd_parts
  have hl : (O.hdsC rs).length = m * 2 := by rw [So.hdsC_length]; omega
  have hmx : 3518437208884 ≤ maxLen := by unfold maxLen; omega
  cases xo with
  | none =>
    refine wpList_plain hgd fun K hK => ?_
    obtain rfl : m = 0 := hnone rfl
    have hrs : rs = [] := List.eq_nil_of_length_eq_zero hlen.symm
    subst hrs
    have hr := O.run_append_noneB (P := Tryz.prog) w 82 o.type 126 i0 2 c base O.Tryz.undHds hi v qs.length (O.hdsC qs) hown
    obtain ⟨bo, cap', rfl⟩ := O.own_shape2 hown
    unfold Oper.wp execOp
    simp only [ho, resolve, invoke, builtin, Sem.run_bind, Sem.run_pure, Result.andThen_ok, List.map_toArray, List.map_cons, List.map_nil, hs, hx, hr]
    exact hK _ _ (h bo _ cap' w (by simp) (by simpa using hown) (Fr.refl _ _))
  | some ad =>
    refine wpList_append_own w hgd s x 82 ho base 126 i0 _ 2 40 O.Tryz.undHds hi hz0 hz1 hz2 rfl (by decide) v qs.length (O.hdsC qs) hs hown ad m c (O.hdsC rs) hx hl (hlies ad rfl) (hdsC_ones rs) (by omega) (by omega) hbase ?_
    intro v' w' hown' hg' _
    have hlen' : (qs ++ rs).length = qs.length + m := by rw [List.length_append, hlen]
    obtain ⟨bo, cap', rfl⟩ := O.own_shape2 hown'
    exact h bo _ cap' w' hlen'.symm (by rw [hdsC_append]; exact hown') (Fr.grown hg' (fun y hy _ => Option.mem_toList.2 hy))
theorem flatMap_same {α β : Type} (f g : α → List β) : ∀ l : List α, (∀ x ∈ l, f x = g x) → l.flatMap f = l.flatMap g
  | [], _ => rfl
  | x :: l, h => by rw [List.flatMap_cons, List.flatMap_cons, h x List.mem_cons_self, flatMap_same f g l fun y hy => h y (List.mem_cons_of_mem _ hy)]
/-- What the first n shards have, one behind the other. -/
def CatH (M : Nat → ByteArray → List O.Vn) (n : Nat) (acc : List O.Hd) : Prop := ∃ f : Nat → List O.Hd, (∀ i, i < n → O.PkT (M i) (M i) (f i)) ∧ acc = (List.range n).flatMap f
theorem CatH.zero (M : Nat → ByteArray → List O.Vn) : CatH M 0 [] := ⟨fun _ => [], fun i hi => absurd hi (by omega), rfl⟩
theorem CatH.next {M : Nat → ByteArray → List O.Vn} {n : Nat} {acc hs : List O.Hd} (h : CatH M n acc) (hp : O.PkT (M n) (M n) hs) : CatH M (n + 1) (acc ++ hs) := by
  obtain ⟨f, h1, rfl⟩ := h
  refine ⟨fun i => if i = n then hs else f i, fun i hi => ?_, ?_⟩
  · by_cases e : i = n
    · subst e; simpa using hp
    · simp only [if_neg e]; exact h1 i (by omega)
  · rw [List.range_succ, List.flatMap_append]
    congr 1
    · refine flatMap_same _ _ _ fun i hi => ?_
      have := List.mem_range.1 hi
      rw [if_neg (by omega)]
    · simp
/-- Gathered so far. -/
structure Gh (w wr : World) (M : Nat → ByteArray → List O.Vn) (i : Nat) (v : Value) (acc : List O.Hd) : Prop where
  cat : CatH M i acc
  row : wr.ownsRow w.heap.size 126 2 v acc.length (O.hdsC acc)
  each : ∀ h ∈ acc, O.VOut w wr h.vo h.L h.cap h.vs
  few : acc.length ≤ i * 16000000
theorem Gh.keep {w wr wr' : World} {M : Nat → ByteArray → List O.Vn} {i : Nat} {v : Value} {acc : List O.Hd} (h : Gh w wr M i v acc) (hf : Fr [] wr wr') : Gh w wr' M i v acc :=
  ⟨h.cat, O.owns_keepB h.row hf (by simp), fun x hx => (h.each x hx).keepS hf (by simp), h.few⟩
section
variable {w0 w w' : World} {p : Nat} {c : Cf} {T : List Tx} {Z : Lay} {s : Ms}
theorem MaM.lsc (h : MaM w0 w c T Z s) : w.cell? ⟨Z.z.mb, 11, none⟩ = some (.slice (some ⟨Z.z.osB, 0, none⟩) c.s.toNat Z.z.osC) := h.mc rfl
theorem all_any (h : MaM w0 w c T Z s) (hk : s.k < 16000000) {j : Nat} (hj : j < c.s.toNat) : Calls Tryz.prog 47 #[.pointer (some ⟨Z.z.ob j, 0, none⟩)] w fun e w' => ∃ ro N rc hs, e = .returned (.slice ro N rc) ∧ O.HOut w w' ro N rc hs ∧ N ≤ 16000000 ∧ O.PkT (s.M j) (s.M j) hs ∧ Fr [] w w' := by
  have hf := h.few.2.2 j hj
  refine (O.os_all (h.ow hj) (by omega)).mono ?_
  rintro e w' ⟨ro, N, rc, hs, rfl, h1, h2, h3, h4⟩
  exact ⟨ro, N, rc, hs, rfl, h1, by omega, h3, h4⟩
end
end Go.Proofs.YtakbodlicfmkjaaGreat

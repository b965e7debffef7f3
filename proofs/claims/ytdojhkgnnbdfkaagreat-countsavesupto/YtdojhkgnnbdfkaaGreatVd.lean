/- One more version behind a row of one's own whose spare room may be cut off; Dump. Conditions as each names them. -/
import Derived.Test.YtdojhkgnnbdfkaaGreatVn2
namespace Go.Proofs.YtdojhkgnnbdfkaaGreat
open Go.ChangeShapes Go.WideShapes Go.ChangeAt Go.RowKit Go.Lib
set_option linter.unusedVariables false
set_option linter.unusedSimpArgs false
theorem run_appCut (w0 w : World) (ty : TypeId) (ro : Option Addr) (N rc : Nat) (qs : List Vn) (hO : VOut w0 w ro N rc qs) (ad : Addr) (c : Nat) (x : Vn) (hnews : ∀ j u, (vnC x)[j]? = some u → w.cell? (ad.add j) = some u)
    (hb : N < 2199023255552) (hs : w0.heap.size ≤ w.heap.size) :
    ∃ ro' rc' w', (Builtin.append_ #[56, 56] ty #[.slice ro N rc, .slice (some ad) 1 c]).run Tryz.prog w = .ok (.slice ro' (N + 1) rc') w' ∧ VOut w0 w' ro' (N + 1) rc' (qs ++ [x]) ∧ Fr (Value.slice ro N rc).ownBlock.toList w w' := by
  obtain ⟨i0, hi, hz0, hz1, hz2⟩ := infoVn_parts
  obtain ⟨rf, hrf, hown⟩ := hO.own
  have hlen : N + 1 = (qs ++ [x]).length := by rw [List.length_append, ← hO.len]; rfl
  have hcells : vnsC (qs ++ [x]) = vnsC qs ++ vnC x := by rw [vnsC_append]; simp [vnsC]
  have h1c : ∀ u ∈ vnC x, u.oneCell' = true := by
    intro u hu
    simp only [vnC, List.mem_cons, List.not_mem_nil, or_false] at hu
    rcases hu with rfl | rfl | rfl <;> rfl
  have hmx : N + 1 ≤ maxLen := by unfold maxLen; omega
  obtain ⟨v', w', hr, h2, h3, h4⟩ := run_append_own (P := Tryz.prog) w w0.heap.size 56 ty 74 i0 _ 3 32 Tryz.undVns' hi hz0 hz1 hz2 rfl (by decide) (.slice ro N rf) N (vnsC qs) hown ad 1 c (vnC x) rfl hnews h1c hmx (by omega) hs
  rcases hown.2 with ⟨hv, hn⟩ | ⟨g, cap, cur, hv, hbg, hg, hnc, hcm, hcs, htake⟩
  · cases hv
    obtain rfl : rc = 0 := by omega
    obtain ⟨ro', rc', rfl⟩ := own_shapeV h2
    exact ⟨ro', rc', w', hr, ⟨⟨rc', Nat.le_refl _, by rw [hcells]; exact h2⟩, hlen, own_cap h2⟩, Fr.grown h3 (fun y hy _ => by simp [Value.ownBlock] at hy)⟩
  · cases hv
    by_cases hroom : N + 1 ≤ rc
    · have hfit : N * i0.size + (vnC x).length ≤ cur.size := by rw [hz1, hcs]; simp only [vnC, List.length_cons, List.length_nil]; omega
      have hA := run_append_room (P := Tryz.prog) w 56 ty 74 i0 Tryz.undVns' hi g N rc cur hg ad 1 c (vnC x) (by rw [hz1]; rfl) hnews h1c hroom hfit
      have hB := run_append_room (P := Tryz.prog) w 56 ty 74 i0 Tryz.undVns' hi g N rf cur hg ad 1 c (vnC x) (by rw [hz1]; rfl) hnews h1c (by omega) hfit
      rw [hr] at hB
      injection hB with e1 e2
      rw [e1, e2] at h2
      refine ⟨_, _, _, hA, ⟨⟨rf, hrf, by rw [hcells]; exact h2⟩, hlen, hroom⟩, ?_⟩
      rw [e2] at h3
      exact Fr.grown h3 (fun y hy _ => by simpa [Value.ownBlock] using hy.symm)
    · have holds : ∀ j u, (vnsC qs)[j]? = some u → w.cell? ((⟨g, 0, none⟩ : Addr).add j) = some u := hown.cells (g := g) rfl
      have hA := run_append_grow (P := Tryz.prog) w 56 ty 74 i0 _ Tryz.undVns' hi hz0 ⟨g, 0, none⟩ N rc (vnsC qs) (by rw [hz1]; exact hown.1) holds ad 1 c (vnC x) (by rw [hz1]; rfl) hnews (by omega) (by omega) (by rw [hz2]; exact growslice_fits (by omega) (by omega))
      have hGn : N + 1 ≤ grownCap w (N + 1) rc 74 := grownCap_ge w _ _ _
      have hGm := grownCap_le_maxLen w (N + 1) rc 74 hmx
      refine ⟨_, _, _, hA, VOut.of ?_ hlen, (Fr.drew _ _).then (Fr.alloc _ _ _)⟩
      rw [hcells]
      refine ⟨by rw [← hcells, vnsC_length, ← hlen], .inr ⟨w.heap.size, _, _, rfl, hs, heap_alloc_new w.drew _, hGn, hGm, ?_, ?_⟩⟩
      · have e1 : (vnsC qs).length = N * 3 := hown.1
        simp only [Array.size_append, size_zeroCells, Value.cells, List.size_toArray, e1, vnC, List.length_cons, List.length_nil]
        omega
      · have e1 : (vnsC qs ++ vnC x).length = (N + 1) * 3 := by rw [← hcells, vnsC_length, ← hlen]
        rw [Array.toList_append, Array.toList_append, List.take_append_of_le_length (by simp only [List.length_append] at e1 ⊢; omega), List.take_of_length_le (by simp only [List.length_append] at e1 ⊢; omega)]
theorem wpList_appCut (w0 w : World) {ops : Array Oper} {rest : List Oper} {o : Oper} {a : Act} {Q : Exit → Act → World → Prop} (hgd : o.guard = none) (s x : Operand)
    (ho : o.op = .call { callee := .builtin .append, args := #[s, x], argTypes := #[56, 56] })
    (ro : Option Addr) (N rc : Nat) (qs : List Vn) (hs : a.eval s = .slice ro N rc) (hO : VOut w0 w ro N rc qs)
    (ad : Addr) (c : Nat) (v : Vn) (hx : a.eval x = .slice (some ad) 1 c) (hnews : ∀ j u, (vnC v)[j]? = some u → w.cell? (ad.add j) = some u) (hb : N < 2199023255552) (hsz : w0.heap.size ≤ w.heap.size)
    (h : ∀ ro' rc' w', VOut w0 w' ro' (N + 1) rc' (qs ++ [v]) → Fr (Value.slice ro N rc).ownBlock.toList w w' → wpList Tryz.prog ops Q rest (a.put o.dst (.slice ro' (N + 1) rc')) w') : wpList Tryz.prog ops Q (o :: rest) a w := by
  refine wpList_plain hgd fun K hK => ?_
  obtain ⟨ro', rc', w', hr, h2, h3⟩ := run_appCut w0 w o.type ro N rc qs hO ad c v hnews hb hsz
  unfold Oper.wp execOp
  simp only [ho, resolve, invoke, builtin, Sem.run_bind, Sem.run_pure, Result.andThen_ok, List.map_toArray, List.map_cons, List.map_nil, hs, hx, hr]
  exact hK _ _ (h ro' rc' w' h2 h3)
theorem VOut.blk {w0 w : World} {ro : Option Addr} {N rc : Nat} {qs : List Vn} (h : VOut w0 w ro N rc qs) : ∀ k ∈ (Value.slice ro N rc).ownBlock.toList, w0.heap.size ≤ k ∧ ∃ cur, w.heap[k]? = some (.cells cur 74 (0, 0)) := by
  intro k hk
  obtain ⟨rf, _, hown⟩ := h.own
  rcases hown.2 with ⟨hv, _⟩ | ⟨g, cap, cur, hv, hb, hg, _⟩
  · cases hv; simp [Value.ownBlock] at hk
  · cases hv
    simp [Value.ownBlock] at hk
    subst hk
    exact ⟨hb, cur, hg⟩
theorem VOut.keepS {S : List Nat} {w0 w w' : World} {ro : Option Addr} {N rc : Nat} {qs : List Vn} (h : VOut w0 w ro N rc qs) (hf : Fr S w w') (hn : ∀ k ∈ (Value.slice ro N rc).ownBlock.toList, k ∉ S) : VOut w0 w' ro N rc qs := by
  obtain ⟨rf, hr, hown⟩ := h.own
  refine ⟨⟨rf, hr, hown.1, ?_⟩, h.len, h.cap⟩
  rcases hown.2 with hh | ⟨g, cap, cur, hv, hb, hg, rest⟩
  · exact .inl hh
  · cases hv
    exact .inr ⟨g, rf, cur, rfl, hb, hf.keep hg (hn g (by simp [Value.ownBlock])), rest⟩
/-- The newest at the mark, if it has a value. -/
def headD (vs : List Vn) (d : Nat) : List Vn := if 0 < d ∧ (vs.getD (d - 1) Vn.zero).drop = false then [vs.getD (d - 1) Vn.zero] else []
/-- What Dump tells. -/
def DuTold (vs : List Vn) (k : Int) (ns : List Int) (us : List Vn) (c : Nat) : Prop := (c = 1 ∧ ¬ okV vs ∧ us = []) ∨ (c = 0 ∧ okV vs ∧ ∃ d, UpTo vs k d ∧ us = headD vs d ++ (vs.drop d).filter fun v => decide (v.num ∈ ns))
theorem filt_snoc (vs : List Vn) (ns : List Int) (i : Nat) (hi : i < vs.length) : (vs.take (i + 1)).filter (fun v => decide (v.num ∈ ns)) = (vs.take i).filter (fun v => decide (v.num ∈ ns)) ++ if (vs.getD i Vn.zero).num ∈ ns then [vs.getD i Vn.zero] else [] := by
  rw [vtake_snoc vs i hi, List.filter_append]
  congr 1
  by_cases h : (vs.getD i Vn.zero).num ∈ ns
  · rw [if_pos h, List.filter_cons_of_pos (by simpa using h)]; rfl
  · rw [if_neg h, List.filter_cons_of_neg (by simpa using h)]; rfl
theorem dump_len (vs : List Vn) (ns : List Int) (d : Nat) (i : Nat) : (headD vs d ++ ((vs.drop d).take i).filter fun v => decide (v.num ∈ ns)).length ≤ 1 + i := by
  have h1 : (headD vs d).length ≤ 1 := by unfold headD; split <;> simp
  have h2 := List.length_filter_le (fun v => decide (v.num ∈ ns)) ((vs.drop d).take i)
  rw [List.length_append]
  simp only [List.length_take] at h2
  omega
/-- What Dump's loop keeps. -/
structure DI (w wr : World) (ro : Option Addr) (N rc g m : Nat) (vs : List Vn) (d : Nat) (ns : List Int) (i : Nat) : Prop where
  fr : Fr [] w wr
  kept : VOut w wr ro N rc (headD vs d ++ ((vs.drop d).take i).filter fun v => decide (v.num ∈ ns))
  bools : BRow wr g m (mkB (vs.drop d) ns)
/- Rows of events as cells; appending one row to another. Conditions as each names them. -/
import Derived.Test.YtfhfjplhfjlpaaaDoorLv26
import Derived.Laws.AppendOwn
namespace Go.Proofs.YtfhfjplhfjlpaaaDoor
open Go.ChangeShapes Go.WideShapes Go.ChangeAt Go.RowKit Go.Lib
set_option linter.unusedVariables false
set_option linter.unusedSimpArgs false

def evsC : List Ev → List Value
  | [] => []
  | e :: r => evV e ++ evsC r
theorem evsC_append (a b : List Ev) : evsC (a ++ b) = evsC a ++ evsC b := by
  induction a with
  | nil => rfl
  | cons v r ih => simp [evsC, ih]
theorem evsC_length (a : List Ev) : (evsC a).length = a.length * 6 := by
  induction a with
  | nil => rfl
  | cons v r ih => simp only [evsC, evV, List.length_append, List.length_cons, List.length_nil, ih]; omega
theorem evsC_get (a : List Ev) (j c : Nat) (hj : j < a.length) (hc : c < 6) : (evsC a)[j * 6 + c]? = (evV (a.getD j Ev.no))[c]? := by
  induction a generalizing j with
  | nil => simp at hj
  | cons v r ih =>
    cases j with
    | zero =>
      simp only [evsC, Nat.zero_mul, Nat.zero_add]
      rw [List.getElem?_append_left (by simp [evV]; omega)]
      simp
    | succ j =>
      simp only [evsC]
      rw [List.getElem?_append_right (by simp [evV]; omega)]
      have e : (j + 1) * 6 + c - (evV v).length = j * 6 + c := by simp [evV]; omega
      rw [e, ih j (by simpa using hj)]
      simp
theorem evsC_oneCell (a : List Ev) : ∀ u ∈ evsC a, u.oneCell' = true := by
  induction a with
  | nil => intro u hu; simp [evsC] at hu
  | cons v r ih =>
    intro u hu
    rcases List.mem_append.1 hu with h | h
    · simp only [evV, List.mem_cons, List.not_mem_nil, or_false] at h
      rcases h with rfl | rfl | rfl | rfl | rfl | rfl <;> rfl
    · exact ih u h
theorem ERs.cells {w : World} {ao : Option Addr} {es : List Ev} (h : ERs w ao es) {j : Nat} {u : Value} (hu : (evsC es)[j]? = some u) : ∃ b off, ao = some ⟨b, off, none⟩ ∧ w.cell? ⟨b, off + j, none⟩ = some u := by
  have hj := (List.getElem?_eq_some_iff.1 hu).1
  rw [evsC_length] at hj
  obtain ⟨b, off, e, hb, hc⟩ := h.lies (by omega)
  refine ⟨b, off, e, ?_⟩
  have hi : j / 6 < es.length := by omega
  have hm : j % 6 < 6 := Nat.mod_lt _ (by omega)
  have hg := evsC_get es (j / 6) (j % 6) hi hm
  have e3 : j / 6 * 6 + j % 6 = j := by omega
  rw [e3, hu] at hg
  have hA := hc (j / 6) hi
  rw [show off + j = off + j / 6 * 6 + j % 6 by omega, hg]
  have h6 : j % 6 = 0 ∨ j % 6 = 1 ∨ j % 6 = 2 ∨ j % 6 = 3 ∨ j % 6 = 4 ∨ j % 6 = 5 := by omega
  rcases h6 with h6 | h6 | h6 | h6 | h6 | h6 <;> rw [h6]
  · exact hA.c0
  · exact hA.c1
  · exact hA.c2
  · exact hA.c3
  · exact hA.c4
  · exact hA.c5
theorem ERs.of_own {w : World} {base : Nat} {ro : Option Addr} {N rc : Nat} {es : List Ev} (h : w.ownsRow base 54 6 (.slice ro N rc) N (evsC es)) (hN : N = es.length) (hl : es.length ≤ 4398046511104) (he : ∀ x ∈ es, EEach x) : ERs w ro es := by
  rcases h.2 with ⟨_, h1⟩ | ⟨g, cap, cur, hv, _, hg, _, _, _, ht⟩
  · have : es = [] := List.eq_nil_of_length_eq_zero (by omega)
    subst this
    exact ERs.nil _ _
  · cases hv
    refine ⟨fun h0 => ⟨g, 0, rfl, lt_of_block hg, fun i hi => ?_⟩, hl, he⟩
    have key : ∀ c u, c < 6 → (evV (es.getD i Ev.no))[c]? = some u → w.cell? ⟨g, 0 + i * 6 + c, none⟩ = some u := by
      intro c u hc hu
      rw [← evsC_get es i c hi hc] at hu
      rw [cell_of_row _ _ _ _ _ _ hg, ← Array.getElem?_toList, ← hu, ← ht, List.getElem?_take_of_lt (by omega)]
      congr 1
      omega
    exact ⟨key 0 _ (by omega) rfl, key 1 _ (by omega) rfl, key 2 _ (by omega) rfl, key 3 _ (by omega) rfl, key 4 _ (by omega) rfl, key 5 _ (by omega) rfl⟩
theorem Tryd.infoEvt : (Tryd.prog.info? 54).map (fun i => (i.zero, i.size, i.bytes)) = some (some (.agg #[.int .i64 0, .int .u8 0, .int .i64 0, .int .i64 0, .int .i64 0, .int .i64 0]), 6, 48) := by kernel_rfl
theorem own_shapeV {w : World} {base : Nat} {e : TypeId} {size : Nat} {v : Value} {n : Nat} {xs : List Value} (h : w.ownsRow base e size v n xs) : ∃ bo cap, v = .slice bo n cap := by
  rcases h.2 with ⟨hv, hn⟩ | ⟨g, cap, cur, hv, _⟩
  · exact ⟨none, 0, by rw [hv, hn]⟩
  · exact ⟨_, cap, hv⟩
theorem run_append_noneV {P : Program} (w : World) (t ty e : TypeId) (i : TypeInfo) (size c base : Nat) (ht : P.underlying t = some (.slice e)) (hi : P.info? e = some i)
    (v : Value) (n : Nat) (xs : List Value) (hown : w.ownsRow base e size v n xs) :
    (Builtin.append_ #[t, t] ty #[v, .slice none 0 c]).run P w = .ok v w := by
  rcases hown.2 with ⟨rfl, rfl⟩ | ⟨g, cap, cur, rfl, _, _, hnc, _⟩
  · simp [Builtin.append_, run_underlying ht, sizeOf, typeInfo, hi, Builtin.lenOf, Builtin.firstCells]
  · simp [Builtin.append_, run_underlying ht, sizeOf, typeInfo, hi, Builtin.lenOf, Builtin.firstCells, hnc, storeCells]
theorem wpList_appEv (w : World) {ops : Array Oper} {rest : List Oper} {o : Oper} {a : Act} {Q : Exit → Act → World → Prop} (hgd : o.guard = none) (s x : Operand)
    (ho : o.op = .call { callee := .builtin .append, args := #[s, x], argTypes := #[24, 24] })
    (base : Nat) (v : Value) (qs : List Ev) (hs : a.eval s = v) (hown : w.ownsRow base 54 6 v qs.length (evsC qs))
    (xo : Option Addr) (m c : Nat) (rs : List Ev) (hx : a.eval x = .slice xo m c) (hB : ERs w xo rs) (hm : m = rs.length) (hn : qs.length + m < 2199023255552) (hbase : base ≤ w.heap.size)
    (h : ∀ bo n' cap' w', n' = (qs ++ rs).length → w'.ownsRow base 54 6 (.slice bo n' cap') n' (evsC (qs ++ rs)) → Fr v.ownBlock.toList w w' → wpList Tryd.prog ops Q rest (a.put o.dst (.slice bo n' cap')) w') : wpList Tryd.prog ops Q (o :: rest) a w := by
  have hI := Tryd.infoEvt
  cases hi : Tryd.prog.info? 54 with
  | none => rw [hi] at hI; simp at hI
  | some i0 =>
    rw [hi] at hI
    simp only [Option.map_some, Option.some.injEq, Prod.mk.injEq] at hI
    obtain ⟨hz0, hz1, hz2⟩ := hI
    have hl : (evsC rs).length = m * 6 := by rw [evsC_length, hm]
    have hmx : 2199023255552 ≤ maxLen := by unfold maxLen; omega
    cases xo with
    | none =>
      refine wpList_plain hgd fun K hK => ?_
      obtain rfl : rs = [] := by
        refine List.eq_nil_of_length_eq_zero (Nat.eq_zero_of_not_pos fun h0 => ?_)
        obtain ⟨b, off, e, _⟩ := hB.lies h0
        cases e
      obtain rfl : m = 0 := hm
      have hr := run_append_noneV (P := Tryd.prog) w 24 o.type 54 i0 6 c base Tryd.undEvs' hi v qs.length (evsC qs) hown
      obtain ⟨bo, cap', rfl⟩ := own_shapeV hown
      unfold Oper.wp execOp
      simp only [ho, resolve, invoke, builtin, Sem.run_bind, Sem.run_pure, Result.andThen_ok, List.map_toArray, List.map_cons, List.map_nil, hs, hx, hr]
      exact hK _ _ (h bo _ cap' w (by simp) (by simpa using hown) (Fr.refl _ _))
    | some ad =>
      have hlies : ∀ j u, (evsC rs)[j]? = some u → w.cell? (ad.add j) = some u := by
        intro j u hu
        obtain ⟨b, off, e, hc⟩ := hB.cells hu
        cases e
        rw [Addr.add_lit]
        exact hc
      refine wpList_append_own w hgd s x 24 ho base 54 i0 _ 6 48 Tryd.undEvs' hi hz0 hz1 hz2 rfl (by decide) v qs.length (evsC qs) hs hown ad m c (evsC rs) hx hl hlies (evsC_oneCell rs) (by omega) (by omega) hbase ?_
      intro v' w' hown' hg' _
      have hlen : (qs ++ rs).length = qs.length + m := by rw [List.length_append, hm]
      obtain ⟨bo, cap', rfl⟩ := own_shapeV hown'
      exact h bo _ cap' w' hlen.symm (by rw [evsC_append]; exact hown') (Fr.grown hg' (fun y hy _ => Option.mem_toList.2 hy))
theorem own_blocksV {w : World} {base : Nat} {e : TypeId} {size : Nat} {v : Value} {n : Nat} {xs : List Value} (h : w.ownsRow base e size v n xs) : ∀ k ∈ v.ownBlock.toList, base ≤ k := by
  intro k hk
  rcases h.2 with ⟨rfl, _⟩ | ⟨g, cap, cur, rfl, hb, _⟩
  · simp [Value.ownBlock] at hk
  · simp [Value.ownBlock] at hk
    omega
theorem wpList_ev1 (w : World) {ops : Array Oper} {rest : List Oper} {o : Oper} {a : Act} {Q : Exit → Act → World → Prop} (hgd : o.guard = none) (s x : Operand)
    (ho : o.op = .call { callee := .builtin .append, args := #[s, x], argTypes := #[24, 24] }) (hs : a.eval s = .slice none 0 0)
    (xo : Option Addr) (m c : Nat) (rs : List Ev) (hx : a.eval x = .slice xo m c) (hB : ERs w xo rs) (hm : m = rs.length) (hn : m < 2199023255552)
    (h : ∀ bo cap' w', Hid (w'.ownsRow w.heap.size 54 6 (.slice bo m cap') m (evsC rs) ∧ Fr [] w w') → wpList Tryd.prog ops Q rest (a.put o.dst (.slice bo m cap')) w') : wpList Tryd.prog ops Q (o :: rest) a w := by
  refine wpList_appEv w hgd s x ho w.heap.size (.slice none 0 0) [] hs ⟨rfl, .inl ⟨rfl, rfl⟩⟩ xo m c rs hx hB hm (by simp; omega) (Nat.le_refl _) ?_
  intro bo n' cap' w' hn' hown hf
  rw [List.nil_append] at hn' hown
  rw [← hm] at hn'
  subst hn'
  exact h bo cap' w' ⟨hown, hf⟩
theorem wpList_ev2 (w0 w : World) {ops : Array Oper} {rest : List Oper} {o : Oper} {a : Act} {Q : Exit → Act → World → Prop} (hgd : o.guard = none) (s x : Operand)
    (ho : o.op = .call { callee := .builtin .append, args := #[s, x], argTypes := #[24, 24] }) (b0 : Option Addr) (k c0 : Nat) (qs : List Ev) (hs : a.eval s = .slice b0 k c0) (hown : w.ownsRow w0.heap.size 54 6 (.slice b0 k c0) k (evsC qs)) (hk : k = qs.length) (hf0 : Fr [] w0 w)
    (xo : Option Addr) (m c : Nat) (rs : List Ev) (hx : a.eval x = .slice xo m c) (hB : ERs w xo rs) (hm : m = rs.length) (hn : k + m < 2199023255552)
    (h : ∀ bo cap' w', Hid (w'.ownsRow w0.heap.size 54 6 (.slice bo (k + m) cap') (k + m) (evsC (qs ++ rs)) ∧ Fr [] w0 w') → wpList Tryd.prog ops Q rest (a.put o.dst (.slice bo (k + m) cap')) w') : wpList Tryd.prog ops Q (o :: rest) a w := by
  have hown2 := hown
  rw [hk] at hown2 hs
  refine wpList_appEv w hgd s x ho w0.heap.size (.slice b0 qs.length c0) qs hs hown2 xo m c rs hx hB hm (by omega) hf0.size ?_
  intro bo n' cap' w' hn' hown' hf
  rw [List.length_append, ← hm, ← hk] at hn'
  subst hn'
  exact h bo cap' w' ⟨hown', hf0.on hf (own_blocksV hown2)⟩
end Go.Proofs.YtfhfjplhfjlpaaaDoor

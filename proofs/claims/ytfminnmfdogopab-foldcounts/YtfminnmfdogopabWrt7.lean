/- The document's write to entries. Conditions as each names them. -/
import Derived.Test.YtfminnmfdogopabPlc7
namespace Go.Proofs.Ytfminnmfdogopab
open Go.ChangeShapes Go.WideShapes Go.ChangeAt Go.RowKit Go.Lib Go.Maps Go.Sort
set_option linter.unusedVariables false
set_option linter.unusedSimpArgs false

theorem Try.undEnsE : Try.prog.underlying 33 = some (.slice (Try.prog.elem 33)) := by kernel_rfl
theorem Try.elemEns : Try.prog.elem 33 = 43 := by kernel_rfl
theorem celsE_append (ps qs : List Pr) : celsE (ps ++ qs) = celsE ps ++ celsE qs := by simp [celsE]
theorem celsE_ones (ps : List Pr) : ∀ u ∈ celsE ps, u.oneCell' = true := by
  intro u hu
  obtain ⟨p, _, hp⟩ := List.mem_flatMap.1 hu
  exact celE_one p u hp
/-- Some entries of a row, as an append takes them. -/
structure ESl (w : World) (xo : Option Addr) (m : Nat) (rs : List Pr) : Prop where
  len : m = rs.length
  lies : ∀ ad, xo = some ad → ∀ j u, (celsE rs)[j]? = some u → w.cell? (ad.add j) = some u
  none : xo = none → m = 0
theorem ERs.cells {w : World} {ro : Option Addr} {ps : List Pr} (h : ERs w ro ps) {j : Nat} {u : Value} (hu : (celsE ps)[j]? = some u) : ∃ g, ro = some ⟨g, 0, none⟩ ∧ w.cell? ⟨g, j, none⟩ = some u := by
  have hj : j < (celsE ps).length := (List.getElem?_eq_some_iff.1 hu).1
  rw [celsE_length] at hj
  obtain ⟨g, cur, e, hb, ht⟩ := h.lies (by omega)
  refine ⟨g, e, ?_⟩
  rw [cell_of_row _ _ _ _ _ _ hb, ← Array.getElem?_toList, ← hu, ← ht, List.getElem?_take_of_lt (by omega)]
theorem addr_add (g j k : Nat) : (⟨g, j, none⟩ : Addr).add k = ⟨g, j + k, none⟩ := by
  unfold Addr.add
  by_cases h : k = 0 <;> simp [h]
theorem ERs.take {w : World} {ro : Option Addr} {ps : List Pr} (h : ERs w ro ps) (i : Nat) (hi : i ≤ ps.length) : ESl w ro i (ps.take i) := by
  refine ⟨by simp; omega, ?_, ?_⟩
  · intro ad e j u hu
    have hu2 : (celsE ps)[j]? = some u := by
      rw [← List.take_append_drop i ps, celsE_append, List.getElem?_append_left (List.getElem?_eq_some_iff.1 hu).1]
      exact hu
    obtain ⟨g, e2, hc⟩ := h.cells hu2
    rw [e] at e2
    cases e2
    rw [addr_add, Nat.zero_add]
    exact hc
  · intro e
    rcases Nat.eq_zero_or_pos ps.length with h0 | h0
    · omega
    · obtain ⟨g, _, e2, _⟩ := h.lies h0
      rw [e] at e2
      cases e2
/-- A row from a place on. -/
def fromA (ro : Option Addr) (rc K : Nat) : Option Addr := if rc = K then ro else ro.map (·.add (K * 2))
theorem ERs.drop {w : World} {ro : Option Addr} {ps : List Pr} (h : ERs w ro ps) (rc K : Nat) (hK : K ≤ ps.length) (hrc : ps.length ≤ rc) : ESl w (fromA ro rc K) (ps.length - K) (ps.drop K) := by
  refine ⟨by simp, ?_, ?_⟩
  · intro ad e j u hu
    have hj := (List.getElem?_eq_some_iff.1 hu).1
    rw [celsE_length, List.length_drop] at hj
    have hu2 : (celsE ps)[K * 2 + j]? = some u := by
      have e1 : celsE ps = celsE (ps.take K) ++ celsE (ps.drop K) := by rw [← celsE_append, List.take_append_drop]
      have e2 : (celsE (ps.take K)).length = K * 2 := by rw [celsE_length, List.length_take]; omega
      rw [e1, List.getElem?_append_right (by omega), e2]
      have e3 : K * 2 + j - K * 2 = j := by omega
      rw [e3]
      exact hu
    obtain ⟨g, e2, hc⟩ := h.cells hu2
    unfold fromA at e
    rw [if_neg (by omega), e2] at e
    simp only [Option.map_some, Option.some.injEq] at e
    rw [← e, addr_add, addr_add, Nat.zero_add]
    exact hc
  · intro e
    rcases Nat.eq_zero_or_pos (ps.length - K) with h0 | h0
    · exact h0
    · obtain ⟨g, _, e2, _⟩ := h.lies (by omega)
      unfold fromA at e
      rw [if_neg (by omega), e2] at e
      cases e
theorem slE_h (ro : Option Addr) (N rc i : Nat) (h1 : i ≤ rc) (w : World) : (Instr.sliceAt 33 (.slice ro N rc) none (some (.int .i64 (i : Int))) none).run Try.prog w = .ok (.slice ro i rc) w := by
  rw [run_sliceAt_slice w 33 _ _ _ _ Try.undEnsE, run_slice_h w 33 _ _ _ Try.undEnsE .i64 (i : Int) (by omega) (by omega), Try.elemEns, Try.sizeOfEn]
  cases ro <;> simp [Result.andThen, sliced, Addr.add]
theorem slE_l (ro : Option Addr) (N rc K : Nat) (k : Int) (hk : k = (K : Int)) (h1 : K ≤ N) (w : World) : (Instr.sliceAt 33 (.slice ro N rc) (some (.int .i64 k)) none none).run Try.prog w = .ok (.slice (fromA ro rc K) (N - K) (rc - K)) w := by
  subst hk
  rw [run_sliceAt_slice w 33 _ _ _ _ Try.undEnsE, run_slice_l w 33 _ _ _ Try.undEnsE .i64 (K : Int) (by omega) (by omega), Try.elemEns, Try.sizeOfEn]
  simp [Result.andThen, sliced, fromA]
theorem run_append_noneB {P : Program} (w : World) (t ty e : TypeId) (i : TypeInfo) (size c base : Nat) (ht : P.underlying t = some (.slice e)) (hi : P.info? e = some i)
    (v : Value) (n : Nat) (xs : List Value) (hown : w.ownsRow base e size v n xs) :
    (Builtin.append_ #[t, t] ty #[v, .slice none 0 c]).run P w = .ok v w := by
  rcases hown.2 with ⟨rfl, rfl⟩ | ⟨g, cap, cur, rfl, _, _, hnc, _⟩
  · simp [Builtin.append_, run_underlying ht, sizeOf, typeInfo, hi, Builtin.lenOf, Builtin.firstCells]
  · simp [Builtin.append_, run_underlying ht, sizeOf, typeInfo, hi, Builtin.lenOf, Builtin.firstCells, hnc, storeCells]
theorem esl_new (w : World) (x : Pr) : ESl (w.alloc (.cells #[.string x.1, .string x.2] 43)) (some ⟨w.heap.size, 0, none⟩) 1 [x] :=
  ⟨rfl, fun ad e j u hu => by cases e; exact new2_cells w x j u (by simpa [celsE, celE] using hu), fun h => by cases h⟩
/-- Entries of a row, behind a row of one's own. -/
theorem wpList_appE (w : World) {ops : Array Oper} {rest : List Oper} {o : Oper} {a : Act} {Q : Exit → Act → World → Prop} (hgd : o.guard = none) (s x : Operand)
    (ho : o.op = .call { callee := .builtin .append, args := #[s, x], argTypes := #[33, 33] })
    (base : Nat) (v : Value) (qs : List Pr) (hs : a.eval s = v) (hown : w.ownsRow base 43 2 v qs.length (celsE qs))
    (xo : Option Addr) (m c : Nat) (rs : List Pr) (hx : a.eval x = .slice xo m c) (hB : ESl w xo m rs) (hn : qs.length + m < 2199023255552) (hbase : base ≤ w.heap.size)
    (h : ∀ bo n' cap' w', n' = (qs ++ rs).length → w'.ownsRow base 43 2 (.slice bo n' cap') n' (celsE (qs ++ rs)) → Fr v.ownBlock.toList w w' → wpList Try.prog ops Q rest (a.put o.dst (.slice bo n' cap')) w') : wpList Try.prog ops Q (o :: rest) a w := by
  obtain ⟨i0, hi, hz0, hz1, hz2⟩ := Try.infoEn'
  have hl : (celsE rs).length = m * 2 := by rw [celsE_length, hB.len]; omega
  have hmx : 2199023255552 ≤ maxLen := by unfold maxLen; omega
  cases xo with
  | none =>
    refine wpList_plain hgd fun K hK => ?_
    obtain rfl : m = 0 := hB.none rfl
    have hrs : rs = [] := List.eq_nil_of_length_eq_zero hB.len.symm
    subst hrs
    have hr := run_append_noneB (P := Try.prog) w 33 o.type 43 i0 2 c base Try.undEns hi v qs.length (celsE qs) hown
    obtain ⟨bo, cap', rfl⟩ := own_shape2 hown
    unfold Oper.wp execOp
    simp only [ho, resolve, invoke, builtin, Sem.run_bind, Sem.run_pure, Result.andThen_ok, List.map_toArray, List.map_cons, List.map_nil, hs, hx, hr]
    exact hK _ _ (h bo _ cap' w (by simp) (by simpa using hown) (Fr.refl _ _))
  | some ad =>
    refine wpList_append_own w hgd s x 33 ho base 43 i0 _ 2 32 Try.undEns hi hz0 hz1 hz2 rfl (by decide) v qs.length (celsE qs) hs hown ad m c (celsE rs) hx hl (hB.lies ad rfl) (celsE_ones rs) (by omega) (by omega) hbase ?_
    intro v' w' hown' hg' _
    have hlen : (qs ++ rs).length = qs.length + m := by rw [List.length_append, hB.len]
    obtain ⟨bo, cap', rfl⟩ := own_shape2 hown'
    exact h bo _ cap' w' hlen.symm (by rw [celsE_append]; exact hown') (Fr.grown hg' (fun y hy _ => Option.mem_toList.2 hy))
theorem filt_lo {ps : List Pr} {key : ByteArray} {i : Nat} {ok : Bool} (h : PlT ps key i ok) : ps.filter (fun p => Op.bytesLess p.1.toList key.toList) = ps.take i := by
  rw [← List.take_append_drop i ps, List.filter_append]
  have h1 : (ps.take i).filter (fun p => Op.bytesLess p.1.toList key.toList) = ps.take i := by
    refine List.filter_eq_self.2 fun p hp => ?_
    obtain ⟨j, hj, e⟩ := List.mem_iff_getElem.1 hp
    have hj' : j < i ∧ j < ps.length := by simp at hj; omega
    have := h.lo j hj'.1
    simp only [List.getD, List.getElem?_eq_getElem hj'.2, Option.getD_some] at this
    rw [← e]
    simpa using this
  have h2 : (ps.drop i).filter (fun p => Op.bytesLess p.1.toList key.toList) = [] := by
    refine List.filter_eq_nil_iff.2 fun p hp => ?_
    obtain ⟨j, hj, e⟩ := List.mem_iff_getElem.1 hp
    have hj' : i + j < ps.length := by simp at hj; omega
    have := h.hi (i + j) (by omega) hj'
    simp only [List.getD, List.getElem?_eq_getElem hj', Option.getD_some] at this
    rw [← e]
    simpa using this
  rw [h1, h2]
  simp
theorem filt_hi {ps : List Pr} {key : ByteArray} {i : Nat} {ok : Bool} (h : PlT ps key i ok) (hI : Inc ps) : ps.filter (fun p => Op.bytesLess key.toList p.1.toList) = ps.drop (if ok = true then i + 1 else i) := by
  have key1 : ∀ K, K ≤ ps.length → (∀ j, j < K → Op.bytesLess key.toList (ps.getD j e0).1.toList = false) → (∀ j, K ≤ j → j < ps.length → Op.bytesLess key.toList (ps.getD j e0).1.toList = true) → ps.filter (fun p => Op.bytesLess key.toList p.1.toList) = ps.drop K := by
    intro K hK a b
    conv => lhs; rw [← List.take_append_drop K ps, List.filter_append]
    have h1 : (ps.take K).filter (fun p => Op.bytesLess key.toList p.1.toList) = [] := by
      refine List.filter_eq_nil_iff.2 fun p hp => ?_
      obtain ⟨j, hj, e⟩ := List.mem_iff_getElem.1 hp
      have hj' : j < K ∧ j < ps.length := by simp at hj; omega
      have := a j hj'.1
      simp only [List.getD, List.getElem?_eq_getElem hj'.2, Option.getD_some] at this
      rw [← e]
      simpa using this
    have h2 : (ps.drop K).filter (fun p => Op.bytesLess key.toList p.1.toList) = ps.drop K := by
      refine List.filter_eq_self.2 fun p hp => ?_
      obtain ⟨j, hj, e⟩ := List.mem_iff_getElem.1 hp
      have hj' : K + j < ps.length := by simp at hj; omega
      have := b (K + j) (by omega) hj'
      simp only [List.getD, List.getElem?_eq_getElem hj', Option.getD_some] at this
      rw [← e]
      simpa using this
    rw [h1, h2]
    simp
  have ne : ∀ j, i ≤ j → j < ps.length → (ps.getD j e0).1 ≠ key → Op.bytesLess key.toList (ps.getD j e0).1.toList = true := by
    intro j h1 h2 h3
    cases hb : Op.bytesLess key.toList (ps.getD j e0).1.toList with
    | true => rfl
    | false =>
      exfalso
      exact h3 ((tl_inj _ _).1 (bl_eq (h.hi j h1 h2) hb))
  by_cases hok : ok = true
  · rw [if_pos hok]
    obtain ⟨h1, h2⟩ := h.is.1 hok
    refine key1 (i + 1) (by omega) ?_ ?_
    · intro j hj
      by_cases e : j = i
      · subst e; rw [h2]; exact bl_irrefl _
      · exact bl_asymm (h.lo j (by omega))
    · intro j h3 h4
      have := inc_getD hI (show i < j by omega) h4
      rw [h2] at this
      exact this
  · rw [if_neg hok]
    refine key1 i h.le (fun j hj => bl_asymm (h.lo j hj)) ?_
    intro j h3 h4
    refine ne j h3 h4 fun e => ?_
    by_cases e2 : j = i
    · subst e2; exact hok (h.is.2 ⟨h4, e⟩)
    · have a := inc_getD hI (show i < j by omega) h4
      rw [e] at a
      rw [h.hi i (Nat.le_refl _) (by omega)] at a
      cases a
end Go.Proofs.Ytfminnmfdogopab

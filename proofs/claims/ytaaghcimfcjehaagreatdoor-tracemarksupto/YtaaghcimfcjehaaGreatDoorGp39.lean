/- Texts of this claim laid together, one behind the other: contracts and plain lemmas; conditions as each names them. -/
import Derived.Test.YtaaghcimfcjehaaGreatDoorGp38
/- A Book's kinds side by side: what one kind's calls write is none of another's. Plain lemmas. -/
namespace Go.Proofs.YtaaghcimfcjehaaGreatDoor.Bq
open Go.ChangeShapes Go.WideShapes Go.ChangeAt Go.RowKit Go.Lib
set_option linter.unusedVariables false

/-- Blocks that are none of a kind's, nor the Book's own. -/
def Off (K : Kd) (S : List Nat) (w : World) : Prop := ∀ k ∈ S, ∃ cs t, w.heap[k]? = some (.cells cs t (0, 0)) ∧ t ≠ 57 ∧ t ≠ K.tH ∧ t ≠ K.tE
/-- Two kinds have no type in common. -/
def Kd.off (K J : Kd) : Prop := J.tH ≠ K.tH ∧ J.tH ≠ K.tE ∧ J.tE ≠ K.tH ∧ J.tE ≠ K.tE
theorem off_lbs {K J : Kd} (hKJ : K.off J) {w : World} {hs : List HB} (h : ∀ (j : Nat) (h : HB), hs[j]? = some h → ∀ k, h.l.ownBlock = some k → ∃ cs, w.heap[k]? = some (.cells cs J.tE (0, 0))) : Off K (lbs hs) w := by
  intro k hk
  obtain ⟨b, hb, hbk⟩ := mem_lbs.1 hk
  obtain ⟨j, hj⟩ := List.getElem?_of_mem hb
  obtain ⟨cs, hc⟩ := h j b hj k hbk
  exact ⟨cs, J.tE, hc, J.eB, hKJ.2.2.1, hKJ.2.2.2⟩
theorem off_row {K J : Kd} (hKJ : K.off J) {w : World} {bk : Nat} {rv : Value} {hs : List HB} (h : Bl J w bk rv hs) : Off K rv.ownBlock.toList w := by
  intro k hk
  obtain ⟨cs, hc⟩ := own_type h.row k (by simpa using hk)
  exact ⟨cs, J.tH, hc, J.hB, hKJ.1, hKJ.2.1⟩
theorem Off.append {K : Kd} {S T : List Nat} {w : World} (h : Off K S w) (k : Off K T w) : Off K (S ++ T) w := by
  intro x hx
  rcases List.mem_append.1 hx with hx | hx
  · exact h x hx
  · exact k x hx
theorem Off.nil (K : Kd) (w : World) : Off K [] w := by intro x hx; simp at hx
section
variable {K : Kd} {S : List Nat} {w w' : World} {bk : Nat} {rv : Value} {hs : List HB}
theorem Off.notE (h : Off K S w) {k : Nat} {cs : Array Value} (hk : w.heap[k]? = some (.cells cs K.tE (0, 0))) : k ∉ S := by
  intro hm
  obtain ⟨cs', t, hc, _, _, h3⟩ := h k hm
  rw [hc] at hk
  simp only [Option.some.injEq, Obj.cells.injEq] at hk
  exact h3 hk.2.1
theorem Off.notH (h : Off K S w) {k : Nat} {cs : Array Value} (hk : w.heap[k]? = some (.cells cs K.tH (0, 0))) : k ∉ S := by
  intro hm
  obtain ⟨cs', t, hc, _, h2, _⟩ := h k hm
  rw [hc] at hk
  simp only [Option.some.injEq, Obj.cells.injEq] at hk
  exact h2 hk.2.1
theorem Off.notB (h : Off K S w) {k : Nat} {cs : Array Value} (hk : w.heap[k]? = some (.cells cs 57 (0, 0))) : k ∉ S := by
  intro hm
  obtain ⟨cs', t, hc, h1, _, _⟩ := h k hm
  rw [hc] at hk
  simp only [Option.some.injEq, Obj.cells.injEq] at hk
  exact h1 hk.2.1
/-- A kind's part of the Book: as it was handed in; marked; grown. -/
structure S0 (K : Kd) (w : World) (bk : Nat) (rv : Value) (hs : List HB) : Prop where
  bl : Bl K w bk rv hs
  each : ∀ (j : Nat) (h : HB), hs[j]? = some h → P0 K w h
  alone : Alone hs
  fresh : Fresh hs
structure S1 (K : Kd) (w : World) (bk : Nat) (rv : Value) (hs : List HB) : Prop where
  bl : Bl K w bk rv hs
  each : ∀ (j : Nat) (h : HB), hs[j]? = some h → P1 K w h
  alone : Alone hs
  fresh : Fresh hs
structure S2 (K : Kd) (w : World) (bk : Nat) (rv : Value) (hs : List HB) : Prop where
  bl : Bl K w bk rv hs
  each : ∀ (j : Nat) (h : HB), hs[j]? = some h → P2 K w h
theorem Bl.stay (h : Bl K w bk rv hs) (hf : Fr S w w') (ho : Off K S w) : Bl K w' bk rv hs := by
  obtain ⟨cs, h1, _⟩ := h.box
  exact h.keep hf (ho.notB h1) (fun k hk => by obtain ⟨cs, hc⟩ := own_type h.row k hk; exact ho.notH hc)
theorem S0.stay (h : S0 K w bk rv hs) (hf : Fr S w w') (ho : Off K S w) : S0 K w' bk rv hs :=
  ⟨h.bl.stay hf ho, fun j b hb => (h.each j b hb).keep hf (fun k hk => by obtain ⟨cs, hc⟩ := (h.each j b hb).type k hk; exact ho.notE hc), h.alone, h.fresh⟩
theorem S1.stay (h : S1 K w bk rv hs) (hf : Fr S w w') (ho : Off K S w) : S1 K w' bk rv hs :=
  ⟨h.bl.stay hf ho, fun j b hb => (h.each j b hb).keep hf (fun k hk => by obtain ⟨cs, hc⟩ := (h.each j b hb).type k hk; exact ho.notE hc), h.alone, h.fresh⟩
theorem S2.stay (h : S2 K w bk rv hs) (hf : Fr S w w') (ho : Off K S w) : S2 K w' bk rv hs := by
  refine ⟨h.bl.stay hf ho, fun j b hb => ?_⟩
  obtain ⟨n, q1, q2, q3⟩ := h.each j b hb
  exact P2.keep ⟨n, q1, q2, q3⟩ hf (fun k hk => by obtain ⟨cs, hc⟩ := q1.type k hk; exact ho.notE hc) (fun k hk => by obtain ⟨cs, hc⟩ := own_type q2 k hk; exact ho.notE hc)
theorem S0.filled (h : S0 K w bk rv hs) (hF : FillInv K w bk rv hs hs.length w') : S1 K w' bk rv hs :=
  ⟨hF.bk, fun j b hb => hF.done j b hb (List.getElem?_eq_some_iff.1 hb).1, h.alone, h.fresh⟩
theorem S1.grown {hs' : List HB} (h : S1 K w bk rv hs) (hG : GrowInv K w bk rv hs hs.length hs' w') : S2 K w' bk rv hs' :=
  ⟨hG.bk, fun j b hb => hG.done j b hb (by rw [← hG.len]; exact (List.getElem?_eq_some_iff.1 hb).1)⟩
theorem S0.offs {J : Kd} (hKJ : J.off K) (h : S0 K w bk rv hs) : Off J (lbs hs) w := off_lbs hKJ fun j b hb => (h.each j b hb).type
theorem S1.offs {J : Kd} (hKJ : J.off K) (h : S1 K w bk rv hs) : Off J (rv.ownBlock.toList ++ lbs hs) w := (off_row hKJ h.bl).append (off_lbs hKJ fun j b hb => (h.each j b hb).type)
end
/-- The Book's block, of which the cells of other kinds than these hold no list. -/
structure Bx (w : World) (bk : Nat) (cs : Array Value) : Prop where
  box : w.heap[bk]? = some (.cells cs 57 (0, 0))
  size : cs.size = 12
  rest : ∀ c, c = 3 ∨ c = 5 ∨ c = 6 ∨ c = 8 ∨ c = 9 ∨ c = 10 ∨ c = 11 → cs[c]? = some (.slice none 0 0)
theorem Bx.c {w : World} {bk : Nat} {cs : Array Value} (h : Bx w bk cs) (c : Nat) (hc : c = 3 ∨ c = 5 ∨ c = 6 ∨ c = 8 ∨ c = 9 ∨ c = 10 ∨ c = 11) : w.cell? ⟨bk, c, none⟩ = some (.slice none 0 0) := by
  rw [cell_of_row _ _ _ _ _ _ h.box, h.rest c hc]
theorem Bx.keep {S : List Nat} {w w' : World} {bk : Nat} {cs : Array Value} (h : Bx w bk cs) (hf : Fr S w w') (hb : bk ∉ S) : Bx w' bk cs := ⟨hf.keep h.box hb, h.size, h.rest⟩
theorem off_BI : kByte.off kInt := by refine ⟨?_, ?_, ?_, ?_⟩ <;> decide
theorem off_BW : kByte.off kWrite := by refine ⟨?_, ?_, ?_, ?_⟩ <;> decide
theorem off_BT : kByte.off kTxn := by refine ⟨?_, ?_, ?_, ?_⟩ <;> decide
theorem off_IB : kInt.off kByte := by refine ⟨?_, ?_, ?_, ?_⟩ <;> decide
theorem off_IW : kInt.off kWrite := by refine ⟨?_, ?_, ?_, ?_⟩ <;> decide
theorem off_IT : kInt.off kTxn := by refine ⟨?_, ?_, ?_, ?_⟩ <;> decide
theorem off_WB : kWrite.off kByte := by refine ⟨?_, ?_, ?_, ?_⟩ <;> decide
theorem off_WI : kWrite.off kInt := by refine ⟨?_, ?_, ?_, ?_⟩ <;> decide
theorem off_WT : kWrite.off kTxn := by refine ⟨?_, ?_, ?_, ?_⟩ <;> decide
theorem off_TB : kTxn.off kByte := by refine ⟨?_, ?_, ?_, ?_⟩ <;> decide
theorem off_TI : kTxn.off kInt := by refine ⟨?_, ?_, ?_, ?_⟩ <;> decide
theorem off_TW : kTxn.off kWrite := by refine ⟨?_, ?_, ?_, ?_⟩ <;> decide
end Go.Proofs.YtaaghcimfcjehaaGreatDoor.Bq
/- A Book of lists of bytes, numbers, writes and transactions is told one list more. Conditions: the list lies in a block of its own that no held list of its kind has. -/
namespace Go.Proofs.YtaaghcimfcjehaaGreatDoor.Bq
open Go.ChangeShapes Go.WideShapes Go.ChangeAt Go.RowKit Go.Lib
set_option linter.unusedVariables false

section
variable {K J : Kd} {S : List Nat} {w w' : World} {bk : Nat} {rv rv' : Value} {hs : List HB} {cs' : Array Value}
/-- Another kind's part, where the Book's block was written. -/
theorem S0.beside (h : S0 J w bk rv hs) (hb : w'.heap[bk]? = some (.cells cs' 57 (0, 0))) (hc : cs'[J.col]? = some rv) (hf : Fr (bk :: S) w w') (ho : Off J S w) : S0 J w' bk rv hs := by
  obtain ⟨cs, h1, _⟩ := h.bl.box
  have hE : ∀ k cs, w.heap[k]? = some (.cells cs J.tE (0, 0)) → k ∉ bk :: S := by
    intro k cs hk hm
    rcases List.mem_cons.1 hm with rfl | hm
    · rw [h1] at hk
      simp only [Option.some.injEq, Obj.cells.injEq] at hk
      exact J.eB hk.2.1.symm
    · exact ho.notE hk hm
  have hH : ∀ k cs, w.heap[k]? = some (.cells cs J.tH (0, 0)) → k ∉ bk :: S := by
    intro k cs hk hm
    rcases List.mem_cons.1 hm with rfl | hm
    · rw [h1] at hk
      simp only [Option.some.injEq, Obj.cells.injEq] at hk
      exact J.hB hk.2.1.symm
    · exact ho.notH hk hm
  refine ⟨⟨⟨cs', hb, hc⟩, owns_keep h.bl.row hf (fun k hk => by obtain ⟨c, hc⟩ := own_type h.bl.row k hk; exact hH k c hc), h.bl.few, h.bl.num⟩, fun j b hb => (h.each j b hb).keep hf (fun k hk => by obtain ⟨c, hc⟩ := (h.each j b hb).type k hk; exact hE k c hc), h.alone, h.fresh⟩
/-- The kind's own part with one list more. -/
theorem S0.told (h : S0 K w bk rv hs) (l : Value) (n : Nat) (hb : w'.heap[bk]? = some (.cells cs' 57 (0, 0))) (hc : cs'[K.col]? = some rv') (hrow : w'.ownsRow 0 K.tH 3 rv' (hs.length + 1) (rowOf (hs ++ [⟨l, .slice none 0 0, n⟩]))) (hf : Fr (bk :: rv.ownBlock.toList) w w')
    (hp : P0 K w ⟨l, .slice none 0 0, n⟩) (hn : n < 4194304) (hfew : hs.length + 1 < 2097152) (hal : ∀ k, l.ownBlock = some k → k ∉ lbs hs) : S0 K w' bk rv' (hs ++ [⟨l, .slice none 0 0, n⟩]) := by
  obtain ⟨cs, h1, _⟩ := h.bl.box
  have hE : ∀ k cs, w.heap[k]? = some (.cells cs K.tE (0, 0)) → k ∉ bk :: rv.ownBlock.toList := by
    intro k cs hk hm
    obtain ⟨q1, q2⟩ := h.bl.apart hk
    rcases List.mem_cons.1 hm with e | hm
    · exact q1 e
    · exact q2 (by simpa using hm)
  have hget : ∀ (j : Nat) (b : HB), (hs ++ [⟨l, .slice none 0 0, n⟩])[j]? = some b → hs[j]? = some b ∨ (j = hs.length ∧ b = ⟨l, .slice none 0 0, n⟩) := by
    intro j b hb
    by_cases hj : j < hs.length
    · rw [List.getElem?_append_left hj] at hb
      exact Or.inl hb
    · rw [List.getElem?_append_right (by omega)] at hb
      by_cases hj2 : j = hs.length
      · subst hj2
        simp at hb
        exact Or.inr ⟨rfl, hb.symm⟩
      · rw [List.getElem?_eq_none (by simp; omega)] at hb
        cases hb
  refine ⟨⟨⟨cs', hb, hc⟩, by simpa using hrow, by simpa using hfew, ?_⟩, ?_, ?_, ?_⟩
  · intro j b hb
    rcases hget j b hb with hb | ⟨_, rfl⟩
    · exact h.bl.num j b hb
    · exact hn
  · intro j b hb
    rcases hget j b hb with hb | ⟨_, rfl⟩
    · exact (h.each j b hb).keep hf (fun k hk => by obtain ⟨c, hc⟩ := (h.each j b hb).type k hk; exact hE k c hc)
    · exact hp.keep hf (fun k hk => by obtain ⟨c, hc⟩ := hp.type k hk; exact hE k c hc)
  · intro i j a b ha hb hij k hk hkb
    rcases hget i a ha with ha | ⟨hi, rfl⟩
    · rcases hget j b hb with hb | ⟨hj, rfl⟩
      · exact h.alone i j a b ha hb hij k hk hkb
      · exact hal k hkb (mem_lbs.2 ⟨a, List.mem_of_getElem? ha, hk⟩)
    · rcases hget j b hb with hb | ⟨hj, rfl⟩
      · exact hal k hk (mem_lbs.2 ⟨b, List.mem_of_getElem? hb, hkb⟩)
      · omega
  · intro j b hb
    rcases hget j b hb with hb | ⟨_, rfl⟩
    · exact h.fresh j b hb
    · rfl
end
/-- A Book that was made since w0: how many lists it was told, and its four kinds. -/
structure B4 (w0 w : World) (bk T : Nat) (rB rI rW rT : Value) (hB hI hW hT : List HB) : Prop where
  box : ∃ cs, Bx w bk cs ∧ cs[0]? = some (.int .i64 (T : Int))
  sB : S0 kByte w bk rB hB
  sI : S0 kInt w bk rI hI
  sW : S0 kWrite w bk rW hW
  sT : S0 kTxn w bk rT hT
  bn : w0.heap.size ≤ bk
  rBn : ∀ k, rB.ownBlock = some k → w0.heap.size ≤ k
  rIn : ∀ k, rI.ownBlock = some k → w0.heap.size ≤ k
  rWn : ∀ k, rW.ownBlock = some k → w0.heap.size ≤ k
  rTn : ∀ k, rT.ownBlock = some k → w0.heap.size ≤ k
  lB : hB.length ≤ T
  lI : hI.length ≤ T
  lW : hW.length ≤ T
  lT : hT.length ≤ T
theorem snoc_length (hs : List HB) (h : HB) : (hs ++ [h]).length = hs.length + 1 := by simp
theorem Bx.told {w w' : World} {bk : Nat} {cs : Array Value} (h : Bx w bk cs) (T' : Value) (c : Nat) (rv' : Value) (hc : c = 1 ∨ c = 2 ∨ c = 4 ∨ c = 7) (hb : w'.heap[bk]? = some (.cells ((cs.setIfInBounds 0 T').setIfInBounds c rv') 57 (0, 0))) :
    Bx w' bk ((cs.setIfInBounds 0 T').setIfInBounds c rv') ∧ ((cs.setIfInBounds 0 T').setIfInBounds c rv')[0]? = some T' ∧ ((cs.setIfInBounds 0 T').setIfInBounds c rv')[c]? = some rv' ∧ ∀ j, j ≠ 0 → j ≠ c → ((cs.setIfInBounds 0 T').setIfInBounds c rv')[j]? = cs[j]? := by
  have h12 := h.size
  have hoth : ∀ j, j ≠ 0 → j ≠ c → ((cs.setIfInBounds 0 T').setIfInBounds c rv')[j]? = cs[j]? := by
    intro j h0 h1
    rw [Array.getElem?_setIfInBounds_ne (fun e => h1 e.symm), Array.getElem?_setIfInBounds_ne (fun e => h0 e.symm)]
  refine ⟨⟨hb, by simpa using h12, fun j hj => ?_⟩, ?_, ?_, hoth⟩
  · rw [hoth j (by omega) (by omega)]
    exact h.rest j hj
  · rw [Array.getElem?_setIfInBounds_ne (by omega), Array.getElem?_setIfInBounds_self]
    simp [h12]
  · rw [Array.getElem?_setIfInBounds_self]
    simp [h12]
    omega
end Go.Proofs.YtaaghcimfcjehaaGreatDoor.Bq
/- What the Book does when it is told one more list (Byte). Conditions: fewer than 2^21 lists. -/
namespace Go.Proofs.YtaaghcimfcjehaaGreatDoor.Bq
open Go.ChangeShapes Go.WideShapes Go.ChangeAt Go.RowKit Go.Lib
set_option linter.unusedVariables false

theorem Tryz.infoHByte : (Tryz.prog.info? 139).map (fun i => (i.zero, i.size, i.bytes)) = some (some (.agg #[.slice none 0 0, .slice none 0 0, .int .i64 0]), 3, 56) := by kernel_rfl
theorem Tryz.undHBytes : Tryz.prog.underlying 45 = some (.slice 139) := by kernel_rfl
end Go.Proofs.YtaaghcimfcjehaaGreatDoor.Bq
/- What the Book does when it is told one more list (Int). Conditions: fewer than 2^21 lists. -/
namespace Go.Proofs.YtaaghcimfcjehaaGreatDoor.Bq
open Go.ChangeShapes Go.WideShapes Go.ChangeAt Go.RowKit Go.Lib
set_option linter.unusedVariables false

theorem Tryz.infoHInt : (Tryz.prog.info? 136).map (fun i => (i.zero, i.size, i.bytes)) = some (some (.agg #[.slice none 0 0, .slice none 0 0, .int .i64 0]), 3, 56) := by kernel_rfl
theorem Tryz.undHInts : Tryz.prog.underlying 46 = some (.slice 136) := by kernel_rfl

set_option maxHeartbeats 4000000 in
set_option maxRecDepth 100000 in
theorem keepInt_any (bk : Nat) (cs : Array Value) (rv : Value) (hs : List HB) (T : Nat) (ao : Option Addr) (L cap : Nat) (w : World) (hb0 : w.heap[bk]? = some (.cells cs 57 (0, 0))) (h12 : cs.size = 12) (hc0 : cs[0]? = some (.int .i64 (T : Int))) (hc1 : cs[2]? = some rv) (hr0 : w.ownsRow 0 136 3 rv hs.length (rowOf hs)) (hfew : hs.length < 2097152) (hT : T < 4194304) :
    Calls Tryz.prog 36 #[.pointer (some ⟨bk, 0, none⟩), .slice ao L cap] w fun e w' => e = .returned (.tuple #[]) ∧ ∃ rv', w'.heap[bk]? = some (.cells ((cs.setIfInBounds 0 (.int .i64 ((T : Int) + 1))).setIfInBounds 2 rv') 57 (0, 0)) ∧ w'.ownsRow 0 136 3 rv' (hs.length + 1) (rowOf (hs ++ [⟨.slice ao L cap, .slice none 0 0, T + 1⟩])) ∧ Fr (bk :: rv.ownBlock.toList) w w' ∧ Moved w.heap.size rv rv' := by
  obtain ⟨i0, hi, hz0, hz1, hz2⟩ := info_parts Tryz.infoHInt
  have c0 : w.cell? ⟨bk, 0, none⟩ = some (.int .i64 (T : Int)) := by rw [cell_of_row _ _ _ _ _ _ hb0, hc0]
  have c1 : w.cell? ⟨bk, 2, none⟩ = some rv := by rw [cell_of_row _ _ _ _ _ _ hb0, hc1]
  have f0 : w.frozen? ⟨bk, 0, none⟩ = false := by simp [World.frozen?, hb0]
  have f1 : w.frozen? ⟨bk, 2, none⟩ = false := by simp [World.frozen?, hb0]
  obtain ⟨N, HN⟩ : ∃ N, Hid (N = hs.length) := ⟨_, rfl⟩
  have hrow := hr0
  rw [← HN.out] at hrow hfew
  have hoth : rv.ownBlock ≠ some bk := by
    intro e
    obtain ⟨cs', hc⟩ := own_type hr0 bk e
    rw [hb0] at hc
    simp at hc
  obtain ⟨rao, rcap, hrv⟩ := own_slice hrow
  subst hrv
  clear hr0
  go_enter Tryz.func36, Tryz.ntmps36
  go_wp2_with fail
  obtain ⟨w1, hw1⟩ : ∃ w1, w1 = w.setCell ⟨bk, 0, none⟩ (.int .i64 ((T : Int) + 1)) := ⟨_, rfl⟩
  rw [← hw1]
  have hF1 : Fr [bk] w w1 := by rw [hw1]; exact Fr.set _ _ _ (by simp)
  have hbox : w1.heap[bk]? = some (.cells (cs.setIfInBounds 0 (.int .i64 ((T : Int) + 1))) 57 (0, 0)) := by rw [hw1, row_setCell _ hb0]
  have hO1 : w1.ownsRow 0 136 3 (.slice rao N rcap) N (rowOf hs) := by rw [hw1]; exact ownsRow_setCell_other hrow hoth _
  have hcs0 : (cs.setIfInBounds 0 (.int .i64 ((T : Int) + 1)))[0]? = some (.int .i64 ((T : Int) + 1)) := by rw [Array.getElem?_setIfInBounds_self]; simp [h12]
  have hcs1 : (cs.setIfInBounds 0 (.int .i64 ((T : Int) + 1)))[2]? = some (.slice rao N rcap) := by rw [Array.getElem?_setIfInBounds_ne (by omega)]; exact hc1
  have d0 : w1.cell? ⟨bk, 0, none⟩ = some (.int .i64 ((T : Int) + 1)) := by rw [cell_of_row _ _ _ _ _ _ hbox, hcs0]
  have d1 : w1.cell? ⟨bk, 2, none⟩ = some (.slice rao N rcap) := by rw [cell_of_row _ _ _ _ _ _ hbox, hcs1]
  have e1 : w1.frozen? ⟨bk, 2, none⟩ = false := by simp [World.frozen?, hbox]
  clear hw1 c0 c1 f0 f1 hrow
  have hFa : Fr [] w1 (w1.alloc (Obj.cells #[.slice ao L cap, .slice none 0 0, .int .i64 ((T : Int) + 1)] 136)).drew := (Fr.alloc [] w1 _).then (Fr.drew [] _)
  have HOa : Hid ((w1.alloc (Obj.cells #[.slice ao L cap, .slice none 0 0, .int .i64 ((T : Int) + 1)] 136)).drew.ownsRow 0 136 3 (.slice rao N rcap) N (rowOf hs)) := owns_keep hO1 hFa (by simp)
  have HNw : Hid (∀ (j : Nat) u, [Value.slice ao L cap, .slice none 0 0, .int .i64 ((T : Int) + 1)][j]? = some u → (w1.alloc (Obj.cells #[.slice ao L cap, .slice none 0 0, .int .i64 ((T : Int) + 1)] 136)).drew.cell? ((⟨w1.heap.size, 0, none⟩ : Addr).add j) = some u) := by
    intro j u hj
    have hn : (w1.alloc (Obj.cells #[.slice ao L cap, .slice none 0 0, .int .i64 ((T : Int) + 1)] 136)).drew.heap[w1.heap.size]? = some (Obj.cells #[.slice ao L cap, .slice none 0 0, .int .i64 ((T : Int) + 1)] 136) := heap_alloc_new w1 _
    rw [show (⟨w1.heap.size, 0, none⟩ : Addr).add j = ⟨w1.heap.size, j, none⟩ from by simp [Addr.add]; omega, cell_of_row _ _ _ _ _ _ hn]
    simpa using hj
  have hboxa := (Fr.alloc [] w1 (Obj.cells #[.slice ao L cap, .slice none 0 0, .int .i64 ((T : Int) + 1)] 136)).keep hbox (by simp)
  have d0a : (w1.alloc (Obj.cells #[.slice ao L cap, .slice none 0 0, .int .i64 ((T : Int) + 1)] 136)).cell? ⟨bk, 0, none⟩ = some (.int .i64 ((T : Int) + 1)) := by rw [cell_of_row _ _ _ _ _ _ hboxa, hcs0]
  have d1a : (w1.alloc (Obj.cells #[.slice ao L cap, .slice none 0 0, .int .i64 ((T : Int) + 1)] 136)).cell? ⟨bk, 2, none⟩ = some (.slice rao N rcap) := by rw [cell_of_row _ _ _ _ _ _ hboxa, hcs1]
  clear hboxa
  have HOne : Hid (∀ u ∈ [Value.slice ao L cap, .slice none 0 0, .int .i64 ((T : Int) + 1)], u.oneCell' = true) := by
    intro u hu
    simp at hu
    rcases hu with rfl | rfl | rfl <;> rfl
  have HK : Hid (∀ (g cap' : Nat) (w' : World), w'.ownsRow 0 136 3 (.slice (some ⟨g, 0, none⟩) (N + 1) cap') (N + 1) (rowOf hs ++ [Value.slice ao L cap, .slice none 0 0, .int .i64 ((T : Int) + 1)]) → Went (w1.alloc (Obj.cells #[.slice ao L cap, .slice none 0 0, .int .i64 ((T : Int) + 1)] 136)).drew (.slice rao N rcap) g w' →
      w'.cell? ⟨bk, 2, none⟩ = some (.slice rao N rcap) ∧ w'.frozen? ⟨bk, 2, none⟩ = false ∧ Hid ((w'.setCell ⟨bk, 2, none⟩ (.slice (some ⟨g, 0, none⟩) (N + 1) cap')).heap[bk]? = some (.cells ((cs.setIfInBounds 0 (.int .i64 ((T : Int) + 1))).setIfInBounds 2 (.slice (some ⟨g, 0, none⟩) (N + 1) cap')) 57 (0, 0)) ∧ (w'.setCell ⟨bk, 2, none⟩ (.slice (some ⟨g, 0, none⟩) (N + 1) cap')).ownsRow 0 136 3 (.slice (some ⟨g, 0, none⟩) (N + 1) cap') (hs.length + 1) (rowOf (hs ++ [⟨.slice ao L cap, .slice none 0 0, T + 1⟩])) ∧ Fr (bk :: (Value.slice rao N rcap).ownBlock.toList) w (w'.setCell ⟨bk, 2, none⟩ (.slice (some ⟨g, 0, none⟩) (N + 1) cap')) ∧ Moved w.heap.size (.slice rao N rcap) (.slice (some ⟨g, 0, none⟩) (N + 1) cap'))) := by
    intro g cap' w' hO hW
    have hFw := hW.fr
    have hF1w : Fr (Value.slice rao N rcap).ownBlock.toList w1 w' := hFa.trans hFw (by simp) (fun x hx _ => hx)
    have hbox' := hF1w.keep hbox (by simpa using hoth)
    refine ⟨by rw [cell_of_row _ _ _ _ _ _ hbox', hcs1], by simp [World.frozen?, hbox'], ?_, ?_, ?_, ?_⟩
    · rw [row_setCell _ hbox']
    · have hne : (Value.slice (some ⟨g, 0, none⟩) (N + 1) cap').ownBlock ≠ some bk := by
        intro e
        obtain ⟨cs', hc⟩ := own_type hO bk e
        rw [hbox'] at hc
        simp at hc
      have e : HB.cells ⟨.slice ao L cap, .slice none 0 0, T + 1⟩ = [.slice ao L cap, .slice none 0 0, .int .i64 ((T : Int) + 1)] := by simp [HB.cells]
      rw [rowOf_snoc, e, ← HN.out]
      exact ownsRow_setCell_other hO hne _
    · refine (hF1.trans (hF1w.trans (U := bk :: (Value.slice rao N rcap).ownBlock.toList) (Fr.set (S := [bk]) w' ⟨bk, 2, none⟩ _ (by simp)) ?_ ?_) ?_ (fun x hx _ => hx))
      · intro x hx _; exact List.mem_cons_of_mem _ hx
      · intro x hx _; simp at hx; simp [hx]
      · intro x hx _; simp at hx; simp [hx]
    · have hs1 := hF1.size
      have hs2 := hFa.size
      exact (Moved.refl w.heap.size _).trans hW.moved (by omega)
  clear hcs0 hcs1
  go_region_law (refine step_app _ rfl (.tmp 15) (.tmp 22) 46 rfl 136 i0 _ 3 56 Tryz.undHInts hi hz0 hz1 hz2 rfl (by omega) (.slice rao N rcap) N (rowOf hs) (by simp [Act.eval]) HOa.out ⟨w1.heap.size, 0, none⟩ 1 [.slice ao L cap, .slice none 0 0, .int .i64 ((T : Int) + 1)] (by simp [Act.eval]) rfl HNw.out HOne.out (by omega) (by simp only [maxLen]; omega) ?_; intro g cap' w' hO2 hW2; obtain ⟨q1, q2, q3⟩ := HK.out g cap' w' hO2 hW2)
  all_goals (go_wp2_with fail; go_end0; exact ⟨rfl, _, q3.out⟩)
end Go.Proofs.YtaaghcimfcjehaaGreatDoor.Bq
/- What the Book does when it is told one more list (Write). Conditions: fewer than 2^21 lists. -/
namespace Go.Proofs.YtaaghcimfcjehaaGreatDoor.Bq
open Go.ChangeShapes Go.WideShapes Go.ChangeAt Go.RowKit Go.Lib
set_option linter.unusedVariables false

theorem Tryz.infoHWrite : (Tryz.prog.info? 147).map (fun i => (i.zero, i.size, i.bytes)) = some (some (.agg #[.slice none 0 0, .slice none 0 0, .int .i64 0]), 3, 56) := by kernel_rfl
theorem Tryz.undHWrites : Tryz.prog.underlying 48 = some (.slice 147) := by kernel_rfl
end Go.Proofs.YtaaghcimfcjehaaGreatDoor.Bq
/- What the Book does when it is told one more list (Txn). Conditions: fewer than 2^21 lists. -/
namespace Go.Proofs.YtaaghcimfcjehaaGreatDoor.Bq
open Go.ChangeShapes Go.WideShapes Go.ChangeAt Go.RowKit Go.Lib
set_option linter.unusedVariables false

theorem Tryz.infoHTxn : (Tryz.prog.info? 160).map (fun i => (i.zero, i.size, i.bytes)) = some (some (.agg #[.slice none 0 0, .slice none 0 0, .int .i64 0]), 3, 56) := by kernel_rfl
theorem Tryz.undHTxns : Tryz.prog.underlying 51 = some (.slice 160) := by kernel_rfl
end Go.Proofs.YtaaghcimfcjehaaGreatDoor.Bq
/- A Book of lists of bytes, numbers, writes and transactions is told one list more: contracts. Conditions: the list lies in a block of its own that no held list of its kind has; fewer than 2^21 lists. -/
namespace Go.Proofs.YtaaghcimfcjehaaGreatDoor.Bq
open Go.ChangeShapes Go.WideShapes Go.ChangeAt Go.RowKit Go.Lib
set_option linter.unusedVariables false
theorem tellInt_any {w0 w : World} {bk T : Nat} {rB rI rW rT : Value} {hB hI hW hT : List HB} (h : B4 w0 w bk T rB rI rW rT hB hI hW hT) (ao : Option Addr) (L cap : Nat) (hp : P0 kInt w ⟨.slice ao L cap, .slice none 0 0, T + 1⟩) (hal : ∀ k, (Value.slice ao L cap).ownBlock = some k → k ∉ lbs hI) (hT2 : T < 2097150) :
    Calls Tryz.prog 36 #[.pointer (some ⟨bk, 0, none⟩), .slice ao L cap] w fun e w' => e = .returned (.tuple #[]) ∧ ∃ rv', B4 w0 w' bk (T + 1) rB rv' rW rT hB (hI ++ [⟨.slice ao L cap, .slice none 0 0, T + 1⟩]) hW hT ∧ Fr (bk :: rI.ownBlock.toList) w w' ∧ Moved w.heap.size rI rv' := by
  obtain ⟨cs, hX, hc0⟩ := h.box
  have hbl := h.sI.bl
  obtain ⟨cs1, b1, hc1⟩ := hbl.box
  have e1 := hX.box
  rw [b1] at e1
  simp only [Option.some.injEq, Obj.cells.injEq, and_true] at e1
  subst e1
  have hlen := h.lI
  refine (keepInt_any bk cs1 rI hI T ao L cap w b1 hX.size hc0 hc1 hbl.row (by omega) (by omega)).mono ?_
  rintro e w' ⟨rfl, rv', hb', hrow', hF', hM'⟩
  obtain ⟨hX', k0, k1, koth⟩ := hX.told _ 2 rv' (by omega) hb'
  have hbn := h.bn
  refine ⟨rfl, rv', ⟨⟨_, hX', by rw [k0]; simp⟩, ?_, ?_, ?_, ?_, h.bn, ?_, ?_, ?_, ?_, ?_, ?_, ?_, ?_⟩, hF', hM'⟩
  · obtain ⟨cs2, b2, hc2⟩ := h.sB.bl.box
    rw [b1] at b2
    simp only [Option.some.injEq, Obj.cells.injEq, and_true] at b2
    subst b2
    exact h.sB.beside hb' (by rw [koth _ (by decide) (by decide)]; exact hc2) hF' (off_row off_BI hbl)
  · exact h.sI.told (.slice ao L cap) (T + 1) hb' k1 hrow' hF' hp (by omega) (by omega) hal
  · obtain ⟨cs2, b2, hc2⟩ := h.sW.bl.box
    rw [b1] at b2
    simp only [Option.some.injEq, Obj.cells.injEq, and_true] at b2
    subst b2
    exact h.sW.beside hb' (by rw [koth _ (by decide) (by decide)]; exact hc2) hF' (off_row off_WI hbl)
  · obtain ⟨cs2, b2, hc2⟩ := h.sT.bl.box
    rw [b1] at b2
    simp only [Option.some.injEq, Obj.cells.injEq, and_true] at b2
    subst b2
    exact h.sT.beside hb' (by rw [koth _ (by decide) (by decide)]; exact hc2) hF' (off_row off_TI hbl)
  · exact h.rBn
  · exact hM'.lt (by have := hX.box; have := lt_of_block this; omega) h.rIn
  · exact h.rWn
  · exact h.rTn
  · have := h.lB; omega
  · rw [snoc_length]; omega
  · have := h.lW; omega
  · have := h.lT; omega
end Go.Proofs.YtaaghcimfcjehaaGreatDoor.Bq
/- A Book is told bytes, numbers, a transaction, a list of transactions: contracts. Conditions: each list lies in a block of its own that no held list of its kind has; fewer than 2^20 lists. -/
namespace Go.Proofs.YtaaghcimfcjehaaGreatDoor.Bq
open Go.ChangeShapes Go.WideShapes Go.ChangeAt Go.RowKit Go.Lib
set_option linter.unusedVariables false

section
variable {w0 w w' : World} {bk T : Nat} {rB rI rW rT : Value} {hB hI hW hT : List HB}
theorem B4.keep (h : B4 w0 w bk T rB rI rW rT hB hI hW hT) (hf : Fr [] w w') : B4 w0 w' bk T rB rI rW rT hB hI hW hT := by
  obtain ⟨cs, hX, hc⟩ := h.box
  exact ⟨⟨cs, hX.keep hf (by simp), hc⟩, h.sB.stay hf (Off.nil _ _), h.sI.stay hf (Off.nil _ _), h.sW.stay hf (Off.nil _ _), h.sT.stay hf (Off.nil _ _), h.bn, h.rBn, h.rIn, h.rWn, h.rTn, h.lB, h.lI, h.lW, h.lT⟩
set_option maxHeartbeats 1000000 in
theorem ints_any (h : B4 w0 w bk T rB rI rW rT hB hI hW hT) (ao : Option Addr) (L cap : Nat) (hp : P0 kInt w ⟨.slice ao L cap, .slice none 0 0, T + 1⟩) (hal : ∀ k, (Value.slice ao L cap).ownBlock = some k → k ∉ lbs hI) (hT2 : T < 2097150) :
    Calls Tryz.prog 19 #[.pointer (some ⟨bk, 0, none⟩), .slice ao L cap] w fun e w' => e = .returned (.tuple #[]) ∧ ∃ rv', B4 w0 w' bk (T + 1) rB rv' rW rT hB (hI ++ [⟨.slice ao L cap, .slice none 0 0, T + 1⟩]) hW hT ∧ Fr (bk :: rI.ownBlock.toList) w w' ∧ Moved w.heap.size rI rv' := by
  have HC : Hid _ := tellInt_any h ao L cap hp hal hT2
  clear h hp hal
  go_enter Tryz.func19, Tryz.ntmps19
  go_wp2_with fail
  refine Calls.mono HC.out ?_
  rintro e w' ⟨rfl, R⟩
  have HR : Hid _ := R
  clear R HC
  go_wp2_with fail
  go_end0
  exact ⟨rfl, HR.out⟩
end
/-- A transaction as a Book sees it: its number, its writes. -/
abbrev Dt := Int × Value
def dtC (ds : List Dt) : List Value := ds.flatMap fun d => [.int .i64 d.1, d.2]
theorem dtC_length (ds : List Dt) : (dtC ds).length = ds.length * 2 := by
  induction ds with
  | nil => rfl
  | cons d r ih => simp only [dtC, List.flatMap_cons, List.length_append, List.length_cons, List.length_nil] at ih ⊢; omega
theorem dtC_get (ds : List Dt) (i : Nat) (d : Dt) (h : ds[i]? = some d) : (dtC ds)[i * 2]? = some (.int .i64 d.1) ∧ (dtC ds)[i * 2 + 1]? = some d.2 := by
  induction ds generalizing i with
  | nil => simp at h
  | cons a r ih =>
    have e : dtC (a :: r) = .int .i64 a.1 :: a.2 :: dtC r := rfl
    cases i with
    | zero => simp at h; subst h; rw [e]; exact ⟨rfl, rfl⟩
    | succ i =>
      rw [e, show (i + 1) * 2 = i * 2 + 1 + 1 by omega]
      simpa using ih i (by simpa using h)
/-- What the Book holds of them. -/
def held : Nat → List Dt → List HB
  | _, [] => []
  | T, d :: r => ⟨d.2, .slice none 0 0, T + 1⟩ :: held (T + 1) r
theorem held_length (T : Nat) (ds : List Dt) : (held T ds).length = ds.length := by
  induction ds generalizing T with
  | nil => rfl
  | cons d r ih => simp [held, ih]
theorem held_snoc (T : Nat) (ds : List Dt) (d : Dt) : held T (ds ++ [d]) = held T ds ++ [⟨d.2, .slice none 0 0, T + ds.length + 1⟩] := by
  induction ds generalizing T with
  | nil => simp [held]
  | cons a r ih =>
    simp only [List.cons_append, held, ih, List.length_cons]
    rw [show T + 1 + r.length + 1 = T + (r.length + 1) + 1 by omega]
theorem mem_held {T : Nat} {ds : List Dt} {k : Nat} (h : k ∈ lbs (held T ds)) : ∃ (i : Nat) (d : Dt), ds[i]? = some d ∧ d.2.ownBlock = some k := by
  induction ds generalizing T with
  | nil => simp [held, lbs] at h
  | cons a r ih =>
    obtain ⟨b, hb, hk⟩ := mem_lbs.1 h
    simp only [held, List.mem_cons] at hb
    rcases hb with rfl | hb
    · exact ⟨0, a, rfl, hk⟩
    · obtain ⟨i, d, hd, hk⟩ := ih (T := T + 1) (mem_lbs.2 ⟨b, hb, hk⟩)
      exact ⟨i + 1, d, by simpa using hd, hk⟩
theorem lbs_append (a b : List HB) : lbs (a ++ b) = lbs a ++ lbs b := by simp [lbs]
/-- A row of transactions whose writes lie apart, of which a Book may be told. -/
structure Dts (w : World) (ao : Option Addr) (L cap : Nat) (ds : List Dt) : Prop where
  row : w.ownsRow 0 66 2 (.slice ao L cap) L (dtC ds)
  len : L = ds.length
  few : L < 1048577
  each : ∀ (i : Nat) (d : Dt), ds[i]? = some d → ∃ n vs, w.ownsRow 0 92 3 d.2 n vs ∧ n < 17179869184
  apart : ∀ (i j : Nat) (a b : Dt), ds[i]? = some a → ds[j]? = some b → i ≠ j → ∀ k, a.2.ownBlock = some k → b.2.ownBlock ≠ some k
theorem Dts.keep {S : List Nat} {w w' : World} {ao : Option Addr} {L cap : Nat} {ds : List Dt} (h : Dts w ao L cap ds) (hf : Fr S w w') (h1 : ∀ k, (Value.slice ao L cap).ownBlock = some k → k ∉ S) (h2 : ∀ (i : Nat) (d : Dt), ds[i]? = some d → ∀ k, d.2.ownBlock = some k → k ∉ S) : Dts w' ao L cap ds :=
  ⟨owns_keep h.row hf h1, h.len, h.few, fun i d hd => by obtain ⟨n, vs, q1, q2⟩ := h.each i d hd; exact ⟨n, vs, owns_keep q1 hf (h2 i d hd), q2⟩, h.apart⟩
theorem take_snocD (ds : List Dt) (i : Nat) (d : Dt) (h : ds[i]? = some d) : ds.take (i + 1) = ds.take i ++ [d] := by rw [List.take_add_one, h]; rfl
end Go.Proofs.YtaaghcimfcjehaaGreatDoor.Bq

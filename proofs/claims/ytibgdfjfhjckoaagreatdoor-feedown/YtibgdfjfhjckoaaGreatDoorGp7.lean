/- Texts of this claim laid together, one behind the other: contracts and plain lemmas; conditions as each names them. -/
import Derived.Test.YtibgdfjfhjckoaaGreatDoorGp6
import Derived.Test.YtibgdfjfhjckoaaGreatDoorGp4
/- A Book's kinds side by side: what one kind's calls write is none of another's. Plain lemmas. -/
namespace Go.Proofs.YtibgdfjfhjckoaaGreatDoor.Bq
open Go.ChangeShapes Go.WideShapes Go.ChangeAt Go.RowKit Go.Lib
set_option linter.unusedVariables false

/-- Blocks that are none of a kind's, nor the Book's own. -/
def Off (K : Kd) (S : List Nat) (w : World) : Prop := ∀ k ∈ S, ∃ cs t, w.heap[k]? = some (.cells cs t (0, 0)) ∧ t ≠ 35 ∧ t ≠ K.tH ∧ t ≠ K.tE
/-- Two kinds have no type in common. -/
def Kd.off (K J : Kd) : Prop := J.tH ≠ K.tH ∧ J.tH ≠ K.tE ∧ J.tE ≠ K.tH ∧ J.tE ≠ K.tE
theorem off_lbs {K J : Kd} (hKJ : K.off J) {w : World} {hs : List HB} (h : ∀ (j : Nat) (h : HB), hs[j]? = some h → ∀ k, h.l.ownBlock = some k → ∃ cs, w.heap[k]? = some (.cells cs J.tE (0, 0))) : Off K (lbs hs) w := by
  intro k hk
  obtain ⟨b, hb, hbk⟩ := mem_lbs.1 hk
  obtain ⟨j, hj⟩ := List.getElem?_of_mem hb
  obtain ⟨cs, hc⟩ := h j b hj k hbk
  exact ⟨cs, J.tE, hc, J.eB, hKJ.2.2.1, hKJ.2.2.2⟩
theorem off_row {K J : Kd} (hKJ : K.off J) {w : World} {bk : Nat} {rv : Value} {hs : List HB} (h : Bl J w bk rv hs) : Off K rv.ownBlock.toList w := by
  intro k hk
  obtain ⟨cs, hc⟩ := own_type h.row k (by simpa using hk)
  exact ⟨cs, J.tH, hc, J.hB, hKJ.1, hKJ.2.1⟩
theorem Off.append {K : Kd} {S T : List Nat} {w : World} (h : Off K S w) (k : Off K T w) : Off K (S ++ T) w := by
  intro x hx
  rcases List.mem_append.1 hx with hx | hx
  · exact h x hx
  · exact k x hx
theorem Off.nil (K : Kd) (w : World) : Off K [] w := by intro x hx; simp at hx
section
variable {K : Kd} {S : List Nat} {w w' : World} {bk : Nat} {rv : Value} {hs : List HB}
theorem Off.notE (h : Off K S w) {k : Nat} {cs : Array Value} (hk : w.heap[k]? = some (.cells cs K.tE (0, 0))) : k ∉ S := by
  intro hm
  obtain ⟨cs', t, hc, _, _, h3⟩ := h k hm
  rw [hc] at hk
  simp only [Option.some.injEq, Obj.cells.injEq] at hk
  exact h3 hk.2.1
theorem Off.notH (h : Off K S w) {k : Nat} {cs : Array Value} (hk : w.heap[k]? = some (.cells cs K.tH (0, 0))) : k ∉ S := by
  intro hm
  obtain ⟨cs', t, hc, _, h2, _⟩ := h k hm
  rw [hc] at hk
  simp only [Option.some.injEq, Obj.cells.injEq] at hk
  exact h2 hk.2.1
theorem Off.notB (h : Off K S w) {k : Nat} {cs : Array Value} (hk : w.heap[k]? = some (.cells cs 35 (0, 0))) : k ∉ S := by
  intro hm
  obtain ⟨cs', t, hc, h1, _, _⟩ := h k hm
  rw [hc] at hk
  simp only [Option.some.injEq, Obj.cells.injEq] at hk
  exact h1 hk.2.1
/-- A kind's part of the Book: as it was handed in; marked; grown. -/
structure S0 (K : Kd) (w : World) (bk : Nat) (rv : Value) (hs : List HB) : Prop where
  bl : Bl K w bk rv hs
  each : ∀ (j : Nat) (h : HB), hs[j]? = some h → P0 K w h
  alone : Alone hs
  fresh : Fresh hs
structure S1 (K : Kd) (w : World) (bk : Nat) (rv : Value) (hs : List HB) : Prop where
  bl : Bl K w bk rv hs
  each : ∀ (j : Nat) (h : HB), hs[j]? = some h → P1 K w h
  alone : Alone hs
  fresh : Fresh hs
structure S2 (K : Kd) (w : World) (bk : Nat) (rv : Value) (hs : List HB) : Prop where
  bl : Bl K w bk rv hs
  each : ∀ (j : Nat) (h : HB), hs[j]? = some h → P2 K w h
theorem Bl.stay (h : Bl K w bk rv hs) (hf : Fr S w w') (ho : Off K S w) : Bl K w' bk rv hs := by
  obtain ⟨cs, h1, _⟩ := h.box
  exact h.keep hf (ho.notB h1) (fun k hk => by obtain ⟨cs, hc⟩ := own_type h.row k hk; exact ho.notH hc)
theorem S0.stay (h : S0 K w bk rv hs) (hf : Fr S w w') (ho : Off K S w) : S0 K w' bk rv hs :=
  ⟨h.bl.stay hf ho, fun j b hb => (h.each j b hb).keep hf (fun k hk => by obtain ⟨cs, hc⟩ := (h.each j b hb).type k hk; exact ho.notE hc), h.alone, h.fresh⟩
theorem S1.stay (h : S1 K w bk rv hs) (hf : Fr S w w') (ho : Off K S w) : S1 K w' bk rv hs :=
  ⟨h.bl.stay hf ho, fun j b hb => (h.each j b hb).keep hf (fun k hk => by obtain ⟨cs, hc⟩ := (h.each j b hb).type k hk; exact ho.notE hc), h.alone, h.fresh⟩
theorem S2.stay (h : S2 K w bk rv hs) (hf : Fr S w w') (ho : Off K S w) : S2 K w' bk rv hs := by
  refine ⟨h.bl.stay hf ho, fun j b hb => ?_⟩
  obtain ⟨n, q1, q2, q3⟩ := h.each j b hb
  exact P2.keep ⟨n, q1, q2, q3⟩ hf (fun k hk => by obtain ⟨cs, hc⟩ := q1.type k hk; exact ho.notE hc) (fun k hk => by obtain ⟨cs, hc⟩ := own_type q2 k hk; exact ho.notE hc)
theorem S0.filled (h : S0 K w bk rv hs) (hF : FillInv K w bk rv hs hs.length w') : S1 K w' bk rv hs :=
  ⟨hF.bk, fun j b hb => hF.done j b hb (List.getElem?_eq_some_iff.1 hb).1, h.alone, h.fresh⟩
theorem S1.grown {hs' : List HB} (h : S1 K w bk rv hs) (hG : GrowInv K w bk rv hs hs.length hs' w') : S2 K w' bk rv hs' :=
  ⟨hG.bk, fun j b hb => hG.done j b hb (by rw [← hG.len]; exact (List.getElem?_eq_some_iff.1 hb).1)⟩
theorem S0.offs {J : Kd} (hKJ : J.off K) (h : S0 K w bk rv hs) : Off J (lbs hs) w := off_lbs hKJ fun j b hb => (h.each j b hb).type
theorem S1.offs {J : Kd} (hKJ : J.off K) (h : S1 K w bk rv hs) : Off J (rv.ownBlock.toList ++ lbs hs) w := (off_row hKJ h.bl).append (off_lbs hKJ fun j b hb => (h.each j b hb).type)
end
/-- The Book's block, of which the cells of other kinds than these hold no list. -/
structure Bx (w : World) (bk : Nat) (cs : Array Value) : Prop where
  box : w.heap[bk]? = some (.cells cs 35 (0, 0))
  size : cs.size = 12
  rest : ∀ c, c = 3 ∨ c = 5 ∨ c = 6 ∨ c = 8 ∨ c = 9 ∨ c = 10 ∨ c = 11 → cs[c]? = some (.slice none 0 0)
theorem Bx.c {w : World} {bk : Nat} {cs : Array Value} (h : Bx w bk cs) (c : Nat) (hc : c = 3 ∨ c = 5 ∨ c = 6 ∨ c = 8 ∨ c = 9 ∨ c = 10 ∨ c = 11) : w.cell? ⟨bk, c, none⟩ = some (.slice none 0 0) := by
  rw [cell_of_row _ _ _ _ _ _ h.box, h.rest c hc]
theorem Bx.keep {S : List Nat} {w w' : World} {bk : Nat} {cs : Array Value} (h : Bx w bk cs) (hf : Fr S w w') (hb : bk ∉ S) : Bx w' bk cs := ⟨hf.keep h.box hb, h.size, h.rest⟩
theorem off_BI : kByte.off kInt := by refine ⟨?_, ?_, ?_, ?_⟩ <;> decide
theorem off_BW : kByte.off kWrite := by refine ⟨?_, ?_, ?_, ?_⟩ <;> decide
theorem off_BT : kByte.off kTxn := by refine ⟨?_, ?_, ?_, ?_⟩ <;> decide
theorem off_IB : kInt.off kByte := by refine ⟨?_, ?_, ?_, ?_⟩ <;> decide
theorem off_IW : kInt.off kWrite := by refine ⟨?_, ?_, ?_, ?_⟩ <;> decide
theorem off_IT : kInt.off kTxn := by refine ⟨?_, ?_, ?_, ?_⟩ <;> decide
theorem off_WB : kWrite.off kByte := by refine ⟨?_, ?_, ?_, ?_⟩ <;> decide
theorem off_WI : kWrite.off kInt := by refine ⟨?_, ?_, ?_, ?_⟩ <;> decide
theorem off_WT : kWrite.off kTxn := by refine ⟨?_, ?_, ?_, ?_⟩ <;> decide
theorem off_TB : kTxn.off kByte := by refine ⟨?_, ?_, ?_, ?_⟩ <;> decide
theorem off_TI : kTxn.off kInt := by refine ⟨?_, ?_, ?_, ?_⟩ <;> decide
theorem off_TW : kTxn.off kWrite := by refine ⟨?_, ?_, ?_, ?_⟩ <;> decide
end Go.Proofs.YtibgdfjfhjckoaaGreatDoor.Bq
/- A Book of lists of bytes, numbers, writes and transactions is told one list more. Conditions: the list lies in a block of its own that no held list of its kind has. -/
namespace Go.Proofs.YtibgdfjfhjckoaaGreatDoor.Bq
open Go.ChangeShapes Go.WideShapes Go.ChangeAt Go.RowKit Go.Lib
set_option linter.unusedVariables false

section
variable {K J : Kd} {S : List Nat} {w w' : World} {bk : Nat} {rv rv' : Value} {hs : List HB} {cs' : Array Value}
/-- Another kind's part, where the Book's block was written. -/
theorem S0.beside (h : S0 J w bk rv hs) (hb : w'.heap[bk]? = some (.cells cs' 35 (0, 0))) (hc : cs'[J.col]? = some rv) (hf : Fr (bk :: S) w w') (ho : Off J S w) : S0 J w' bk rv hs := by
  obtain ⟨cs, h1, _⟩ := h.bl.box
  have hE : ∀ k cs, w.heap[k]? = some (.cells cs J.tE (0, 0)) → k ∉ bk :: S := by
    intro k cs hk hm
    rcases List.mem_cons.1 hm with rfl | hm
    · rw [h1] at hk
      simp only [Option.some.injEq, Obj.cells.injEq] at hk
      exact J.eB hk.2.1.symm
    · exact ho.notE hk hm
  have hH : ∀ k cs, w.heap[k]? = some (.cells cs J.tH (0, 0)) → k ∉ bk :: S := by
    intro k cs hk hm
    rcases List.mem_cons.1 hm with rfl | hm
    · rw [h1] at hk
      simp only [Option.some.injEq, Obj.cells.injEq] at hk
      exact J.hB hk.2.1.symm
    · exact ho.notH hk hm
  refine ⟨⟨⟨cs', hb, hc⟩, owns_keep h.bl.row hf (fun k hk => by obtain ⟨c, hc⟩ := own_type h.bl.row k hk; exact hH k c hc), h.bl.few, h.bl.num⟩, fun j b hb => (h.each j b hb).keep hf (fun k hk => by obtain ⟨c, hc⟩ := (h.each j b hb).type k hk; exact hE k c hc), h.alone, h.fresh⟩
/-- The kind's own part with one list more. -/
theorem S0.told (h : S0 K w bk rv hs) (l : Value) (n : Nat) (hb : w'.heap[bk]? = some (.cells cs' 35 (0, 0))) (hc : cs'[K.col]? = some rv') (hrow : w'.ownsRow 0 K.tH 3 rv' (hs.length + 1) (rowOf (hs ++ [⟨l, .slice none 0 0, n⟩]))) (hf : Fr (bk :: rv.ownBlock.toList) w w')
    (hp : P0 K w ⟨l, .slice none 0 0, n⟩) (hn : n < 4194304) (hfew : hs.length + 1 < 2097152) (hal : ∀ k, l.ownBlock = some k → k ∉ lbs hs) : S0 K w' bk rv' (hs ++ [⟨l, .slice none 0 0, n⟩]) := by
  obtain ⟨cs, h1, _⟩ := h.bl.box
  have hE : ∀ k cs, w.heap[k]? = some (.cells cs K.tE (0, 0)) → k ∉ bk :: rv.ownBlock.toList := by
    intro k cs hk hm
    obtain ⟨q1, q2⟩ := h.bl.apart hk
    rcases List.mem_cons.1 hm with e | hm
    · exact q1 e
    · exact q2 (by simpa using hm)
  have hget : ∀ (j : Nat) (b : HB), (hs ++ [⟨l, .slice none 0 0, n⟩])[j]? = some b → hs[j]? = some b ∨ (j = hs.length ∧ b = ⟨l, .slice none 0 0, n⟩) := by
    intro j b hb
    by_cases hj : j < hs.length
    · rw [List.getElem?_append_left hj] at hb
      exact Or.inl hb
    · rw [List.getElem?_append_right (by omega)] at hb
      by_cases hj2 : j = hs.length
      · subst hj2
        simp at hb
        exact Or.inr ⟨rfl, hb.symm⟩
      · rw [List.getElem?_eq_none (by simp; omega)] at hb
        cases hb
  refine ⟨⟨⟨cs', hb, hc⟩, by simpa using hrow, by simpa using hfew, ?_⟩, ?_, ?_, ?_⟩
  · intro j b hb
    rcases hget j b hb with hb | ⟨_, rfl⟩
    · exact h.bl.num j b hb
    · exact hn
  · intro j b hb
    rcases hget j b hb with hb | ⟨_, rfl⟩
    · exact (h.each j b hb).keep hf (fun k hk => by obtain ⟨c, hc⟩ := (h.each j b hb).type k hk; exact hE k c hc)
    · exact hp.keep hf (fun k hk => by obtain ⟨c, hc⟩ := hp.type k hk; exact hE k c hc)
  · intro i j a b ha hb hij k hk hkb
    rcases hget i a ha with ha | ⟨hi, rfl⟩
    · rcases hget j b hb with hb | ⟨hj, rfl⟩
      · exact h.alone i j a b ha hb hij k hk hkb
      · exact hal k hkb (mem_lbs.2 ⟨a, List.mem_of_getElem? ha, hk⟩)
    · rcases hget j b hb with hb | ⟨hj, rfl⟩
      · exact hal k hk (mem_lbs.2 ⟨b, List.mem_of_getElem? hb, hkb⟩)
      · omega
  · intro j b hb
    rcases hget j b hb with hb | ⟨_, rfl⟩
    · exact h.fresh j b hb
    · rfl
end
/-- A Book that was made since w0: how many lists it was told, and its four kinds. -/
structure B4 (w0 w : World) (bk T : Nat) (rB rI rW rT : Value) (hB hI hW hT : List HB) : Prop where
  box : ∃ cs, Bx w bk cs ∧ cs[0]? = some (.int .i64 (T : Int))
  sB : S0 kByte w bk rB hB
  sI : S0 kInt w bk rI hI
  sW : S0 kWrite w bk rW hW
  sT : S0 kTxn w bk rT hT
  bn : w0.heap.size ≤ bk
  rBn : ∀ k, rB.ownBlock = some k → w0.heap.size ≤ k
  rIn : ∀ k, rI.ownBlock = some k → w0.heap.size ≤ k
  rWn : ∀ k, rW.ownBlock = some k → w0.heap.size ≤ k
  rTn : ∀ k, rT.ownBlock = some k → w0.heap.size ≤ k
  lB : hB.length ≤ T
  lI : hI.length ≤ T
  lW : hW.length ≤ T
  lT : hT.length ≤ T
theorem snoc_length (hs : List HB) (h : HB) : (hs ++ [h]).length = hs.length + 1 := by simp
theorem Bx.told {w w' : World} {bk : Nat} {cs : Array Value} (h : Bx w bk cs) (T' : Value) (c : Nat) (rv' : Value) (hc : c = 1 ∨ c = 2 ∨ c = 4 ∨ c = 7) (hb : w'.heap[bk]? = some (.cells ((cs.setIfInBounds 0 T').setIfInBounds c rv') 35 (0, 0))) :
    Bx w' bk ((cs.setIfInBounds 0 T').setIfInBounds c rv') ∧ ((cs.setIfInBounds 0 T').setIfInBounds c rv')[0]? = some T' ∧ ((cs.setIfInBounds 0 T').setIfInBounds c rv')[c]? = some rv' ∧ ∀ j, j ≠ 0 → j ≠ c → ((cs.setIfInBounds 0 T').setIfInBounds c rv')[j]? = cs[j]? := by
  have h12 := h.size
  have hoth : ∀ j, j ≠ 0 → j ≠ c → ((cs.setIfInBounds 0 T').setIfInBounds c rv')[j]? = cs[j]? := by
    intro j h0 h1
    rw [Array.getElem?_setIfInBounds_ne (fun e => h1 e.symm), Array.getElem?_setIfInBounds_ne (fun e => h0 e.symm)]
  refine ⟨⟨hb, by simpa using h12, fun j hj => ?_⟩, ?_, ?_, hoth⟩
  · rw [hoth j (by omega) (by omega)]
    exact h.rest j hj
  · rw [Array.getElem?_setIfInBounds_ne (by omega), Array.getElem?_setIfInBounds_self]
    simp [h12]
  · rw [Array.getElem?_setIfInBounds_self]
    simp [h12]
    omega
end Go.Proofs.YtibgdfjfhjckoaaGreatDoor.Bq
/- What the Book does when it is told one more list (Byte). Conditions: fewer than 2^21 lists. -/
namespace Go.Proofs.YtibgdfjfhjckoaaGreatDoor.Bq
open Go.ChangeShapes Go.WideShapes Go.ChangeAt Go.RowKit Go.Lib
set_option linter.unusedVariables false

theorem Tryz.infoHByte : (Tryz.prog.info? 85).map (fun i => (i.zero, i.size, i.bytes)) = some (some (.agg #[.slice none 0 0, .slice none 0 0, .int .i64 0]), 3, 56) := by kernel_rfl
theorem Tryz.undHBytes : Tryz.prog.underlying 23 = some (.slice 85) := by kernel_rfl
end Go.Proofs.YtibgdfjfhjckoaaGreatDoor.Bq
/- What the Book does when it is told one more list (Int). Conditions: fewer than 2^21 lists. -/
namespace Go.Proofs.YtibgdfjfhjckoaaGreatDoor.Bq
open Go.ChangeShapes Go.WideShapes Go.ChangeAt Go.RowKit Go.Lib
set_option linter.unusedVariables false

theorem Tryz.infoHInt : (Tryz.prog.info? 88).map (fun i => (i.zero, i.size, i.bytes)) = some (some (.agg #[.slice none 0 0, .slice none 0 0, .int .i64 0]), 3, 56) := by kernel_rfl
theorem Tryz.undHInts : Tryz.prog.underlying 24 = some (.slice 88) := by kernel_rfl
end Go.Proofs.YtibgdfjfhjckoaaGreatDoor.Bq

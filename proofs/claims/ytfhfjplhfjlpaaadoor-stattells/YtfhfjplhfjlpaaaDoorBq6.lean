/- A Book of lists of bytes, numbers, writes and transactions is told one list more. Conditions: the list lies in a block of its own that no held list of its kind has. -/
import Derived.Test.YtfhfjplhfjlpaaaDoorBq5
namespace Go.Proofs.YtfhfjplhfjlpaaaDoor.Bq
open Go.ChangeShapes Go.WideShapes Go.ChangeAt Go.RowKit Go.Lib
set_option linter.unusedVariables false

section
variable {K J : Kd} {S : List Nat} {w w' : World} {bk : Nat} {rv rv' : Value} {hs : List HB} {cs' : Array Value}
/-- Another kind's part, where the Book's block was written. -/
theorem S0.beside (h : S0 J w bk rv hs) (hb : w'.heap[bk]? = some (.cells cs' 48 (0, 0))) (hc : cs'[J.col]? = some rv) (hf : Fr (bk :: S) w w') (ho : Off J S w) : S0 J w' bk rv hs := by
  obtain ⟨cs, h1, _⟩ := h.bl.box
  have hE : ∀ k cs, w.heap[k]? = some (.cells cs J.tE (0, 0)) → k ∉ bk :: S := by
    intro k cs hk hm
    rcases List.mem_cons.1 hm with rfl | hm
    · rw [h1] at hk
      simp only [Option.some.injEq, Obj.cells.injEq] at hk
      exact J.eB hk.2.1.symm
    · exact ho.notE hk hm
  have hH : ∀ k cs, w.heap[k]? = some (.cells cs J.tH (0, 0)) → k ∉ bk :: S := by
    intro k cs hk hm
    rcases List.mem_cons.1 hm with rfl | hm
    · rw [h1] at hk
      simp only [Option.some.injEq, Obj.cells.injEq] at hk
      exact J.hB hk.2.1.symm
    · exact ho.notH hk hm
  refine ⟨⟨⟨cs', hb, hc⟩, owns_keep h.bl.row hf (fun k hk => by obtain ⟨c, hc⟩ := own_type h.bl.row k hk; exact hH k c hc), h.bl.few, h.bl.num⟩, fun j b hb => (h.each j b hb).keep hf (fun k hk => by obtain ⟨c, hc⟩ := (h.each j b hb).type k hk; exact hE k c hc), h.alone, h.fresh⟩
/-- The kind's own part with one list more. -/
theorem S0.told (h : S0 K w bk rv hs) (l : Value) (n : Nat) (hb : w'.heap[bk]? = some (.cells cs' 48 (0, 0))) (hc : cs'[K.col]? = some rv') (hrow : w'.ownsRow 0 K.tH 3 rv' (hs.length + 1) (rowOf (hs ++ [⟨l, .slice none 0 0, n⟩]))) (hf : Fr (bk :: rv.ownBlock.toList) w w')
    (hp : P0 K w ⟨l, .slice none 0 0, n⟩) (hn : n < 4194304) (hfew : hs.length + 1 < 2097152) (hal : ∀ k, l.ownBlock = some k → k ∉ lbs hs) : S0 K w' bk rv' (hs ++ [⟨l, .slice none 0 0, n⟩]) := by
  obtain ⟨cs, h1, _⟩ := h.bl.box
  have hE : ∀ k cs, w.heap[k]? = some (.cells cs K.tE (0, 0)) → k ∉ bk :: rv.ownBlock.toList := by
    intro k cs hk hm
    obtain ⟨q1, q2⟩ := h.bl.apart hk
    rcases List.mem_cons.1 hm with e | hm
    · exact q1 e
    · exact q2 (by simpa using hm)
  have hget : ∀ (j : Nat) (b : HB), (hs ++ [⟨l, .slice none 0 0, n⟩])[j]? = some b → hs[j]? = some b ∨ (j = hs.length ∧ b = ⟨l, .slice none 0 0, n⟩) := by
    intro j b hb
    by_cases hj : j < hs.length
    · rw [List.getElem?_append_left hj] at hb
      exact Or.inl hb
    · rw [List.getElem?_append_right (by omega)] at hb
      by_cases hj2 : j = hs.length
      · subst hj2
        simp at hb
        exact Or.inr ⟨rfl, hb.symm⟩
      · rw [List.getElem?_eq_none (by simp; omega)] at hb
        cases hb
  refine ⟨⟨⟨cs', hb, hc⟩, by simpa using hrow, by simpa using hfew, ?_⟩, ?_, ?_, ?_⟩
  · intro j b hb
    rcases hget j b hb with hb | ⟨_, rfl⟩
    · exact h.bl.num j b hb
    · exact hn
  · intro j b hb
    rcases hget j b hb with hb | ⟨_, rfl⟩
    · exact (h.each j b hb).keep hf (fun k hk => by obtain ⟨c, hc⟩ := (h.each j b hb).type k hk; exact hE k c hc)
    · exact hp.keep hf (fun k hk => by obtain ⟨c, hc⟩ := hp.type k hk; exact hE k c hc)
  · intro i j a b ha hb hij k hk hkb
    rcases hget i a ha with ha | ⟨hi, rfl⟩
    · rcases hget j b hb with hb | ⟨hj, rfl⟩
      · exact h.alone i j a b ha hb hij k hk hkb
      · exact hal k hkb (mem_lbs.2 ⟨a, List.mem_of_getElem? ha, hk⟩)
    · rcases hget j b hb with hb | ⟨hj, rfl⟩
      · exact hal k hk (mem_lbs.2 ⟨b, List.mem_of_getElem? hb, hkb⟩)
      · omega
  · intro j b hb
    rcases hget j b hb with hb | ⟨_, rfl⟩
    · exact h.fresh j b hb
    · rfl
end
/-- A Book that was made since w0: how many lists it was told, and its four kinds. -/
structure B4 (w0 w : World) (bk T : Nat) (rB rI rW rT : Value) (hB hI hW hT : List HB) : Prop where
  box : ∃ cs, Bx w bk cs ∧ cs[0]? = some (.int .i64 (T : Int))
  sB : S0 kByte w bk rB hB
  sI : S0 kInt w bk rI hI
  sW : S0 kWrite w bk rW hW
  sT : S0 kTxn w bk rT hT
  bn : w0.heap.size ≤ bk
  rBn : ∀ k, rB.ownBlock = some k → w0.heap.size ≤ k
  rIn : ∀ k, rI.ownBlock = some k → w0.heap.size ≤ k
  rWn : ∀ k, rW.ownBlock = some k → w0.heap.size ≤ k
  rTn : ∀ k, rT.ownBlock = some k → w0.heap.size ≤ k
  lB : hB.length ≤ T
  lI : hI.length ≤ T
  lW : hW.length ≤ T
  lT : hT.length ≤ T
theorem snoc_length (hs : List HB) (h : HB) : (hs ++ [h]).length = hs.length + 1 := by simp
theorem Bx.told {w w' : World} {bk : Nat} {cs : Array Value} (h : Bx w bk cs) (T' : Value) (c : Nat) (rv' : Value) (hc : c = 1 ∨ c = 2 ∨ c = 4 ∨ c = 7) (hb : w'.heap[bk]? = some (.cells ((cs.setIfInBounds 0 T').setIfInBounds c rv') 48 (0, 0))) :
    Bx w' bk ((cs.setIfInBounds 0 T').setIfInBounds c rv') ∧ ((cs.setIfInBounds 0 T').setIfInBounds c rv')[0]? = some T' ∧ ((cs.setIfInBounds 0 T').setIfInBounds c rv')[c]? = some rv' ∧ ∀ j, j ≠ 0 → j ≠ c → ((cs.setIfInBounds 0 T').setIfInBounds c rv')[j]? = cs[j]? := by
  have h12 := h.size
  have hoth : ∀ j, j ≠ 0 → j ≠ c → ((cs.setIfInBounds 0 T').setIfInBounds c rv')[j]? = cs[j]? := by
    intro j h0 h1
    rw [Array.getElem?_setIfInBounds_ne (fun e => h1 e.symm), Array.getElem?_setIfInBounds_ne (fun e => h0 e.symm)]
  refine ⟨⟨hb, by simpa using h12, fun j hj => ?_⟩, ?_, ?_, hoth⟩
  · rw [hoth j (by omega) (by omega)]
    exact h.rest j hj
  · rw [Array.getElem?_setIfInBounds_ne (by omega), Array.getElem?_setIfInBounds_self]
    simp [h12]
  · rw [Array.getElem?_setIfInBounds_self]
    simp [h12]
    omega
end Go.Proofs.YtfhfjplhfjlpaaaDoor.Bq

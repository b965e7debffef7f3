/- A Book whose rows alone are told is told of a checkpoint more. Conditions as each names them. -/
import Derived.Test.YtembflnhhfliaaaGreatDoorLo19
namespace Go.Proofs.YtembflnhhfliaaaGreatDoor.Bq.Wk
open BigFrame Go.ChangeShapes Go.WideShapes Go.ChangeAt Go.RowKit Go.Lib
set_option linter.unusedVariables false
set_option linter.unusedSimpArgs false

/-- A kind's part of the Book: its row alone. -/
structure S0 (K : Kd) (w : World) (bk : Nat) (rv : Value) (hs : List HB) : Prop where
  bl : Bl K w bk rv hs
section
variable {K J : Kd} {S : List Nat} {w w' : World} {bk : Nat} {rv rv' : Value} {hs : List HB} {cs' : Array Value}
theorem S0.beside (h : S0 J w bk rv hs) (hb : w'.heap[bk]? = some (.cells cs' 52 (0, 0))) (hc : cs'[J.col]? = some rv) (hf : Fr (bk :: S) w w') (ho : Off J S w) : S0 J w' bk rv hs := by
  obtain ⟨cs, h1, _⟩ := h.bl.box
  have hE : ∀ k cs, w.heap[k]? = some (.cells cs J.tE (0, 0)) → k ∉ bk :: S := by
    intro k cs hk hm
    rcases List.mem_cons.1 hm with rfl | hm
    · rw [h1] at hk
      simp only [Option.some.injEq, Obj.cells.injEq] at hk
      exact J.eB hk.2.1.symm
    · exact ho.notE hk hm
  have hH : ∀ k cs, w.heap[k]? = some (.cells cs J.tH (0, 0)) → k ∉ bk :: S := by
    intro k cs hk hm
    rcases List.mem_cons.1 hm with rfl | hm
    · rw [h1] at hk
      simp only [Option.some.injEq, Obj.cells.injEq] at hk
      exact J.hB hk.2.1.symm
    · exact ho.notH hk hm
  refine ⟨⟨⟨cs', hb, hc⟩, owns_keep h.bl.row hf (fun k hk => by obtain ⟨c, hc⟩ := own_type h.bl.row k hk; exact hH k c hc), h.bl.few, h.bl.num⟩⟩
theorem S0.told (h : S0 K w bk rv hs) (l : Value) (n : Nat) (hb : w'.heap[bk]? = some (.cells cs' 52 (0, 0))) (hc : cs'[K.col]? = some rv') (hrow : w'.ownsRow 0 K.tH 3 rv' (hs.length + 1) (rowOf (hs ++ [⟨l, .slice none 0 0, n⟩]))) (hf : Fr (bk :: rv.ownBlock.toList) w w')
    (hp : P0 K w ⟨l, .slice none 0 0, n⟩) (hn : n < 134217728) (hfew : hs.length + 1 < 67108864) : S0 K w' bk rv' (hs ++ [⟨l, .slice none 0 0, n⟩]) := by
  obtain ⟨cs, h1, _⟩ := h.bl.box
  have hE : ∀ k cs, w.heap[k]? = some (.cells cs K.tE (0, 0)) → k ∉ bk :: rv.ownBlock.toList := by
    intro k cs hk hm
    obtain ⟨q1, q2⟩ := h.bl.apart hk
    rcases List.mem_cons.1 hm with e | hm
    · exact q1 e
    · exact q2 (by simpa using hm)
  have hget : ∀ (j : Nat) (b : HB), (hs ++ [⟨l, .slice none 0 0, n⟩])[j]? = some b → hs[j]? = some b ∨ (j = hs.length ∧ b = ⟨l, .slice none 0 0, n⟩) := by
    intro j b hb
    by_cases hj : j < hs.length
    · rw [List.getElem?_append_left hj] at hb
      exact Or.inl hb
    · rw [List.getElem?_append_right (by omega)] at hb
      by_cases hj2 : j = hs.length
      · subst hj2
        simp at hb
        exact Or.inr ⟨rfl, hb.symm⟩
      · rw [List.getElem?_eq_none (by simp; omega)] at hb
        cases hb
  refine ⟨⟨⟨cs', hb, hc⟩, by simpa using hrow, by simpa using hfew, ?_⟩⟩
  intro j b hb
  rcases hget j b hb with hb | ⟨_, rfl⟩
  · exact h.bl.num j b hb
  · exact hn
end
/-- A Book that was made since w0: how many lists it was told, and its four kinds. -/
structure B4 (w0 w : World) (bk T : Nat) (rB rI rW rT : Value) (hB hI hW hT : List HB) : Prop where
  box : ∃ cs, Bx w bk cs ∧ cs[0]? = some (.int .i64 (T : Int))
  sB : S0 kByte w bk rB hB
  sI : S0 kInt w bk rI hI
  sW : S0 kHeld w bk rW hW
  sT : S0 kVersion w bk rT hT
  bn : w0.heap.size ≤ bk
  rBn : ∀ k, rB.ownBlock = some k → w0.heap.size ≤ k
  rIn : ∀ k, rI.ownBlock = some k → w0.heap.size ≤ k
  rWn : ∀ k, rW.ownBlock = some k → w0.heap.size ≤ k
  rTn : ∀ k, rT.ownBlock = some k → w0.heap.size ≤ k
  lB : hB.length ≤ T
  lI : hI.length ≤ T
  lW : hW.length ≤ T
  lT : hT.length ≤ T
theorem tellInt_any {w0 w : World} {bk T : Nat} {rB rI rW rT : Value} {hB hI hW hT : List HB} (h : B4 w0 w bk T rB rI rW rT hB hI hW hT) (ao : Option Addr) (L cap : Nat) (hp : P0 kInt w ⟨.slice ao L cap, .slice none 0 0, T + 1⟩) (hT2 : T < 67108862) :
    Calls Tryz.prog 139 #[.pointer (some ⟨bk, 0, none⟩), .slice ao L cap] w fun e w' => e = .returned (.tuple #[]) ∧ ∃ rv', B4 w0 w' bk (T + 1) rB rv' rW rT hB (hI ++ [⟨.slice ao L cap, .slice none 0 0, T + 1⟩]) hW hT ∧ Fr (bk :: rI.ownBlock.toList) w w' ∧ Moved w.heap.size rI rv' := by
  obtain ⟨cs, hX, hc0⟩ := h.box
  have hbl := h.sI.bl
  obtain ⟨cs1, b1, hc1⟩ := hbl.box
  have e1 := hX.box
  rw [b1] at e1
  simp only [Option.some.injEq, Obj.cells.injEq, and_true] at e1
  subst e1
  have hlen := h.lI
  refine (keepInt_any bk cs1 rI hI T ao L cap w b1 hX.size hc0 hc1 hbl.row (by omega) (by omega)).mono ?_
  rintro e w' ⟨rfl, rv', hb', hrow', hF', hM'⟩
  obtain ⟨hX', k0, k1, koth⟩ := hX.told _ 2 rv' (by omega) hb'
  have hbn := h.bn
  refine ⟨rfl, rv', ⟨⟨_, hX', by rw [k0]; simp⟩, ?_, ?_, ?_, ?_, h.bn, ?_, ?_, ?_, ?_, ?_, ?_, ?_, ?_⟩, hF', hM'⟩
  · obtain ⟨cs2, b2, hc2⟩ := h.sB.bl.box
    rw [b1] at b2
    simp only [Option.some.injEq, Obj.cells.injEq, and_true] at b2
    subst b2
    exact h.sB.beside hb' (by rw [koth _ (by decide) (by decide)]; exact hc2) hF' (off_row off_BI hbl)
  · exact h.sI.told (.slice ao L cap) (T + 1) hb' k1 hrow' hF' hp (by omega) (by omega)
  · obtain ⟨cs2, b2, hc2⟩ := h.sW.bl.box
    rw [b1] at b2
    simp only [Option.some.injEq, Obj.cells.injEq, and_true] at b2
    subst b2
    exact h.sW.beside hb' (by rw [koth _ (by decide) (by decide)]; exact hc2) hF' (off_row off_WI hbl)
  · obtain ⟨cs2, b2, hc2⟩ := h.sT.bl.box
    rw [b1] at b2
    simp only [Option.some.injEq, Obj.cells.injEq, and_true] at b2
    subst b2
    exact h.sT.beside hb' (by rw [koth _ (by decide) (by decide)]; exact hc2) hF' (off_row off_TI hbl)
  · exact h.rBn
  · exact hM'.lt (by have := hX.box; have := lt_of_block this; omega) h.rIn
  · exact h.rWn
  · exact h.rTn
  · have := h.lB; omega
  · rw [snoc_length]; omega
  · have := h.lW; omega
  · have := h.lT; omega
theorem tellHeld_any {w0 w : World} {bk T : Nat} {rB rI rW rT : Value} {hB hI hW hT : List HB} (h : B4 w0 w bk T rB rI rW rT hB hI hW hT) (ao : Option Addr) (L cap : Nat) (hp : P0 kHeld w ⟨.slice ao L cap, .slice none 0 0, T + 1⟩) (hT2 : T < 67108862) :
    Calls Tryz.prog 141 #[.pointer (some ⟨bk, 0, none⟩), .slice ao L cap] w fun e w' => e = .returned (.tuple #[]) ∧ ∃ rv', B4 w0 w' bk (T + 1) rB rI rv' rT hB hI (hW ++ [⟨.slice ao L cap, .slice none 0 0, T + 1⟩]) hT ∧ Fr (bk :: rW.ownBlock.toList) w w' ∧ Moved w.heap.size rW rv' := by
  obtain ⟨cs, hX, hc0⟩ := h.box
  have hbl := h.sW.bl
  obtain ⟨cs1, b1, hc1⟩ := hbl.box
  have e1 := hX.box
  rw [b1] at e1
  simp only [Option.some.injEq, Obj.cells.injEq, and_true] at e1
  subst e1
  have hlen := h.lW
  refine (keepHeld_any bk cs1 rW hW T ao L cap w b1 hX.size hc0 hc1 hbl.row (by omega) (by omega)).mono ?_
  rintro e w' ⟨rfl, rv', hb', hrow', hF', hM'⟩
  obtain ⟨hX', k0, k1, koth⟩ := hX.told _ 8 rv' (by omega) hb'
  have hbn := h.bn
  refine ⟨rfl, rv', ⟨⟨_, hX', by rw [k0]; simp⟩, ?_, ?_, ?_, ?_, h.bn, ?_, ?_, ?_, ?_, ?_, ?_, ?_, ?_⟩, hF', hM'⟩
  · obtain ⟨cs2, b2, hc2⟩ := h.sB.bl.box
    rw [b1] at b2
    simp only [Option.some.injEq, Obj.cells.injEq, and_true] at b2
    subst b2
    exact h.sB.beside hb' (by rw [koth _ (by decide) (by decide)]; exact hc2) hF' (off_row off_BW hbl)
  · obtain ⟨cs2, b2, hc2⟩ := h.sI.bl.box
    rw [b1] at b2
    simp only [Option.some.injEq, Obj.cells.injEq, and_true] at b2
    subst b2
    exact h.sI.beside hb' (by rw [koth _ (by decide) (by decide)]; exact hc2) hF' (off_row off_IW hbl)
  · exact h.sW.told (.slice ao L cap) (T + 1) hb' k1 hrow' hF' hp (by omega) (by omega)
  · obtain ⟨cs2, b2, hc2⟩ := h.sT.bl.box
    rw [b1] at b2
    simp only [Option.some.injEq, Obj.cells.injEq, and_true] at b2
    subst b2
    exact h.sT.beside hb' (by rw [koth _ (by decide) (by decide)]; exact hc2) hF' (off_row off_TW hbl)
  · exact h.rBn
  · exact h.rIn
  · exact hM'.lt (by have := hX.box; have := lt_of_block this; omega) h.rWn
  · exact h.rTn
  · have := h.lB; omega
  · have := h.lI; omega
  · rw [snoc_length]; omega
  · have := h.lT; omega
theorem tellVersion_any {w0 w : World} {bk T : Nat} {rB rI rW rT : Value} {hB hI hW hT : List HB} (h : B4 w0 w bk T rB rI rW rT hB hI hW hT) (ao : Option Addr) (L cap : Nat) (hp : P0 kVersion w ⟨.slice ao L cap, .slice none 0 0, T + 1⟩) (hT2 : T < 67108862) :
    Calls Tryz.prog 163 #[.pointer (some ⟨bk, 0, none⟩), .slice ao L cap] w fun e w' => e = .returned (.tuple #[]) ∧ ∃ rv', B4 w0 w' bk (T + 1) rB rI rW rv' hB hI hW (hT ++ [⟨.slice ao L cap, .slice none 0 0, T + 1⟩]) ∧ Fr (bk :: rT.ownBlock.toList) w w' ∧ Moved w.heap.size rT rv' := by
  obtain ⟨cs, hX, hc0⟩ := h.box
  have hbl := h.sT.bl
  obtain ⟨cs1, b1, hc1⟩ := hbl.box
  have e1 := hX.box
  rw [b1] at e1
  simp only [Option.some.injEq, Obj.cells.injEq, and_true] at e1
  subst e1
  have hlen := h.lT
  refine (keepVersion_any bk cs1 rT hT T ao L cap w b1 hX.size hc0 hc1 hbl.row (by omega) (by omega)).mono ?_
  rintro e w' ⟨rfl, rv', hb', hrow', hF', hM'⟩
  obtain ⟨hX', k0, k1, koth⟩ := hX.told _ 6 rv' (by omega) hb'
  have hbn := h.bn
  refine ⟨rfl, rv', ⟨⟨_, hX', by rw [k0]; simp⟩, ?_, ?_, ?_, ?_, h.bn, ?_, ?_, ?_, ?_, ?_, ?_, ?_, ?_⟩, hF', hM'⟩
  · obtain ⟨cs2, b2, hc2⟩ := h.sB.bl.box
    rw [b1] at b2
    simp only [Option.some.injEq, Obj.cells.injEq, and_true] at b2
    subst b2
    exact h.sB.beside hb' (by rw [koth _ (by decide) (by decide)]; exact hc2) hF' (off_row off_BT hbl)
  · obtain ⟨cs2, b2, hc2⟩ := h.sI.bl.box
    rw [b1] at b2
    simp only [Option.some.injEq, Obj.cells.injEq, and_true] at b2
    subst b2
    exact h.sI.beside hb' (by rw [koth _ (by decide) (by decide)]; exact hc2) hF' (off_row off_IT hbl)
  · obtain ⟨cs2, b2, hc2⟩ := h.sW.bl.box
    rw [b1] at b2
    simp only [Option.some.injEq, Obj.cells.injEq, and_true] at b2
    subst b2
    exact h.sW.beside hb' (by rw [koth _ (by decide) (by decide)]; exact hc2) hF' (off_row off_WT hbl)
  · exact h.sT.told (.slice ao L cap) (T + 1) hb' k1 hrow' hF' hp (by omega) (by omega)
  · exact h.rBn
  · exact h.rIn
  · exact h.rWn
  · exact hM'.lt (by have := hX.box; have := lt_of_block this; omega) h.rTn
  · have := h.lB; omega
  · have := h.lI; omega
  · have := h.lW; omega
  · rw [snoc_length]; omega
theorem S0.keepN {K : Kd} {S : List Nat} {w w' : World} {bk : Nat} {rv : Value} {hs : List HB} (h : S0 K w bk rv hs) (hf : Fr S w w') (hb : bk ∉ S) (hr : ∀ k, rv.ownBlock = some k → k ∉ S) : S0 K w' bk rv hs := by
  obtain ⟨cs, h1, h2⟩ := h.bl.box
  exact ⟨⟨⟨cs, hf.keep h1 hb, h2⟩, owns_keep h.bl.row hf hr, h.bl.few, h.bl.num⟩⟩
section
variable {S : List Nat} {w0 w w' : World} {bk T : Nat} {rB rI rW rT : Value} {hB hI hW hT : List HB}
theorem B4.keepN (h : B4 w0 w bk T rB rI rW rT hB hI hW hT) (hf : Fr S w w') (hS : ∀ j ∈ kbs bk rB rI rW rT [] [] [] [], j ∉ S) : B4 w0 w' bk T rB rI rW rT hB hI hW hT := by
  obtain ⟨cs, hX, hc⟩ := h.box
  have hb : bk ∉ S := hS bk (mem_kbs.2 (Or.inl rfl))
  exact ⟨⟨cs, hX.keep hf hb, hc⟩, h.sB.keepN hf hb (fun k hk => hS k (mem_kbs.2 (Or.inr (Or.inl (Or.inl hk))))),
    h.sI.keepN hf hb (fun k hk => hS k (mem_kbs.2 (Or.inr (Or.inr (Or.inl (Or.inl hk)))))),
    h.sW.keepN hf hb (fun k hk => hS k (mem_kbs.2 (Or.inr (Or.inr (Or.inr (Or.inl (Or.inl hk))))))),
    h.sT.keepN hf hb (fun k hk => hS k (mem_kbs.2 (Or.inr (Or.inr (Or.inr (Or.inr (Or.inl hk))))))), h.bn, h.rBn, h.rIn, h.rWn, h.rTn, h.lB, h.lI, h.lW, h.lT⟩
theorem B4.keep (h : B4 w0 w bk T rB rI rW rT hB hI hW hT) (hf : Fr [] w w') : B4 w0 w' bk T rB rI rW rT hB hI hW hT := h.keepN hf (by simp)
theorem B4.lt (h : B4 w0 w bk T rB rI rW rT hB hI hW hT) : ∀ k ∈ kbs bk rB rI rW rT [] [] [] [], k < w.heap.size := by
  intro k hk
  obtain ⟨cs, hX, hc⟩ := h.box
  rcases mem_kbs.1 hk with rfl | (e | e) | (e | e) | (e | e) | (e | e)
  · exact lt_of_block hX.box
  · exact (h.sB.bl.row.lt k e).2
  · simp [lbs] at e
  · exact (h.sI.bl.row.lt k e).2
  · simp [lbs] at e
  · exact (h.sW.bl.row.lt k e).2
  · simp [lbs] at e
  · exact (h.sT.bl.row.lt k e).2
  · simp [lbs] at e
set_option maxHeartbeats 1000000 in
theorem ints_any (h : B4 w0 w bk T rB rI rW rT hB hI hW hT) (ao : Option Addr) (L cap : Nat) (hp : P0 kInt w ⟨.slice ao L cap, .slice none 0 0, T + 1⟩) (hT2 : T < 67108862) :
    Calls Tryz.prog 86 #[.pointer (some ⟨bk, 0, none⟩), .slice ao L cap] w fun e w' => e = .returned (.tuple #[]) ∧ ∃ rv', B4 w0 w' bk (T + 1) rB rv' rW rT hB (hI ++ [⟨.slice ao L cap, .slice none 0 0, T + 1⟩]) hW hT ∧ Fr (bk :: rI.ownBlock.toList) w w' ∧ Moved w.heap.size rI rv' := by
  have HC : Hid _ := tellInt_any h ao L cap hp hT2
  clear h hp
  go_enter Tryz.func86, Tryz.ntmps86
  go_wp2_with fail
  refine Calls.mono HC.out ?_
  rintro e w' ⟨rfl, R⟩
  have HR : Hid _ := R
  clear R HC
  go_wp2_with fail
  go_end0
  exact ⟨rfl, HR.out⟩
set_option maxHeartbeats 1000000 in
theorem versions_any (h : B4 w0 w bk T rB rI rW rT hB hI hW hT) (ao : Option Addr) (L cap : Nat) (hp : P0 kVersion w ⟨.slice ao L cap, .slice none 0 0, T + 1⟩) (hT2 : T < 67108862) :
    Calls Tryz.prog 140 #[.pointer (some ⟨bk, 0, none⟩), .slice ao L cap] w fun e w' => e = .returned (.tuple #[]) ∧ ∃ rv', B4 w0 w' bk (T + 1) rB rI rW rv' hB hI hW (hT ++ [⟨.slice ao L cap, .slice none 0 0, T + 1⟩]) ∧ Fr (bk :: rT.ownBlock.toList) w w' ∧ Moved w.heap.size rT rv' := by
  have HC : Hid _ := tellVersion_any h ao L cap hp hT2
  clear h hp
  go_enter Tryz.func140, Tryz.ntmps140
  go_wp2_with fail
  refine Calls.mono HC.out ?_
  rintro e w' ⟨rfl, R⟩
  have HR : Hid _ := R
  clear R HC
  go_wp2_with fail
  go_end0
  exact ⟨rfl, HR.out⟩
end
set_option maxHeartbeats 4000000 in
set_option maxRecDepth 100000 in
theorem helds_any {w0 w : World} {bk T : Nat} {rB rI rW rT : Value} {hB hI hW hT : List HB} (h : B4 w0 w bk T rB rI rW rT hB hI hW hT) (ao : Option Addr) (L cap : Nat) (ds : List Dt) (hd : Dts w ao L cap ds) (hTL : T + L < 67108000) :
    Calls Tryz.prog 87 #[.pointer (some ⟨bk, 0, none⟩), .slice ao L cap] w fun e w' => e = .returned (.tuple #[]) ∧ ∃ rT' rW', B4 w0 w' bk (T + L + 1) rB rI rW' rT' hB hI (hW ++ [⟨.slice ao L cap, .slice none 0 0, T + L + 1⟩]) (hT ++ held T ds) ∧ Fr (bk :: (rT.ownBlock.toList ++ rW.ownBlock.toList)) w w' ∧ Moved w.heap.size rT rT' ∧ Moved w.heap.size rW rW' := by
  have HD : Hid (Dts w ao L cap ds) := hd
  have hL := hd.few
  have HL : Hid (L = ds.length) := hd.len
  have HB0 : Hid (B4 w0 w bk T rB rI rW rT hB hI hW hT) := h
  have hrow := hd.row
  clear h hd
  go_enter Tryz.func87, Tryz.ntmps87
  go_wp2_with fail
  go_loopw [4] (fun ii wr => ∃ (i : Nat) (v : Value), ii = .int .i64 i ∧ i ≤ L ∧ Hid (B4 w0 wr bk (T + i) rB rI rW v hB hI hW (hT ++ held T (ds.take i))) ∧ Hid (Fr (bk :: rT.ownBlock.toList) w wr ∧ Moved w.heap.size rT v) ∧ Hid (Dts wr ao L cap ds)) (fun ii _ => L - (RowKit.intOf ii).toNat)
  case atStart => exact ⟨0, rT, rfl, Nat.zero_le _, by simpa [held] using HB0, ⟨Fr.refl _ _, Moved.refl _ _⟩, HD⟩
  case round =>
    obtain ⟨i, v, rfl, hiL, HB, HF, HDr⟩ := hrel
    by_cases hi : i < L
    · obtain ⟨d, hdi⟩ : ∃ d, ds[i]? = some d := ⟨_, List.getElem?_eq_getElem (by rw [← HL.out]; exact hi)⟩
      have HDI : Hid (ds[i]? = some d) := hdi
      obtain ⟨n, vs, q1, q2⟩ := HDr.out.each i d hdi
      obtain ⟨so, sc, sf, hsv, hnc, hcf, q3⟩ := id q1
      obtain ⟨g, gc, hg, hgc⟩ := own_form HDr.out.row (by omega)
      cases hg
      obtain ⟨e1, e2⟩ := dtC_get ds i d hdi
      have c1 : wr.cell? ⟨g, i * 2 + 1, none⟩ = some d.2 := by rw [HDr.out.row.cellAt (i * 2 + 1) (by omega), e2]
      obtain ⟨dn, dv⟩ := d
      simp only at c1 hsv q1
      subst hsv
      have HC : Hid _ := versions_any HB.out so n sc ⟨n, vs, q1, q2⟩ (by omega)
      have HTK := take_snocD ds i _ hdi
      have HHS : Hid (hT ++ held T (ds.take (i + 1)) = (hT ++ held T (ds.take i)) ++ [⟨.slice so n sc, .slice none 0 0, T + i + 1⟩]) := by
        show _ = _
        rw [HTK, held_snoc, List.length_take, show min i ds.length = i by have := HL.out; omega, List.append_assoc]
      have HNB : Hid (∀ k cs t, wr.heap[k]? = some (.cells cs t (0, 0)) → t ≠ 52 → t ≠ 134 → k ∉ bk :: v.ownBlock.toList) := by
        intro k cs t hk h1 h2 hm
        rcases List.mem_cons.1 hm with rfl | hm
        · obtain ⟨cs', hX, _⟩ := HB.out.box
          rw [hX.box] at hk
          simp only [Option.some.injEq, Obj.cells.injEq] at hk
          exact h1 hk.2.1.symm
        · obtain ⟨cs', hc⟩ := own_type HB.out.sT.bl.row k (by simpa using hm)
          rw [hc] at hk
          simp only [Option.some.injEq, Obj.cells.injEq] at hk
          exact h2 hk.2.1.symm
      clear hdi e1 e2 HTK q1 q3 hnc hcf
      go_wp2_with fail
      refine Calls.mono HC.out ?_
      rintro e w2 ⟨rfl, v2, R1, R2, R3⟩
      have HB2 : Hid (B4 w0 w2 bk (T + (i + 1)) rB rI rW v2 hB hI hW (hT ++ held T (ds.take (i + 1)))) := by rw [HHS.out]; exact R1
      have HF2 : Hid (Fr (bk :: rT.ownBlock.toList) w w2 ∧ Moved w.heap.size rT v2) := by
        obtain ⟨f1, f2⟩ := HF.out
        refine ⟨f1.trans R2 (fun x hx _ => hx) ?_, f2.trans R3 f1.size⟩
        intro x hx hl
        rcases List.mem_cons.1 hx with rfl | hx
        · simp
        · rcases f2 with f2 | ⟨y, y1, y2⟩
          · rw [f2] at hx; exact List.mem_cons_of_mem _ hx
          · rw [y1] at hx; simp at hx; omega
      have HD2 : Hid (Dts w2 (some ⟨g, 0, none⟩) L cap ds) := HDr.out.keep R2 (fun k hk => by obtain ⟨cs, hc⟩ := own_type HDr.out.row k hk; exact HNB.out k cs _ hc (by decide) (by decide)) (fun j b hb k hk => by obtain ⟨m, us, u1, _⟩ := HDr.out.each j b hb; obtain ⟨cs, hc⟩ := u1.type k hk; exact HNB.out k cs _ hc (by decide) (by decide))
      clear R1 R2 R3 HC HB HF HDr HNB HHS
      go_wp2_with fail
      go_roundw
      case rel => exact ⟨i + 1, v2, by simp, by omega, HB2, HF2, HD2⟩
      case measure => simp [RowKit.intOf]; omega
    · have hiL' : i = L := by omega
      subst hiL'
      have HB1 : Hid (B4 w0 wr bk (T + i) rB rI rW v hB hI hW (hT ++ held T ds)) := by
        have := HB.out
        rw [List.take_of_length_le (by have := HL.out; omega)] at this
        exact this
      have HC : Hid _ := tellHeld_any HB1.out ao i cap ⟨i, dtC ds, Cut.of HDr.out.row, by omega⟩ (by omega)
      clear HB HDr hrow
      go_wp2_with fail
      refine Calls.mono HC.out ?_
      rintro e w2 ⟨rfl, v2, R1, R2, R3⟩
      have HE : Hid (_ ∧ _ ∧ _ ∧ _) := ⟨R1, (by
        obtain ⟨f1, f2⟩ := HF.out
        refine f1.trans R2 ?_ ?_
        · intro x hx _
          rcases List.mem_cons.1 hx with rfl | hx
          · simp
          · exact List.mem_cons_of_mem _ (List.mem_append_left _ hx)
        · intro x hx _
          rcases List.mem_cons.1 hx with rfl | hx
          · simp
          · exact List.mem_cons_of_mem _ (List.mem_append_right _ hx) : Fr (bk :: (rT.ownBlock.toList ++ rW.ownBlock.toList)) w w2), HF.out.2, (Moved.refl w.heap.size rW).trans R3 HF.out.1.size⟩
      clear R1 R2 R3 HC HF
      go_wp2_with fail
      go_end0
      exact ⟨rfl, v, v2, HE.out⟩
theorem saved_tell {w0 w : World} {bk T : Nat} {rB rI rW rT : Value} {hB hI hW hT : List HB} (h : B4 w0 w bk T rB rI rW rT hB hI hW hT) (m : Int) (io ho : Option Addr) (Lb cb Lh ch : Nat) (ds : List Dt) (hp : P0 kInt w ⟨.slice io Lb cb, .slice none 0 0, T + 1⟩) (hd : Dts w ho Lh ch ds) (hTL : T + 1 + Lh < 67108000) :
    Calls Tryz.prog 18 #[.pointer (some ⟨bk, 0, none⟩), .agg #[.int .i64 m, .slice io Lb cb, .slice ho Lh ch]] w fun e w' => e = .returned (.tuple #[]) ∧ ∃ rI' rT' rW', B4 w0 w' bk (T + 1 + Lh + 1) rB rI' rW' rT' hB (hI ++ [⟨.slice io Lb cb, .slice none 0 0, T + 1⟩]) (hW ++ [⟨.slice ho Lh ch, .slice none 0 0, T + 1 + Lh + 1⟩]) (hT ++ held (T + 1) ds) ∧ Fr (bk :: (rI.ownBlock.toList ++ (rT.ownBlock.toList ++ rW.ownBlock.toList))) w w' ∧ Moved w.heap.size rI rI' ∧ Moved w.heap.size rT rT' ∧ Moved w.heap.size rW rW' := by
  obtain ⟨wa, HWa⟩ : ∃ wa, Hid (w.alloc (.cells #[.int .i64 m, .slice io Lb cb, .slice ho Lh ch] 57) = wa) := ⟨_, rfl⟩
  have hFa : Fr [] w wa := by rw [← HWa.out]; exact Fr.alloc [] w _
  have hba : wa.heap[w.heap.size]? = some (.cells #[.int .i64 m, .slice io Lb cb, .slice ho Lh ch] 57 (0, 0)) := by rw [← HWa.out]; exact heap_alloc_new w _
  have hlt := h.lt
  have ha := h.keep hFa
  have hda := hd.keep hFa (by simp) (by simp)
  obtain ⟨k0, k1, k2⟩ := sv_cells hba
  have HI : Hid (Calls _ _ _ _ _) := ints_any ha io Lb cb (hp.keep hFa (by simp)) (by omega)
  have HNx : Hid (∀ rv' w1, B4 w0 w1 bk (T + 1) rB rv' rW rT hB (hI ++ [⟨.slice io Lb cb, .slice none 0 0, T + 1⟩]) hW hT → Fr (bk :: rI.ownBlock.toList) wa w1 → Moved wa.heap.size rI rv' →
      w1.cell? ⟨w.heap.size, 2, none⟩ = some (.slice ho Lh ch) ∧ Calls Tryz.prog 87 #[.pointer (some ⟨bk, 0, none⟩), .slice ho Lh ch] w1 fun e w' => e = .returned (.tuple #[]) ∧ ∃ rI' rT' rW', B4 w0 w' bk (T + 1 + Lh + 1) rB rI' rW' rT' hB (hI ++ [⟨.slice io Lb cb, .slice none 0 0, T + 1⟩]) (hW ++ [⟨.slice ho Lh ch, .slice none 0 0, T + 1 + Lh + 1⟩]) (hT ++ held (T + 1) ds) ∧ Fr (bk :: (rI.ownBlock.toList ++ (rT.ownBlock.toList ++ rW.ownBlock.toList))) w w' ∧ Moved w.heap.size rI rI' ∧ Moved w.heap.size rT rT' ∧ Moved w.heap.size rW rW') := fun rv' w1 h1 hF1 hM1 => by
    obtain ⟨cs, hX, _⟩ := ha.box
    have hnb : ∀ k cs' t, wa.heap[k]? = some (.cells cs' t (0, 0)) → t ≠ 52 → k ≠ bk := fun k cs' t hk hne e => by
      subst e
      rw [hX.box] at hk
      cases hk
      exact hne rfl
    have hnE : ∀ k cs', wa.heap[k]? = some (.cells cs' 147 (0, 0)) → k ∉ bk :: rI.ownBlock.toList := fun k cs' hk hm => by
      rcases List.mem_cons.1 hm with e | e
      · exact hnb k cs' _ hk (by decide) e
      · exact (off_row off_WI ha.sI.bl).notE hk e
    have hnV : ∀ k cs', wa.heap[k]? = some (.cells cs' 136 (0, 0)) → k ∉ bk :: rI.ownBlock.toList := fun k cs' hk hm => by
      rcases List.mem_cons.1 hm with e | e
      · exact hnb k cs' _ hk (by decide) e
      · exact (off_row off_TI ha.sI.bl).notE hk e
    have hd1 := hda.keep hF1 (fun k hk => by obtain ⟨c, hc⟩ := own_type hda.row k hk; exact hnE k c hc) (fun i d hdi k hk => by
      obtain ⟨n, vs, q1, q2⟩ := hda.each i d hdi
      obtain ⟨c, hc⟩ := q1.type k hk
      exact hnV k c hc)
    refine ⟨?_, (helds_any h1 ho Lh ch ds hd1 (by omega)).mono ?_⟩
    · have hbk : w.heap.size ∉ bk :: rI.ownBlock.toList := fun hm => by
        rcases List.mem_cons.1 hm with e | e
        · have := hlt bk (mem_kbs.2 (Or.inl rfl)); omega
        · have := hlt w.heap.size (mem_kbs.2 (Or.inr (Or.inr (Or.inl (Or.inl (by simpa using e)))))); omega
      exact (sv_cells (hF1.keep hba hbk)).2.2
    · rintro e w2 ⟨rfl, rT', rW', h2, hF2, hM2, hM3⟩
      have hs1 := hFa.size
      have hs2 := hF1.size
      refine ⟨rfl, rv', rT', rW', h2, ((hFa.mono (T := bk :: rI.ownBlock.toList) (by simp)).then hF1).trans hF2 (fun x hx _ => ?_) (fun x hx _ => ?_), moved_weak hM1 hs1, moved_weak hM2 (by omega), moved_weak hM3 (by omega)⟩
      · rcases List.mem_cons.1 hx with rfl | hx
        · exact List.mem_cons_self
        · exact List.mem_cons_of_mem _ (List.mem_append_left _ hx)
      · rcases List.mem_cons.1 hx with rfl | hx
        · exact List.mem_cons_self
        · exact List.mem_cons_of_mem _ (List.mem_append_right _ hx)
  clear h hp hd ha hda hlt hba hFa
  go_enter Tryz.func18, Tryz.ntmps18
  go_upto_region 1 with fail
  rw [HWa.out]
  go_wp2_with fail
  refine Calls.mono HI.out ?_
  rintro e w1 ⟨rfl, rv', h1, hF1, hM1⟩
  obtain ⟨k3, hC⟩ := HNx.out rv' w1 h1 hF1 hM1
  have HC : Hid (Calls _ _ _ _ _) := hC
  clear hC h1 hF1 hM1 HNx HI k0 k1 k2
  go_wp2_with fail
  refine Calls.mono HC.out ?_
  rintro e w2 ⟨rfl, R⟩
  have HR : Hid _ := R
  clear R HC
  go_wp2_with fail
  go_end0
  exact ⟨rfl, HR.out⟩
end Go.Proofs.YtembflnhhfliaaaGreatDoor.Bq.Wk

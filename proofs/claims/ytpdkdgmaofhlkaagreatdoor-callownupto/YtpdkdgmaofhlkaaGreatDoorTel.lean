/- A Book of lists of bytes, numbers, keys with versions and versions is told one list more: contracts. Conditions: the list lies in a block of its own that no held list of its kind has; fewer than 2^26 lists. -/
import Derived.Test.YtpdkdgmaofhlkaaGreatDoorBq6
import Derived.Test.YtpdkdgmaofhlkaaGreatDoorKpEntry
import Derived.Test.YtpdkdgmaofhlkaaGreatDoorKpInt
import Derived.Test.YtpdkdgmaofhlkaaGreatDoorKpHeld
import Derived.Test.YtpdkdgmaofhlkaaGreatDoorKpVersion
namespace Go.Proofs.YtpdkdgmaofhlkaaGreatDoor.Bq
open Go.ChangeShapes Go.WideShapes Go.ChangeAt Go.RowKit Go.Lib
set_option linter.unusedVariables false
theorem tellEntry_any {w0 w : World} {bk T : Nat} {rB rI rW rT : Value} {hB hI hW hT : List HB} (h : B4 w0 w bk T rB rI rW rT hB hI hW hT) (ao : Option Addr) (L cap : Nat) (hp : P0 kEntry w ⟨.slice ao L cap, .slice none 0 0, T + 1⟩) (hal : ∀ k, (Value.slice ao L cap).ownBlock = some k → k ∉ lbs hB) (hT2 : T < 67108862) :
    Calls Tryz.prog 77 #[.pointer (some ⟨bk, 0, none⟩), .slice ao L cap] w fun e w' => e = .returned (.tuple #[]) ∧ ∃ rv', B4 w0 w' bk (T + 1) rv' rI rW rT (hB ++ [⟨.slice ao L cap, .slice none 0 0, T + 1⟩]) hI hW hT ∧ Fr (bk :: rB.ownBlock.toList) w w' ∧ Moved w.heap.size rB rv' := by
  obtain ⟨cs, hX, hc0⟩ := h.box
  have hbl := h.sB.bl
  obtain ⟨cs1, b1, hc1⟩ := hbl.box
  have e1 := hX.box
  rw [b1] at e1
  simp only [Option.some.injEq, Obj.cells.injEq, and_true] at e1
  subst e1
  have hlen := h.lB
  refine (keepEntry_any bk cs1 rB hB T ao L cap w b1 hX.size hc0 hc1 hbl.row (by omega) (by omega)).mono ?_
  rintro e w' ⟨rfl, rv', hb', hrow', hF', hM'⟩
  obtain ⟨hX', k0, k1, koth⟩ := hX.told _ 5 rv' (by omega) hb'
  have hbn := h.bn
  refine ⟨rfl, rv', ⟨⟨_, hX', by rw [k0]; simp⟩, ?_, ?_, ?_, ?_, h.bn, ?_, ?_, ?_, ?_, ?_, ?_, ?_, ?_⟩, hF', hM'⟩
  · exact h.sB.told (.slice ao L cap) (T + 1) hb' k1 hrow' hF' hp (by omega) (by omega) hal
  · obtain ⟨cs2, b2, hc2⟩ := h.sI.bl.box
    rw [b1] at b2
    simp only [Option.some.injEq, Obj.cells.injEq, and_true] at b2
    subst b2
    exact h.sI.beside hb' (by rw [koth _ (by decide) (by decide)]; exact hc2) hF' (off_row off_IB hbl)
  · obtain ⟨cs2, b2, hc2⟩ := h.sW.bl.box
    rw [b1] at b2
    simp only [Option.some.injEq, Obj.cells.injEq, and_true] at b2
    subst b2
    exact h.sW.beside hb' (by rw [koth _ (by decide) (by decide)]; exact hc2) hF' (off_row off_WB hbl)
  · obtain ⟨cs2, b2, hc2⟩ := h.sT.bl.box
    rw [b1] at b2
    simp only [Option.some.injEq, Obj.cells.injEq, and_true] at b2
    subst b2
    exact h.sT.beside hb' (by rw [koth _ (by decide) (by decide)]; exact hc2) hF' (off_row off_TB hbl)
  · exact hM'.lt (by have := hX.box; have := lt_of_block this; omega) h.rBn
  · exact h.rIn
  · exact h.rWn
  · exact h.rTn
  · rw [snoc_length]; omega
  · have := h.lI; omega
  · have := h.lW; omega
  · have := h.lT; omega
theorem tellInt_any {w0 w : World} {bk T : Nat} {rB rI rW rT : Value} {hB hI hW hT : List HB} (h : B4 w0 w bk T rB rI rW rT hB hI hW hT) (ao : Option Addr) (L cap : Nat) (hp : P0 kInt w ⟨.slice ao L cap, .slice none 0 0, T + 1⟩) (hal : ∀ k, (Value.slice ao L cap).ownBlock = some k → k ∉ lbs hI) (hT2 : T < 67108862) :
    Calls Tryz.prog 76 #[.pointer (some ⟨bk, 0, none⟩), .slice ao L cap] w fun e w' => e = .returned (.tuple #[]) ∧ ∃ rv', B4 w0 w' bk (T + 1) rB rv' rW rT hB (hI ++ [⟨.slice ao L cap, .slice none 0 0, T + 1⟩]) hW hT ∧ Fr (bk :: rI.ownBlock.toList) w w' ∧ Moved w.heap.size rI rv' := by
  obtain ⟨cs, hX, hc0⟩ := h.box
  have hbl := h.sI.bl
  obtain ⟨cs1, b1, hc1⟩ := hbl.box
  have e1 := hX.box
  rw [b1] at e1
  simp only [Option.some.injEq, Obj.cells.injEq, and_true] at e1
  subst e1
  have hlen := h.lI
  refine (keepInt_any bk cs1 rI hI T ao L cap w b1 hX.size hc0 hc1 hbl.row (by omega) (by omega)).mono ?_
  rintro e w' ⟨rfl, rv', hb', hrow', hF', hM'⟩
  obtain ⟨hX', k0, k1, koth⟩ := hX.told _ 2 rv' (by omega) hb'
  have hbn := h.bn
  refine ⟨rfl, rv', ⟨⟨_, hX', by rw [k0]; simp⟩, ?_, ?_, ?_, ?_, h.bn, ?_, ?_, ?_, ?_, ?_, ?_, ?_, ?_⟩, hF', hM'⟩
  · obtain ⟨cs2, b2, hc2⟩ := h.sB.bl.box
    rw [b1] at b2
    simp only [Option.some.injEq, Obj.cells.injEq, and_true] at b2
    subst b2
    exact h.sB.beside hb' (by rw [koth _ (by decide) (by decide)]; exact hc2) hF' (off_row off_BI hbl)
  · exact h.sI.told (.slice ao L cap) (T + 1) hb' k1 hrow' hF' hp (by omega) (by omega) hal
  · obtain ⟨cs2, b2, hc2⟩ := h.sW.bl.box
    rw [b1] at b2
    simp only [Option.some.injEq, Obj.cells.injEq, and_true] at b2
    subst b2
    exact h.sW.beside hb' (by rw [koth _ (by decide) (by decide)]; exact hc2) hF' (off_row off_WI hbl)
  · obtain ⟨cs2, b2, hc2⟩ := h.sT.bl.box
    rw [b1] at b2
    simp only [Option.some.injEq, Obj.cells.injEq, and_true] at b2
    subst b2
    exact h.sT.beside hb' (by rw [koth _ (by decide) (by decide)]; exact hc2) hF' (off_row off_TI hbl)
  · exact h.rBn
  · exact hM'.lt (by have := hX.box; have := lt_of_block this; omega) h.rIn
  · exact h.rWn
  · exact h.rTn
  · have := h.lB; omega
  · rw [snoc_length]; omega
  · have := h.lW; omega
  · have := h.lT; omega
theorem tellHeld_any {w0 w : World} {bk T : Nat} {rB rI rW rT : Value} {hB hI hW hT : List HB} (h : B4 w0 w bk T rB rI rW rT hB hI hW hT) (ao : Option Addr) (L cap : Nat) (hp : P0 kHeld w ⟨.slice ao L cap, .slice none 0 0, T + 1⟩) (hal : ∀ k, (Value.slice ao L cap).ownBlock = some k → k ∉ lbs hW) (hT2 : T < 67108862) :
    Calls Tryz.prog 32 #[.pointer (some ⟨bk, 0, none⟩), .slice ao L cap] w fun e w' => e = .returned (.tuple #[]) ∧ ∃ rv', B4 w0 w' bk (T + 1) rB rI rv' rT hB hI (hW ++ [⟨.slice ao L cap, .slice none 0 0, T + 1⟩]) hT ∧ Fr (bk :: rW.ownBlock.toList) w w' ∧ Moved w.heap.size rW rv' := by
  obtain ⟨cs, hX, hc0⟩ := h.box
  have hbl := h.sW.bl
  obtain ⟨cs1, b1, hc1⟩ := hbl.box
  have e1 := hX.box
  rw [b1] at e1
  simp only [Option.some.injEq, Obj.cells.injEq, and_true] at e1
  subst e1
  have hlen := h.lW
  refine (keepHeld_any bk cs1 rW hW T ao L cap w b1 hX.size hc0 hc1 hbl.row (by omega) (by omega)).mono ?_
  rintro e w' ⟨rfl, rv', hb', hrow', hF', hM'⟩
  obtain ⟨hX', k0, k1, koth⟩ := hX.told _ 8 rv' (by omega) hb'
  have hbn := h.bn
  refine ⟨rfl, rv', ⟨⟨_, hX', by rw [k0]; simp⟩, ?_, ?_, ?_, ?_, h.bn, ?_, ?_, ?_, ?_, ?_, ?_, ?_, ?_⟩, hF', hM'⟩
  · obtain ⟨cs2, b2, hc2⟩ := h.sB.bl.box
    rw [b1] at b2
    simp only [Option.some.injEq, Obj.cells.injEq, and_true] at b2
    subst b2
    exact h.sB.beside hb' (by rw [koth _ (by decide) (by decide)]; exact hc2) hF' (off_row off_BW hbl)
  · obtain ⟨cs2, b2, hc2⟩ := h.sI.bl.box
    rw [b1] at b2
    simp only [Option.some.injEq, Obj.cells.injEq, and_true] at b2
    subst b2
    exact h.sI.beside hb' (by rw [koth _ (by decide) (by decide)]; exact hc2) hF' (off_row off_IW hbl)
  · exact h.sW.told (.slice ao L cap) (T + 1) hb' k1 hrow' hF' hp (by omega) (by omega) hal
  · obtain ⟨cs2, b2, hc2⟩ := h.sT.bl.box
    rw [b1] at b2
    simp only [Option.some.injEq, Obj.cells.injEq, and_true] at b2
    subst b2
    exact h.sT.beside hb' (by rw [koth _ (by decide) (by decide)]; exact hc2) hF' (off_row off_TW hbl)
  · exact h.rBn
  · exact h.rIn
  · exact hM'.lt (by have := hX.box; have := lt_of_block this; omega) h.rWn
  · exact h.rTn
  · have := h.lB; omega
  · have := h.lI; omega
  · rw [snoc_length]; omega
  · have := h.lT; omega
theorem tellVersion_any {w0 w : World} {bk T : Nat} {rB rI rW rT : Value} {hB hI hW hT : List HB} (h : B4 w0 w bk T rB rI rW rT hB hI hW hT) (ao : Option Addr) (L cap : Nat) (hp : P0 kVersion w ⟨.slice ao L cap, .slice none 0 0, T + 1⟩) (hal : ∀ k, (Value.slice ao L cap).ownBlock = some k → k ∉ lbs hT) (hT2 : T < 67108862) :
    Calls Tryz.prog 78 #[.pointer (some ⟨bk, 0, none⟩), .slice ao L cap] w fun e w' => e = .returned (.tuple #[]) ∧ ∃ rv', B4 w0 w' bk (T + 1) rB rI rW rv' hB hI hW (hT ++ [⟨.slice ao L cap, .slice none 0 0, T + 1⟩]) ∧ Fr (bk :: rT.ownBlock.toList) w w' ∧ Moved w.heap.size rT rv' := by
  obtain ⟨cs, hX, hc0⟩ := h.box
  have hbl := h.sT.bl
  obtain ⟨cs1, b1, hc1⟩ := hbl.box
  have e1 := hX.box
  rw [b1] at e1
  simp only [Option.some.injEq, Obj.cells.injEq, and_true] at e1
  subst e1
  have hlen := h.lT
  refine (keepVersion_any bk cs1 rT hT T ao L cap w b1 hX.size hc0 hc1 hbl.row (by omega) (by omega)).mono ?_
  rintro e w' ⟨rfl, rv', hb', hrow', hF', hM'⟩
  obtain ⟨hX', k0, k1, koth⟩ := hX.told _ 6 rv' (by omega) hb'
  have hbn := h.bn
  refine ⟨rfl, rv', ⟨⟨_, hX', by rw [k0]; simp⟩, ?_, ?_, ?_, ?_, h.bn, ?_, ?_, ?_, ?_, ?_, ?_, ?_, ?_⟩, hF', hM'⟩
  · obtain ⟨cs2, b2, hc2⟩ := h.sB.bl.box
    rw [b1] at b2
    simp only [Option.some.injEq, Obj.cells.injEq, and_true] at b2
    subst b2
    exact h.sB.beside hb' (by rw [koth _ (by decide) (by decide)]; exact hc2) hF' (off_row off_BT hbl)
  · obtain ⟨cs2, b2, hc2⟩ := h.sI.bl.box
    rw [b1] at b2
    simp only [Option.some.injEq, Obj.cells.injEq, and_true] at b2
    subst b2
    exact h.sI.beside hb' (by rw [koth _ (by decide) (by decide)]; exact hc2) hF' (off_row off_IT hbl)
  · obtain ⟨cs2, b2, hc2⟩ := h.sW.bl.box
    rw [b1] at b2
    simp only [Option.some.injEq, Obj.cells.injEq, and_true] at b2
    subst b2
    exact h.sW.beside hb' (by rw [koth _ (by decide) (by decide)]; exact hc2) hF' (off_row off_WT hbl)
  · exact h.sT.told (.slice ao L cap) (T + 1) hb' k1 hrow' hF' hp (by omega) (by omega) hal
  · exact h.rBn
  · exact h.rIn
  · exact h.rWn
  · exact hM'.lt (by have := hX.box; have := lt_of_block this; omega) h.rTn
  · have := h.lB; omega
  · have := h.lI; omega
  · have := h.lW; omega
  · rw [snoc_length]; omega
end Go.Proofs.YtpdkdgmaofhlkaaGreatDoor.Bq

/- A Book of lists of versions, of entries and of keys with versions is told one list more: contracts. Conditions: the list lies in a block of its own that no held list of its kind has; fewer than 2^26 lists. -/
import Derived.Test.YtomajifklajilaaGreatDoorBq6
import Derived.Test.YtomajifklajilaaGreatDoorKpVersion
import Derived.Test.YtomajifklajilaaGreatDoorKpEntry
import Derived.Test.YtomajifklajilaaGreatDoorKpHeld
namespace Go.Proofs.YtomajifklajilaaGreatDoor.Bq
open Go.ChangeShapes Go.WideShapes Go.ChangeAt Go.RowKit Go.Lib
set_option linter.unusedVariables false
theorem tellVersion_any {w0 w : World} {bk T : Nat} {rB rE rD : Value} {hB hE hD : List HB} (h : B3 w0 w bk T rB rE rD hB hE hD) (ao : Option Addr) (L cap : Nat) (hp : P0 kVersion w ⟨.slice ao L cap, .slice none 0 0, T + 1⟩) (hal : ∀ k, (Value.slice ao L cap).ownBlock = some k → k ∉ lbs hB) (hT2 : T < 67108862) :
    Calls Tryz.prog 82 #[.pointer (some ⟨bk, 0, none⟩), .slice ao L cap] w fun e w' => e = .returned (.tuple #[]) ∧ ∃ rv', B3 w0 w' bk (T + 1) rv' rE rD (hB ++ [⟨.slice ao L cap, .slice none 0 0, T + 1⟩]) hE hD ∧ Fr (bk :: rB.ownBlock.toList) w w' ∧ Moved w.heap.size rB rv' := by
  obtain ⟨cs, hX, hc0⟩ := h.box
  have hbl := h.sB.bl
  obtain ⟨cs1, b1, hc1⟩ := hbl.box
  have e1 := hX.box
  rw [b1] at e1
  simp only [Option.some.injEq, Obj.cells.injEq, and_true] at e1
  subst e1
  have hlen := h.lB
  refine (keepVersion_any bk cs1 rB hB T ao L cap w b1 hX.size hc0 hc1 hbl.row (by omega) (by omega)).mono ?_
  rintro e w' ⟨rfl, rv', hb', hrow', hF', hM'⟩
  obtain ⟨hX', k0, k1, koth⟩ := hX.told _ 6 rv' (by omega) hb'
  have hbn := h.bn
  refine ⟨rfl, rv', ⟨⟨_, hX', by rw [k0]; simp⟩, ?_, ?_, ?_, h.bn, ?_, ?_, ?_, ?_, ?_, ?_⟩, hF', hM'⟩
  · exact h.sB.told (.slice ao L cap) (T + 1) hb' k1 hrow' hF' hp (by omega) (by omega) hal
  · obtain ⟨cs2, b2, hc2⟩ := h.sE.bl.box
    rw [b1] at b2
    simp only [Option.some.injEq, Obj.cells.injEq, and_true] at b2
    subst b2
    exact h.sE.beside hb' (by rw [koth _ (by decide) (by decide)]; exact hc2) hF' (off_row off_EB hbl)
  · obtain ⟨cs2, b2, hc2⟩ := h.sD.bl.box
    rw [b1] at b2
    simp only [Option.some.injEq, Obj.cells.injEq, and_true] at b2
    subst b2
    exact h.sD.beside hb' (by rw [koth _ (by decide) (by decide)]; exact hc2) hF' (off_row off_DB hbl)
  · exact hM'.lt (by have := hX.box; have := lt_of_block this; omega) h.rBn
  · exact h.rEn
  · exact h.rDn
  · rw [snoc_length]; omega
  · have := h.lE; omega
  · have := h.lD; omega
theorem tellEntry_any {w0 w : World} {bk T : Nat} {rB rE rD : Value} {hB hE hD : List HB} (h : B3 w0 w bk T rB rE rD hB hE hD) (ao : Option Addr) (L cap : Nat) (hp : P0 kEntry w ⟨.slice ao L cap, .slice none 0 0, T + 1⟩) (hal : ∀ k, (Value.slice ao L cap).ownBlock = some k → k ∉ lbs hE) (hT2 : T < 67108862) :
    Calls Tryz.prog 81 #[.pointer (some ⟨bk, 0, none⟩), .slice ao L cap] w fun e w' => e = .returned (.tuple #[]) ∧ ∃ rv', B3 w0 w' bk (T + 1) rB rv' rD hB (hE ++ [⟨.slice ao L cap, .slice none 0 0, T + 1⟩]) hD ∧ Fr (bk :: rE.ownBlock.toList) w w' ∧ Moved w.heap.size rE rv' := by
  obtain ⟨cs, hX, hc0⟩ := h.box
  have hbl := h.sE.bl
  obtain ⟨cs1, b1, hc1⟩ := hbl.box
  have e1 := hX.box
  rw [b1] at e1
  simp only [Option.some.injEq, Obj.cells.injEq, and_true] at e1
  subst e1
  have hlen := h.lE
  refine (keepEntry_any bk cs1 rE hE T ao L cap w b1 hX.size hc0 hc1 hbl.row (by omega) (by omega)).mono ?_
  rintro e w' ⟨rfl, rv', hb', hrow', hF', hM'⟩
  obtain ⟨hX', k0, k1, koth⟩ := hX.told _ 5 rv' (by omega) hb'
  have hbn := h.bn
  refine ⟨rfl, rv', ⟨⟨_, hX', by rw [k0]; simp⟩, ?_, ?_, ?_, h.bn, ?_, ?_, ?_, ?_, ?_, ?_⟩, hF', hM'⟩
  · obtain ⟨cs2, b2, hc2⟩ := h.sB.bl.box
    rw [b1] at b2
    simp only [Option.some.injEq, Obj.cells.injEq, and_true] at b2
    subst b2
    exact h.sB.beside hb' (by rw [koth _ (by decide) (by decide)]; exact hc2) hF' (off_row off_BE hbl)
  · exact h.sE.told (.slice ao L cap) (T + 1) hb' k1 hrow' hF' hp (by omega) (by omega) hal
  · obtain ⟨cs2, b2, hc2⟩ := h.sD.bl.box
    rw [b1] at b2
    simp only [Option.some.injEq, Obj.cells.injEq, and_true] at b2
    subst b2
    exact h.sD.beside hb' (by rw [koth _ (by decide) (by decide)]; exact hc2) hF' (off_row off_DE hbl)
  · exact h.rBn
  · exact hM'.lt (by have := hX.box; have := lt_of_block this; omega) h.rEn
  · exact h.rDn
  · have := h.lB; omega
  · rw [snoc_length]; omega
  · have := h.lD; omega
theorem tellHeld_any {w0 w : World} {bk T : Nat} {rB rE rD : Value} {hB hE hD : List HB} (h : B3 w0 w bk T rB rE rD hB hE hD) (ao : Option Addr) (L cap : Nat) (hp : P0 kHeld w ⟨.slice ao L cap, .slice none 0 0, T + 1⟩) (hal : ∀ k, (Value.slice ao L cap).ownBlock = some k → k ∉ lbs hD) (hT2 : T < 67108862) :
    Calls Tryz.prog 23 #[.pointer (some ⟨bk, 0, none⟩), .slice ao L cap] w fun e w' => e = .returned (.tuple #[]) ∧ ∃ rv', B3 w0 w' bk (T + 1) rB rE rv' hB hE (hD ++ [⟨.slice ao L cap, .slice none 0 0, T + 1⟩]) ∧ Fr (bk :: rD.ownBlock.toList) w w' ∧ Moved w.heap.size rD rv' := by
  obtain ⟨cs, hX, hc0⟩ := h.box
  have hbl := h.sD.bl
  obtain ⟨cs1, b1, hc1⟩ := hbl.box
  have e1 := hX.box
  rw [b1] at e1
  simp only [Option.some.injEq, Obj.cells.injEq, and_true] at e1
  subst e1
  have hlen := h.lD
  refine (keepHeld_any bk cs1 rD hD T ao L cap w b1 hX.size hc0 hc1 hbl.row (by omega) (by omega)).mono ?_
  rintro e w' ⟨rfl, rv', hb', hrow', hF', hM'⟩
  obtain ⟨hX', k0, k1, koth⟩ := hX.told _ 8 rv' (by omega) hb'
  have hbn := h.bn
  refine ⟨rfl, rv', ⟨⟨_, hX', by rw [k0]; simp⟩, ?_, ?_, ?_, h.bn, ?_, ?_, ?_, ?_, ?_, ?_⟩, hF', hM'⟩
  · obtain ⟨cs2, b2, hc2⟩ := h.sB.bl.box
    rw [b1] at b2
    simp only [Option.some.injEq, Obj.cells.injEq, and_true] at b2
    subst b2
    exact h.sB.beside hb' (by rw [koth _ (by decide) (by decide)]; exact hc2) hF' (off_row off_BD hbl)
  · obtain ⟨cs2, b2, hc2⟩ := h.sE.bl.box
    rw [b1] at b2
    simp only [Option.some.injEq, Obj.cells.injEq, and_true] at b2
    subst b2
    exact h.sE.beside hb' (by rw [koth _ (by decide) (by decide)]; exact hc2) hF' (off_row off_ED hbl)
  · exact h.sD.told (.slice ao L cap) (T + 1) hb' k1 hrow' hF' hp (by omega) (by omega) hal
  · exact h.rBn
  · exact h.rEn
  · exact hM'.lt (by have := hX.box; have := lt_of_block this; omega) h.rDn
  · have := h.lB; omega
  · have := h.lE; omega
  · rw [snoc_length]; omega
end Go.Proofs.YtomajifklajilaaGreatDoor.Bq

/- Texts of this claim laid together, one behind the other: contracts and plain lemmas; conditions as each names them. -/
import Derived.Test.YtpdkdgmaofhlkaaGreatDoorGp37
import Derived.Test.YtpdkdgmaofhlkaaGreatDoorGp38
/- A Book of lists of bytes, numbers, keys with versions and versions is told one list more: contracts. Conditions: the list lies in a block of its own that no held list of its kind has; fewer than 2^26 lists. -/
namespace Go.Proofs.YtpdkdgmaofhlkaaGreatDoor.Bq
open Go.ChangeShapes Go.WideShapes Go.ChangeAt Go.RowKit Go.Lib
set_option linter.unusedVariables false
theorem tellEntry_any {w0 w : World} {bk T : Nat} {rB rI rW rT : Value} {hB hI hW hT : List HB} (h : B4 w0 w bk T rB rI rW rT hB hI hW hT) (ao : Option Addr) (L cap : Nat) (hp : P0 kEntry w ⟨.slice ao L cap, .slice none 0 0, T + 1⟩) (hal : ∀ k, (Value.slice ao L cap).ownBlock = some k → k ∉ lbs hB) (hT2 : T < 67108862) :
    Calls Tryz.prog 77 #[.pointer (some ⟨bk, 0, none⟩), .slice ao L cap] w fun e w' => e = .returned (.tuple #[]) ∧ ∃ rv', B4 w0 w' bk (T + 1) rv' rI rW rT (hB ++ [⟨.slice ao L cap, .slice none 0 0, T + 1⟩]) hI hW hT ∧ Fr (bk :: rB.ownBlock.toList) w w' ∧ Moved w.heap.size rB rv' := by
  obtain ⟨cs, hX, hc0⟩ := h.box
  have hbl := h.sB.bl
  obtain ⟨cs1, b1, hc1⟩ := hbl.box
  have e1 := hX.box
  rw [b1] at e1
  simp only [Option.some.injEq, Obj.cells.injEq, and_true] at e1
  subst e1
  have hlen := h.lB
  refine (keepEntry_any bk cs1 rB hB T ao L cap w b1 hX.size hc0 hc1 hbl.row (by omega) (by omega)).mono ?_
  rintro e w' ⟨rfl, rv', hb', hrow', hF', hM'⟩
  obtain ⟨hX', k0, k1, koth⟩ := hX.told _ 5 rv' (by omega) hb'
  have hbn := h.bn
  refine ⟨rfl, rv', ⟨⟨_, hX', by rw [k0]; simp⟩, ?_, ?_, ?_, ?_, h.bn, ?_, ?_, ?_, ?_, ?_, ?_, ?_, ?_⟩, hF', hM'⟩
  · exact h.sB.told (.slice ao L cap) (T + 1) hb' k1 hrow' hF' hp (by omega) (by omega) hal
  · obtain ⟨cs2, b2, hc2⟩ := h.sI.bl.box
    rw [b1] at b2
    simp only [Option.some.injEq, Obj.cells.injEq, and_true] at b2
    subst b2
    exact h.sI.beside hb' (by rw [koth _ (by decide) (by decide)]; exact hc2) hF' (off_row off_IB hbl)
  · obtain ⟨cs2, b2, hc2⟩ := h.sW.bl.box
    rw [b1] at b2
    simp only [Option.some.injEq, Obj.cells.injEq, and_true] at b2
    subst b2
    exact h.sW.beside hb' (by rw [koth _ (by decide) (by decide)]; exact hc2) hF' (off_row off_WB hbl)
  · obtain ⟨cs2, b2, hc2⟩ := h.sT.bl.box
    rw [b1] at b2
    simp only [Option.some.injEq, Obj.cells.injEq, and_true] at b2
    subst b2
    exact h.sT.beside hb' (by rw [koth _ (by decide) (by decide)]; exact hc2) hF' (off_row off_TB hbl)
  · exact hM'.lt (by have := hX.box; have := lt_of_block this; omega) h.rBn
  · exact h.rIn
  · exact h.rWn
  · exact h.rTn
  · rw [snoc_length]; omega
  · have := h.lI; omega
  · have := h.lW; omega
  · have := h.lT; omega
theorem tellInt_any {w0 w : World} {bk T : Nat} {rB rI rW rT : Value} {hB hI hW hT : List HB} (h : B4 w0 w bk T rB rI rW rT hB hI hW hT) (ao : Option Addr) (L cap : Nat) (hp : P0 kInt w ⟨.slice ao L cap, .slice none 0 0, T + 1⟩) (hal : ∀ k, (Value.slice ao L cap).ownBlock = some k → k ∉ lbs hI) (hT2 : T < 67108862) :
    Calls Tryz.prog 76 #[.pointer (some ⟨bk, 0, none⟩), .slice ao L cap] w fun e w' => e = .returned (.tuple #[]) ∧ ∃ rv', B4 w0 w' bk (T + 1) rB rv' rW rT hB (hI ++ [⟨.slice ao L cap, .slice none 0 0, T + 1⟩]) hW hT ∧ Fr (bk :: rI.ownBlock.toList) w w' ∧ Moved w.heap.size rI rv' := by
  obtain ⟨cs, hX, hc0⟩ := h.box
  have hbl := h.sI.bl
  obtain ⟨cs1, b1, hc1⟩ := hbl.box
  have e1 := hX.box
  rw [b1] at e1
  simp only [Option.some.injEq, Obj.cells.injEq, and_true] at e1
  subst e1
  have hlen := h.lI
  refine (keepInt_any bk cs1 rI hI T ao L cap w b1 hX.size hc0 hc1 hbl.row (by omega) (by omega)).mono ?_
  rintro e w' ⟨rfl, rv', hb', hrow', hF', hM'⟩
  obtain ⟨hX', k0, k1, koth⟩ := hX.told _ 2 rv' (by omega) hb'
  have hbn := h.bn
  refine ⟨rfl, rv', ⟨⟨_, hX', by rw [k0]; simp⟩, ?_, ?_, ?_, ?_, h.bn, ?_, ?_, ?_, ?_, ?_, ?_, ?_, ?_⟩, hF', hM'⟩
  · obtain ⟨cs2, b2, hc2⟩ := h.sB.bl.box
    rw [b1] at b2
    simp only [Option.some.injEq, Obj.cells.injEq, and_true] at b2
    subst b2
    exact h.sB.beside hb' (by rw [koth _ (by decide) (by decide)]; exact hc2) hF' (off_row off_BI hbl)
  · exact h.sI.told (.slice ao L cap) (T + 1) hb' k1 hrow' hF' hp (by omega) (by omega) hal
  · obtain ⟨cs2, b2, hc2⟩ := h.sW.bl.box
    rw [b1] at b2
    simp only [Option.some.injEq, Obj.cells.injEq, and_true] at b2
    subst b2
    exact h.sW.beside hb' (by rw [koth _ (by decide) (by decide)]; exact hc2) hF' (off_row off_WI hbl)
  · obtain ⟨cs2, b2, hc2⟩ := h.sT.bl.box
    rw [b1] at b2
    simp only [Option.some.injEq, Obj.cells.injEq, and_true] at b2
    subst b2
    exact h.sT.beside hb' (by rw [koth _ (by decide) (by decide)]; exact hc2) hF' (off_row off_TI hbl)
  · exact h.rBn
  · exact hM'.lt (by have := hX.box; have := lt_of_block this; omega) h.rIn
  · exact h.rWn
  · exact h.rTn
  · have := h.lB; omega
  · rw [snoc_length]; omega
  · have := h.lW; omega
  · have := h.lT; omega
theorem tellHeld_any {w0 w : World} {bk T : Nat} {rB rI rW rT : Value} {hB hI hW hT : List HB} (h : B4 w0 w bk T rB rI rW rT hB hI hW hT) (ao : Option Addr) (L cap : Nat) (hp : P0 kHeld w ⟨.slice ao L cap, .slice none 0 0, T + 1⟩) (hal : ∀ k, (Value.slice ao L cap).ownBlock = some k → k ∉ lbs hW) (hT2 : T < 67108862) :
    Calls Tryz.prog 32 #[.pointer (some ⟨bk, 0, none⟩), .slice ao L cap] w fun e w' => e = .returned (.tuple #[]) ∧ ∃ rv', B4 w0 w' bk (T + 1) rB rI rv' rT hB hI (hW ++ [⟨.slice ao L cap, .slice none 0 0, T + 1⟩]) hT ∧ Fr (bk :: rW.ownBlock.toList) w w' ∧ Moved w.heap.size rW rv' := by
  obtain ⟨cs, hX, hc0⟩ := h.box
  have hbl := h.sW.bl
  obtain ⟨cs1, b1, hc1⟩ := hbl.box
  have e1 := hX.box
  rw [b1] at e1
  simp only [Option.some.injEq, Obj.cells.injEq, and_true] at e1
  subst e1
  have hlen := h.lW
  refine (keepHeld_any bk cs1 rW hW T ao L cap w b1 hX.size hc0 hc1 hbl.row (by omega) (by omega)).mono ?_
  rintro e w' ⟨rfl, rv', hb', hrow', hF', hM'⟩
  obtain ⟨hX', k0, k1, koth⟩ := hX.told _ 8 rv' (by omega) hb'
  have hbn := h.bn
  refine ⟨rfl, rv', ⟨⟨_, hX', by rw [k0]; simp⟩, ?_, ?_, ?_, ?_, h.bn, ?_, ?_, ?_, ?_, ?_, ?_, ?_, ?_⟩, hF', hM'⟩
  · obtain ⟨cs2, b2, hc2⟩ := h.sB.bl.box
    rw [b1] at b2
    simp only [Option.some.injEq, Obj.cells.injEq, and_true] at b2
    subst b2
    exact h.sB.beside hb' (by rw [koth _ (by decide) (by decide)]; exact hc2) hF' (off_row off_BW hbl)
  · obtain ⟨cs2, b2, hc2⟩ := h.sI.bl.box
    rw [b1] at b2
    simp only [Option.some.injEq, Obj.cells.injEq, and_true] at b2
    subst b2
    exact h.sI.beside hb' (by rw [koth _ (by decide) (by decide)]; exact hc2) hF' (off_row off_IW hbl)
  · exact h.sW.told (.slice ao L cap) (T + 1) hb' k1 hrow' hF' hp (by omega) (by omega) hal
  · obtain ⟨cs2, b2, hc2⟩ := h.sT.bl.box
    rw [b1] at b2
    simp only [Option.some.injEq, Obj.cells.injEq, and_true] at b2
    subst b2
    exact h.sT.beside hb' (by rw [koth _ (by decide) (by decide)]; exact hc2) hF' (off_row off_TW hbl)
  · exact h.rBn
  · exact h.rIn
  · exact hM'.lt (by have := hX.box; have := lt_of_block this; omega) h.rWn
  · exact h.rTn
  · have := h.lB; omega
  · have := h.lI; omega
  · rw [snoc_length]; omega
  · have := h.lT; omega
theorem tellVersion_any {w0 w : World} {bk T : Nat} {rB rI rW rT : Value} {hB hI hW hT : List HB} (h : B4 w0 w bk T rB rI rW rT hB hI hW hT) (ao : Option Addr) (L cap : Nat) (hp : P0 kVersion w ⟨.slice ao L cap, .slice none 0 0, T + 1⟩) (hal : ∀ k, (Value.slice ao L cap).ownBlock = some k → k ∉ lbs hT) (hT2 : T < 67108862) :
    Calls Tryz.prog 78 #[.pointer (some ⟨bk, 0, none⟩), .slice ao L cap] w fun e w' => e = .returned (.tuple #[]) ∧ ∃ rv', B4 w0 w' bk (T + 1) rB rI rW rv' hB hI hW (hT ++ [⟨.slice ao L cap, .slice none 0 0, T + 1⟩]) ∧ Fr (bk :: rT.ownBlock.toList) w w' ∧ Moved w.heap.size rT rv' := by
  obtain ⟨cs, hX, hc0⟩ := h.box
  have hbl := h.sT.bl
  obtain ⟨cs1, b1, hc1⟩ := hbl.box
  have e1 := hX.box
  rw [b1] at e1
  simp only [Option.some.injEq, Obj.cells.injEq, and_true] at e1
  subst e1
  have hlen := h.lT
  refine (keepVersion_any bk cs1 rT hT T ao L cap w b1 hX.size hc0 hc1 hbl.row (by omega) (by omega)).mono ?_
  rintro e w' ⟨rfl, rv', hb', hrow', hF', hM'⟩
  obtain ⟨hX', k0, k1, koth⟩ := hX.told _ 6 rv' (by omega) hb'
  have hbn := h.bn
  refine ⟨rfl, rv', ⟨⟨_, hX', by rw [k0]; simp⟩, ?_, ?_, ?_, ?_, h.bn, ?_, ?_, ?_, ?_, ?_, ?_, ?_, ?_⟩, hF', hM'⟩
  · obtain ⟨cs2, b2, hc2⟩ := h.sB.bl.box
    rw [b1] at b2
    simp only [Option.some.injEq, Obj.cells.injEq, and_true] at b2
    subst b2
    exact h.sB.beside hb' (by rw [koth _ (by decide) (by decide)]; exact hc2) hF' (off_row off_BT hbl)
  · obtain ⟨cs2, b2, hc2⟩ := h.sI.bl.box
    rw [b1] at b2
    simp only [Option.some.injEq, Obj.cells.injEq, and_true] at b2
    subst b2
    exact h.sI.beside hb' (by rw [koth _ (by decide) (by decide)]; exact hc2) hF' (off_row off_IT hbl)
  · obtain ⟨cs2, b2, hc2⟩ := h.sW.bl.box
    rw [b1] at b2
    simp only [Option.some.injEq, Obj.cells.injEq, and_true] at b2
    subst b2
    exact h.sW.beside hb' (by rw [koth _ (by decide) (by decide)]; exact hc2) hF' (off_row off_WT hbl)
  · exact h.sT.told (.slice ao L cap) (T + 1) hb' k1 hrow' hF' hp (by omega) (by omega) hal
  · exact h.rBn
  · exact h.rIn
  · exact h.rWn
  · exact hM'.lt (by have := hX.box; have := lt_of_block this; omega) h.rTn
  · have := h.lB; omega
  · have := h.lI; omega
  · have := h.lW; omega
  · rw [snoc_length]; omega
end Go.Proofs.YtpdkdgmaofhlkaaGreatDoor.Bq
/- The Book's calls over kinds of lists of which it holds none. Conditions: that cell of the Book is nil. -/
namespace Go.Proofs.YtpdkdgmaofhlkaaGreatDoor.Bq
open Go.ChangeShapes Go.WideShapes Go.ChangeAt Go.RowKit Go.Lib
set_option linter.unusedVariables false
set_option maxHeartbeats 1000000 in
theorem fillByte_none (bk : Nat) (w : World) (hc : w.cell? ⟨bk, 1, none⟩ = some (.slice none 0 0)) :
    Calls Tryz.prog 33 #[.pointer (some ⟨bk, 0, none⟩)] w fun e w' => e = .returned (.tuple #[]) ∧ w = w' := by
  go_enter Tryz.func33, Tryz.ntmps33
  go_wp2_with fail
  refine wp_loop_rounds 1 ?_
  rw [rounds_succ]
  go_wp2
  go_end0
  exact ⟨rfl, rfl⟩
set_option maxHeartbeats 1000000 in
theorem fillText_none (bk : Nat) (w : World) (hc : w.cell? ⟨bk, 3, none⟩ = some (.slice none 0 0)) :
    Calls Tryz.prog 35 #[.pointer (some ⟨bk, 0, none⟩)] w fun e w' => e = .returned (.tuple #[]) ∧ w = w' := by
  go_enter Tryz.func35, Tryz.ntmps35
  go_wp2_with fail
  refine wp_loop_rounds 1 ?_
  rw [rounds_succ]
  go_wp2
  go_end0
  exact ⟨rfl, rfl⟩
set_option maxHeartbeats 1000000 in
theorem fillWrite_none (bk : Nat) (w : World) (hc : w.cell? ⟨bk, 4, none⟩ = some (.slice none 0 0)) :
    Calls Tryz.prog 36 #[.pointer (some ⟨bk, 0, none⟩)] w fun e w' => e = .returned (.tuple #[]) ∧ w = w' := by
  go_enter Tryz.func36, Tryz.ntmps36
  go_wp2_with fail
  refine wp_loop_rounds 1 ?_
  rw [rounds_succ]
  go_wp2
  go_end0
  exact ⟨rfl, rfl⟩
set_option maxHeartbeats 1000000 in
theorem fillTxn_none (bk : Nat) (w : World) (hc : w.cell? ⟨bk, 7, none⟩ = some (.slice none 0 0)) :
    Calls Tryz.prog 39 #[.pointer (some ⟨bk, 0, none⟩)] w fun e w' => e = .returned (.tuple #[]) ∧ w = w' := by
  go_enter Tryz.func39, Tryz.ntmps39
  go_wp2_with fail
  refine wp_loop_rounds 1 ?_
  rw [rounds_succ]
  go_wp2
  go_end0
  exact ⟨rfl, rfl⟩
set_option maxHeartbeats 1000000 in
theorem fillHeldList_none (bk : Nat) (w : World) (hc : w.cell? ⟨bk, 9, none⟩ = some (.slice none 0 0)) :
    Calls Tryz.prog 41 #[.pointer (some ⟨bk, 0, none⟩)] w fun e w' => e = .returned (.tuple #[]) ∧ w = w' := by
  go_enter Tryz.func41, Tryz.ntmps41
  go_wp2_with fail
  refine wp_loop_rounds 1 ?_
  rw [rounds_succ]
  go_wp2
  go_end0
  exact ⟨rfl, rfl⟩
set_option maxHeartbeats 1000000 in
theorem fillEvent_none (bk : Nat) (w : World) (hc : w.cell? ⟨bk, 10, none⟩ = some (.slice none 0 0)) :
    Calls Tryz.prog 42 #[.pointer (some ⟨bk, 0, none⟩)] w fun e w' => e = .returned (.tuple #[]) ∧ w = w' := by
  go_enter Tryz.func42, Tryz.ntmps42
  go_wp2_with fail
  refine wp_loop_rounds 1 ?_
  rw [rounds_succ]
  go_wp2
  go_end0
  exact ⟨rfl, rfl⟩
set_option maxHeartbeats 1000000 in
theorem fillAnswer_none (bk : Nat) (w : World) (hc : w.cell? ⟨bk, 11, none⟩ = some (.slice none 0 0)) :
    Calls Tryz.prog 43 #[.pointer (some ⟨bk, 0, none⟩)] w fun e w' => e = .returned (.tuple #[]) ∧ w = w' := by
  go_enter Tryz.func43, Tryz.ntmps43
  go_wp2_with fail
  refine wp_loop_rounds 1 ?_
  rw [rounds_succ]
  go_wp2
  go_end0
  exact ⟨rfl, rfl⟩
set_option maxHeartbeats 1000000 in
theorem growByte_none (bk : Nat) (w : World) (hc : w.cell? ⟨bk, 1, none⟩ = some (.slice none 0 0)) :
    Calls Tryz.prog 44 #[.pointer (some ⟨bk, 0, none⟩)] w fun e w' => e = .returned (.tuple #[]) ∧ w = w' := by
  go_enter Tryz.func44, Tryz.ntmps44
  go_wp2_with fail
  refine wp_loop_rounds 1 ?_
  rw [rounds_succ]
  go_wp2
  go_end0
  exact ⟨rfl, rfl⟩
set_option maxHeartbeats 1000000 in
theorem growText_none (bk : Nat) (w : World) (hc : w.cell? ⟨bk, 3, none⟩ = some (.slice none 0 0)) :
    Calls Tryz.prog 46 #[.pointer (some ⟨bk, 0, none⟩)] w fun e w' => e = .returned (.tuple #[]) ∧ w = w' := by
  go_enter Tryz.func46, Tryz.ntmps46
  go_wp2_with fail
  refine wp_loop_rounds 1 ?_
  rw [rounds_succ]
  go_wp2
  go_end0
  exact ⟨rfl, rfl⟩
set_option maxHeartbeats 1000000 in
theorem growWrite_none (bk : Nat) (w : World) (hc : w.cell? ⟨bk, 4, none⟩ = some (.slice none 0 0)) :
    Calls Tryz.prog 47 #[.pointer (some ⟨bk, 0, none⟩)] w fun e w' => e = .returned (.tuple #[]) ∧ w = w' := by
  go_enter Tryz.func47, Tryz.ntmps47
  go_wp2_with fail
  refine wp_loop_rounds 1 ?_
  rw [rounds_succ]
  go_wp2
  go_end0
  exact ⟨rfl, rfl⟩
set_option maxHeartbeats 1000000 in
theorem growTxn_none (bk : Nat) (w : World) (hc : w.cell? ⟨bk, 7, none⟩ = some (.slice none 0 0)) :
    Calls Tryz.prog 50 #[.pointer (some ⟨bk, 0, none⟩)] w fun e w' => e = .returned (.tuple #[]) ∧ w = w' := by
  go_enter Tryz.func50, Tryz.ntmps50
  go_wp2_with fail
  refine wp_loop_rounds 1 ?_
  rw [rounds_succ]
  go_wp2
  go_end0
  exact ⟨rfl, rfl⟩
set_option maxHeartbeats 1000000 in
theorem growHeldList_none (bk : Nat) (w : World) (hc : w.cell? ⟨bk, 9, none⟩ = some (.slice none 0 0)) :
    Calls Tryz.prog 52 #[.pointer (some ⟨bk, 0, none⟩)] w fun e w' => e = .returned (.tuple #[]) ∧ w = w' := by
  go_enter Tryz.func52, Tryz.ntmps52
  go_wp2_with fail
  refine wp_loop_rounds 1 ?_
  rw [rounds_succ]
  go_wp2
  go_end0
  exact ⟨rfl, rfl⟩
set_option maxHeartbeats 1000000 in
theorem growEvent_none (bk : Nat) (w : World) (hc : w.cell? ⟨bk, 10, none⟩ = some (.slice none 0 0)) :
    Calls Tryz.prog 53 #[.pointer (some ⟨bk, 0, none⟩)] w fun e w' => e = .returned (.tuple #[]) ∧ w = w' := by
  go_enter Tryz.func53, Tryz.ntmps53
  go_wp2_with fail
  refine wp_loop_rounds 1 ?_
  rw [rounds_succ]
  go_wp2
  go_end0
  exact ⟨rfl, rfl⟩
set_option maxHeartbeats 1000000 in
theorem growAnswer_none (bk : Nat) (w : World) (hc : w.cell? ⟨bk, 11, none⟩ = some (.slice none 0 0)) :
    Calls Tryz.prog 54 #[.pointer (some ⟨bk, 0, none⟩)] w fun e w' => e = .returned (.tuple #[]) ∧ w = w' := by
  go_enter Tryz.func54, Tryz.ntmps54
  go_wp2_with fail
  refine wp_loop_rounds 1 ?_
  rw [rounds_succ]
  go_wp2
  go_end0
  exact ⟨rfl, rfl⟩
set_option maxHeartbeats 1000000 in
theorem lookByte_none (bk : Nat) (w : World) (hc : w.cell? ⟨bk, 1, none⟩ = some (.slice none 0 0)) :
    Calls Tryz.prog 55 #[.pointer (some ⟨bk, 0, none⟩)] w fun e w' => e = .returned (.bool true) ∧ w = w' := by
  go_enter Tryz.func55, Tryz.ntmps55
  go_wp2_with fail
  refine wp_loop_rounds 1 ?_
  rw [rounds_succ]
  go_wp2
  go_ret
  exact ⟨rfl, rfl⟩
set_option maxHeartbeats 1000000 in
theorem lookText_none (bk : Nat) (w : World) (hc : w.cell? ⟨bk, 3, none⟩ = some (.slice none 0 0)) :
    Calls Tryz.prog 57 #[.pointer (some ⟨bk, 0, none⟩)] w fun e w' => e = .returned (.bool true) ∧ w = w' := by
  go_enter Tryz.func57, Tryz.ntmps57
  go_wp2_with fail
  refine wp_loop_rounds 1 ?_
  rw [rounds_succ]
  go_wp2
  go_ret
  exact ⟨rfl, rfl⟩
set_option maxHeartbeats 1000000 in
theorem lookWrite_none (bk : Nat) (w : World) (hc : w.cell? ⟨bk, 4, none⟩ = some (.slice none 0 0)) :
    Calls Tryz.prog 58 #[.pointer (some ⟨bk, 0, none⟩)] w fun e w' => e = .returned (.bool true) ∧ w = w' := by
  go_enter Tryz.func58, Tryz.ntmps58
  go_wp2_with fail
  refine wp_loop_rounds 1 ?_
  rw [rounds_succ]
  go_wp2
  go_ret
  exact ⟨rfl, rfl⟩
set_option maxHeartbeats 1000000 in
theorem lookTxn_none (bk : Nat) (w : World) (hc : w.cell? ⟨bk, 7, none⟩ = some (.slice none 0 0)) :
    Calls Tryz.prog 61 #[.pointer (some ⟨bk, 0, none⟩)] w fun e w' => e = .returned (.bool true) ∧ w = w' := by
  go_enter Tryz.func61, Tryz.ntmps61
  go_wp2_with fail
  refine wp_loop_rounds 1 ?_
  rw [rounds_succ]
  go_wp2
  go_ret
  exact ⟨rfl, rfl⟩
set_option maxHeartbeats 1000000 in
theorem lookHeldList_none (bk : Nat) (w : World) (hc : w.cell? ⟨bk, 9, none⟩ = some (.slice none 0 0)) :
    Calls Tryz.prog 63 #[.pointer (some ⟨bk, 0, none⟩)] w fun e w' => e = .returned (.bool true) ∧ w = w' := by
  go_enter Tryz.func63, Tryz.ntmps63
  go_wp2_with fail
  refine wp_loop_rounds 1 ?_
  rw [rounds_succ]
  go_wp2
  go_ret
  exact ⟨rfl, rfl⟩
set_option maxHeartbeats 1000000 in
theorem lookEvent_none (bk : Nat) (w : World) (hc : w.cell? ⟨bk, 10, none⟩ = some (.slice none 0 0)) :
    Calls Tryz.prog 64 #[.pointer (some ⟨bk, 0, none⟩)] w fun e w' => e = .returned (.bool true) ∧ w = w' := by
  go_enter Tryz.func64, Tryz.ntmps64
  go_wp2_with fail
  refine wp_loop_rounds 1 ?_
  rw [rounds_succ]
  go_wp2
  go_ret
  exact ⟨rfl, rfl⟩
set_option maxHeartbeats 1000000 in
theorem lookAnswer_none (bk : Nat) (w : World) (hc : w.cell? ⟨bk, 11, none⟩ = some (.slice none 0 0)) :
    Calls Tryz.prog 65 #[.pointer (some ⟨bk, 0, none⟩)] w fun e w' => e = .returned (.bool true) ∧ w = w' := by
  go_enter Tryz.func65, Tryz.ntmps65
  go_wp2_with fail
  refine wp_loop_rounds 1 ?_
  rw [rounds_succ]
  go_wp2
  go_ret
  exact ⟨rfl, rfl⟩
end Go.Proofs.YtpdkdgmaofhlkaaGreatDoor.Bq
/- What the Book's fill does to its lists (Entry): each is written over with its mark, and nothing else. Conditions: no two held lists share a block. -/
namespace Go.Proofs.YtpdkdgmaofhlkaaGreatDoor.Bq
open Go.ChangeShapes Go.WideShapes Go.ChangeAt Go.RowKit Go.Lib
set_option linter.unusedVariables false

set_option maxHeartbeats 8000000 in
set_option maxRecDepth 100000 in
theorem fillEntry_any (bk : Nat) (rv : Value) (hs : List HB) (w : World) (h : Bl kEntry w bk rv hs) (h0 : ∀ (j : Nat) (h : HB), hs[j]? = some h → P0 kEntry w h) (ha : Alone hs) (hfre : Fresh hs) (htab : Tab w) (hgt : gTab ∉ lbs hs) :
    Calls Tryz.prog 37 #[.pointer (some ⟨bk, 0, none⟩)] w fun e w' => e = .returned (.tuple #[]) ∧ Hid (FillInv kEntry w bk rv hs hs.length w') := by
  have HI0 : Hid (FillInv kEntry w bk rv hs 0 w) := ⟨h, fun _ _ _ hj => by omega, fun j b hb _ => h0 j b hb, Fr.refl _ _⟩
  obtain ⟨N, HN⟩ : ∃ N, Hid (N = hs.length) := ⟨_, rfl⟩
  have hfew := h.few
  have HNUM : Hid (∀ (j : Nat) (h : HB), hs[j]? = some h → h.n < 134217728) := h.num
  rw [← HN.out] at hfew
  clear h0
  obtain ⟨rao, rcap, hrv⟩ := own_slice h.row
  rw [← HN.out] at hrv
  clear h
  subst hrv
  go_enter Tryz.func37, Tryz.ntmps37
  go_wp2_with fail
  go_loopw [2] (fun ii wr => ∃ i : Nat, ii = .int .i64 i ∧ i ≤ N ∧ Hid (FillInv kEntry w bk (.slice rao N rcap) hs i wr)) (fun ii _ => N - (RowKit.intOf ii).toNat)
  case atStart => exact ⟨0, rfl, Nat.zero_le _, HI0⟩
  case round =>
    clear HI0
    obtain ⟨i, rfl, hiN, HI⟩ := hrel
    have c1 : wr.cell? ⟨bk, 5, none⟩ = some (.slice rao N rcap) := HI.out.bk.c1
    by_cases hi : i < N
    · obtain ⟨e, he⟩ : ∃ e, hs[i]? = some e := ⟨_, List.getElem?_eq_getElem (by rw [← HN.out]; exact hi)⟩
      have HE : Hid (hs[i]? = some e) := he
      obtain ⟨rb, rc, hrv, hrc, d0, d1, d2⟩ := HI.out.bk.at i e he
      rw [← HN.out] at hrv hrc
      cases hrv
      have hen : e.n < 134217728 := HNUM.out i e he
      obtain ⟨n, vs, hOc, hn21⟩ := HI.out.left i e he (Nat.le_refl _)
      obtain ⟨lao, lcap, lf, hl, hnl, hlf, hO⟩ := hOc
      have HLe : Hid (e.l = .slice lao n lcap) := hl
      have HCu : Hid (n ≤ lcap ∧ lcap ≤ lf) := ⟨hnl, hlf⟩
      rw [hl] at d0
      clear hnl hlf
      obtain ⟨M, HM⟩ : ∃ M, Hid (M = e.n) := ⟨_, rfl⟩
      rw [hfre i e he] at d1
      rw [← HM.out] at d2 hen
      clear he hl
      obtain ⟨B, HB⟩ : ∃ B, Hid (mWord M = B) := ⟨_, rfl⟩
      go_wp2_with fail
      obtain ⟨hv, hhv⟩ : ∃ hv, hv = wr.heap.size := ⟨_, rfl⟩
      obtain ⟨w1, hw1⟩ : ∃ w1, w1 = wr.alloc (Obj.cells #[.slice lao n lcap, .slice none 0 0, .int .i64 (M : Int)] 129) := ⟨_, rfl⟩
      rw [← hw1, ← hhv]
      have hF1 : Fr [] wr w1 := by rw [hw1]; exact Fr.alloc [] _ _
      have HTB : Hid (Tab w1) := (htab.keep HI.out.fr hgt).keep hF1 (by simp)
      have HGT : Hid (gTab ∉ (Value.slice lao n lcap).ownBlock.toList) := by
        intro hm
        exact hgt (mem_lbs.2 ⟨e, List.mem_of_getElem? HE.out, by rw [HLe.out]; simpa using hm⟩)
      have hvb : w1.heap[hv]? = some (.cells #[.slice lao n lcap, .slice none 0 0, .int .i64 (M : Int)] 129 (0, 0)) := by rw [hw1, hhv]; exact heap_alloc_new wr _
      have HLT : Hid (∀ k, (Value.slice lao n lcap).ownBlock = some k → k ≠ hv) := by
        intro k hk
        have := (hO.lt k (by rw [ownBlock_cap lao n n lf lcap]; exact hk)).2
        omega
      have hO1 := owns_keep hO hF1 (by simp)
      have hvl := hO.1
      clear hO hw1 hhv d0 d1 d2 c1
      have HI0 : Hid (w1.ownsRow 0 102 2 (.slice lao n lf) n (marks [.string B, .string ⟨#[]⟩] 0 ++ vs)) := hO1
      clear hO1
      go_loopw [4] (fun kk wr' => ∃ (k : Nat) (R : List Value), kk = .int .i64 k ∧ k ≤ n ∧ Hid (R.length = (n - k) * 2) ∧ Hid (wr'.ownsRow 0 102 2 (.slice lao n lf) n (marks [.string B, .string ⟨#[]⟩] k ++ R)) ∧ Hid (Fr (Value.slice lao n lcap).ownBlock.toList w1 wr')) (fun kk _ => n - (RowKit.intOf kk).toNat)
      case atStart => exact ⟨0, vs, rfl, Nat.zero_le _, hvl, HI0, Fr.refl _ _⟩
      case round =>
        clear HI0
        obtain ⟨k, R, rfl, hkn, HR, HO, HF2⟩ := hrel
        have hvb2 := HF2.out.keep hvb (by intro hm; exact HLT.out hv (by simpa using hm) rfl)
        by_cases hk : k < n
        · have hlt : (k : Int) < n := by omega
          obtain ⟨t, gc, hg, hgc⟩ := own_form HO.out (by omega)
          cases hg
          have hvt' : t ≠ hv := HLT.out t rfl
          have hvt : hv ≠ t := fun e => hvt' e.symm
          obtain ⟨a, b, S, hRe, hS⟩ := fmore2 hk HR.out
          subst hRe
          have HS : Hid (S.length = (n - (k + 1)) * 2) := hS
          have HC : Hid (∀ W, Fr [] wr W → W.cell? ⟨hv, 0, none⟩ = some (.slice (some ⟨t, 0, none⟩) n lcap) ∧ W.cell? ⟨hv, 2, none⟩ = some (.int .i64 (M : Int)) ∧ W.cell? ⟨t, k * 2, none⟩ = some a ∧ W.cell? ⟨t, k * 2 + 1, none⟩ = some b ∧ W.frozen? ⟨t, k * 2, none⟩ = false ∧ W.frozen? ⟨t, k * 2 + 1, none⟩ = false) := by
            intro W hf
            have hb := hf.keep hvb2 (by simp)
            have hO := owns_keep HO.out hf (by simp)
            have hc : ∀ j u, (a :: b :: S)[j]? = some u → W.cell? ⟨t, k * 2 + j, none⟩ = some u := behind rfl hO
            exact ⟨by rw [cell_of_row _ _ _ _ _ _ hb]; rfl, by rw [cell_of_row _ _ _ _ _ _ hb]; rfl, hc 0 a rfl, hc 1 b rfl, own_free hO _, own_free hO _⟩
          have HP : Hid (∀ W, Fr [] wr W → Hid ((((W.setCell ⟨t, k * 2, none⟩ (.string B)).setCell ⟨t, k * 2 + 1, none⟩ (.string ⟨#[]⟩))).ownsRow 0 102 2 (.slice (some ⟨t, 0, none⟩) n lf) n (marks [.string B, .string ⟨#[]⟩] (k + 1) ++ S)) ∧ Hid (Fr (Value.slice (some ⟨t, 0, none⟩) n lcap).ownBlock.toList w1 (((W.setCell ⟨t, k * 2, none⟩ (.string B)).setCell ⟨t, k * 2 + 1, none⟩ (.string ⟨#[]⟩))))) := by
            intro W hf
            have hO := owns_keep HO.out hf (by simp)
            have h3 := (own_put (own_put hO (k * 2) (.string B)) (k * 2 + 1) (.string ⟨#[]⟩))
            rw [fstep2] at h3
            refine ⟨h3, ?_⟩
            show Fr [t] w1 _
            exact ((show Fr [t] w1 wr from HF2.out).trans hf (fun x hx _ => hx) (by simp)).then ((Fr.set W ⟨t, k * 2, none⟩ _ (by simp)).then (Fr.set _ ⟨t, k * 2 + 1, none⟩ _ (by simp)))
          obtain ⟨a0, a1, a2, a3, a4, a5⟩ := HC.out _ (Fr.refl [] wr)
          obtain ⟨b0, b1, b2, b3, b4, b5⟩ := HC.out _ (Fr.drew [] wr)
          have hMk := markEntry_at M B wr.drew hen HB.out ((HTB.out.keep HF2.out HGT.out).keep (Fr.drew [] _) (by simp))
          clear hvb hvb2 hS
          go_wp2_with fail
          first
            | go_loud (go_region_held3 (fun W => W.cell? ⟨hv, 0, none⟩ = some (.slice (some ⟨t, 0, none⟩) n lcap) ∧ W.cell? ⟨hv, 2, none⟩ = some (.int .i64 (M : Int))) (go_keep)
                (first
                | (go_at_call 83; with_reducible refine hMk.mono ?_; rintro e w3 ⟨rfl, hF3⟩; obtain ⟨j0, j1, j2, j3, j4, j5⟩ := HC.out _ ((Fr.drew [] wr).then hF3))))
            | fail
          obtain ⟨p1, p2⟩ := HP.out _ ((Fr.drew [] wr).then hF3)
          clear hF3 hMk HP HC
          go_wp2_with fail
          go_roundw
          case rel => exact ⟨k + 1, S, by simp, by omega, HS, p1, p2⟩
          case measure => simp [RowKit.intOf]; omega
        · have hle : (n : Int) ≤ k := by omega
          have v0 : wr.cell? ⟨hv, 0, none⟩ = some (.slice lao n lcap) := by rw [cell_of_row _ _ _ _ _ _ hvb2]; rfl
          have HP1 : Hid (P1 kEntry wr e) := by
            refine ⟨n, ?_, hn21⟩
            have hkn' : k = n := by omega
            have hR0 : R = [] := List.eq_nil_of_length_eq_zero (by rw [HR.out, hkn']; omega)
            have := HO.out
            rw [hR0, List.append_nil, hkn', ← HB.out] at this
            rw [HLe.out, ← HM.out]
            exact ⟨lao, lcap, lf, rfl, HCu.out.1, HCu.out.2, this⟩
          have HI2 : Hid (FillInv kEntry w bk (.slice (some ⟨rb, 0, none⟩) N rcap) hs (i + 1) wr) := HI.out.next ha HE.out hF1 (by rw [HLe.out]; exact HF2.out) HP1.out
          clear hvb hvb2 HO
          go_wp2_with fail
          go_roundw
          case rel => exact ⟨i + 1, by simp, by omega, HI2⟩
          case measure => simp [RowKit.intOf]; omega
    · obtain rfl : i = N := by omega
      go_wp2_with fail
      go_end0
      exact ⟨rfl, by rw [← HN.out]; exact HI⟩
end Go.Proofs.YtpdkdgmaofhlkaaGreatDoor.Bq

/- The Book's mark of a key with versions, and its test of one. Conditions: numbers below 2^27; the table of powers of ten reads as the library lays it. -/
import Derived.Test.YtpdkdgmaofhlkaaGreatDoorWre
import Derived.Test.YtpdkdgmaofhlkaaGreatDoorWrv
namespace Go.Proofs.YtpdkdgmaofhlkaaGreatDoor.Bq
open BigFrame Go.ChangeShapes Go.WideShapes Go.ChangeAt Go.RowKit Go.Lib
set_option linter.unusedVariables false

set_option maxHeartbeats 1000000 in
theorem markHeld_at (n : Nat) (B : ByteArray) (w : World) (hn : n < 134217728) (hB : mWord n = B) (ht : Tab w) : Calls Tryz.prog 86 #[.int .i64 (n : Int)] w fun e w' => e = .returned (.agg #[.string B, .slice none 0 0]) ∧ Fr [] w w' := by
  have HB : Hid (mWord n = B) := hB
  have hz : (w.alloc (Obj.cells #[.string ⟨#[]⟩, .slice none 0 0] 97)).heap[w.heap.size]? = some (Obj.cells #[.string ⟨#[]⟩, .slice none 0 0] 97) := heap_alloc_new _ _
  clear hB
  go_enter Tryz.func86, Tryz.ntmps86
  go_wp2_with fail
  refine (word_any n B hn HB.out _ (ht.keep (Fr.alloc [] w _) (by simp))).mono ?_
  rintro e w1 ⟨rfl, hF⟩
  have hz1 := hF.keep hz (by simp)
  have z0 : w1.cell? ⟨w.heap.size, 0, none⟩ = some (.string ⟨#[]⟩) := by rw [cell_of_row _ _ _ _ _ _ hz1]; rfl
  have z1 : w1.cell? ⟨w.heap.size, 1, none⟩ = some (.slice none 0 0) := by rw [cell_of_row _ _ _ _ _ _ hz1]; rfl
  have q0 : w1.frozen? ⟨w.heap.size, 0, none⟩ = false := by simp [World.frozen?, hz1]
  have q1 : w1.frozen? ⟨w.heap.size, 1, none⟩ = false := by simp [World.frozen?, hz1]
  have hF0 : Fr [] w w1 := (Fr.alloc [] w _).then hF
  clear hz hz1 hF
  go_wp2
  refine bodyPost_ret (v := (.agg #[.string B, .slice none 0 0])) (by rw [res_c1 rfl]; go_simp) rfl ⟨rfl, ?_⟩
  exact hF0.on ((Fr.set (S := [w.heap.size]) w1 ⟨w.heap.size, 0, none⟩ _ (by simp)).then (Fr.set _ ⟨w.heap.size, 1, none⟩ _ (by simp))) (by simp)
abbrev kHeld : Kd := { tH := 112, tE := 97, S := 2, mark := fun n => [.string (mWord n), .slice none 0 0], col := 8, pos := by decide, len := fun _ => rfl, hE := by decide, hB := by decide, eB := by decide }
set_option maxHeartbeats 1000000 in
theorem isHeld_at (n : Nat) (B : ByteArray) (w : World) (hn : n < 134217728) (hB : mWord n = B) (ht : Tab w) : Calls Tryz.prog 97 #[.agg #[.string B, .slice none 0 0], .int .i64 (n : Int)] w fun e w' => e = .returned (.bool true) ∧ Fr [] w w' := by
  have HB : Hid (mWord n = B) := hB
  clear hB
  obtain ⟨w0, HW0⟩ : ∃ w0, Hid (w.alloc (.cells #[.string B, .slice none 0 0] 97) = w0) := ⟨_, rfl⟩
  have hb0 : w0.heap[w.heap.size]? = some (.cells #[.string B, .slice none 0 0] 97 (0, 0)) := by rw [← HW0.out]; exact heap_alloc_new w _
  have hF0 : Fr [] w w0 := by rw [← HW0.out]; exact Fr.alloc [] _ _
  have HT0 : Hid (Tab w0) := ht.keep hF0 (by simp)
  have f0 : ∀ x : Wd w0, x.W.cell? ⟨w.heap.size, 0, none⟩ = some (.string B) := fun x => by rw [cell_of_row _ _ _ _ _ _ (x.h.keep hb0 (by simp))]; rfl
  have f1 : ∀ x : Wd w0, x.W.cell? ⟨w.heap.size, 1, none⟩ = some (.slice none 0 0) := fun x => by rw [cell_of_row _ _ _ _ _ _ (x.h.keep hb0 (by simp))]; rfl
  clear hb0 ht
  go_enter Tryz.func97, Tryz.ntmps97
  go_upto_region 1 with fail
  rw [HW0.out]
  clear HW0
  refine wp_region_wd (w1 := w0) (by kernel_rfl) (by kernel_rfl) (Fr.refl _ _) ?_
  repeat (go_big_quiet_step (exact (word_any n B hn HB.out _ (HT0.out.keep (Wd.h _) (by simp))).mono fun e w3 hh => ⟨hh.1, ⟨_, Fr.then (Wd.h _) hh.2⟩, rfl⟩))
  refine wpQuiet_nil ?_
  rintro _ ⟨x, rfl⟩
  go_wp2
  go_ret
  exact ⟨by simp, hF0.then x.h⟩
end Go.Proofs.YtpdkdgmaofhlkaaGreatDoor.Bq

/- The Book's mark of an entry, and its test of one. Conditions: numbers below 2^27; the table of powers of ten reads as the library lays it. -/
import Derived.Test.YtpdkdgmaofhlkaaGreatDoorWrd
namespace Go.Proofs.YtpdkdgmaofhlkaaGreatDoor.Bq
open BigFrame Go.ChangeShapes Go.WideShapes Go.ChangeAt Go.RowKit Go.Lib
set_option linter.unusedVariables false

theorem Tryz.undEnB : Tryz.prog.underlying 102 = some (.struct (Tryz.prog.fieldsOf 102)) := by kernel_rfl
theorem Tryz.heldEnB : Tryz.prog.stoodInHeld 102 = false := by kernel_rfl
theorem Tryz.guardEnB : Tryz.prog.eqGuardType Tryz.prog.depth 102 = false := by kernel_rfl
theorem Tryz.fieldsEnB : (Tryz.prog.fieldsOf 102).toList.map (fun f => (f.name == "_", f.type, f.offset)) = [(false, 9, 0), (false, 9, 1)] := by kernel_rfl
set_option maxRecDepth 100000 in
theorem en_fields (w : World) (k1 v1 k2 v2 : ByteArray) : (Op.equalIn 10000 102 (.agg #[.string k1, .string v1]) (.agg #[.string k2, .string v2])).run Tryz.prog w = .ok (k1.toList == k2.toList && v1.toList == v2.toList) w := by
  rw [run_equalIn_struct w 9999 _ _ _ Tryz.undEnB Tryz.heldEnB]
  have hF := Tryz.fieldsEnB
  obtain ⟨l, hl⟩ : ∃ l, l = (Tryz.prog.fieldsOf 102).toList := ⟨_, rfl⟩
  rw [← hl] at hF ⊢
  match l, hF with
  | [f0, f1], hF =>
    simp only [List.map_cons, List.map_nil, List.cons.injEq, Prod.mk.injEq, and_true] at hF
    obtain ⟨⟨n0, t0, o0⟩, ⟨n1, t1, o1⟩⟩ := hF
    have m0 : f0.name ≠ "_" := by simpa using n0
    have m1 : f1.name ≠ "_" := by simpa using n1
    simp only [Op.eqFields, if_pos m0, if_pos m1, t0, t1, o0, o1]
    rw [step_field (part_str w _ 0 _ rfl) (part_str w _ 0 _ rfl) (eq_str w k1 k2)]
    rw [step_field (part_str w _ 1 _ rfl) (part_str w _ 1 _ rfl) (eq_str w v1 v2)]
    cases (k1.toList == k2.toList) <;> cases (v1.toList == v2.toList) <;> simp
theorem en_same (w : World) (k v : ByteArray) : (Op.equalIn 10000 102 (.agg #[.string k, .string v]) (.agg #[.string k, .string v])).run Tryz.prog w = .ok true w := by
  rw [en_fields]
  simp
set_option maxHeartbeats 1000000 in
theorem markEntry_at (n : Nat) (B : ByteArray) (w : World) (hn : n < 134217728) (hB : mWord n = B) (ht : Tab w) : Calls Tryz.prog 83 #[.int .i64 (n : Int)] w fun e w' => e = .returned (.agg #[.string B, .string ⟨#[]⟩]) ∧ Fr [] w w' := by
  have HB : Hid (mWord n = B) := hB
  have hz : (w.alloc (Obj.cells #[.string ⟨#[]⟩, .string ⟨#[]⟩] 102)).heap[w.heap.size]? = some (Obj.cells #[.string ⟨#[]⟩, .string ⟨#[]⟩] 102) := heap_alloc_new _ _
  clear hB
  go_enter Tryz.func83, Tryz.ntmps83
  go_wp2_with fail
  refine (word_any n B hn HB.out _ (ht.keep (Fr.alloc [] w _) (by simp))).mono ?_
  rintro e w1 ⟨rfl, hF⟩
  have hz1 := hF.keep hz (by simp)
  have z0 : w1.cell? ⟨w.heap.size, 0, none⟩ = some (.string ⟨#[]⟩) := by rw [cell_of_row _ _ _ _ _ _ hz1]; rfl
  have z1 : w1.cell? ⟨w.heap.size, 1, none⟩ = some (.string ⟨#[]⟩) := by rw [cell_of_row _ _ _ _ _ _ hz1]; rfl
  have q0 : w1.frozen? ⟨w.heap.size, 0, none⟩ = false := by simp [World.frozen?, hz1]
  have q1 : w1.frozen? ⟨w.heap.size, 1, none⟩ = false := by simp [World.frozen?, hz1]
  have hF0 : Fr [] w w1 := (Fr.alloc [] w _).then hF
  clear hz hz1 hF
  go_wp2
  refine bodyPost_ret (v := (.agg #[.string B, .string ⟨#[]⟩])) (by rw [res_c1 rfl]; go_simp) rfl ⟨rfl, ?_⟩
  exact hF0.on ((Fr.set (S := [w.heap.size]) w1 ⟨w.heap.size, 0, none⟩ _ (by simp)).then (Fr.set _ ⟨w.heap.size, 1, none⟩ _ (by simp))) (by simp)
abbrev kEntry : Kd := { tH := 129, tE := 102, S := 2, mark := fun n => [.string (mWord n), .string ⟨#[]⟩], col := 5, pos := by decide, len := fun _ => rfl, hE := by decide, hB := by decide, eB := by decide }
set_option maxHeartbeats 1000000 in
theorem isEntry_at (n : Nat) (B : ByteArray) (w : World) (hn : n < 134217728) (hB : mWord n = B) (ht : Tab w) : Calls Tryz.prog 94 #[.agg #[.string B, .string ⟨#[]⟩], .int .i64 (n : Int)] w fun e w' => e = .returned (.bool true) ∧ Fr [] w w' := by
  have HB : Hid (mWord n = B) := hB
  clear hB
  have hgd := Tryz.guardEnB
  have hq : ∀ w', (Op.equalIn 10000 102 (.agg #[.string B, .string ⟨#[]⟩]) (.agg #[.string B, .string ⟨#[]⟩])).run Tryz.prog w' = .ok true w' := fun w' => en_same w' _ _
  obtain ⟨w0, HW0⟩ : ∃ w0, Hid (w.alloc (.cells #[.string B, .string ⟨#[]⟩] 102) = w0) := ⟨_, rfl⟩
  have hb0 : w0.heap[w.heap.size]? = some (.cells #[.string B, .string ⟨#[]⟩] 102 (0, 0)) := by rw [← HW0.out]; exact heap_alloc_new w _
  have hF0 : Fr [] w w0 := by rw [← HW0.out]; exact Fr.alloc [] _ _
  have HT0 : Hid (Tab w0) := ht.keep hF0 (by simp)
  have f0 : ∀ x : Wd w0, x.W.cell? ⟨w.heap.size, 0, none⟩ = some (.string B) := fun x => by rw [cell_of_row _ _ _ _ _ _ (x.h.keep hb0 (by simp))]; rfl
  have f1 : ∀ x : Wd w0, x.W.cell? ⟨w.heap.size, 1, none⟩ = some (.string ⟨#[]⟩) := fun x => by rw [cell_of_row _ _ _ _ _ _ (x.h.keep hb0 (by simp))]; rfl
  clear hb0 ht
  go_enter Tryz.func94, Tryz.ntmps94
  go_upto_region 1 with fail
  rw [HW0.out]
  clear HW0
  refine wp_region_wd (w1 := w0) (by kernel_rfl) (by kernel_rfl) (Fr.refl _ _) ?_
  repeat (go_big_quiet_step (exact (word_any n B hn HB.out _ (HT0.out.keep (Wd.h _) (by simp))).mono fun e w3 hh => ⟨hh.1, ⟨_, Fr.then (Wd.h _) hh.2⟩, rfl⟩))
  refine wpQuiet_nil ?_
  rintro _ ⟨x, rfl⟩
  go_wp2
  go_ret
  exact ⟨by simp, hF0.then x.h⟩
end Go.Proofs.YtpdkdgmaofhlkaaGreatDoor.Bq

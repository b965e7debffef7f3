/- What a Collect takes of a reply; lists of nothing put together; the statements' own helper lives. Conditions as each names them. -/
import Derived.Test.YtpdkdgmaofhlkaaGreatDoorAn17
import Derived.Test.YtpdkdgmaofhlkaaGreatDoorSb17E
import Derived.Test.YtpdkdgmaofhlkaaGreatDoorSb17H
namespace Go.Proofs.YtpdkdgmaofhlkaaGreatDoor
open Go.ChangeShapes Go.WideShapes Go.ChangeAt Go.RowKit Go.Lib
set_option linter.unusedVariables false
set_option linter.unusedSimpArgs false

set_option maxHeartbeats 800000 in
set_option maxRecDepth 100000 in
theorem qadd3 {w : World} {t : Nat} {T : Tk} (r : Rp) (h : TkM w t T) : Calls Tryz.prog 21 #[.pointer (some ⟨t, 21, none⟩), .int .u8 3, .agg r.a] w fun e w' => (∃ v, e = .returned v) ∧ TkM w' t { T with ct := wrap64 (T.ct + r.ct) } ∧ Fr [t] w w' := by
  have mixed : Tryz.prog.follows .mixedOrders = true := by kernel_rfl
  have hF := Fr.alloc [] w (.cells r.a 53)
  have hk := h.keep hF (by simp)
  have c23 := hk.c23
  have z23 := hk.fz 23
  have hlt := h.lt
  have hne : w.heap.size ≠ t := by omega
  have hne' : t ≠ w.heap.size := by omega
  have hb : (w.alloc (.cells r.a 53)).heap[w.heap.size]? = some (.cells r.a 53 (0, 0)) := heap_alloc_new w _
  have k4 : (w.alloc (.cells r.a 53)).cell? ⟨w.heap.size, 4, none⟩ = some (.int .i64 r.ct) := by rw [cell_of_row _ _ _ _ _ _ hb]; rfl
  have HK : Hid (TkM w t T) := h
  clear h hk hb hF
  obtain ⟨a, b, c, d, e, f, g, i, j⟩ := r
  simp only [Rp.a] at c23 z23 k4 HK ⊢
  obtain ⟨ct, hct⟩ : ∃ c, c = T.ct := ⟨_, rfl⟩
  rw [← hct] at c23 ⊢
  clear hct
  obtain ⟨b0, hb0⟩ : ∃ b, b = w.heap.size := ⟨_, rfl⟩
  have c23' : (w.alloc (.cells #[.int .i64 a, .bool b, .slice c d e, .slice f g i, .int .i64 j] 53)).drew.cell? ⟨t, 23, none⟩ = some (.int .i64 ct) := c23
  have k4' : (w.alloc (.cells #[.int .i64 a, .bool b, .slice c d e, .slice f g i, .int .i64 j] 53)).drew.cell? ⟨w.heap.size, 4, none⟩ = some (.int .i64 j) := k4
  have z23' : (w.alloc (.cells #[.int .i64 a, .bool b, .slice c d e, .slice f g i, .int .i64 j] 53)).drew.frozen? ⟨t, 23, none⟩ = false := z23
  go_enter Tryz.func21, Tryz.ntmps21
  go_wp2_with fail
  go_region
  all_goals
    go_wp2
    go_end0
    refine ⟨⟨_, rfl⟩, ?_, ((Fr.set _ _ _ (by simp)).then (Fr.alloc [t] _ _)).then (Fr.drew _ _)⟩
    exact (Fr.alloc [] _ _).keep (row_put17 (j := 23) _ HK.out) (by simp)
theorem concE_none (w : World) : Calls Tryz.prog 108 #[.slice none 0 0] w fun e w' => e = .returned (.slice none 0 0) ∧ w = w' := by
  have HG : Hid (Calls Tryz.prog 117 #[.slice none 0 0, .int .i64 0] w fun e w' => e = .returned (.slice none 0 0) ∧ w = w') := by
    go_enter Tryz.func117, Tryz.ntmps117
    go_wp2
    go_ret
    exact ⟨rfl, rfl⟩
  go_enter Tryz.func108, Tryz.ntmps108
  go_wp2
  refine wp_loop_rounds 1 ?_
  rw [rounds_succ]
  go_wp2_with fail
  refine Calls.mono HG.out ?_
  rintro e w1 ⟨rfl, rfl⟩
  go_wp2
  refine wp_loop_rounds 1 ?_
  rw [rounds_succ]
  go_wp2
  go_ret
  exact ⟨rfl, rfl⟩
theorem concH_none (w : World) : Calls Tryz.prog 112 #[.slice none 0 0] w fun e w' => e = .returned (.slice none 0 0) ∧ w = w' := by
  have HG : Hid (Calls Tryz.prog 120 #[.slice none 0 0, .int .i64 0] w fun e w' => e = .returned (.slice none 0 0) ∧ w = w') := by
    go_enter Tryz.func120, Tryz.ntmps120
    go_wp2
    go_ret
    exact ⟨rfl, rfl⟩
  go_enter Tryz.func112, Tryz.ntmps112
  go_wp2
  refine wp_loop_rounds 1 ?_
  rw [rounds_succ]
  go_wp2_with fail
  refine Calls.mono HG.out ?_
  rintro e w1 ⟨rfl, rfl⟩
  go_wp2
  refine wp_loop_rounds 1 ?_
  rw [rounds_succ]
  go_wp2
  go_ret
  exact ⟨rfl, rfl⟩
theorem togE_none (w : World) : Calls Tryz.prog 72 #[.func (Fn.func 73) #[] #[], .slice none 0 0] w fun e w' => e = .returned (.slice none 0 0) ∧ Fr [] w w' := by
  go_enter Tryz.func72, Tryz.ntmps72
  go_wp2_with fail
  refine (concE_none _).mono ?_
  rintro e w1 ⟨rfl, rfl⟩
  go_wp2_with fail
  refine (SoE.sortSt_none _ _ _ _).mono ?_
  rintro e w1 ⟨rfl, rfl⟩
  go_wp2
  go_ret
  exact ⟨rfl, Fr.alloc _ _ _⟩
theorem togH_none (w : World) : Calls Tryz.prog 74 #[.func (Fn.func 75) #[] #[], .slice none 0 0] w fun e w' => e = .returned (.slice none 0 0) ∧ Fr [] w w' := by
  go_enter Tryz.func74, Tryz.ntmps74
  go_wp2_with fail
  refine (concH_none _).mono ?_
  rintro e w1 ⟨rfl, rfl⟩
  go_wp2_with fail
  refine (SoH.sortSt_none _ _ _ _).mono ?_
  rintro e w1 ⟨rfl, rfl⟩
  go_wp2
  go_ret
  exact ⟨rfl, Fr.alloc _ _ _⟩
theorem Tryz.undHds17 : Tryz.prog.underlying 51 = some (.slice 97) := by kernel_rfl
theorem cloneH_none (w : World) : Calls Tryz.prog 103 #[.slice none 0 0] w fun e w' => e = .returned (.slice none 0 0) ∧ w = w' := by
  have q22 : ∀ (w : World) (a : Option Addr) (n c n' c' : Nat), (binOp .eql 51 (.slice a n c) (.slice none n' c')).run Tryz.prog w = .ok (.bool a.isNone) w := fun w a n c n' c' => Lib.run_eql_slice_nil w _ _ a n c n' c' Tryz.undHds17
  go_enter Tryz.func103, Tryz.ntmps103
  go_wp2
  go_ret
  exact ⟨rfl, rfl⟩
theorem copied_none (w : World) : Calls Tryz.prog 69 #[.slice none 0 0] w fun e w' => e = .returned (.slice none 0 0) ∧ w = w' := by
  go_enter Tryz.func69, Tryz.ntmps69
  go_wp2_with fail
  refine (cloneH_none _).mono ?_
  rintro e w1 ⟨rfl, rfl⟩
  go_wp2
  refine wp_loop_rounds 1 ?_
  rw [rounds_succ]
  go_wp2
  go_ret
  exact ⟨rfl, rfl⟩
theorem qallE_none {w : World} {t : Nat} {T : Tk} (h : TkM w t T) (he : T.ev = .slice none 0 0) : Calls Tryz.prog 27 #[.pointer (some ⟨t, 21, none⟩)] w fun e w' => ∃ eo ec, e = .returned (.slice eo 0 ec) ∧ (eo = none ∧ ec = 0) ∧ Fr [] w w' := by
  have c21 := h.c21
  rw [he] at c21
  clear h he
  go_enter Tryz.func27, Tryz.ntmps27
  go_wp2_with fail
  refine (togE_none _).mono ?_
  rintro e w1 ⟨rfl, hf⟩
  have HF : Hid (Fr [] w w1) := hf
  clear hf
  go_wp2
  go_ret
  exact ⟨none, 0, rfl, ⟨rfl, rfl⟩, HF.out⟩
theorem qallH_none {w : World} {t : Nat} {T : Tk} (h : TkM w t T) (he : T.hv = .slice none 0 0) : Calls Tryz.prog 28 #[.pointer (some ⟨t, 21, none⟩)] w fun e w' => ∃ v, e = .returned v ∧ v = .slice none 0 0 ∧ Fr [] w w' := by
  have c22 := h.c22
  rw [he] at c22
  clear h he
  go_enter Tryz.func28, Tryz.ntmps28
  go_wp2_with fail
  refine (togH_none _).mono ?_
  rintro e w1 ⟨rfl, hf⟩
  have HF : Hid (Fr [] w w1) := hf
  clear hf
  go_wp2_with fail
  refine (copied_none _).mono ?_
  rintro e w2 ⟨rfl, rfl⟩
  go_wp2
  go_ret
  exact ⟨_, rfl, rfl, HF.out⟩
end Go.Proofs.YtpdkdgmaofhlkaaGreatDoor

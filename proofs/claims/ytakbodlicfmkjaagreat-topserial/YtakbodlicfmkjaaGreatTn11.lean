/- A table's calls where they refuse; all calls of a table that New did not make. Conditions as each names them. -/
import Derived.Test.YtakbodlicfmkjaaGreatTi11
namespace Go.Proofs.YtakbodlicfmkjaaGreat
open Go.ChangeShapes Go.WideShapes Go.ChangeAt Go.RowKit Go.Lib Go.Maps
set_option linter.unusedVariables false
set_option linter.unusedSimpArgs false

set_option maxHeartbeats 2000000 in
set_option maxRecDepth 100000 in
theorem tadd_arg {tb : Nat} {B : List Nat} {n : Nat} {D : Dt} (nn : Int) (wo : Option Addr) (M mc : Nat) (ws : List Wt) (w : World) (h : Tb w tb B n D) (hW : WRs w wo ws) (hM : M = ws.length) (hni : i64 nn) (hok : ¬ okT nn ws) :
    Calls Tryz.prog 257 #[.pointer (some ⟨tb, 0, none⟩), .agg #[.int .i64 nn, .slice wo M mc]] w fun e w' => e = .returned (.tuple #[.int .i64 0, .int .i64 1]) ∧ Fr [] w w' := by
  obtain ⟨w0, HW0⟩ : ∃ w0, Hid (w.alloc (.cells #[.int .i64 nn, .slice wo M mc] 59) = w0) := ⟨_, rfl⟩
  have hF0 : Fr [] w w0 := by rw [← HW0.out]; exact Fr.alloc [] w _
  have hb0 : w0.heap[w.heap.size]? = some (.cells #[.int .i64 nn, .slice wo M mc] 59 (0, 0)) := by rw [← HW0.out]; exact heap_alloc_new w _
  have HBX : Hid (∀ W, Fr [] w0 W → W.cell? ⟨w.heap.size, 0, none⟩ = some (.int .i64 nn) ∧ W.cell? ⟨w.heap.size, 1, none⟩ = some (.slice wo M mc)) := fun W hf => by
    have hb := hf.keep hb0 (by simp)
    exact ⟨by rw [cell_of_row _ _ _ _ _ _ hb]; rfl, by rw [cell_of_row _ _ _ _ _ _ hb]; rfl⟩
  have HM : Hid (M = ws.length) := hM
  have HOK : Hid (¬ okT nn ws) := hok
  have HWr : Hid (∀ W, Fr [] w W → WRs W wo ws) := fun W hf => hW.keep hf
  have HTb : Hid (∀ W, Fr [] w W → Tb W tb B n D) := fun W hf => h.quiet hf
  clear h hM hok hW hb0
  go_enter Tryz.func257, Tryz.ntmps257
  go_upto_region 1 with fail
  rw [HW0.out]
  clear HW0
  go_wp2_with fail
  refine (tthere_any _ (HTb.out _ hF0)).mono ?_
  rintro e w1 ⟨rfl, hF1⟩
  have hG1 := hF0.then hF1
  obtain ⟨d0, d1⟩ := HBX.out w1 hF1
  go_wp2_with fail
  refine (check_any nn wo M mc 1 ws _ (HWr.out _ hG1) HM.out hni.1 hni.2 (Or.inr ⟨HOK.out, rfl⟩)).mono ?_
  rintro e w2 ⟨rfl, hF2⟩
  have hG2 := hG1.then hF2
  go_wp2
  refine bodyPost_ret (results_tmp2 rfl _ _ _) rfl ?_
  exact ⟨rfl, hG2⟩
set_option maxHeartbeats 2000000 in
set_option maxRecDepth 100000 in
theorem tadd_order {tb : Nat} {B : List Nat} {n : Nat} {D : Dt} (nn : Int) (wo : Option Addr) (M mc : Nat) (ws : List Wt) (w : World) (h : Tb w tb B n D) (hW : WRs w wo ws) (hM : M = ws.length) (hok : okT nn ws) (hle : nn ≤ D.newest) :
    Calls Tryz.prog 257 #[.pointer (some ⟨tb, 0, none⟩), .agg #[.int .i64 nn, .slice wo M mc]] w fun e w' => e = .returned (.tuple #[.int .i64 0, .int .i64 6]) ∧ Fr [] w w' := by
  have hni : i64 nn := .of ⟨hok.1, hok.2.1⟩
  obtain ⟨w0, HW0⟩ : ∃ w0, Hid (w.alloc (.cells #[.int .i64 nn, .slice wo M mc] 59) = w0) := ⟨_, rfl⟩
  have hF0 : Fr [] w w0 := by rw [← HW0.out]; exact Fr.alloc [] w _
  have hb0 : w0.heap[w.heap.size]? = some (.cells #[.int .i64 nn, .slice wo M mc] 59 (0, 0)) := by rw [← HW0.out]; exact heap_alloc_new w _
  have HBX : Hid (∀ W, Fr [] w0 W → W.cell? ⟨w.heap.size, 0, none⟩ = some (.int .i64 nn) ∧ W.cell? ⟨w.heap.size, 1, none⟩ = some (.slice wo M mc)) := fun W hf => by
    have hb := hf.keep hb0 (by simp)
    exact ⟨by rw [cell_of_row _ _ _ _ _ _ hb]; rfl, by rw [cell_of_row _ _ _ _ _ _ hb]; rfl⟩
  have HM : Hid (M = ws.length) := hM
  have HOK : Hid (okT nn ws) := hok
  have HWr : Hid (∀ W, Fr [] w W → WRs W wo ws) := fun W hf => hW.keep hf
  have HTb : Hid (∀ W, Fr [] w W → Tb W tb B n D) := fun W hf => h.quiet hf
  obtain ⟨lb, ob, wb, E, hT⟩ := h
  obtain ⟨N0, hN0⟩ : ∃ N0, N0 = D.newest := ⟨_, rfl⟩
  have hb00 := hT.few
  have HT1 : Hid (∀ W, Fr [] w W → W.cell? ⟨tb, 1, none⟩ = some (.int .i64 N0)) := fun W hf => by rw [hN0]; exact (hT.keep hf (by simp)).c1
  rw [← hN0] at hb00 hle
  clear hT hM hok hW hb0 hN0
  go_enter Tryz.func257, Tryz.ntmps257
  go_upto_region 1 with fail
  rw [HW0.out]
  clear HW0
  go_wp2_with fail
  refine (tthere_any _ (HTb.out _ hF0)).mono ?_
  rintro e w1 ⟨rfl, hF1⟩
  have hG1 := hF0.then hF1
  obtain ⟨d0, d1⟩ := HBX.out w1 hF1
  go_wp2_with fail
  refine (check_any nn wo M mc 0 ws _ (HWr.out _ hG1) HM.out hni.1 hni.2 (Or.inl ⟨HOK.out, rfl⟩)).mono ?_
  rintro e w2 ⟨rfl, hF2⟩
  have hG2 := hG1.then hF2
  have hF02 := hF1.then hF2
  clear d0 d1 hG1 hF1 hF2
  obtain ⟨d0, d1⟩ := HBX.out w2 hF02
  have t1 := HT1.out _ hG2
  have hle2 : decide (nn ≤ N0) = true := by simpa using hle
  go_wp2_with fail
  go_quiet (fail)
  go_wp2
  refine bodyPost_ret (results_tmp2 rfl _ _ _) rfl ?_
  exact ⟨rfl, hG2.then (Fr.drewN _ _ _)⟩
theorem tdone_arg {tb : Nat} {B : List Nat} {n : Nat} {D : Dt} (m : Int) (w : World) (h : Tb w tb B n D) (hmi : i64 m) (hm : ¬ D.op m) :
    Calls Tryz.prog 340 #[.pointer (some ⟨tb, 0, none⟩), .int .i64 m] w fun e w' => e = .returned (.tuple #[.slice none 0 0, .int .i64 1]) ∧ Fr [] w w' := by
  have HC : Hid (Calls _ _ _ _ _) := twaits_no m w h hmi hm
  clear h hm
  go_enter Tryz.func340, Tryz.ntmps340
  go_wp2_with fail
  refine Calls.mono HC.out ?_
  rintro e w1 ⟨rfl, hF1⟩
  go_wp2
  refine bodyPost_ret (results_tmp2 rfl _ _ _) rfl ?_
  exact ⟨rfl, hF1⟩
section
variable {w : World} {tb : Nat} {B : List Nat} {n : Nat} {L : Lg} {en : Int → Prop}
theorem tl_add_arg (nn : Int) (wo : Option Addr) (M mc : Nat) (ws : List Wt) (w : World) (h : Tl w tb B n L en) (hW : WRs w wo ws) (hM : M = ws.length) (hni : i64 nn) (hok : ¬ okT nn ws) :
    Calls Tryz.prog 257 #[.pointer (some ⟨tb, 0, none⟩), .agg #[.int .i64 nn, .slice wo M mc]] w fun e w' => e = .returned (.tuple #[.int .i64 0, .int .i64 1]) ∧ Fr [] w w' := by
  obtain ⟨D, h1, h2, h3⟩ := h
  exact tadd_arg nn wo M mc ws w h1 hW hM hni hok
theorem tl_add_order (nn : Int) (wo : Option Addr) (M mc : Nat) (ws : List Wt) (w : World) (h : Tl w tb B n L en) (hW : WRs w wo ws) (hM : M = ws.length) (hok : okT nn ws) (p : Int × List ByteArray) (hp : p ∈ L) (hle : nn ≤ p.1) :
    Calls Tryz.prog 257 #[.pointer (some ⟨tb, 0, none⟩), .agg #[.int .i64 nn, .slice wo M mc]] w fun e w' => e = .returned (.tuple #[.int .i64 0, .int .i64 6]) ∧ Fr [] w w' := by
  obtain ⟨D, h1, h2, h3⟩ := h
  exact tadd_order nn wo M mc ws w h1 hW hM hok (Int.le_trans hle (h2.new.1 p hp))
theorem tl_done_arg (m : Int) (w : World) (h : Tl w tb B n L en) (hmi : i64 m) (hm : ¬ Op11 L en m) :
    Calls Tryz.prog 340 #[.pointer (some ⟨tb, 0, none⟩), .int .i64 m] w fun e w' => e = .returned (.tuple #[.slice none 0 0, .int .i64 1]) ∧ Fr [] w w' := by
  obtain ⟨D, h1, h2, h3⟩ := h
  rw [← h2.op_eq] at hm
  exact tdone_arg m w h1 hmi hm
theorem tl_waits_arg (m : Int) (w : World) (h : Tl w tb B n L en) (hmi : i64 m) (hm : ¬ Op11 L en m) :
    Calls Tryz.prog 345 #[.pointer (some ⟨tb, 0, none⟩), .int .i64 m] w fun e w' => e = .returned (.tuple #[.slice none 0 0, .int .i64 1]) ∧ Fr [] w w' := by
  obtain ⟨D, h1, h2, h3⟩ := h
  rw [← h2.op_eq] at hm
  exact twaits_no m w h1 hmi hm
end
/-- A table that New did not make: its struct of zeros lies in block z. -/
def NoT (w : World) (z : Nat) : Prop := w.heap[z]? = some (.cells #[.map none, .int .i64 0, .map none, .map none] 180 (0, 0))
theorem NoT.keep {S : List Nat} {w w' : World} {z : Nat} (h : NoT w z) (hf : Fr S w w') (hn : z ∉ S) : NoT w' z := hf.keep h hn
theorem zthere_any {z : Nat} (w : World) (h : NoT w z) : Calls Tryz.prog 77 #[.pointer (some ⟨z, 0, none⟩)] w fun e w' => e = .returned (.bool false) ∧ Fr [] w w' := by
  have qT : ∀ (w : World) (r : Option Nat), (binOp .neq 177 (.map r) (.map none)).run Tryz.prog w = .ok (.bool (!r.isNone)) w := fun w r => run_neq_map_nil w _ _ _ r Tryz.undLMap
  have c0 : w.cell? ⟨z, 0, none⟩ = some (.map none) := by rw [cell_of_row _ _ _ _ _ _ h]; rfl
  clear h
  go_enter Tryz.func77, Tryz.ntmps77
  go_wp2
  go_ret
  exact ⟨rfl, Fr.refl _ _⟩
theorem zopen_any {z : Nat} (w : World) (h : NoT w z) : Calls Tryz.prog 44 #[.pointer (some ⟨z, 0, none⟩)] w fun e w' => e = .returned (.slice none 0 0) ∧ Fr [] w w' := by
  have HT : Hid (Calls _ _ _ _ _) := zthere_any w h
  clear h
  go_enter Tryz.func44, Tryz.ntmps44
  go_wp2_with fail
  refine Calls.mono HT.out ?_
  rintro e w1 ⟨rfl, hF1⟩
  go_wp2
  go_ret
  exact ⟨rfl, hF1⟩
theorem zwaits_any {z : Nat} (m : Int) (w : World) (h : NoT w z) : Calls Tryz.prog 345 #[.pointer (some ⟨z, 0, none⟩), .int .i64 m] w fun e w' => e = .returned (.tuple #[.slice none 0 0, .int .i64 2]) ∧ Fr [] w w' := by
  have HT : Hid (Calls _ _ _ _ _) := zthere_any w h
  clear h
  go_enter Tryz.func345, Tryz.ntmps345
  go_wp2_with fail
  refine Calls.mono HT.out ?_
  rintro e w1 ⟨rfl, hF1⟩
  go_wp2
  refine bodyPost_ret (results_tmp2 rfl _ _ _) rfl ?_
  exact ⟨rfl, hF1⟩
theorem zdone_any {z : Nat} (m : Int) (w : World) (h : NoT w z) : Calls Tryz.prog 340 #[.pointer (some ⟨z, 0, none⟩), .int .i64 m] w fun e w' => e = .returned (.tuple #[.slice none 0 0, .int .i64 2]) ∧ Fr [] w w' := by
  have HC : Hid (Calls _ _ _ _ _) := zwaits_any m w h
  clear h
  go_enter Tryz.func340, Tryz.ntmps340
  go_wp2_with fail
  refine Calls.mono HC.out ?_
  rintro e w1 ⟨rfl, hF1⟩
  go_wp2
  refine bodyPost_ret (results_tmp2 rfl _ _ _) rfl ?_
  exact ⟨rfl, hF1⟩
theorem zadd_any {z : Nat} (nn : Int) (wo : Option Addr) (M mc : Nat) (w : World) (h : NoT w z) : Calls Tryz.prog 257 #[.pointer (some ⟨z, 0, none⟩), .agg #[.int .i64 nn, .slice wo M mc]] w fun e w' => e = .returned (.tuple #[.int .i64 0, .int .i64 2]) ∧ Fr [] w w' := by
  obtain ⟨w0, HW0⟩ : ∃ w0, Hid (w.alloc (.cells #[.int .i64 nn, .slice wo M mc] 59) = w0) := ⟨_, rfl⟩
  have hF0 : Fr [] w w0 := by rw [← HW0.out]; exact Fr.alloc [] w _
  have HT : Hid (Calls _ _ _ _ _) := zthere_any w0 (h.keep hF0 (by simp))
  clear h
  go_enter Tryz.func257, Tryz.ntmps257
  go_upto_region 1 with fail
  rw [HW0.out]
  go_wp2_with fail
  refine Calls.mono HT.out ?_
  rintro e w1 ⟨rfl, hF1⟩
  have hG := hF0.then hF1
  go_wp2
  refine bodyPost_ret (results_tmp2 rfl _ _ _) rfl ?_
  exact ⟨rfl, hG⟩
end Go.Proofs.YtakbodlicfmkjaaGreat

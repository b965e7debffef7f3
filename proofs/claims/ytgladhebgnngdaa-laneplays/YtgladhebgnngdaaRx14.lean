/- The document's lane: contracts of Next and Sent. Conditions as each names them. -/
import Derived.Test.YtgladhebgnngdaaRm14
namespace Go.Proofs.Ytgladhebgnngdaa
open Go.ChangeShapes Go.WideShapes Go.ChangeAt Go.RowKit Go.Lib Go.Maps
set_option linter.unusedVariables false
set_option linter.unusedSimpArgs false
section
variable {w : World} {rb : Nat} {nm l s x q h : Int} {v : Value} {sn ak : Int} {st : Option Hl} {S : List Nat}
set_option maxHeartbeats 2000000 in
set_option maxRecDepth 100000 in
theorem rlnext_nil (w : World) : Calls Try.prog 32 #[.pointer none] w fun e w' => e = .returned (.tuple #[.int .i64 0, Rq.zero.v, .bool false]) ∧ Fr [] w w' := by
  have hrow := fun z => (Fr.drewN [] (w.alloc (.cells #[.int .u8 0, .int .i64 0, .int .i64 0, .string ⟨#[]⟩, .string ⟨#[]⟩, .bool false, .string ⟨#[]⟩, .string ⟨#[]⟩, .slice none 0 0] 59)) z).keep (heap_alloc_new w (.cells #[.int .u8 0, .int .i64 0, .int .i64 0, .string ⟨#[]⟩, .string ⟨#[]⟩, .bool false, .string ⟨#[]⟩, .string ⟨#[]⟩, .slice none 0 0] 59)) (by simp)
  have HF : Hid (∀ z, Fr [] w ((w.alloc (.cells #[.int .u8 0, .int .i64 0, .int .i64 0, .string ⟨#[]⟩, .string ⟨#[]⟩, .bool false, .string ⟨#[]⟩, .string ⟨#[]⟩, .slice none 0 0] 59)).drewN z)) := fun z => (Fr.alloc _ _ _).then (Fr.drewN _ _ _)
  go_enter Try.func32, Try.ntmps32
  go_wp2_with fail
  go_quiet (fail)
  go_wp2_with (first
    | (refine wpList_store_row rfl 59 _ _ rfl w.heap.size #[.int .u8 0, .int .i64 0, .int .i64 0, .string ⟨#[]⟩, .string ⟨#[]⟩, .bool false, .string ⟨#[]⟩, .string ⟨#[]⟩, .slice none 0 0] rfl rfl _ _ (hrow _) (by kernel_rfl) rfl (rq_one _ _ _ _ _ _ _ _) ?_; rw [setRow_self _ _ _ _ _ (hrow _)]; go_frame)
    | fail)
  refine bodyPost_ret (results_tct_row rfl _ _ _ _ _ rfl (run_loadVar_row (P := Try.prog) _ w.heap.size _ 59 _ _ (.struct (Try.prog.fieldsOf 59)) (hrow _) (by kernel_rfl) rfl (by kernel_rfl))) rfl ?_
  exact ⟨rfl, HF.out _⟩
set_option maxHeartbeats 2000000 in
set_option maxRecDepth 100000 in
theorem rlnext_none (r : RlM w rb nm l s x q none S) : Calls Try.prog 32 #[.pointer (some ⟨rb, 0, none⟩)] w fun e w' => e = .returned (.tuple #[.int .i64 0, Rq.zero.v, .bool false]) ∧ Fr [] w w' := by
  have hrow := fun z => (Fr.drewN [] (w.alloc (.cells #[.int .u8 0, .int .i64 0, .int .i64 0, .string ⟨#[]⟩, .string ⟨#[]⟩, .bool false, .string ⟨#[]⟩, .string ⟨#[]⟩, .slice none 0 0] 59)) z).keep (heap_alloc_new w (.cells #[.int .u8 0, .int .i64 0, .int .i64 0, .string ⟨#[]⟩, .string ⟨#[]⟩, .bool false, .string ⟨#[]⟩, .string ⟨#[]⟩, .slice none 0 0] 59)) (by simp)
  have HF : Hid (∀ z, Fr [] w ((w.alloc (.cells #[.int .u8 0, .int .i64 0, .int .i64 0, .string ⟨#[]⟩, .string ⟨#[]⟩, .bool false, .string ⟨#[]⟩, .string ⟨#[]⟩, .slice none 0 0] 59)).drewN z)) := fun z => (Fr.alloc _ _ _).then (Fr.drewN _ _ _)
  obtain ⟨v, sn, ak, b⟩ := r
  have c5 := (b.keep (Fr.alloc [] w (.cells #[.int .u8 0, .int .i64 0, .int .i64 0, .string ⟨#[]⟩, .string ⟨#[]⟩, .bool false, .string ⟨#[]⟩, .string ⟨#[]⟩, .slice none 0 0] 59)) (by simp)).c5
  clear b
  go_enter Try.func32, Try.ntmps32
  go_wp2_with fail
  go_quiet (fail)
  go_wp2_with (first
    | (refine wpList_store_row rfl 59 _ _ rfl w.heap.size #[.int .u8 0, .int .i64 0, .int .i64 0, .string ⟨#[]⟩, .string ⟨#[]⟩, .bool false, .string ⟨#[]⟩, .string ⟨#[]⟩, .slice none 0 0] rfl rfl _ _ (hrow _) (by kernel_rfl) rfl (rq_one _ _ _ _ _ _ _ _) ?_; rw [setRow_self _ _ _ _ _ (hrow _)]; go_frame)
    | fail)
  refine bodyPost_ret (results_tct_row rfl _ _ _ _ _ rfl (run_loadVar_row (P := Try.prog) _ w.heap.size _ 59 _ _ (.struct (Try.prog.fieldsOf 59)) (hrow _) (by kernel_rfl) rfl (by kernel_rfl))) rfl ?_
  exact ⟨rfl, HF.out _⟩
set_option maxHeartbeats 2000000 in
set_option maxRecDepth 100000 in
theorem rlnext_done {hl : Hl} (r : RlM w rb nm l s x q (some hl) S) (h0 : hl.l = []) : Calls Try.prog 32 #[.pointer (some ⟨rb, 0, none⟩)] w fun e w' => e = .returned (.tuple #[.int .i64 0, Rq.zero.v, .bool false]) ∧ Fr [] w w' := by
  have hrow := fun z => (Fr.drewN [] (w.alloc (.cells #[.int .u8 0, .int .i64 0, .int .i64 0, .string ⟨#[]⟩, .string ⟨#[]⟩, .bool false, .string ⟨#[]⟩, .string ⟨#[]⟩, .slice none 0 0] 59)) z).keep (heap_alloc_new w (.cells #[.int .u8 0, .int .i64 0, .int .i64 0, .string ⟨#[]⟩, .string ⟨#[]⟩, .bool false, .string ⟨#[]⟩, .string ⟨#[]⟩, .slice none 0 0] 59)) (by simp)
  have HF : Hid (∀ z, Fr [] w ((w.alloc (.cells #[.int .u8 0, .int .i64 0, .int .i64 0, .string ⟨#[]⟩, .string ⟨#[]⟩, .bool false, .string ⟨#[]⟩, .string ⟨#[]⟩, .slice none 0 0] 59)).drewN z)) := fun z => (Fr.alloc _ _ _).then (Fr.drewN _ _ _)
  obtain ⟨ro, N, rc, al, sn, ak, b, hh⟩ := r
  have b1 := b.keep (Fr.alloc [] w (.cells #[.int .u8 0, .int .i64 0, .int .i64 0, .string ⟨#[]⟩, .string ⟨#[]⟩, .bool false, .string ⟨#[]⟩, .string ⟨#[]⟩, .slice none 0 0] 59)) (by simp)
  have c5 := b1.c5
  have c6 := b1.c6
  have c7 := b1.c7
  have hn : (hl.n == 0) = false := by have := hh.n0; simpa using this
  have hsN : sn = N := by
    have h1 := hh.left
    rw [h0] at h1
    have h2 := congrArg List.length h1
    rw [List.length_drop] at h2
    have := hh.len
    have := hh.most
    simp at h2
    omega
  subst hsN
  clear b b1 hh h0
  go_enter Try.func32, Try.ntmps32
  go_wp2_with fail
  go_quiet (fail)
  go_wp2_with (first
    | (refine wpList_store_row rfl 59 _ _ rfl w.heap.size #[.int .u8 0, .int .i64 0, .int .i64 0, .string ⟨#[]⟩, .string ⟨#[]⟩, .bool false, .string ⟨#[]⟩, .string ⟨#[]⟩, .slice none 0 0] rfl rfl _ _ (hrow _) (by kernel_rfl) rfl (rq_one _ _ _ _ _ _ _ _) ?_; rw [setRow_self _ _ _ _ _ (hrow _)]; go_frame)
    | fail)
  refine bodyPost_ret (results_tct_row rfl _ _ _ _ _ rfl (run_loadVar_row (P := Try.prog) _ w.heap.size _ 59 _ _ (.struct (Try.prog.fieldsOf 59)) (hrow _) (by kernel_rfl) rfl (by kernel_rfl))) rfl ?_
  exact ⟨rfl, HF.out _⟩
set_option maxHeartbeats 4000000 in
set_option maxRecDepth 100000 in
theorem rlnext_some {n : Int} {y : Wt} {r' : List Wt} {o : Nat} (r : RlM w rb nm l s x q (some ⟨n, y :: r', o⟩) S) : Calls Try.prog 32 #[.pointer (some ⟨rb, 0, none⟩)] w fun e w' => e = .returned (.tuple #[.int .i64 (Cf.shard ⟨l, s, x, q⟩ y.key).1, (Rq.mk 1 nm n y).v, .bool true]) ∧ Fr [] w w' := by
  have hF0 := Fr.alloc [] w (.cells #[.int .u8 0, .int .i64 0, .int .i64 0, .string ⟨#[]⟩, .string ⟨#[]⟩, .bool false, .string ⟨#[]⟩, .string ⟨#[]⟩, .slice none 0 0] 59)
  have hrow0 := heap_alloc_new w (.cells #[.int .u8 0, .int .i64 0, .int .i64 0, .string ⟨#[]⟩, .string ⟨#[]⟩, .bool false, .string ⟨#[]⟩, .string ⟨#[]⟩, .slice none 0 0] 59)
  have hrbl := r.lt
  obtain ⟨ro, N, rc, al, sn, ak, b, hh⟩ := r
  have hlen := hh.len
  have hleft := hh.left
  simp only at hleft
  have hfew := hh.few
  have hsN : sn < N := by
    have h2 := congrArg List.length hleft
    rw [List.length_drop] at h2
    simp at h2
    omega
  have hyd : al.getD sn Wt.zero = y := by
    have h3 : (al.drop sn)[0]? = some y := by rw [← hleft]; rfl
    rw [List.getElem?_drop] at h3
    simp only [Nat.add_zero] at h3
    simp [List.getD, h3]
  have hks : y.key.size ≤ 9223372036854775807 := by
    have hm : y ∈ al := by rw [← hyd]; exact wgetD_mem al sn (by omega)
    have := (hh.rs.each y hm).1
    omega
  obtain ⟨w0, HW0⟩ : ∃ w0, Hid (w.alloc (.cells #[.int .u8 0, .int .i64 0, .int .i64 0, .string ⟨#[]⟩, .string ⟨#[]⟩, .bool false, .string ⟨#[]⟩, .string ⟨#[]⟩, .slice none 0 0] 59) = w0) := ⟨_, rfl⟩
  obtain ⟨RB, HRb⟩ : ∃ RB, Hid (w.heap.size = RB) := ⟨_, rfl⟩
  rw [HW0.out] at hF0 hrow0
  rw [HRb.out] at hrow0 hrbl
  have HB : Hid (∀ W, Fr [] w0 W → RlB W rb nm l s x q n (.slice ro N rc) sn ak) := fun W hf => b.keep (hF0.then hf) (by simp)
  have HWr : Hid (∀ W, Fr [] w0 W → ∃ bb off, ro = some ⟨bb, off, none⟩ ∧ WAt W bb (off + sn * 3) y) := fun W hf => by
    obtain ⟨bb, off, e, _, hc⟩ := (hh.rs.keep (hF0.then hf)).lies (by omega)
    have := hc sn (by omega)
    rw [hyd] at this
    exact ⟨bb, off, e, this⟩
  have hn : (n == 0) = false := by have := hh.n0; simpa using this
  have HS : ∀ W, Calls _ _ _ _ _ := fun W => oshard_any l s x q y.key W hks
  obtain ⟨key, val, drop⟩ := y
  obtain ⟨sh, HSh⟩ : ∃ sh, Hid (Cf.shard ⟨l, s, x, q⟩ key = sh) := ⟨_, rfl⟩
  obtain ⟨s1, s2⟩ := sh
  simp only [HSh.out] at HS ⊢
  have HG0 : Hid (Fr [] w w0) := hF0
  have HRow0 : Hid (∀ W, Fr [] w0 W → W.heap[RB]? = some (.cells #[.int .u8 0, .int .i64 0, .int .i64 0, .string ⟨#[]⟩, .string ⟨#[]⟩, .bool false, .string ⟨#[]⟩, .string ⟨#[]⟩, .slice none 0 0] 59 (0, 0))) := fun W hf => hf.keep hrow0 (by simp)
  have HRl : Hid (w.heap.size = RB ∧ RB < w0.heap.size) := ⟨HRb.out, lt_of_block hrow0⟩
  obtain ⟨bb, off, rfl, _⟩ := HWr.out _ (Fr.refl _ _)
  have b0 := HB.out _ (Fr.refl _ _)
  have c5 := b0.c5
  have c6 := b0.c6
  have c7 := b0.c7
  have hsn1 : ((sn : Int) == (N : Int)) = false := by rw [beq_eq_false_iff_ne]; omega
  clear b hh hleft hyd HSh hF0 hrow0 b0 hlen
  go_enter Try.func32, Try.ntmps32
  go_upto_region 1 with fail
  rw [HW0.out, HRb.out]
  clear HW0 HRb
  go_quiet (fail)
  go_wp2_with fail
  obtain ⟨wq, hwq⟩ : ∃ wq, wq = w0.drewN nq := ⟨_, rfl⟩
  have hq : Fr [] w0 wq := by rw [hwq]; exact Fr.drewN _ _ _
  rw [← hwq]
  clear hwq c5 c6 c7
  have b0 := HB.out _ hq
  have c6 := b0.c6
  have c7 := b0.c7
  obtain ⟨_, _, e, d0, d1, d2⟩ := HWr.out _ hq
  cases e
  simp only at d0 d1 d2
  obtain ⟨c6', c7', d0', d1', d2'⟩ : wq.drew.cell? ⟨rb, 6, none⟩ = some (.slice (some ⟨bb, off, none⟩) N rc) ∧ wq.drew.cell? ⟨rb, 7, none⟩ = some (.int .i64 (sn : Int)) ∧ wq.drew.cell? ⟨bb, off + sn * 3, none⟩ = some (.string key) ∧ wq.drew.cell? ⟨bb, off + sn * 3 + 1, none⟩ = some (.string val) ∧ wq.drew.cell? ⟨bb, off + sn * 3 + 2, none⟩ = some (.bool drop) := ⟨c6, c7, d0, d1, d2⟩
  have hrbq := lt_of_block b0
  have hbbq : bb < wq.heap.size := World.block_lt_of_cell? wq _ d0
  have f3 := Fr.alloc [] wq (.cells #[.string key, .string val, .bool drop] 55)
  have hrowW := heap_alloc_new wq (.cells #[.string key, .string val, .bool drop] 55)
  clear b0
  go_region_held3 (fun W => W.cell? ⟨rb, 6, none⟩ = some (.slice (some ⟨bb, off, none⟩) N rc) ∧ W.cell? ⟨rb, 7, none⟩ = some (.int .i64 (sn : Int)) ∧ W.cell? ⟨bb, off + sn * 3, none⟩ = some (.string key) ∧ W.cell? ⟨bb, off + sn * 3 + 1, none⟩ = some (.string val) ∧ W.cell? ⟨bb, off + sn * 3 + 2, none⟩ = some (.bool drop)) (go_keep) (fail)
  obtain ⟨w3, HW3⟩ : ∃ w3, Hid ((wq.alloc (.cells #[.string key, .string val, .bool drop] 55)).drew = w3) := ⟨_, rfl⟩
  obtain ⟨B, HBb⟩ : ∃ B, Hid (wq.heap.size = B) := ⟨_, rfl⟩
  have f4 : Fr [] w0 w3 := by rw [← HW3.out]; exact (hq.then f3).then (Fr.drew _ _)
  have hrowB : w3.heap[B]? = some (.cells #[.string key, .string val, .bool drop] 55 (0, 0)) := by rw [← HW3.out, ← HBb.out]; exact hrowW
  have hlR' : RB ≠ rb := by omega
  have hBR' : RB ≠ B := by have := HRl.out.2; have := hq.size; rw [← HBb.out]; omega
  rw [HW3.out, HBb.out]
  clear HW3 HBb f3 hrowW c6 c7 d0 d1 d2 c6' c7' d0' d1' d2' hq hrbq hbbq HWr
  have HB3 : Hid (∀ W, Fr [] w3 W → RlB W rb nm l s x q n (.slice (some ⟨bb, off, none⟩) N rc) sn ak) := fun W hf => HB.out W (f4.then hf)
  have HRow : Hid (∀ W, Fr [] w3 W → W.heap[RB]? = some (.cells #[.int .u8 0, .int .i64 0, .int .i64 0, .string ⟨#[]⟩, .string ⟨#[]⟩, .bool false, .string ⟨#[]⟩, .string ⟨#[]⟩, .slice none 0 0] 59 (0, 0))) := fun W hf => HRow0.out W (f4.then hf)
  have HRw : Hid (∀ W, Fr [] w3 W → W.cell? ⟨B, 0, none⟩ = some (.string key) ∧ W.cell? ⟨B, 1, none⟩ = some (.string val) ∧ W.cell? ⟨B, 2, none⟩ = some (.bool drop)) := fun W hf => by
    have := hf.keep hrowB (by simp)
    exact ⟨by rw [cell_of_row _ _ _ _ _ _ this]; rfl, by rw [cell_of_row _ _ _ _ _ _ this]; rfl, by rw [cell_of_row _ _ _ _ _ _ this]; rfl⟩
  have HG3 : Hid (Fr [] w w3) := HG0.out.then f4
  clear f4 hrowB HB HRow0 HG0
  go_wp2_with fail
  have f1 : ∀ y : Wd13 w3, y.W.cell? ⟨rb, 1, none⟩ = some (.int .i64 l) := fun y => (HB3.out _ y.h).c1
  have f2 : ∀ y : Wd13 w3, y.W.cell? ⟨rb, 2, none⟩ = some (.int .i64 s) := fun y => (HB3.out _ y.h).c2
  have f3 : ∀ y : Wd13 w3, y.W.cell? ⟨rb, 3, none⟩ = some (.int .i64 x) := fun y => (HB3.out _ y.h).c3
  have f4 : ∀ y : Wd13 w3, y.W.cell? ⟨rb, 4, none⟩ = some (.int .i64 q) := fun y => (HB3.out _ y.h).c4
  have g0 : ∀ y : Wd13 w3, y.W.cell? ⟨B, 0, none⟩ = some (.string key) := fun y => (HRw.out _ y.h).1
  refine wp_region_wd13 (w1 := w3) (by kernel_rfl) (by kernel_rfl) (Fr.refl _ _) ?_
  repeat (go_big_quiet_step (first
    | (go_at_call 48; with_reducible refine (HS _).mono ?_; exact fun e w3 hh => ⟨hh.1, ⟨_, Fr.then (Wd13.h _) hh.2⟩, rfl⟩)))
  refine wpQuiet_nil ?_
  rintro _ ⟨z, rfl⟩
  clear f1 f2 f3 f4 g0 HS
  obtain ⟨wy, hy⟩ := z
  simp only
  have c0 : wy.cell? ⟨rb, 0, none⟩ = some (.int .i64 nm) := (HB3.out _ hy).c0
  have c5 : wy.cell? ⟨rb, 5, none⟩ = some (.int .i64 n) := (HB3.out _ hy).c5
  obtain ⟨b0, b1, b2⟩ := HRw.out _ hy
  have c0' : wy.drew.cell? ⟨rb, 0, none⟩ = some (.int .i64 nm) := c0
  have c5' : wy.drew.cell? ⟨rb, 5, none⟩ = some (.int .i64 n) := c5
  obtain ⟨b0', b1', b2'⟩ : wy.drew.cell? ⟨B, 0, none⟩ = some (.string key) ∧ wy.drew.cell? ⟨B, 1, none⟩ = some (.string val) ∧ wy.drew.cell? ⟨B, 2, none⟩ = some (.bool drop) := ⟨b0, b1, b2⟩
  have HRy := (show Hid _ from HRow.out _ (hy.then (Fr.drew _ wy)))
  have HRy0 := (show Hid _ from HRow.out _ hy)
  have zf : ∀ j, wy.drew.frozen? ⟨RB, j, none⟩ = false := fun j => by simp [World.frozen?, HRy.out]
  have zf0 : ∀ j, wy.frozen? ⟨RB, j, none⟩ = false := fun j => by simp [World.frozen?, HRy0.out]
  have r0 : wy.drew.cell? ⟨RB, 0, none⟩ = some (.int .u8 0) := by rw [cell_of_row _ _ _ _ _ _ HRy.out]; rfl
  have r1 : wy.drew.cell? ⟨RB, 1, none⟩ = some (.int .i64 0) := by rw [cell_of_row _ _ _ _ _ _ HRy.out]; rfl
  have r2 : wy.drew.cell? ⟨RB, 2, none⟩ = some (.int .i64 0) := by rw [cell_of_row _ _ _ _ _ _ HRy.out]; rfl
  have r3 : wy.drew.cell? ⟨RB, 3, none⟩ = some (.string ⟨#[]⟩) := by rw [cell_of_row _ _ _ _ _ _ HRy.out]; rfl
  have r4 : wy.drew.cell? ⟨RB, 4, none⟩ = some (.string ⟨#[]⟩) := by rw [cell_of_row _ _ _ _ _ _ HRy.out]; rfl
  have r5 : wy.drew.cell? ⟨RB, 5, none⟩ = some (.bool false) := by rw [cell_of_row _ _ _ _ _ _ HRy.out]; rfl
  have r6 : wy.drew.cell? ⟨RB, 6, none⟩ = some (.string ⟨#[]⟩) := by rw [cell_of_row _ _ _ _ _ _ HRy.out]; rfl
  have r7 : wy.drew.cell? ⟨RB, 7, none⟩ = some (.string ⟨#[]⟩) := by rw [cell_of_row _ _ _ _ _ _ HRy.out]; rfl
  have r8 : wy.drew.cell? ⟨RB, 8, none⟩ = some (.slice none 0 0) := by rw [cell_of_row _ _ _ _ _ _ HRy.out]; rfl
  have q0 : wy.cell? ⟨RB, 0, none⟩ = some (.int .u8 0) := by rw [cell_of_row _ _ _ _ _ _ HRy0.out]; rfl
  have q1 : wy.cell? ⟨RB, 1, none⟩ = some (.int .i64 0) := by rw [cell_of_row _ _ _ _ _ _ HRy0.out]; rfl
  have q2 : wy.cell? ⟨RB, 2, none⟩ = some (.int .i64 0) := by rw [cell_of_row _ _ _ _ _ _ HRy0.out]; rfl
  have q3 : wy.cell? ⟨RB, 3, none⟩ = some (.string ⟨#[]⟩) := by rw [cell_of_row _ _ _ _ _ _ HRy0.out]; rfl
  have q4 : wy.cell? ⟨RB, 4, none⟩ = some (.string ⟨#[]⟩) := by rw [cell_of_row _ _ _ _ _ _ HRy0.out]; rfl
  have q5 : wy.cell? ⟨RB, 5, none⟩ = some (.bool false) := by rw [cell_of_row _ _ _ _ _ _ HRy0.out]; rfl
  have q6 : wy.cell? ⟨RB, 6, none⟩ = some (.string ⟨#[]⟩) := by rw [cell_of_row _ _ _ _ _ _ HRy0.out]; rfl
  have q7 : wy.cell? ⟨RB, 7, none⟩ = some (.string ⟨#[]⟩) := by rw [cell_of_row _ _ _ _ _ _ HRy0.out]; rfl
  have q8 : wy.cell? ⟨RB, 8, none⟩ = some (.slice none 0 0) := by rw [cell_of_row _ _ _ _ _ _ HRy0.out]; rfl
  have f9 := fr_drew ((HG3.out.then hy).on (sets9_fr wy RB (.int .u8 1) (.int .i64 nm) (.int .i64 n) (.string key) (.string val) (.bool drop) (.string ⟨#[]⟩) (.string ⟨#[]⟩) (.slice none 0 0)) (by intro k hk; simp at hk; have := HRl.out.1; omega))
  have r9 := (drew_heap _ _).trans (sets9_row (b := RB) (.int .u8 1) (.int .i64 nm) (.int .i64 n) (.string key) (.string val) (.bool drop) (.string ⟨#[]⟩) (.string ⟨#[]⟩) (.slice none 0 0) HRy0.out)
  unfold sets9 at f9 r9
  have HF9 : Hid _ := f9
  have HR9 : Hid _ := r9
  clear f9 r9
  go_wp2_with fail
  go_region_held3 (fun W => W.cell? ⟨rb, 0, none⟩ = some (.int .i64 nm) ∧ W.cell? ⟨rb, 5, none⟩ = some (.int .i64 n) ∧ W.cell? ⟨B, 0, none⟩ = some (.string key) ∧ W.cell? ⟨B, 1, none⟩ = some (.string val) ∧ W.cell? ⟨B, 2, none⟩ = some (.bool drop)) (go_keep) (fail)
  all_goals (
    have hld := run_loadVar_row (P := Try.prog) _ RB _ 59 _ _ (.struct (Try.prog.fieldsOf 59)) HR9.out (by kernel_rfl) rfl (by kernel_rfl)
    go_wp2_with fail
    refine bodyPost_ret (results_tct_row rfl _ _ _ _ _ rfl hld) rfl ?_
    exact ⟨rfl, HF9.out⟩)
theorem rlnext_any (r : RlM w rb nm l s x q st S) : Calls Try.prog 32 #[.pointer (some ⟨rb, 0, none⟩)] w fun e w' => e = .returned (.tuple #[.int .i64 (nextS ⟨l, s, x, q⟩ st), (nextR nm st).v, .bool (nextB st)]) ∧ Fr [] w w' := by
  cases st with
  | none => exact rlnext_none r
  | some hl =>
    obtain ⟨n, ws, o⟩ := hl
    cases ws with
    | nil => exact rlnext_done r rfl
    | cons y r' => exact rlnext_some r
theorem rlsent_nil (w : World) : Calls Try.prog 29 #[.pointer none] w fun e w' => e = .returned (.int .i64 2) ∧ Fr [] w w' := by
  go_enter Try.func29, Try.ntmps29
  go_wp2
  go_ret
  exact ⟨rfl, Fr.refl _ _⟩
set_option maxHeartbeats 2000000 in
set_option maxRecDepth 100000 in
theorem rlsent_any (r : RlM w rb nm l s x q st S) : Calls Try.prog 29 #[.pointer (some ⟨rb, 0, none⟩)] w fun e w' => e = .returned (.int .i64 (sentE st)) ∧ RlM w' rb nm l s x q (sentS st) S ∧ Fr [rb] w w' := by
  have HN : Hid (Calls _ _ _ _ _) := rlnext_any r
  have HR : Hid (∀ W, Fr [] w W → RlM W rb nm l s x q st S) := r.kept
  obtain ⟨rq, HRq⟩ : ∃ rq, Hid (nextR nm st = rq) := ⟨_, rfl⟩
  obtain ⟨sv, HSv⟩ : ∃ sv, Hid (nextS ⟨l, s, x, q⟩ st = sv) := ⟨_, rfl⟩
  rw [HRq.out, HSv.out] at HN
  obtain ⟨k, f, m, ky, vl, dp⟩ := rq
  simp only [Rq.v] at HN
  clear HRq HSv
  cases hB : nextB st with
  | false =>
    rw [hB] at HN
    have E1 : sentE st = 9 ∧ sentS st = st := by
      cases st with
      | none => exact ⟨rfl, rfl⟩
      | some hl =>
        obtain ⟨n, ws, o⟩ := hl
        cases ws with
        | nil => exact ⟨rfl, rfl⟩
        | cons y r' => cases hB
    rw [E1.1, E1.2]
    clear r E1 hB
    go_enter Try.func29, Try.ntmps29
    go_wp2_with fail
    refine Calls.mono HN.out ?_
    rintro e w1 ⟨rfl, hF1⟩
    go_wp2_with fail
    go_ret
    have f := hF1.then (Fr.alloc [] w1 (.cells #[.int .u8 k, .int .i64 f, .int .i64 m, .string ky, .string vl, .bool dp, .string ⟨#[]⟩, .string ⟨#[]⟩, .slice none 0 0] 59))
    exact ⟨rfl, HR.out _ f, f.mono (by simp)⟩
  | true =>
    rw [hB] at HN
    cases st with
    | none => cases hB
    | some hl =>
      obtain ⟨n, ws, o⟩ := hl
      cases ws with
      | nil => cases hB
      | cons y r' =>
        obtain ⟨ro, N, rc, al, sn, ak, b, hh⟩ := r
        have HX : Hid (∀ W, Fr [] w W → RlM (W.setCell ⟨rb, 7, none⟩ (.int .i64 ((sn : Int) + 1))) rb nm l s x q (some ⟨n, r', o + 1⟩) S ∧ Fr [rb] w (W.setCell ⟨rb, 7, none⟩ (.int .i64 ((sn : Int) + 1))) ∧ W.cell? ⟨rb, 7, none⟩ = some (.int .i64 (sn : Int)) ∧ W.frozen? ⟨rb, 7, none⟩ = false) := by
          intro W hf
          have f1 : Fr [rb] W (W.setCell ⟨rb, 7, none⟩ (.int .i64 ((sn : Int) + 1))) := Fr.set _ _ _ (by simp)
          have hk := (hh.keep hf (by simp)).keepB f1
          have bW := b.keep hf (by simp)
          have hb := bW.set7 ((sn : Int) + 1)
          have hl1 := hk.left
          simp only at hl1
          have hlen2 := congrArg List.length hl1
          rw [List.length_drop] at hlen2
          simp at hlen2
          have hl2 := hk.len
          have ho := hk.out
          simp only at ho
          refine ⟨⟨ro, N, rc, al, sn + 1, ak, ?_, ⟨hk.rs, hk.len, hk.few, hk.n0, ?_, by omega, by simp only; omega, hk.own⟩⟩, (hf.mono (by simp)).then f1, bW.c7, bW.fz 7⟩
          · rw [show ((sn + 1 : Nat) : Int) = (sn : Int) + 1 by simp]
            exact hb
          · simp only
            rw [← List.drop_drop, ← hl1]
            rfl
        have hsn : sn ≤ 1000000 := by have := hh.most; have := hh.few; omega
        clear b hh hB HR
        go_enter Try.func29, Try.ntmps29
        go_wp2_with fail
        refine Calls.mono HN.out ?_
        rintro e w1 ⟨rfl, hF1⟩
        obtain ⟨x1, x2, x3, x4⟩ := HX.out _ (hF1.then (Fr.alloc [] w1 (.cells #[.int .u8 k, .int .i64 f, .int .i64 m, .string ky, .string vl, .bool dp, .string ⟨#[]⟩, .string ⟨#[]⟩, .slice none 0 0] 59)))
        have HX1 : Hid _ := x1
        have HX2 : Hid _ := x2
        clear x1 x2
        go_wp2_with fail
        go_ret
        exact ⟨rfl, HX1.out, HX2.out⟩
end
end Go.Proofs.Ytgladhebgnngdaa

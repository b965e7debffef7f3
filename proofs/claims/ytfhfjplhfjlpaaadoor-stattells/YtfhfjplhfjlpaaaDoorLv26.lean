/- Stats as values: equality; the statements' own check of fixed answers (the function lives) is true. No conditions. -/
import Derived.Test.YtfhfjplhfjlpaaaDoorLn26
namespace Go.Proofs.YtfhfjplhfjlpaaaDoor
open Go.ChangeShapes Go.WideShapes Go.ChangeAt Go.RowKit Go.Lib
set_option linter.unusedVariables false
set_option linter.unusedSimpArgs false

theorem Tryd.undSt : Tryd.prog.underlying 27 = some (.struct (Tryd.prog.fieldsOf 27)) := by kernel_rfl
theorem Tryd.heldSt : Tryd.prog.stoodInHeld 27 = false := by kernel_rfl
theorem Tryd.guardSt : Tryd.prog.eqGuardType Tryd.prog.depth 27 = false := by kernel_rfl
theorem Tryd.fieldsSt : (Tryd.prog.fieldsOf 27).toList.map (fun f => (f.name == "_", f.type, f.offset)) = [(false, 3, 0), (false, 3, 1), (false, 3, 2), (false, 3, 3), (false, 3, 4)] := by kernel_rfl
def sameSt (x y : Sst) : Bool := x.n == y.n && (x.i == y.i && (x.g == y.g && (x.b == y.b && x.r == y.r)))
theorem sameSt_iff (x y : Sst) : sameSt x y = true ↔ x = y := by
  obtain ⟨a0, a1, a2, a3, a4⟩ := x
  obtain ⟨b0, b1, b2, b3, b4⟩ := y
  simp only [sameSt, Bool.and_eq_true, beq_iff_eq, Sst.mk.injEq]
set_option maxRecDepth 100000 in
theorem st_fields (w : World) (x y : Sst) : (Op.equalIn 10000 27 (.agg #[.int .i64 x.n, .int .i64 x.i, .int .i64 x.g, .int .i64 x.b, .int .i64 x.r]) (.agg #[.int .i64 y.n, .int .i64 y.i, .int .i64 y.g, .int .i64 y.b, .int .i64 y.r])).run Tryd.prog w = .ok (sameSt x y) w := by
  rw [run_equalIn_struct w 9999 _ _ _ Tryd.undSt Tryd.heldSt]
  have hF := Tryd.fieldsSt
  obtain ⟨l, hl⟩ : ∃ l, l = (Tryd.prog.fieldsOf 27).toList := ⟨_, rfl⟩
  rw [← hl] at hF ⊢
  match l, hF with
  | [f0, f1, f2, f3, f4], hF =>
    simp only [List.map_cons, List.map_nil, List.cons.injEq, Prod.mk.injEq, and_true] at hF
    obtain ⟨⟨n0, t0, o0⟩, ⟨n1, t1, o1⟩, ⟨n2, t2, o2⟩, ⟨n3, t3, o3⟩, ⟨n4, t4, o4⟩⟩ := hF
    have m0 : f0.name ≠ "_" := by simpa using n0
    have m1 : f1.name ≠ "_" := by simpa using n1
    have m2 : f2.name ≠ "_" := by simpa using n2
    have m3 : f3.name ≠ "_" := by simpa using n3
    have m4 : f4.name ≠ "_" := by simpa using n4
    simp only [Op.eqFields, if_pos m0, if_pos m1, if_pos m2, if_pos m3, if_pos m4, t0, t1, t2, t3, t4, o0, o1, o2, o3, o4]
    rw [estep_field (epart_int w _ 0 _ rfl) (epart_int w _ 0 _ rfl) (eeq_int w x.n y.n)]
    rw [estep_field (epart_int w _ 1 _ rfl) (epart_int w _ 1 _ rfl) (eeq_int w x.i y.i)]
    rw [estep_field (epart_int w _ 2 _ rfl) (epart_int w _ 2 _ rfl) (eeq_int w x.g y.g)]
    rw [estep_field (epart_int w _ 3 _ rfl) (epart_int w _ 3 _ rfl) (eeq_int w x.b y.b)]
    rw [estep_field (epart_int w _ 4 _ rfl) (epart_int w _ 4 _ rfl) (eeq_int w x.r y.r)]
    unfold sameSt
    cases (x.n == y.n) <;> cases (x.i == y.i) <;> cases (x.g == y.g) <;> cases (x.b == y.b) <;> cases (x.r == y.r) <;> simp
theorem st_neq (w : World) (x y : Sst) : (binOp .neq 27 (.agg #[.int .i64 x.n, .int .i64 x.i, .int .i64 x.g, .int .i64 x.b, .int .i64 x.r]) (.agg #[.int .i64 y.n, .int .i64 y.i, .int .i64 y.g, .int .i64 y.b, .int .i64 y.r])).run Tryd.prog w = .ok (.bool (!sameSt x y)) w := by
  rw [run_neq_struct, st_fields]
  rfl
theorem st_eql (w : World) (x y : Sst) : (binOp .eql 27 (.agg #[.int .i64 x.n, .int .i64 x.i, .int .i64 x.g, .int .i64 x.b, .int .i64 x.r]) (.agg #[.int .i64 y.n, .int .i64 y.i, .int .i64 y.g, .int .i64 y.b, .int .i64 y.r])).run Tryd.prog w = .ok (.bool (sameSt x y)) w := by
  rw [run_eql_struct, st_fields]
  rfl
/-- The chapter's row. -/
def lE : List Ev := [⟨0, 3, 3, 0, 0, 1⟩, ⟨1, 4, 0, 0, 0, 0⟩, ⟨2, 4, 0, 0, 0, 0⟩, ⟨0, 7, 3, 0, 0, 0⟩, ⟨0, 7, -1, 0, 0, 0⟩, ⟨1, 6, 0, 0, 0, 0⟩, ⟨0, 12, -1, 0, 0, 0⟩]
theorem l_sta : sta 2 lE 7 = ⟨7, 1, 2, 2, 1⟩ := by rfl
theorem l_lns : lnS 2 lE 7 = [4, 5] := by rfl
def evV (e : Ev) : List Value := [.int .i64 e.t, .int .u8 e.k, .int .i64 e.n, .int .i64 e.s, .int .i64 e.c, .int .i64 e.m]
def bA : Obj := .cells #[.int .i64 2, .int .i64 1, .int .i64 4, .int .i64 1] 23
def bE : Obj := .cells (lE.flatMap evV).toArray 54
def wLv (w : World) : World := (w.alloc bA).alloc bE
theorem wLv_fr (w : World) : Fr [] w (wLv w) := (Fr.alloc [] w _).then (Fr.alloc [] _ _)
theorem wLv_a (w : World) : (wLv w).heap[w.heap.size]? = some bA := by
  unfold wLv
  exact (Fr.alloc [] _ _).keep (heap_alloc_new w bA) (by simp)
theorem wLv_e (w : World) : (wLv w).heap[w.heap.size + 1]? = some bE := by
  unfold wLv
  have := heap_alloc_new (w.alloc bA) bE
  rwa [World.size_alloc] at this
theorem lE_each : ∀ x ∈ lE, EEach x := by
  intro x hx
  simp only [lE, List.mem_cons, List.not_mem_nil, or_false] at hx
  rcases hx with rfl | rfl | rfl | rfl | rfl | rfl | rfl <;> exact ⟨by simp [I6], by simp, by simp [I6], by simp [I6], by simp [I6], by simp [I6]⟩
theorem wLv_ers (w : World) : ERs (wLv w) (some ⟨w.heap.size + 1, 0, none⟩) lE := by
  have h := wLv_e w
  refine ⟨fun _ => ⟨_, 0, rfl, lt_of_block h, fun i hi => ?_⟩, by simp [lE], lE_each⟩
  have hi7 : i < 7 := hi
  have key : ∀ j, (wLv w).cell? ⟨w.heap.size + 1, j, none⟩ = ((lE.flatMap evV).toArray)[j]? := fun j => cell_of_row _ _ _ _ _ _ h
  obtain rfl | rfl | rfl | rfl | rfl | rfl | rfl : i = 0 ∨ i = 1 ∨ i = 2 ∨ i = 3 ∨ i = 4 ∨ i = 5 ∨ i = 6 := by omega
  all_goals exact ⟨by rw [key]; rfl, by rw [key]; rfl, by rw [key]; rfl, by rw [key]; rfl, by rw [key]; rfl, by rw [key]; rfl⟩
theorem l_may : Cf.may ⟨(2 : Nat), 1, 4, 1⟩ := by simp [Cf.may]
set_option maxHeartbeats 8000000 in
set_option maxRecDepth 100000 in
theorem lives_any (w : World) : Calls Tryd.prog 13 #[] w fun e w' => e = .returned (.bool true) ∧ Fr [] w w' := by
  have HC1 : Hid (∀ W, Fr [] (wLv w) W → Calls Tryd.prog 5 #[.agg #[.int .i64 2, .int .i64 1, .int .i64 4, .int .i64 1], .slice (some ⟨w.heap.size + 1, 0, none⟩) 7 7] W fun e w' => e = .returned (.tuple #[.agg #[.int .i64 7, .int .i64 1, .int .i64 2, .int .i64 2, .int .i64 1], .int .i64 0]) ∧ Fr [] W w') := fun W hf => by
    have := of_ok 2 1 4 1 (some ⟨w.heap.size + 1, 0, none⟩) 7 7 lE W l_may ((wLv_ers w).keep hf) rfl
    rw [l_sta] at this
    exact this
  have HC2 : Hid (∀ W, Fr [] (wLv w) W → Calls Tryd.prog 6 #[.agg #[.int .i64 2, .int .i64 1, .int .i64 4, .int .i64 1], .slice (some ⟨w.heap.size + 1, 0, none⟩) 7 7] W fun e w' => ∃ m, e = .returned (.tuple #[.slice (some ⟨m, 0, none⟩) 2 2, .int .i64 0]) ∧ W.heap.size ≤ m ∧ NR w' m [4, 5] ∧ Fr [] W w') := fun W hf => by
    have := ln_ok 2 1 4 1 (some ⟨w.heap.size + 1, 0, none⟩) 7 7 lE W l_may ((wLv_ers w).keep hf) rfl
    rw [l_lns] at this
    exact this
  have HCf : Hid (∀ W, Fr [] (wLv w) W → W.cell? ⟨w.heap.size, 0, none⟩ = some (.int .i64 2) ∧ W.cell? ⟨w.heap.size, 1, none⟩ = some (.int .i64 1) ∧ W.cell? ⟨w.heap.size, 2, none⟩ = some (.int .i64 4) ∧ W.cell? ⟨w.heap.size, 3, none⟩ = some (.int .i64 1)) := fun W hf => by
    have h := hf.keep (wLv_a w) (by simp)
    exact ⟨by rw [cell_of_row _ _ _ _ _ _ h]; rfl, by rw [cell_of_row _ _ _ _ _ _ h]; rfl, by rw [cell_of_row _ _ _ _ _ _ h]; rfl, by rw [cell_of_row _ _ _ _ _ _ h]; rfl⟩
  have HF : Hid (Fr [] w (wLv w)) := wLv_fr w
  obtain ⟨wl, hwl⟩ : ∃ wl, wl = wLv w := ⟨_, rfl⟩
  have HW : Hid ((w.alloc (.cells #[.int .i64 2, .int .i64 1, .int .i64 4, .int .i64 1] 23)).alloc (.cells #[.int .i64 0, .int .u8 3, .int .i64 3, .int .i64 0, .int .i64 0, .int .i64 1, .int .i64 1, .int .u8 4, .int .i64 0, .int .i64 0, .int .i64 0, .int .i64 0, .int .i64 2, .int .u8 4, .int .i64 0, .int .i64 0, .int .i64 0, .int .i64 0, .int .i64 0, .int .u8 7, .int .i64 3, .int .i64 0, .int .i64 0, .int .i64 0, .int .i64 0, .int .u8 7, .int .i64 (-1), .int .i64 0, .int .i64 0, .int .i64 0, .int .i64 1, .int .u8 6, .int .i64 0, .int .i64 0, .int .i64 0, .int .i64 0, .int .i64 0, .int .u8 12, .int .i64 (-1), .int .i64 0, .int .i64 0, .int .i64 0] 54) = wl) := hwl.symm
  rw [← hwl] at HC1 HC2 HCf HF
  obtain ⟨n, hn⟩ : ∃ n, n = w.heap.size := ⟨_, rfl⟩
  have HNn : Hid (w.heap.size = n) := hn.symm
  rw [← hn] at HC1 HC2 HCf
  clear hwl hn
  go_enter Tryd.func13, Tryd.ntmps13
  go_upto_region 3 with fail
  rw [HW.out, HNn.out]
  obtain ⟨k0, k1, k2, k3⟩ := HCf.out wl (Fr.refl _ _)
  go_wp2_with fail
  with_reducible refine Calls.mono (HC1.out wl (Fr.refl _ _)) ?_
  rintro e w1 ⟨rfl, hf1⟩
  obtain ⟨w2, HW2⟩ : ∃ w2, Hid (w1.alloc (.cells #[.int .i64 7, .int .i64 1, .int .i64 2, .int .i64 2, .int .i64 1] 27) = w2) := ⟨_, rfl⟩
  obtain ⟨sb, HSb⟩ : ∃ sb, Hid (w1.heap.size = sb) := ⟨_, rfl⟩
  have hf2 : Fr [] w1 w2 := by rw [← HW2.out]; exact Fr.alloc _ _ _
  have hs2 : w2.heap[sb]? = some (.cells (stA 7 1 2 2 1) 27 (0, 0)) := by rw [← HW2.out, ← HSb.out]; exact heap_alloc_new _ _
  have HS2 : Hid (∀ W, Fr [] w2 W → W.heap[sb]? = some (.cells (stA 7 1 2 2 1) 27 (0, 0))) := fun W hf => hf.keep hs2 (by simp)
  have HF2 : Hid (Fr [] wl w2) := hf1.then hf2
  clear hf1 k0 k1 k2 k3 HC1 HW hf2 hs2
  obtain ⟨k0, k1, k2, k3⟩ := HCf.out w2 HF2.out
  go_upto_region 4 with fail
  rw [HW2.out, HSb.out]
  go_wp2_with fail
  with_reducible refine Calls.mono (HC2.out w2 HF2.out) ?_
  rintro e w3 ⟨m, rfl, _, hN, hf3⟩
  have HF3 : Hid (Fr [] w2 w3) := hf3
  have hr := HS2.out _ hf3
  have q0 : w3.cell? ⟨sb, 0, none⟩ = some (.int .i64 7) := by rw [cell_of_row _ _ _ _ _ _ hr]; rfl
  have q1 : w3.cell? ⟨sb, 1, none⟩ = some (.int .i64 1) := by rw [cell_of_row _ _ _ _ _ _ hr]; rfl
  have q2 : w3.cell? ⟨sb, 2, none⟩ = some (.int .i64 2) := by rw [cell_of_row _ _ _ _ _ _ hr]; rfl
  have q3 : w3.cell? ⟨sb, 3, none⟩ = some (.int .i64 2) := by rw [cell_of_row _ _ _ _ _ _ hr]; rfl
  have q4 : w3.cell? ⟨sb, 4, none⟩ = some (.int .i64 1) := by rw [cell_of_row _ _ _ _ _ _ hr]; rfl
  have z0 : w3.cell? ⟨m, 0, none⟩ = some (.int .i64 4) := hN.cell 0 (by simp)
  have z1 : w3.cell? ⟨m, 1, none⟩ = some (.int .i64 5) := hN.cell 1 (by simp)
  have he : (binOp .eql 27 (.agg #[.int .i64 7, .int .i64 1, .int .i64 2, .int .i64 2, .int .i64 1]) (.agg #[.int .i64 7, .int .i64 1, .int .i64 2, .int .i64 2, .int .i64 1])).run Tryd.prog w3 = .ok (.bool true) w3 := st_eql w3 ⟨7, 1, 2, 2, 1⟩ ⟨7, 1, 2, 2, 1⟩
  clear hf3 k0 k1 k2 k3 hN hr
  go_wp2_with fail
  go_ret
  exact ⟨rfl, HF.out.then (HF2.out.then HF3.out)⟩
end Go.Proofs.YtfhfjplhfjlpaaaDoor

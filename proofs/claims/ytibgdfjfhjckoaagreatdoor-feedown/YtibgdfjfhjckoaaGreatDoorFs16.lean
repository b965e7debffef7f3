/- The program's feed: contracts of handOn, Skip, Dispatch. Conditions as each names them. -/
import Derived.Test.YtibgdfjfhjckoaaGreatDoorFr16
namespace Go.Proofs.YtibgdfjfhjckoaaGreatDoor
open Go.ChangeShapes Go.WideShapes Go.ChangeAt Go.RowKit Go.Lib Go.Maps
set_option linter.unusedVariables false
set_option linter.unusedSimpArgs false

/-- delete at the operation. -/
theorem wpList_del {P : Program} (w : World) {ops : Array Oper} {rest : List Oper} {op : Oper} {a : Act} {Q : Exit → Act → World → Prop} (hgd : op.guard = none) (m x : Operand) (t k : TypeId)
    (ho : op.op = .call { callee := .builtin .delete, args := #[m, x], argTypes := #[t, k] }) (mv kv : Value) (hm : a.eval m = mv) (hx : a.eval x = kv) {R : World → Prop}
    (hE : ∃ w', (Builtin.delete_ #[t, k] op.type #[mv, kv]).run P w = .ok (.tuple #[]) w' ∧ R w')
    (h : ∀ w', R w' → wpList P ops Q rest (a.put op.dst (.tuple #[])) w') : wpList P ops Q (op :: rest) a w := by
  refine wpList_plain hgd fun K hK => ?_
  obtain ⟨w', hr, hR⟩ := hE
  unfold Oper.wp execOp
  simp only [ho, resolve, invoke, builtin, Sem.run_bind, Sem.run_pure, Result.andThen_ok, List.map_toArray, List.map_cons, List.map_nil, hm, hx, hr]
  exact hK _ _ (h w' hR)
theorem field_txn (x : Int) (o : Option Addr) (n c : Nat) (V : World) : (Instr.field 49 (.agg #[.int .i64 x, .slice o n c]) 0).run Tryz.prog V = .ok (.int .i64 x) V := by kernel_rfl
section
variable {w0 w w' : World} {f g lb L : Nat} {ts : List Tm} {v : Value} {qs : List Nat} {mb : Nat} {bs : List Int} {s : Fe} {hw : Value}
set_option maxHeartbeats 4000000 in
set_option maxRecDepth 100000 in
theorem fHandOn_any (h : FdM w0 w f g lb L ts v qs mb bs s hw) (hv : s.hv = true) : Calls Tryz.prog 26 #[.pointer (some ⟨f, 0, none⟩)] w fun e w' => e = .returned (.agg #[.int .i64 (s.rd : Int), hw]) ∧ FdM w0 w' f g lb L ts v qs mb bs { s with hv := false } (.slice none 0 0) ∧ Fr [f] w w' := by
  obtain ⟨o, n, c, rfl⟩ := h.slot
  have hnum : s.num = s.rd := by simp [Fe.num, hv]
  have HH : Hid (FdM w0 w f g lb L ts v qs mb bs s (.slice o n c)) := h
  obtain ⟨W1, HW1⟩ : ∃ W1, Hid (w.alloc (.cells #[.int .i64 0, .slice none 0 0] 49) = W1) := ⟨_, rfl⟩
  have hF1 : Fr [] w W1 := by rw [← HW1.out]; exact Fr.alloc _ _ _
  have hB1 : B2 W1 w.heap.size (.int .i64 0) (.slice none 0 0) := ⟨by rw [← HW1.out]; exact heap_alloc_new _ _⟩
  have h1 := h.keep hF1
  obtain ⟨W2, HW2⟩ : ∃ W2, Hid (W1.alloc (.cells #[.int .i64 (s.rd : Int), .slice o n c] 49) = W2) := ⟨_, rfl⟩
  have hF2 : Fr [] W1 W2 := by rw [← HW2.out]; exact Fr.alloc _ _ _
  obtain ⟨B, HB⟩ : ∃ B, Hid (W1.heap.size = B) := ⟨_, rfl⟩
  have hB2 : B2 W2 B (.int .i64 (s.rd : Int)) (.slice o n c) := ⟨by rw [← HW2.out, ← HB.out]; exact heap_alloc_new _ _⟩
  have hA2 := hB1.keep hF2
  have h2 := h1.keep hF2
  obtain ⟨c5, c6⟩ : _ ∧ _ := ⟨h1.c5, h1.c6⟩
  rw [hnum] at c5
  obtain ⟨d5, d6, z5, z6⟩ : _ ∧ _ ∧ _ ∧ _ := ⟨h2.c5, h2.c6, h2.fz 5, h2.fz 6⟩
  obtain ⟨b0, b1⟩ : _ ∧ _ := ⟨hB2.c0, hB2.c1⟩
  obtain ⟨a0, a1, az0, az1⟩ : _ ∧ _ ∧ _ ∧ _ := ⟨hA2.c0, hA2.c1, hA2.f0, hA2.f1⟩
  obtain ⟨A, HA⟩ : ∃ A, Hid (w.heap.size = A) := ⟨_, rfl⟩
  have hfA : f ≠ A := by have := h.lt; rw [← HA.out]; omega
  have hfB : f ≠ B := by have := h1.lt; rw [← HB.out]; omega
  have hAB : A ≠ B := by have := hB1.lt; rw [← HA.out, ← HB.out]; omega
  have hfA' : A ≠ f := fun e => hfA e.symm
  have hfB' : B ≠ f := fun e => hfB e.symm
  have hAB' : B ≠ A := fun e => hAB e.symm
  rw [HA.out] at a0 a1 az0 az1
  have HE : Hid (FdM w0 ((((W2.setCell ⟨f, 5, none⟩ (.int .i64 0)).setCell ⟨f, 6, none⟩ (.slice none 0 0)).setCell ⟨A, 0, none⟩ (.int .i64 (s.rd : Int))).setCell ⟨A, 1, none⟩ (.slice o n c)) f g lb L ts v qs mb bs { s with hv := false } (.slice none 0 0) ∧ Fr [f] w ((((W2.setCell ⟨f, 5, none⟩ (.int .i64 0)).setCell ⟨f, 6, none⟩ (.slice none 0 0)).setCell ⟨A, 0, none⟩ (.int .i64 (s.rd : Int))).setCell ⟨A, 1, none⟩ (.slice o n c))) := by
    have hFa : Fr [f] w ((W2.setCell ⟨f, 5, none⟩ (.int .i64 0)).setCell ⟨f, 6, none⟩ (.slice none 0 0)) := ((hF1.then hF2).mono (by simp)).then ((Fr.set _ _ _ (by simp)).then (Fr.set _ _ _ (by simp)))
    have hFz := hFa.trans (Fr.box2 ((W2.setCell ⟨f, 5, none⟩ (.int .i64 0)).setCell ⟨f, 6, none⟩ (.slice none 0 0)) A (.int .i64 (s.rd : Int)) (.slice o n c)) (U := [f]) (fun x hx _ => hx) (fun x hx hl => by simp at hx; rw [HA.out] at hl; omega)
    have hb := fd_set (j := 6) (.slice none 0 0) (fd_set (j := 5) (.int .i64 0) h2.box)
    have hb2 := (Fr.box2 ((W2.setCell ⟨f, 5, none⟩ (.int .i64 0)).setCell ⟨f, 6, none⟩ (.slice none 0 0)) A (.int .i64 (s.rd : Int)) (.slice o n c)).keep hb (by simpa using hfA)
    exact ⟨h.upd hFz hb2 rfl rfl h.rf h.fl (fun e => by cases e) ⟨_, _, _, rfl⟩, hFz⟩
  clear h h1 h2 HH hB1 hB2 hA2 hF1 hF2 hnum
  go_enter Tryz.func26, Tryz.ntmps26
  go_upto_region 1 with fail
  rw [HW1.out, HA.out]
  go_upto_region 2 with fail
  rw [HW2.out, HB.out]
  clear HW1 HW2 HA HB
  go_wp2
  refine bodyPost_ret (v := .agg #[.int .i64 (s.rd : Int), .slice o n c]) (by rw [res_cell1 rfl]; go_simp) rfl ⟨rfl, HE.out⟩
end
end Go.Proofs.YtibgdfjfhjckoaaGreatDoor

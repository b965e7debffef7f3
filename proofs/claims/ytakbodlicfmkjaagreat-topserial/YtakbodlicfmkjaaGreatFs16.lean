/- The program's feed: contracts of handOn, Skip, Dispatch. Conditions as each names them. -/
import Derived.Test.YtakbodlicfmkjaaGreatFr16
namespace Go.Proofs.YtakbodlicfmkjaaGreat.F
open Go.ChangeShapes Go.WideShapes Go.ChangeAt Go.RowKit Go.Lib Go.Maps
set_option linter.unusedVariables false
set_option linter.unusedSimpArgs false

/-- delete at the operation. -/
theorem wpList_del {P : Program} (w : World) {ops : Array Oper} {rest : List Oper} {op : Oper} {a : Act} {Q : Exit → Act → World → Prop} (hgd : op.guard = none) (m x : Operand) (t k : TypeId)
    (ho : op.op = .call { callee := .builtin .delete, args := #[m, x], argTypes := #[t, k] }) (mv kv : Value) (hm : a.eval m = mv) (hx : a.eval x = kv) {R : World → Prop}
    (hE : ∃ w', (Builtin.delete_ #[t, k] op.type #[mv, kv]).run P w = .ok (.tuple #[]) w' ∧ R w')
    (h : ∀ w', R w' → wpList P ops Q rest (a.put op.dst (.tuple #[])) w') : wpList P ops Q (op :: rest) a w := by
  refine wpList_plain hgd fun K hK => ?_
  obtain ⟨w', hr, hR⟩ := hE
  unfold Oper.wp execOp
  simp only [ho, resolve, invoke, builtin, Sem.run_bind, Sem.run_pure, Result.andThen_ok, List.map_toArray, List.map_cons, List.map_nil, hm, hx, hr]
  exact hK _ _ (h w' hR)
theorem field_txn (x : Int) (o : Option Addr) (n c : Nat) (V : World) : (Instr.field 59 (.agg #[.int .i64 x, .slice o n c]) 0).run Tryz.prog V = .ok (.int .i64 x) V := by kernel_rfl
section
variable {w0 w w' : World} {f g lb L : Nat} {ts : List Tm} {v : Value} {qs : List Nat} {mb : Nat} {bs : List Int} {s : Fe} {hw : Value}
set_option maxHeartbeats 4000000 in
set_option maxRecDepth 100000 in
theorem fHandOn_any (h : FdM w0 w f g lb L ts v qs mb bs s hw) (hv : s.hv = true) : Calls Tryz.prog 255 #[.pointer (some ⟨f, 0, none⟩)] w fun e w' => e = .returned (.agg #[.int .i64 (s.rd : Int), hw]) ∧ FdM w0 w' f g lb L ts v qs mb bs { s with hv := false } (.slice none 0 0) ∧ Fr [f] w w' := by
  obtain ⟨o, n, c, rfl⟩ := h.slot
  have hnum : s.num = s.rd := by simp [Fe.num, hv]
  have HH : Hid (FdM w0 w f g lb L ts v qs mb bs s (.slice o n c)) := h
  obtain ⟨W1, HW1⟩ : ∃ W1, Hid (w.alloc (.cells #[.int .i64 0, .slice none 0 0] 59) = W1) := ⟨_, rfl⟩
  have hF1 : Fr [] w W1 := by rw [← HW1.out]; exact Fr.alloc _ _ _
  have hB1 : B2 W1 w.heap.size (.int .i64 0) (.slice none 0 0) := ⟨by rw [← HW1.out]; exact heap_alloc_new _ _⟩
  have h1 := h.keep hF1
  obtain ⟨W2, HW2⟩ : ∃ W2, Hid (W1.alloc (.cells #[.int .i64 (s.rd : Int), .slice o n c] 59) = W2) := ⟨_, rfl⟩
  have hF2 : Fr [] W1 W2 := by rw [← HW2.out]; exact Fr.alloc _ _ _
  obtain ⟨B, HB⟩ : ∃ B, Hid (W1.heap.size = B) := ⟨_, rfl⟩
  have hB2 : B2 W2 B (.int .i64 (s.rd : Int)) (.slice o n c) := ⟨by rw [← HW2.out, ← HB.out]; exact heap_alloc_new _ _⟩
  have hA2 := hB1.keep hF2
  have h2 := h1.keep hF2
  obtain ⟨c5, c6⟩ : _ ∧ _ := ⟨h1.c5, h1.c6⟩
  rw [hnum] at c5
  obtain ⟨d5, d6, z5, z6⟩ : _ ∧ _ ∧ _ ∧ _ := ⟨h2.c5, h2.c6, h2.fz 5, h2.fz 6⟩
  obtain ⟨b0, b1⟩ : _ ∧ _ := ⟨hB2.c0, hB2.c1⟩
  obtain ⟨a0, a1, az0, az1⟩ : _ ∧ _ ∧ _ ∧ _ := ⟨hA2.c0, hA2.c1, hA2.f0, hA2.f1⟩
  obtain ⟨A, HA⟩ : ∃ A, Hid (w.heap.size = A) := ⟨_, rfl⟩
  have hfA : f ≠ A := by have := h.lt; rw [← HA.out]; omega
  have hfB : f ≠ B := by have := h1.lt; rw [← HB.out]; omega
  have hAB : A ≠ B := by have := hB1.lt; rw [← HA.out, ← HB.out]; omega
  have hfA' : A ≠ f := fun e => hfA e.symm
  have hfB' : B ≠ f := fun e => hfB e.symm
  have hAB' : B ≠ A := fun e => hAB e.symm
  rw [HA.out] at a0 a1 az0 az1
  have HE : Hid (FdM w0 ((((W2.setCell ⟨f, 5, none⟩ (.int .i64 0)).setCell ⟨f, 6, none⟩ (.slice none 0 0)).setCell ⟨A, 0, none⟩ (.int .i64 (s.rd : Int))).setCell ⟨A, 1, none⟩ (.slice o n c)) f g lb L ts v qs mb bs { s with hv := false } (.slice none 0 0) ∧ Fr [f] w ((((W2.setCell ⟨f, 5, none⟩ (.int .i64 0)).setCell ⟨f, 6, none⟩ (.slice none 0 0)).setCell ⟨A, 0, none⟩ (.int .i64 (s.rd : Int))).setCell ⟨A, 1, none⟩ (.slice o n c))) := by
    have hFa : Fr [f] w ((W2.setCell ⟨f, 5, none⟩ (.int .i64 0)).setCell ⟨f, 6, none⟩ (.slice none 0 0)) := ((hF1.then hF2).mono (by simp)).then ((Fr.set _ _ _ (by simp)).then (Fr.set _ _ _ (by simp)))
    have hFz := hFa.trans (Fr.box2 ((W2.setCell ⟨f, 5, none⟩ (.int .i64 0)).setCell ⟨f, 6, none⟩ (.slice none 0 0)) A (.int .i64 (s.rd : Int)) (.slice o n c)) (U := [f]) (fun x hx _ => hx) (fun x hx hl => by simp at hx; rw [HA.out] at hl; omega)
    have hb := fd_set (j := 6) (.slice none 0 0) (fd_set (j := 5) (.int .i64 0) h2.box)
    have hb2 := (Fr.box2 ((W2.setCell ⟨f, 5, none⟩ (.int .i64 0)).setCell ⟨f, 6, none⟩ (.slice none 0 0)) A (.int .i64 (s.rd : Int)) (.slice o n c)).keep hb (by simpa using hfA)
    exact ⟨h.upd hFz hb2 rfl rfl h.rf h.fl (fun e => by cases e) ⟨_, _, _, rfl⟩, hFz⟩
  clear h h1 h2 HH hB1 hB2 hA2 hF1 hF2 hnum
  go_enter Tryz.func255, Tryz.ntmps255
  go_upto_region 1 with fail
  rw [HW1.out, HA.out]
  go_upto_region 2 with fail
  rw [HW2.out, HB.out]
  clear HW1 HW2 HA HB
  go_wp2
  refine bodyPost_ret (v := .agg #[.int .i64 (s.rd : Int), .slice o n c]) (by rw [res_cell1 rfl]; go_simp) rfl ⟨rfl, HE.out⟩
set_option maxHeartbeats 4000000 in
set_option maxRecDepth 100000 in
theorem fSkip_any (h : FdM w0 w f g lb L ts v qs mb bs s hw) : Calls Tryz.prog 253 #[.pointer (some ⟨f, 0, none⟩)] w fun e w' => e = .returned (.tuple #[.int .i64 (s.skipN bs : Int), .int .i64 (s.skipC bs : Int)]) ∧ ∃ hw', FdM w0 w' f g lb L ts v qs mb bs (s.skipS bs) hw' ∧ Fr [f, mb] w w' := by
  have HT : Hid (Calls _ _ _ _ _) := fThere_any h
  by_cases hv : s.hv = true
  · by_cases hb : (s.rd : Int) ∈ bs
    · have HU : Hid (Calls _ _ _ _ _) := fTurn_skip h hv hb
      have e1 : s.skipC bs = 0 := by simp [Fe.skipC, hv, hb]
      have e2 : s.skipN bs = s.rd := by simp [Fe.skipN, e1]
      have e3 : s.skipS bs = { s with hv := false } := by simp [Fe.skipS, e1]
      have HO : Hid (∀ W, Fr [] w W → Calls Tryz.prog 255 #[.pointer (some ⟨f, 0, none⟩)] W fun e w' => e = .returned (.agg #[.int .i64 (s.rd : Int), hw]) ∧ FdM w0 w' f g lb L ts v qs mb bs { s with hv := false } (.slice none 0 0) ∧ Fr [f] W w') := fun W hf => fHandOn_any (h.keep hf) hv
      have hfew := h.few
      have hr1 := h.rf
      have hr2 := h.fl
      rw [e1, e2, e3]
      obtain ⟨o, n, c, hhw⟩ := h.slot
      subst hhw
      clear h hv hb e1 e2 e3
      go_enter Tryz.func253, Tryz.ntmps253
      go_wp2_with fail
      refine Calls.mono HT.out ?_
      rintro e w1 ⟨rfl, rfl⟩
      go_wp2_with fail
      refine Calls.mono HU.out ?_
      rintro e w1 ⟨rfl, hF1⟩
      go_wp2_with fail
      refine Calls.mono (HO.out _ hF1) ?_
      rintro e w2 ⟨rfl, h2, hF2⟩
      have hfd : ∀ V : World, (Instr.field 59 (.agg #[.int .i64 (s.rd : Int), .slice o n c]) 0).run Tryz.prog V = .ok (.int .i64 (s.rd : Int)) V := fun V => field_txn _ _ _ _ V
      have c4 := h2.c4
      have HDr : Hid (∀ ty, ∃ w', (Builtin.delete_ #[161, 3] ty #[.map (some mb), .int .i64 (s.rd : Int)]).run Tryz.prog w2 = .ok (.tuple #[]) w' ∧ (FdM w0 w' f g lb L ts v qs mb bs { s with hv := false } (.slice none 0 0) ∧ Fr [f, mb] w w')) := fun ty => by
        obtain ⟨n, F, hm, hy⟩ := h2.map
        obtain ⟨w3, hr, hm3, hF3⟩ := hm.drop (s.rd : Int) ⟨by omega, by omega⟩ ty
        refine ⟨w3, hr, ?_, ((hF1.mono (by simp)).then (hF2.mono (by intro x hx _; simp at hx ⊢; exact Or.inl hx))).then (hF3.mono (by intro x hx _; simp at hx ⊢; exact Or.inr hx))⟩
        obtain ⟨es, cc, he⟩ := hm.block
        have hno : ∀ k cs t, w2.heap[k]? = some (.cells cs t (0, 0)) → k ∉ [mb] := by
          intro k cs t hk hx
          simp only [List.mem_singleton] at hx
          subst hx
          rw [he] at hk
          cases hk
        have hs := h2.src
        exact ⟨⟨hF3.keep hs.box (hno _ _ _ hs.box), hF3.keep hs.log (hno _ _ _ hs.log), hs.len, hs.few, fun t ht => (hs.each t ht).keepS hF3 (fun k hk => hno _ _ _ hk), owns_keep hs.row hF3 (fun k hk => by
          obtain ⟨cur, hc⟩ := hs.rowNe hk
          exact hno _ _ _ hc), hs.gn, hs.ln, hs.rn⟩, h2.ok, hF3.keep h2.box (hno _ _ _ h2.box), ⟨n, _, hm3, ⟨fun x hx hlt => by
            rw [updF_other _ _ (show x ≠ (s.rd : Int) from by simp only at hlt; omega)]
            exact hy.ahead x hx hlt, fun e => by cases e⟩⟩, h2.rf, h2.fl, h2.wn, (fun e => by cases e), h2.slot, h2.fn, h2.mn⟩
      clear h2 hF1 hF2 HO
      go_wp2_with (first | (at_delete; refine wpList_del _ rfl _ _ _ _ rfl (.map (some mb)) (.int .i64 (s.rd : Int)) rfl rfl (HDr.out _) ?_; rintro w3 hR3; have HR3 : Hid (_ ∧ _) := hR3; clear hR3) | fail)
      go_ret2
      exact ⟨rfl, _, HR3.out.1, HR3.out.2⟩
    · have HU : Hid (Calls _ _ _ _ _) := fTurn_dis h hv hb
      have e1 : s.skipC bs = 6 := by simp [Fe.skipC, hv, hb]
      have e2 : s.skipN bs = 0 := by simp [Fe.skipN, e1]
      have e3 : s.skipS bs = s := by simp [Fe.skipS, e1]
      rw [e1, e2, e3]
      have HH : Hid (∀ W, Fr [] w W → FdM w0 W f g lb L ts v qs mb bs s hw) := fun W hf => h.keep hf
      clear h hv hb e1 e2 e3
      go_enter Tryz.func253, Tryz.ntmps253
      go_wp2_with fail
      refine Calls.mono HT.out ?_
      rintro e w1 ⟨rfl, rfl⟩
      go_wp2_with fail
      refine Calls.mono HU.out ?_
      rintro e w1 ⟨rfl, hF1⟩
      go_wp2
      go_ret2
      exact ⟨rfl, hw, HH.out _ hF1, hF1.mono (by simp)⟩
  · have hv2 : s.hv = false := by simpa using hv
    have HU : Hid (Calls _ _ _ _ _) := fTurn_none h hv2
    have e1 : s.skipC bs = 9 := by simp [Fe.skipC, hv2]
    have e2 : s.skipN bs = 0 := by simp [Fe.skipN, e1]
    have e3 : s.skipS bs = s := by simp [Fe.skipS, e1]
    rw [e1, e2, e3]
    have HH : Hid (∀ W, Fr [] w W → FdM w0 W f g lb L ts v qs mb bs s hw) := fun W hf => h.keep hf
    clear h hv hv2 e1 e2 e3
    go_enter Tryz.func253, Tryz.ntmps253
    go_wp2_with fail
    refine Calls.mono HT.out ?_
    rintro e w1 ⟨rfl, rfl⟩
    go_wp2_with fail
    refine Calls.mono HU.out ?_
    rintro e w1 ⟨rfl, hF1⟩
    go_wp2
    go_ret2
    exact ⟨rfl, hw, HH.out _ hF1, hF1.mono (by simp)⟩
end
end Go.Proofs.YtakbodlicfmkjaaGreat.F

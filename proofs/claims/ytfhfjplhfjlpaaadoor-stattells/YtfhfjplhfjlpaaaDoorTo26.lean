/- What an event alone tells; the functions of the rows of stats. Conditions: numbers of 64 bits. -/
import Derived.Test.YtfhfjplhfjlpaaaDoorSt26
namespace Go.Proofs.YtfhfjplhfjlpaaaDoor
open Go.ChangeShapes Go.WideShapes Go.ChangeAt Go.RowKit Go.Lib
set_option linter.unusedVariables false
set_option linter.unusedSimpArgs false

theorem field_st1 (a b c d e : Int) (V : World) : (Instr.field 27 (.agg #[.int .i64 a, .int .i64 b, .int .i64 c, .int .i64 d, .int .i64 e]) 1).run Tryd.prog V = .ok (.int .i64 b) V := by kernel_rfl
theorem field_st2 (a b c d e : Int) (V : World) : (Instr.field 27 (.agg #[.int .i64 a, .int .i64 b, .int .i64 c, .int .i64 d, .int .i64 e]) 2).run Tryd.prog V = .ok (.int .i64 c) V := by kernel_rfl
theorem field_st4 (a b c d e : Int) (V : World) : (Instr.field 27 (.agg #[.int .i64 a, .int .i64 b, .int .i64 c, .int .i64 d, .int .i64 e]) 4).run Tryd.prog V = .ok (.int .i64 e) V := by kernel_rfl
def toldA (e : Ev) : Array Value := stA 0 (insE e) (dspE e) 0 (endE e)
theorem told_row (t k n s c m : Int) (w W : World) (h : Fr [] ((w.alloc (.cells (evA t k n s c m) 54)).alloc (.cells (stA 0 0 0 0 0) 27)) W) : W.heap[w.heap.size + 1]? = some (.cells (stA 0 0 0 0 0) 27 (0, 0)) := by
  refine h.keep ?_ (by simp)
  rw [show w.heap.size + 1 = (w.alloc (.cells (evA t k n s c m) 54)).heap.size by simp]
  exact heap_alloc_new _ _
set_option maxHeartbeats 8000000 in
set_option maxRecDepth 100000 in
theorem told_any (e : Ev) (w : World) : Calls Tryd.prog 56 #[.agg (evA e.t e.k e.n e.s e.c e.m)] w fun x w' => x = .returned (.agg (toldA e)) ∧ Fr [] w w' := by
  have HL := fun w => lag_any e w
  obtain ⟨t, k, n, s, c, m⟩ := e
  obtain ⟨wa, hwa⟩ : ∃ wa, wa = w.alloc (.cells (evA t k n s c m) 54) := ⟨_, rfl⟩
  obtain ⟨wb, hwb⟩ : ∃ wb, wb = wa.alloc (.cells (stA 0 0 0 0 0) 27) := ⟨_, rfl⟩
  have f1 : Fr [] w wa := by rw [hwa]; exact Fr.alloc _ _ _
  have f2 : Fr [] wa wb := by rw [hwb]; exact Fr.alloc _ _ _
  have s1 : wa.heap.size = w.heap.size + 1 := by rw [hwa]; simp
  have r1 : wb.heap[w.heap.size]? = some (.cells (evA t k n s c m) 54 (0, 0)) := by refine f2.keep ?_ (by simp); rw [hwa]; exact heap_alloc_new _ _
  have r2 : wb.heap[w.heap.size + 1]? = some (.cells (stA 0 0 0 0 0) 27 (0, 0)) := by rw [hwb, ← s1]; exact heap_alloc_new _ _
  have HR : ∀ W, Fr [] wb W → W.heap[w.heap.size + 1]? = some (.cells (stA 0 0 0 0 0) 27 (0, 0)) := fun W hf => hf.keep r2 (by simp)
  have HZ : Hid (∀ W w3, Fr [] wb W → Fr [w.heap.size + 1] W w3 → Fr [] w w3) := fun W w3 h0 h3 => ((f1.then f2).then h0).on h3 (by intro y hy; simp at hy; omega)
  obtain ⟨y0, y1, y2, y3, y4, y5⟩ := evt_cells r1
  have HW : Hid ((w.alloc (.cells #[.int .i64 t, .int .u8 k, .int .i64 n, .int .i64 s, .int .i64 c, .int .i64 m] 54)).alloc (.cells #[.int .i64 0, .int .i64 0, .int .i64 0, .int .i64 0, .int .i64 0] 27) = wb) := by show _ = _; rw [hwb, hwa]; rfl
  obtain ⟨b, HB⟩ : ∃ b, Hid (w.heap.size = b) := ⟨_, rfl⟩
  rw [HB.out] at HR HZ y0 y1 y2 y3 y4 y5
  clear hwa hwb f1 f2 s1 r1 r2
  by_cases h3 : k = 3
  · have E : toldA ⟨t, k, n, s, c, m⟩ = stA 0 0 (lagE ⟨t, k, n, s, c, m⟩) 0 0 := by simp [toldA, insE, dspE, endE, h3]
    rw [E]
    subst h3
    simp only at HL
    generalize lagE ⟨t, 3, n, s, c, m⟩ = L at HL
    have HR' : Hid (∀ W, _) := HR
    simp only [evA] at HL ⊢
    clear E HR
    go_enter Tryd.func56, Tryd.ntmps56
    go_upto_region 1 with fail
    rw [HW.out, HB.out]
    go_wp2_with fail
    with_reducible refine (HL _).mono ?_
    rintro e w1 ⟨rfl, hF1⟩
    have HF1 : Hid (Fr [] wb w1) := hF1
    clear hF1 y0 y1 y2 y3 y4 y5
    go_wp2_with (refine wpList_storeSt rfl _ _ rfl (b + 1) 0 0 L 0 0 rfl rfl 0 0 0 0 0 (HR'.out _ HF1.out) ?_; intro w3 hw3 hf3)
    refine bodyPost_ret (results_c_row rfl _ _ _ (b + 1) _ rfl (load_st hw3.out)) rfl ?_
    exact ⟨rfl, HZ.out _ _ HF1.out hf3⟩
  · by_cases h7 : k = 7
    · by_cases h0 : 0 < n
      · subst h7
        have E : toldA ⟨t, 7, n, s, c, m⟩ = stA 0 1 0 0 0 := by simp [toldA, insE, dspE, endE, h0]
        rw [E]
        have HR' := HR _ (Fr.refl _ _)
        simp only [evA]
        clear E HR HL
        go_enter Tryd.func56, Tryd.ntmps56
        go_upto_region 1 with fail
        rw [HW.out, HB.out]
        go_wp2_with (refine wpList_storeSt rfl _ _ rfl (b + 1) 0 1 0 0 0 rfl rfl 0 0 0 0 0 HR' ?_; intro w3 hw3 hf3)
        refine bodyPost_ret (results_c_row rfl _ _ _ (b + 1) _ rfl (load_st hw3.out)) rfl ?_
        exact ⟨rfl, HZ.out _ _ (Fr.refl _ _) hf3⟩
      · subst h7
        have E : toldA ⟨t, 7, n, s, c, m⟩ = stA 0 0 0 0 0 := by simp [toldA, insE, dspE, endE, h0]
        rw [E]
        have HR' := HR _ (Fr.refl _ _)
        simp only [evA]
        clear E HR HL
        go_enter Tryd.func56, Tryd.ntmps56
        go_upto_region 1 with fail
        rw [HW.out, HB.out]
        go_wp2_with (refine wpList_storeSt rfl _ _ rfl (b + 1) 0 0 0 0 0 rfl rfl 0 0 0 0 0 HR' ?_; intro w3 hw3 hf3)
        refine bodyPost_ret (results_c_row rfl _ _ _ (b + 1) _ rfl (load_st hw3.out)) rfl ?_
        exact ⟨rfl, HZ.out _ _ (Fr.refl _ _) hf3⟩
    · by_cases h12 : k = 12
      · subst h12
        have E : toldA ⟨t, 12, n, s, c, m⟩ = stA 0 0 0 0 1 := by simp [toldA, insE, dspE, endE]
        rw [E]
        have HR' := HR _ (Fr.refl _ _)
        simp only [evA]
        clear E HR HL
        go_enter Tryd.func56, Tryd.ntmps56
        go_upto_region 1 with fail
        rw [HW.out, HB.out]
        go_wp2_with (refine wpList_storeSt rfl _ _ rfl (b + 1) 0 0 0 0 1 rfl rfl 0 0 0 0 0 HR' ?_; intro w3 hw3 hf3)
        refine bodyPost_ret (results_c_row rfl _ _ _ (b + 1) _ rfl (load_st hw3.out)) rfl ?_
        exact ⟨rfl, HZ.out _ _ (Fr.refl _ _) hf3⟩
      · have E : toldA ⟨t, k, n, s, c, m⟩ = stA 0 0 0 0 0 := by simp [toldA, insE, dspE, endE, h3, h7, h12]
        rw [E]
        have HR' := HR _ (Fr.refl _ _)
        simp only [evA]
        clear E HR HL
        go_enter Tryd.func56, Tryd.ntmps56
        go_upto_region 1 with fail
        rw [HW.out, HB.out]
        go_wp2_with (refine wpList_storeSt rfl _ _ rfl (b + 1) 0 0 0 0 0 rfl rfl 0 0 0 0 0 HR' ?_; intro w3 hw3 hf3)
        refine bodyPost_ret (results_c_row rfl _ _ _ (b + 1) _ rfl (load_st hw3.out)) rfl ?_
        exact ⟨rfl, HZ.out _ _ (Fr.refl _ _) hf3⟩
theorem insE_le (e : Ev) : 0 ≤ insE e ∧ insE e ≤ 1 := by unfold insE; split <;> omega
theorem endE_le (e : Ev) : 0 ≤ endE e ∧ endE e ≤ 1 := by unfold endE; split <;> omega
theorem dspE_le (e : Ev) : -65536 ≤ dspE e ∧ dspE e ≤ 65536 := by
  unfold dspE lagE
  split
  · split
    · rename_i h
      obtain ⟨⟨_, _⟩, ⟨_, _⟩⟩ := h
      omega
    · omega
  · omega
set_option maxHeartbeats 4000000 in
theorem stR1_any (a : Int) (e : Ev) (w : World) (h1 : 0 ≤ a) (h2 : a ≤ 4398046511104) : Calls Tryd.prog 54 #[.int .i64 a, .agg (evA e.t e.k e.n e.s e.c e.m)] w fun x w' => x = .returned (.int .i64 (a + 1)) ∧ Fr [] w w' := by
  obtain ⟨t, k, n, s, c, m⟩ := e
  have hw : IntKind.i64.wrap (a + 1) = a + 1 := by rw [IntKind.wrap_i64]; omega
  simp only [evA]
  go_enter Tryd.func54, Tryd.ntmps54
  go_wp2_with fail
  go_ret
  exact ⟨rfl, Fr.alloc _ _ _⟩
set_option maxHeartbeats 4000000 in
set_option maxRecDepth 100000 in
theorem stR2_any (a : Int) (e : Ev) (w : World) (h1 : 0 ≤ a) (h2 : a ≤ 4398046511104) : Calls Tryd.prog 55 #[.int .i64 a, .agg (evA e.t e.k e.n e.s e.c e.m)] w fun x w' => x = .returned (.int .i64 (a + insE e)) ∧ Fr [] w w' := by
  have HT := fun w => told_any e w
  have HB : Hid (_ ∧ _ ∧ _) := ⟨insE_le e, dspE_le e, endE_le e⟩
  unfold toldA at HT
  generalize insE e = I at HT HB ⊢
  generalize dspE e = G at HT HB ⊢
  generalize endE e = R at HT HB ⊢
  obtain ⟨t, k, n, s, c, m⟩ := e
  have hw : IntKind.i64.wrap (a + I) = a + I := by obtain ⟨⟨_, _⟩, ⟨_, _⟩, ⟨_, _⟩⟩ := HB.out; rw [IntKind.wrap_i64]; omega
  have hfd : ∀ V : World, (Instr.field 27 (.agg (stA 0 I G 0 R)) 1).run Tryd.prog V = _ := fun V => field_st1 0 I G 0 R V
  simp only [evA, stA] at HT hfd ⊢
  clear HB
  go_enter Tryd.func55, Tryd.ntmps55
  go_wp2_with fail
  with_reducible refine (HT _).mono ?_
  rintro e w1 ⟨rfl, hF1⟩
  have HF1 : Hid (Fr [] _ w1) := hF1
  clear hF1
  go_wp2_with fail
  go_ret
  exact ⟨rfl, (Fr.alloc _ _ _).then HF1.out⟩
set_option maxHeartbeats 4000000 in
set_option maxRecDepth 100000 in
theorem stR3_any (a : Int) (e : Ev) (w : World) (h1 : 0 ≤ a) (h2 : a ≤ 4398046511104) : Calls Tryd.prog 57 #[.int .i64 a, .agg (evA e.t e.k e.n e.s e.c e.m)] w fun x w' => x = .returned (.int .i64 (max a (dspE e))) ∧ Fr [] w w' := by
  have HT := fun w => told_any e w
  have HB : Hid (_ ∧ _ ∧ _) := ⟨insE_le e, dspE_le e, endE_le e⟩
  unfold toldA at HT
  generalize insE e = I at HT HB ⊢
  generalize dspE e = G at HT HB ⊢
  generalize endE e = R at HT HB ⊢
  obtain ⟨t, k, n, s, c, m⟩ := e
  have hfd : ∀ V : World, (Instr.field 27 (.agg (stA 0 I G 0 R)) 2).run Tryd.prog V = _ := fun V => field_st2 0 I G 0 R V
  simp only [evA, stA] at HT hfd ⊢
  clear HB
  go_enter Tryd.func57, Tryd.ntmps57
  go_wp2_with fail
  with_reducible refine (HT _).mono ?_
  rintro e w1 ⟨rfl, hF1⟩
  have HF1 : Hid (Fr [] _ w1) := hF1
  clear hF1
  go_wp2_with fail
  · go_ret
    exact ⟨by rw [show max a G = G by omega]; rfl, (Fr.alloc _ _ _).then HF1.out⟩
  · go_ret
    exact ⟨by rw [show max a G = a by omega]; rfl, (Fr.alloc _ _ _).then HF1.out⟩
set_option maxHeartbeats 4000000 in
set_option maxRecDepth 100000 in
theorem stR5_any (a : Int) (e : Ev) (w : World) (h1 : 0 ≤ a) (h2 : a ≤ 4398046511104) : Calls Tryd.prog 60 #[.int .i64 a, .agg (evA e.t e.k e.n e.s e.c e.m)] w fun x w' => x = .returned (.int .i64 (a + endE e)) ∧ Fr [] w w' := by
  have HT := fun w => told_any e w
  have HB : Hid (_ ∧ _ ∧ _) := ⟨insE_le e, dspE_le e, endE_le e⟩
  unfold toldA at HT
  generalize insE e = I at HT HB ⊢
  generalize dspE e = G at HT HB ⊢
  generalize endE e = R at HT HB ⊢
  obtain ⟨t, k, n, s, c, m⟩ := e
  have hw : IntKind.i64.wrap (a + R) = a + R := by obtain ⟨⟨_, _⟩, ⟨_, _⟩, ⟨_, _⟩⟩ := HB.out; rw [IntKind.wrap_i64]; omega
  have hfd : ∀ V : World, (Instr.field 27 (.agg (stA 0 I G 0 R)) 4).run Tryd.prog V = _ := fun V => field_st4 0 I G 0 R V
  simp only [evA, stA] at HT hfd ⊢
  clear HB
  go_enter Tryd.func60, Tryd.ntmps60
  go_wp2_with fail
  with_reducible refine (HT _).mono ?_
  rintro e w1 ⟨rfl, hF1⟩
  have HF1 : Hid (Fr [] _ w1) := hF1
  clear hF1
  go_wp2_with fail
  go_ret
  exact ⟨rfl, (Fr.alloc _ _ _).then HF1.out⟩
end Go.Proofs.YtfhfjplhfjlpaaaDoor

/- Texts of this claim laid together, one behind the other: contracts and plain lemmas; conditions as each names them. -/
import Derived.Test.YtaaghcimfcjehaaGreatDoorGp21
import Derived.Test.YtaaghcimfcjehaaGreatDoorGp22
/- The kinds of tasks, each with its function. Conditions as each names them. -/
namespace Go.Proofs.YtaaghcimfcjehaaGreatDoor
open Go.ChangeShapes Go.WideShapes Go.ChangeAt Go.RowKit Go.Lib Go.Maps
set_option linter.unusedVariables false
set_option linter.unusedSimpArgs false

/-- The array of the kinds over the box at Q. -/
def kdA (Q : Nat) : Array Value := #[.string ⟨#[100, 105, 115, 112, 97, 116, 99, 104, 101, 114]⟩, .func (Fn.func 115) #[] #[.pointer (some ⟨Q, 0, none⟩)], .string ⟨#[108, 97, 110, 101]⟩, .func (Fn.func 117) #[] #[.pointer (some ⟨Q, 0, none⟩)], .string ⟨#[111, 119, 110, 101, 114]⟩, .func (Fn.func 119) #[] #[.pointer (some ⟨Q, 0, none⟩)], .string ⟨#[103, 97, 116, 101]⟩, .func (Fn.func 121) #[] #[.pointer (some ⟨Q, 0, none⟩)], .string ⟨#[99, 97, 108, 108]⟩, .func (Fn.func 123) #[] #[.pointer (some ⟨Q, 0, none⟩)]]
theorem kdA_one (Q : Nat) : (kdA Q).all (·.oneCell') = true := by simp [kdA, Value.oneCell']
theorem load_kds {w : World} {g Q : Nat} (h : w.heap[g]? = some (.cells (kdA Q) 118 (0, 0))) : (loadVar 118 ⟨g, 0, none⟩).run Tryz.prog w = .ok (.agg (kdA Q)) w :=
  run_loadVar_row (P := Tryz.prog) _ g _ 118 _ _ (.array 5 117) h (by kernel_rfl) rfl (by kernel_rfl)
set_option maxHeartbeats 2000000 in
set_option maxRecDepth 100000 in
theorem kinds_any (sb : Nat) (w : World) : Calls Tryz.prog 77 #[.pointer (some ⟨sb, 0, none⟩)] w fun e w' => ∃ Q, e = .returned (.agg (kdA Q)) ∧ w.heap.size ≤ Q ∧ w'.heap[Q]? = some (.cells #[.pointer (some ⟨sb, 0, none⟩)] 71 (0, 0)) ∧ Fr [] w w' := by
  have hQ := (Fr.alloc [] (w.alloc (.cells #[.pointer (some ⟨sb, 0, none⟩)] 71)) (.cells #[.string ⟨#[]⟩, .nilFunc, .string ⟨#[]⟩, .nilFunc, .string ⟨#[]⟩, .nilFunc, .string ⟨#[]⟩, .nilFunc, .string ⟨#[]⟩, .nilFunc] 118)).keep (heap_alloc_new w (.cells #[.pointer (some ⟨sb, 0, none⟩)] 71)) (by simp)
  have hr : ((w.alloc (.cells #[.pointer (some ⟨sb, 0, none⟩)] 71)).alloc (.cells #[.string ⟨#[]⟩, .nilFunc, .string ⟨#[]⟩, .nilFunc, .string ⟨#[]⟩, .nilFunc, .string ⟨#[]⟩, .nilFunc, .string ⟨#[]⟩, .nilFunc] 118)).heap[w.heap.size + 1]? = some (.cells #[.string ⟨#[]⟩, .nilFunc, .string ⟨#[]⟩, .nilFunc, .string ⟨#[]⟩, .nilFunc, .string ⟨#[]⟩, .nilFunc, .string ⟨#[]⟩, .nilFunc] 118 (0, 0)) := by
    rw [show w.heap.size + 1 = (w.alloc (.cells #[.pointer (some ⟨sb, 0, none⟩)] 71)).heap.size by simp]
    exact heap_alloc_new _ _
  have HF : Hid (Fr [] w ((w.alloc (.cells #[.pointer (some ⟨sb, 0, none⟩)] 71)).alloc (.cells #[.string ⟨#[]⟩, .nilFunc, .string ⟨#[]⟩, .nilFunc, .string ⟨#[]⟩, .nilFunc, .string ⟨#[]⟩, .nilFunc, .string ⟨#[]⟩, .nilFunc] 118))) := (Fr.alloc _ _ _).then (Fr.alloc _ _ _)
  have HQ : Hid (_ = _) := hQ
  clear hQ
  go_enter Tryz.func77, Tryz.ntmps77
  go_wp2_with (first
    | (refine wpList_storeRow rfl 118 _ _ rfl (w.heap.size + 1) (kdA w.heap.size) rfl rfl 118 _ hr (by kernel_rfl) rfl (kdA_one _) ?_; intro w2 HR2 hf2)
    | fail)
  refine bodyPost_ret (results_c_row rfl _ _ _ (w.heap.size + 1) _ rfl (load_kds HR2.out)) rfl ?_
  exact ⟨w.heap.size, rfl, Nat.le_refl _, hf2.keep HQ.out (by simp), HF.out.on hf2 (by intro y hy; simp at hy; omega)⟩
section
variable {w w' wS : World} {Z : Zs} {c : Cf} {s : Sy} {k : Nat} {ts : List Tm}
/-- A kind's function, whose call does the step. -/
theorem Mv.two {w w0 W W' : World} {Z' : Zs} {r : Te × Sy} (h : SyM w Z c s k) (h0 : Fr [] w w0) (hs : w0.heap.size = w.heap.size + 2) (hS : SyM W Z' c r.2 (k + 1)) (hM : Mv w0 Z W Z') (hf : Fr [w.heap.size + 1] W W') : SyM W' Z' c r.2 (k + 1) ∧ Mv w Z W' Z' :=
  hM.fin h0 (by omega) (by omega) h.lt hf hS
set_option maxHeartbeats 2000000 in
set_option maxRecDepth 100000 in
theorem kind1_in (h : SyM w Z c s k) (Q : Nat) (x : Int) (e : Ev) (r : Te × Sy) (hQ : w.heap[Q]? = some (.cells #[.pointer (some ⟨Z.sb, 0, none⟩)] 71 (0, 0)))
    (hI : ∀ W, Fr [] w W → Calls Tryz.prog 116 #[.pointer (some ⟨Z.sb, 0, none⟩)] W (TaskP W Z c k r)) :
    Calls Tryz.prog 115 #[.int .i64 x, .agg (evA e.t e.k e.n e.s e.c e.m), .pointer (some ⟨Q, 0, none⟩)] w (TaskP w Z c k r) := by
  obtain ⟨et, ek, en, es, ec, em⟩ := e
  simp only at hI ⊢
  obtain ⟨wa, hwa⟩ : ∃ wa, wa = w.alloc (.cells (evA et ek en es ec em) 62) := ⟨_, rfl⟩
  obtain ⟨wb, hwb⟩ : ∃ wb, wb = wa.alloc (.cells (evA 0 0 0 0 0 0) 62) := ⟨_, rfl⟩
  have f1 : Fr [] w wa := by rw [hwa]; exact Fr.alloc _ _ _
  have f2 : Fr [] wa wb := by rw [hwb]; exact Fr.alloc _ _ _
  have s1 : wa.heap.size = w.heap.size + 1 := by rw [hwa]; simp
  have s2 : wb.heap.size = w.heap.size + 2 := by rw [hwb]; simp [s1]
  have r1 : wb.heap[w.heap.size]? = some (.cells (evA et ek en es ec em) 62 (0, 0)) := by refine f2.keep ?_ (by simp); rw [hwa]; exact heap_alloc_new _ _
  have r2 : wb.heap[w.heap.size + 1]? = some (.cells (evA 0 0 0 0 0 0) 62 (0, 0)) := by rw [hwb, ← s1]; exact heap_alloc_new _ _
  have HC : Hid (Calls _ _ _ _ _) := hI wb (f1.then f2)
  have hq : wb.cell? ⟨Q, 0, none⟩ = some (.pointer (some ⟨Z.sb, 0, none⟩)) := by rw [cell_of_row _ _ _ _ _ _ ((f1.then f2).keep hQ (by simp))]; rfl
  obtain ⟨y0, y1, y2, y3, y4, y5⟩ := evt_cells r1
  have HF : Hid (∀ W W' Z', SyM W Z' c r.2 (k + 1) → Mv wb Z W Z' → W.heap[w.heap.size + 1]? = some (.cells (evA 0 0 0 0 0 0) 62 (0, 0)) ∧ (Fr [w.heap.size + 1] W W' → SyM W' Z' c r.2 (k + 1) ∧ Mv w Z W' Z')) := fun W W' Z' hS hM => ⟨hM.box (w := w) (by omega) h.lt r2, fun hf => Mv.two h (f1.then f2) s2 hS hM hf⟩
  have HW : Hid ((w.alloc (.cells #[.int .i64 et, .int .u8 ek, .int .i64 en, .int .i64 es, .int .i64 ec, .int .i64 em] 62)).alloc (.cells #[.int .i64 0, .int .u8 0, .int .i64 0, .int .i64 0, .int .i64 0, .int .i64 0] 62) = wb) := by show _ = _; rw [hwb, hwa]; rfl
  obtain ⟨b, HB⟩ : ∃ b, Hid (w.heap.size = b) := ⟨_, rfl⟩
  rw [HB.out] at HF y0 y1 y2 y3 y4 y5
  obtain ⟨⟨ak, an, a3, ac⟩, s'⟩ := r
  clear hI hQ hwa hwb f1 f2 s1 s2 r1 r2 h
  simp only [evA]
  go_enter Tryz.func115, Tryz.ntmps115
  go_upto_region 1 with fail
  rw [HW.out, HB.out]
  go_wp2_with fail
  refine Calls.mono HC.out ?_
  rintro e w1 ⟨Z1, rfl, hS1, hM1, z1⟩
  obtain ⟨g1, g2⟩ := HF.out w1 w1 Z1 hS1 hM1
  have HE : Hid (SyM _ _ _ _ _ ∧ Mv _ _ _ _ ∧ Z1.sb = Z.sb) := ⟨hS1, hM1, z1⟩
  clear hS1 hM1 z1 HC hq g2 y0 y1 y2 y3 y4 y5
  simp only [Te.v, evA]
  go_wp2_with (refine wpList_storeEv rfl _ _ rfl (b + 1) 0 ak an a3 ac 0 rfl rfl 0 0 0 0 0 0 g1 ?_; intro w3 hw3 hf3)
  refine bodyPost_ret (results_c_row rfl _ _ _ (b + 1) _ rfl (load_evt hw3.out)) rfl ?_
  obtain ⟨m1, m2⟩ := (HF.out w1 w3 Z1 HE.out.1 HE.out.2.1).2 hf3
  exact ⟨Z1, rfl, m1, m2, HE.out.2.2⟩
set_option maxHeartbeats 2000000 in
set_option maxRecDepth 100000 in
theorem kind2_in (h : SyM w Z c s k) (Q : Nat) (x : Int) (e : Ev) (r : Te × Sy) (hQ : w.heap[Q]? = some (.cells #[.pointer (some ⟨Z.sb, 0, none⟩)] 71 (0, 0)))
    (hI : ∀ W, Fr [] w W → Calls Tryz.prog 118 #[.pointer (some ⟨Z.sb, 0, none⟩), .int .i64 x] W (TaskP W Z c k r)) :
    Calls Tryz.prog 117 #[.int .i64 x, .agg (evA e.t e.k e.n e.s e.c e.m), .pointer (some ⟨Q, 0, none⟩)] w (TaskP w Z c k r) := by
  obtain ⟨et, ek, en, es, ec, em⟩ := e
  simp only at hI ⊢
  obtain ⟨wa, hwa⟩ : ∃ wa, wa = w.alloc (.cells (evA et ek en es ec em) 62) := ⟨_, rfl⟩
  obtain ⟨wb, hwb⟩ : ∃ wb, wb = wa.alloc (.cells (evA 0 0 0 0 0 0) 62) := ⟨_, rfl⟩
  have f1 : Fr [] w wa := by rw [hwa]; exact Fr.alloc _ _ _
  have f2 : Fr [] wa wb := by rw [hwb]; exact Fr.alloc _ _ _
  have s1 : wa.heap.size = w.heap.size + 1 := by rw [hwa]; simp
  have s2 : wb.heap.size = w.heap.size + 2 := by rw [hwb]; simp [s1]
  have r1 : wb.heap[w.heap.size]? = some (.cells (evA et ek en es ec em) 62 (0, 0)) := by refine f2.keep ?_ (by simp); rw [hwa]; exact heap_alloc_new _ _
  have r2 : wb.heap[w.heap.size + 1]? = some (.cells (evA 0 0 0 0 0 0) 62 (0, 0)) := by rw [hwb, ← s1]; exact heap_alloc_new _ _
  have HC : Hid (Calls _ _ _ _ _) := hI wb (f1.then f2)
  have hq : wb.cell? ⟨Q, 0, none⟩ = some (.pointer (some ⟨Z.sb, 0, none⟩)) := by rw [cell_of_row _ _ _ _ _ _ ((f1.then f2).keep hQ (by simp))]; rfl
  obtain ⟨y0, y1, y2, y3, y4, y5⟩ := evt_cells r1
  have HF : Hid (∀ W W' Z', SyM W Z' c r.2 (k + 1) → Mv wb Z W Z' → W.heap[w.heap.size + 1]? = some (.cells (evA 0 0 0 0 0 0) 62 (0, 0)) ∧ (Fr [w.heap.size + 1] W W' → SyM W' Z' c r.2 (k + 1) ∧ Mv w Z W' Z')) := fun W W' Z' hS hM => ⟨hM.box (w := w) (by omega) h.lt r2, fun hf => Mv.two h (f1.then f2) s2 hS hM hf⟩
  have HW : Hid ((w.alloc (.cells #[.int .i64 et, .int .u8 ek, .int .i64 en, .int .i64 es, .int .i64 ec, .int .i64 em] 62)).alloc (.cells #[.int .i64 0, .int .u8 0, .int .i64 0, .int .i64 0, .int .i64 0, .int .i64 0] 62) = wb) := by show _ = _; rw [hwb, hwa]; rfl
  obtain ⟨b, HB⟩ : ∃ b, Hid (w.heap.size = b) := ⟨_, rfl⟩
  rw [HB.out] at HF y0 y1 y2 y3 y4 y5
  obtain ⟨⟨ak, an, a3, ac⟩, s'⟩ := r
  clear hI hQ hwa hwb f1 f2 s1 s2 r1 r2 h
  simp only [evA]
  go_enter Tryz.func117, Tryz.ntmps117
  go_upto_region 1 with fail
  rw [HW.out, HB.out]
  go_wp2_with fail
  refine Calls.mono HC.out ?_
  rintro e w1 ⟨Z1, rfl, hS1, hM1, z1⟩
  obtain ⟨g1, g2⟩ := HF.out w1 w1 Z1 hS1 hM1
  have HE : Hid (SyM _ _ _ _ _ ∧ Mv _ _ _ _ ∧ Z1.sb = Z.sb) := ⟨hS1, hM1, z1⟩
  clear hS1 hM1 z1 HC hq g2 y0 y1 y2 y3 y4 y5
  simp only [Te.v, evA]
  go_wp2_with (refine wpList_storeEv rfl _ _ rfl (b + 1) 0 ak an a3 ac 0 rfl rfl 0 0 0 0 0 0 g1 ?_; intro w3 hw3 hf3)
  refine bodyPost_ret (results_c_row rfl _ _ _ (b + 1) _ rfl (load_evt hw3.out)) rfl ?_
  obtain ⟨m1, m2⟩ := (HF.out w1 w3 Z1 HE.out.1 HE.out.2.1).2 hf3
  exact ⟨Z1, rfl, m1, m2, HE.out.2.2⟩
set_option maxHeartbeats 2000000 in
set_option maxRecDepth 100000 in
theorem kind3_in (h : SyM w Z c s k) (Q : Nat) (x : Int) (e : Ev) (r : Te × Sy) (hQ : w.heap[Q]? = some (.cells #[.pointer (some ⟨Z.sb, 0, none⟩)] 71 (0, 0)))
    (hI : ∀ W, Fr [] w W → Calls Tryz.prog 120 #[.pointer (some ⟨Z.sb, 0, none⟩), .int .i64 x] W (TaskP W Z c k r)) :
    Calls Tryz.prog 119 #[.int .i64 x, .agg (evA e.t e.k e.n e.s e.c e.m), .pointer (some ⟨Q, 0, none⟩)] w (TaskP w Z c k r) := by
  obtain ⟨et, ek, en, es, ec, em⟩ := e
  simp only at hI ⊢
  obtain ⟨wa, hwa⟩ : ∃ wa, wa = w.alloc (.cells (evA et ek en es ec em) 62) := ⟨_, rfl⟩
  obtain ⟨wb, hwb⟩ : ∃ wb, wb = wa.alloc (.cells (evA 0 0 0 0 0 0) 62) := ⟨_, rfl⟩
  have f1 : Fr [] w wa := by rw [hwa]; exact Fr.alloc _ _ _
  have f2 : Fr [] wa wb := by rw [hwb]; exact Fr.alloc _ _ _
  have s1 : wa.heap.size = w.heap.size + 1 := by rw [hwa]; simp
  have s2 : wb.heap.size = w.heap.size + 2 := by rw [hwb]; simp [s1]
  have r1 : wb.heap[w.heap.size]? = some (.cells (evA et ek en es ec em) 62 (0, 0)) := by refine f2.keep ?_ (by simp); rw [hwa]; exact heap_alloc_new _ _
  have r2 : wb.heap[w.heap.size + 1]? = some (.cells (evA 0 0 0 0 0 0) 62 (0, 0)) := by rw [hwb, ← s1]; exact heap_alloc_new _ _
  have HC : Hid (Calls _ _ _ _ _) := hI wb (f1.then f2)
  have hq : wb.cell? ⟨Q, 0, none⟩ = some (.pointer (some ⟨Z.sb, 0, none⟩)) := by rw [cell_of_row _ _ _ _ _ _ ((f1.then f2).keep hQ (by simp))]; rfl
  obtain ⟨y0, y1, y2, y3, y4, y5⟩ := evt_cells r1
  have HF : Hid (∀ W W' Z', SyM W Z' c r.2 (k + 1) → Mv wb Z W Z' → W.heap[w.heap.size + 1]? = some (.cells (evA 0 0 0 0 0 0) 62 (0, 0)) ∧ (Fr [w.heap.size + 1] W W' → SyM W' Z' c r.2 (k + 1) ∧ Mv w Z W' Z')) := fun W W' Z' hS hM => ⟨hM.box (w := w) (by omega) h.lt r2, fun hf => Mv.two h (f1.then f2) s2 hS hM hf⟩
  have HW : Hid ((w.alloc (.cells #[.int .i64 et, .int .u8 ek, .int .i64 en, .int .i64 es, .int .i64 ec, .int .i64 em] 62)).alloc (.cells #[.int .i64 0, .int .u8 0, .int .i64 0, .int .i64 0, .int .i64 0, .int .i64 0] 62) = wb) := by show _ = _; rw [hwb, hwa]; rfl
  obtain ⟨b, HB⟩ : ∃ b, Hid (w.heap.size = b) := ⟨_, rfl⟩
  rw [HB.out] at HF y0 y1 y2 y3 y4 y5
  obtain ⟨⟨ak, an, a3, ac⟩, s'⟩ := r
  clear hI hQ hwa hwb f1 f2 s1 s2 r1 r2 h
  simp only [evA]
  go_enter Tryz.func119, Tryz.ntmps119
  go_upto_region 1 with fail
  rw [HW.out, HB.out]
  go_wp2_with fail
  refine Calls.mono HC.out ?_
  rintro e w1 ⟨Z1, rfl, hS1, hM1, z1⟩
  obtain ⟨g1, g2⟩ := HF.out w1 w1 Z1 hS1 hM1
  have HE : Hid (SyM _ _ _ _ _ ∧ Mv _ _ _ _ ∧ Z1.sb = Z.sb) := ⟨hS1, hM1, z1⟩
  clear hS1 hM1 z1 HC hq g2 y0 y1 y2 y3 y4 y5
  simp only [Te.v, evA]
  go_wp2_with (refine wpList_storeEv rfl _ _ rfl (b + 1) 0 ak an a3 ac 0 rfl rfl 0 0 0 0 0 0 g1 ?_; intro w3 hw3 hf3)
  refine bodyPost_ret (results_c_row rfl _ _ _ (b + 1) _ rfl (load_evt hw3.out)) rfl ?_
  obtain ⟨m1, m2⟩ := (HF.out w1 w3 Z1 HE.out.1 HE.out.2.1).2 hf3
  exact ⟨Z1, rfl, m1, m2, HE.out.2.2⟩
set_option maxHeartbeats 2000000 in
set_option maxRecDepth 100000 in
theorem kind4_in (h : SyM w Z c s k) (Q : Nat) (x : Int) (e : Ev) (r : Te × Sy) (hQ : w.heap[Q]? = some (.cells #[.pointer (some ⟨Z.sb, 0, none⟩)] 71 (0, 0)))
    (hI : ∀ W, Fr [] w W → Calls Tryz.prog 122 #[.pointer (some ⟨Z.sb, 0, none⟩)] W (TaskP W Z c k r)) :
    Calls Tryz.prog 121 #[.int .i64 x, .agg (evA e.t e.k e.n e.s e.c e.m), .pointer (some ⟨Q, 0, none⟩)] w (TaskP w Z c k r) := by
  obtain ⟨et, ek, en, es, ec, em⟩ := e
  simp only at hI ⊢
  obtain ⟨wa, hwa⟩ : ∃ wa, wa = w.alloc (.cells (evA et ek en es ec em) 62) := ⟨_, rfl⟩
  obtain ⟨wb, hwb⟩ : ∃ wb, wb = wa.alloc (.cells (evA 0 0 0 0 0 0) 62) := ⟨_, rfl⟩
  have f1 : Fr [] w wa := by rw [hwa]; exact Fr.alloc _ _ _
  have f2 : Fr [] wa wb := by rw [hwb]; exact Fr.alloc _ _ _
  have s1 : wa.heap.size = w.heap.size + 1 := by rw [hwa]; simp
  have s2 : wb.heap.size = w.heap.size + 2 := by rw [hwb]; simp [s1]
  have r1 : wb.heap[w.heap.size]? = some (.cells (evA et ek en es ec em) 62 (0, 0)) := by refine f2.keep ?_ (by simp); rw [hwa]; exact heap_alloc_new _ _
  have r2 : wb.heap[w.heap.size + 1]? = some (.cells (evA 0 0 0 0 0 0) 62 (0, 0)) := by rw [hwb, ← s1]; exact heap_alloc_new _ _
  have HC : Hid (Calls _ _ _ _ _) := hI wb (f1.then f2)
  have hq : wb.cell? ⟨Q, 0, none⟩ = some (.pointer (some ⟨Z.sb, 0, none⟩)) := by rw [cell_of_row _ _ _ _ _ _ ((f1.then f2).keep hQ (by simp))]; rfl
  obtain ⟨y0, y1, y2, y3, y4, y5⟩ := evt_cells r1
  have HF : Hid (∀ W W' Z', SyM W Z' c r.2 (k + 1) → Mv wb Z W Z' → W.heap[w.heap.size + 1]? = some (.cells (evA 0 0 0 0 0 0) 62 (0, 0)) ∧ (Fr [w.heap.size + 1] W W' → SyM W' Z' c r.2 (k + 1) ∧ Mv w Z W' Z')) := fun W W' Z' hS hM => ⟨hM.box (w := w) (by omega) h.lt r2, fun hf => Mv.two h (f1.then f2) s2 hS hM hf⟩
  have HW : Hid ((w.alloc (.cells #[.int .i64 et, .int .u8 ek, .int .i64 en, .int .i64 es, .int .i64 ec, .int .i64 em] 62)).alloc (.cells #[.int .i64 0, .int .u8 0, .int .i64 0, .int .i64 0, .int .i64 0, .int .i64 0] 62) = wb) := by show _ = _; rw [hwb, hwa]; rfl
  obtain ⟨b, HB⟩ : ∃ b, Hid (w.heap.size = b) := ⟨_, rfl⟩
  rw [HB.out] at HF y0 y1 y2 y3 y4 y5
  obtain ⟨⟨ak, an, a3, ac⟩, s'⟩ := r
  clear hI hQ hwa hwb f1 f2 s1 s2 r1 r2 h
  simp only [evA]
  go_enter Tryz.func121, Tryz.ntmps121
  go_upto_region 1 with fail
  rw [HW.out, HB.out]
  go_wp2_with fail
  refine Calls.mono HC.out ?_
  rintro e w1 ⟨Z1, rfl, hS1, hM1, z1⟩
  obtain ⟨g1, g2⟩ := HF.out w1 w1 Z1 hS1 hM1
  have HE : Hid (SyM _ _ _ _ _ ∧ Mv _ _ _ _ ∧ Z1.sb = Z.sb) := ⟨hS1, hM1, z1⟩
  clear hS1 hM1 z1 HC hq g2 y0 y1 y2 y3 y4 y5
  simp only [Te.v, evA]
  go_wp2_with (refine wpList_storeEv rfl _ _ rfl (b + 1) 0 ak an a3 ac 0 rfl rfl 0 0 0 0 0 0 g1 ?_; intro w3 hw3 hf3)
  refine bodyPost_ret (results_c_row rfl _ _ _ (b + 1) _ rfl (load_evt hw3.out)) rfl ?_
  obtain ⟨m1, m2⟩ := (HF.out w1 w3 Z1 HE.out.1 HE.out.2.1).2 hf3
  exact ⟨Z1, rfl, m1, m2, HE.out.2.2⟩
set_option maxHeartbeats 2000000 in
set_option maxRecDepth 100000 in
theorem kind5_in (h : SyM w Z c s k) (Q : Nat) (x : Int) (e : Ev) (r : Te × Sy) (hQ : w.heap[Q]? = some (.cells #[.pointer (some ⟨Z.sb, 0, none⟩)] 71 (0, 0)))
    (hI : ∀ W, Fr [] w W → Calls Tryz.prog 124 #[.pointer (some ⟨Z.sb, 0, none⟩), .int .i64 x, .agg (evA e.t e.k e.n e.s e.c e.m)] W (TaskP W Z c k r)) :
    Calls Tryz.prog 123 #[.int .i64 x, .agg (evA e.t e.k e.n e.s e.c e.m), .pointer (some ⟨Q, 0, none⟩)] w (TaskP w Z c k r) := by
  obtain ⟨et, ek, en, es, ec, em⟩ := e
  simp only at hI ⊢
  obtain ⟨wa, hwa⟩ : ∃ wa, wa = w.alloc (.cells (evA et ek en es ec em) 62) := ⟨_, rfl⟩
  obtain ⟨wb, hwb⟩ : ∃ wb, wb = wa.alloc (.cells (evA 0 0 0 0 0 0) 62) := ⟨_, rfl⟩
  have f1 : Fr [] w wa := by rw [hwa]; exact Fr.alloc _ _ _
  have f2 : Fr [] wa wb := by rw [hwb]; exact Fr.alloc _ _ _
  have s1 : wa.heap.size = w.heap.size + 1 := by rw [hwa]; simp
  have s2 : wb.heap.size = w.heap.size + 2 := by rw [hwb]; simp [s1]
  have r1 : wb.heap[w.heap.size]? = some (.cells (evA et ek en es ec em) 62 (0, 0)) := by refine f2.keep ?_ (by simp); rw [hwa]; exact heap_alloc_new _ _
  have r2 : wb.heap[w.heap.size + 1]? = some (.cells (evA 0 0 0 0 0 0) 62 (0, 0)) := by rw [hwb, ← s1]; exact heap_alloc_new _ _
  have HC : Hid (Calls _ _ _ _ _) := hI wb (f1.then f2)
  have hq : wb.cell? ⟨Q, 0, none⟩ = some (.pointer (some ⟨Z.sb, 0, none⟩)) := by rw [cell_of_row _ _ _ _ _ _ ((f1.then f2).keep hQ (by simp))]; rfl
  obtain ⟨y0, y1, y2, y3, y4, y5⟩ := evt_cells r1
  have HF : Hid (∀ W W' Z', SyM W Z' c r.2 (k + 1) → Mv wb Z W Z' → W.heap[w.heap.size + 1]? = some (.cells (evA 0 0 0 0 0 0) 62 (0, 0)) ∧ (Fr [w.heap.size + 1] W W' → SyM W' Z' c r.2 (k + 1) ∧ Mv w Z W' Z')) := fun W W' Z' hS hM => ⟨hM.box (w := w) (by omega) h.lt r2, fun hf => Mv.two h (f1.then f2) s2 hS hM hf⟩
  have HW : Hid ((w.alloc (.cells #[.int .i64 et, .int .u8 ek, .int .i64 en, .int .i64 es, .int .i64 ec, .int .i64 em] 62)).alloc (.cells #[.int .i64 0, .int .u8 0, .int .i64 0, .int .i64 0, .int .i64 0, .int .i64 0] 62) = wb) := by show _ = _; rw [hwb, hwa]; rfl
  obtain ⟨b, HB⟩ : ∃ b, Hid (w.heap.size = b) := ⟨_, rfl⟩
  rw [HB.out] at HF y0 y1 y2 y3 y4 y5
  obtain ⟨⟨ak, an, a3, ac⟩, s'⟩ := r
  clear hI hQ hwa hwb f1 f2 s1 s2 r1 r2 h
  simp only [evA]
  go_enter Tryz.func123, Tryz.ntmps123
  go_upto_region 1 with fail
  rw [HW.out, HB.out]
  go_wp2_with fail
  refine Calls.mono HC.out ?_
  rintro e w1 ⟨Z1, rfl, hS1, hM1, z1⟩
  obtain ⟨g1, g2⟩ := HF.out w1 w1 Z1 hS1 hM1
  have HE : Hid (SyM _ _ _ _ _ ∧ Mv _ _ _ _ ∧ Z1.sb = Z.sb) := ⟨hS1, hM1, z1⟩
  clear hS1 hM1 z1 HC hq g2 y0 y1 y2 y3 y4 y5
  simp only [Te.v, evA]
  go_wp2_with (refine wpList_storeEv rfl _ _ rfl (b + 1) 0 ak an a3 ac 0 rfl rfl 0 0 0 0 0 0 g1 ?_; intro w3 hw3 hf3)
  refine bodyPost_ret (results_c_row rfl _ _ _ (b + 1) _ rfl (load_evt hw3.out)) rfl ?_
  obtain ⟨m1, m2⟩ := (HF.out w1 w3 Z1 HE.out.1 HE.out.2.1).2 hf3
  exact ⟨Z1, rfl, m1, m2, HE.out.2.2⟩
end
end Go.Proofs.YtaaghcimfcjehaaGreatDoor

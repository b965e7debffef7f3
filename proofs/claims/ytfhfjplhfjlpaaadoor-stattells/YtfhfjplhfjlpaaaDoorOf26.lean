/- What stat.Of answers. Conditions: the events can be read. -/
import Derived.Test.YtfhfjplhfjlpaaaDoorWl26
import Derived.BigQuiet
namespace Go.Proofs.YtfhfjplhfjlpaaaDoor
open Go.ChangeShapes Go.WideShapes Go.ChangeAt Go.RowKit Go.Lib
set_option linter.unusedVariables false
set_option linter.unusedSimpArgs false

theorem rw_ix0 (sb Q : Nat) (w : World) : (Instr.index 62 (.agg #[.pointer (some ⟨sb, 0, none⟩), .func (Fn.func 54) #[] #[], .pointer (some ⟨sb, 1, none⟩), .func (Fn.func 55) #[] #[], .pointer (some ⟨sb, 2, none⟩), .func (Fn.func 57) #[] #[], .pointer (some ⟨sb, 3, none⟩), .func (Fn.func 58) #[] #[.pointer (some ⟨Q, 0, none⟩)], .pointer (some ⟨sb, 4, none⟩), .func (Fn.func 60) #[] #[]]) (.int .i64 0)).run Tryd.prog w = .ok (.agg #[.pointer (some ⟨sb, 0, none⟩), .func (Fn.func 54) #[] #[]]) w := by kernel_rfl
theorem rw_ix1 (sb Q : Nat) (w : World) : (Instr.index 62 (.agg #[.pointer (some ⟨sb, 0, none⟩), .func (Fn.func 54) #[] #[], .pointer (some ⟨sb, 1, none⟩), .func (Fn.func 55) #[] #[], .pointer (some ⟨sb, 2, none⟩), .func (Fn.func 57) #[] #[], .pointer (some ⟨sb, 3, none⟩), .func (Fn.func 58) #[] #[.pointer (some ⟨Q, 0, none⟩)], .pointer (some ⟨sb, 4, none⟩), .func (Fn.func 60) #[] #[]]) (.int .i64 1)).run Tryd.prog w = .ok (.agg #[.pointer (some ⟨sb, 1, none⟩), .func (Fn.func 55) #[] #[]]) w := by kernel_rfl
theorem rw_ix2 (sb Q : Nat) (w : World) : (Instr.index 62 (.agg #[.pointer (some ⟨sb, 0, none⟩), .func (Fn.func 54) #[] #[], .pointer (some ⟨sb, 1, none⟩), .func (Fn.func 55) #[] #[], .pointer (some ⟨sb, 2, none⟩), .func (Fn.func 57) #[] #[], .pointer (some ⟨sb, 3, none⟩), .func (Fn.func 58) #[] #[.pointer (some ⟨Q, 0, none⟩)], .pointer (some ⟨sb, 4, none⟩), .func (Fn.func 60) #[] #[]]) (.int .i64 2)).run Tryd.prog w = .ok (.agg #[.pointer (some ⟨sb, 2, none⟩), .func (Fn.func 57) #[] #[]]) w := by kernel_rfl
theorem rw_ix3 (sb Q : Nat) (w : World) : (Instr.index 62 (.agg #[.pointer (some ⟨sb, 0, none⟩), .func (Fn.func 54) #[] #[], .pointer (some ⟨sb, 1, none⟩), .func (Fn.func 55) #[] #[], .pointer (some ⟨sb, 2, none⟩), .func (Fn.func 57) #[] #[], .pointer (some ⟨sb, 3, none⟩), .func (Fn.func 58) #[] #[.pointer (some ⟨Q, 0, none⟩)], .pointer (some ⟨sb, 4, none⟩), .func (Fn.func 60) #[] #[]]) (.int .i64 3)).run Tryd.prog w = .ok (.agg #[.pointer (some ⟨sb, 3, none⟩), .func (Fn.func 58) #[] #[.pointer (some ⟨Q, 0, none⟩)]]) w := by kernel_rfl
theorem rw_ix4 (sb Q : Nat) (w : World) : (Instr.index 62 (.agg #[.pointer (some ⟨sb, 0, none⟩), .func (Fn.func 54) #[] #[], .pointer (some ⟨sb, 1, none⟩), .func (Fn.func 55) #[] #[], .pointer (some ⟨sb, 2, none⟩), .func (Fn.func 57) #[] #[], .pointer (some ⟨sb, 3, none⟩), .func (Fn.func 58) #[] #[.pointer (some ⟨Q, 0, none⟩)], .pointer (some ⟨sb, 4, none⟩), .func (Fn.func 60) #[] #[]]) (.int .i64 4)).run Tryd.prog w = .ok (.agg #[.pointer (some ⟨sb, 4, none⟩), .func (Fn.func 60) #[] #[]]) w := by kernel_rfl
theorem rw_cells {w : World} {g sb Q : Nat} (h : w.heap[g]? = some (.cells (rwA sb Q) 62 (0, 0))) : w.cell? ⟨g, 0, none⟩ = some (.pointer (some ⟨sb, 0, none⟩)) ∧ w.cell? ⟨g, 1, none⟩ = some (.func (Fn.func 54) #[] #[]) ∧ w.cell? ⟨g, 2, none⟩ = some (.pointer (some ⟨sb, 1, none⟩)) ∧ w.cell? ⟨g, 3, none⟩ = some (.func (Fn.func 55) #[] #[]) ∧ w.cell? ⟨g, 4, none⟩ = some (.pointer (some ⟨sb, 2, none⟩)) ∧ w.cell? ⟨g, 5, none⟩ = some (.func (Fn.func 57) #[] #[]) ∧ w.cell? ⟨g, 6, none⟩ = some (.pointer (some ⟨sb, 3, none⟩)) ∧ w.cell? ⟨g, 7, none⟩ = some (.func (Fn.func 58) #[] #[.pointer (some ⟨Q, 0, none⟩)]) ∧ w.cell? ⟨g, 8, none⟩ = some (.pointer (some ⟨sb, 4, none⟩)) ∧ w.cell? ⟨g, 9, none⟩ = some (.func (Fn.func 60) #[] #[]) :=
  ⟨by rw [cell_of_row _ _ _ _ _ _ h]; rfl, by rw [cell_of_row _ _ _ _ _ _ h]; rfl, by rw [cell_of_row _ _ _ _ _ _ h]; rfl, by rw [cell_of_row _ _ _ _ _ _ h]; rfl, by rw [cell_of_row _ _ _ _ _ _ h]; rfl, by rw [cell_of_row _ _ _ _ _ _ h]; rfl, by rw [cell_of_row _ _ _ _ _ _ h]; rfl, by rw [cell_of_row _ _ _ _ _ _ h]; rfl, by rw [cell_of_row _ _ _ _ _ _ h]; rfl, by rw [cell_of_row _ _ _ _ _ _ h]; rfl⟩
/-- What stands between two events. -/
def OfP (sb g : Nat) (wS : World) (L : Nat) (es : List Ev) (i : Nat) (W : World) : Prop :=
  W.heap[sb]? = some (.cells (sta L es i).a 27 (0, 0)) ∧ BR W g (hs L es i) ∧ Fr [sb, g] wS W
/-- What stands between two fields. -/
def InP (sb g eb : Nat) (wS : World) (E : Ev) (h : List Bool) (o n : Sst) (j : Nat) (W : World) : Prop :=
  W.heap[sb]? = some (.cells (mixA o n j) 27 (0, 0)) ∧ BR W g h ∧ W.heap[eb]? = some (.cells (evA E.t E.k E.n E.s E.c E.m) 54 (0, 0)) ∧ Fr [sb, g] wS W
section
variable {sb g eb : Nat} {wS W W' : World} {E : Ev} {h : List Bool} {o n : Sst}
theorem InP.quiet {j : Nat} (hh : InP sb g eb wS E h o n j W) (hf : Fr [] W W') : InP sb g eb wS E h o n j W' :=
  ⟨hf.keep hh.1 (by simp), hh.2.1.keep hf (by simp), hf.keep hh.2.2.1 (by simp), hh.2.2.2.then (hf.mono (by simp))⟩
theorem InP.put {j : Nat} {x : Int} (hh : InP sb g eb wS E h o n j W) (n1 : sb ≠ g) (n2 : sb ≠ eb) (hx : (mixA o n j).setIfInBounds j (.int .i64 x) = mixA o n (j + 1)) : InP sb g eb wS E h o n (j + 1) (W.setCell ⟨sb, j, none⟩ (.int .i64 x)) := by
  have hf : Fr [sb] W (W.setCell ⟨sb, j, none⟩ (.int .i64 x)) := Fr.set _ _ _ (by simp)
  have hr := row_putj (v := .int .i64 x) (j := j) hh.1
  rw [hx] at hr
  exact ⟨hr, hh.2.1.keep hf (by simp; exact n1.symm), hf.keep hh.2.2.1 (by simp; exact n2.symm), hh.2.2.2.then (hf.mono (by simp))⟩
theorem mix_set0 : (mixA o n 0).setIfInBounds 0 (.int .i64 n.n) = mixA o n (0 + 1) := by simp [mixA, stA]
theorem mix_cell0 (h : W.heap[sb]? = some (.cells (mixA o n 0) 27 (0, 0))) : W.cell? ⟨sb, 0, none⟩ = some (.int .i64 o.n) := by rw [cell_of_row _ _ _ _ _ _ h]; simp [mixA, stA]
theorem mix_set1 : (mixA o n 1).setIfInBounds 1 (.int .i64 n.i) = mixA o n (1 + 1) := by simp [mixA, stA]
theorem mix_cell1 (h : W.heap[sb]? = some (.cells (mixA o n 1) 27 (0, 0))) : W.cell? ⟨sb, 1, none⟩ = some (.int .i64 o.i) := by rw [cell_of_row _ _ _ _ _ _ h]; simp [mixA, stA]
theorem mix_set2 : (mixA o n 2).setIfInBounds 2 (.int .i64 n.g) = mixA o n (2 + 1) := by simp [mixA, stA]
theorem mix_cell2 (h : W.heap[sb]? = some (.cells (mixA o n 2) 27 (0, 0))) : W.cell? ⟨sb, 2, none⟩ = some (.int .i64 o.g) := by rw [cell_of_row _ _ _ _ _ _ h]; simp [mixA, stA]
theorem mix_set3 : (mixA o n 3).setIfInBounds 3 (.int .i64 n.b) = mixA o n (3 + 1) := by simp [mixA, stA]
theorem mix_cell3 (h : W.heap[sb]? = some (.cells (mixA o n 3) 27 (0, 0))) : W.cell? ⟨sb, 3, none⟩ = some (.int .i64 o.b) := by rw [cell_of_row _ _ _ _ _ _ h]; simp [mixA, stA]
theorem mix_set4 : (mixA o n 4).setIfInBounds 4 (.int .i64 n.r) = mixA o n (4 + 1) := by simp [mixA, stA]
theorem mix_cell4 (h : W.heap[sb]? = some (.cells (mixA o n 4) 27 (0, 0))) : W.cell? ⟨sb, 4, none⟩ = some (.int .i64 o.r) := by rw [cell_of_row _ _ _ _ _ _ h]; simp [mixA, stA]
end
set_option maxHeartbeats 8000000 in
set_option maxRecDepth 100000 in
theorem of_no (l s x q : Int) (eo : Option Addr) (en ec : Nat) (w : World) (hc : ¬ Cf.may ⟨l, s, x, q⟩) :
    Calls Tryd.prog 5 #[.agg #[.int .i64 l, .int .i64 s, .int .i64 x, .int .i64 q], .slice eo en ec] w fun e w' => e = .returned (.tuple #[.agg (stA 0 0 0 0 0), .int .i64 7]) ∧ Fr [] w w' := by
  have HC : Hid (∀ W, Calls Tryd.prog 14 #[.agg #[.int .i64 l, .int .i64 s, .int .i64 x, .int .i64 q]] W fun e w' => e = .returned (.int .i64 7) ∧ Fr [] W w') := fun W => (check_cells l s x q W).mono fun e w' h => ⟨by rw [h.1, Cf.err, if_neg hc], h.2⟩
  obtain ⟨wb, HW⟩ : ∃ wb, Hid ((w.alloc (.cells #[.int .i64 l, .int .i64 s, .int .i64 x, .int .i64 q] 23)).alloc (.cells #[.int .i64 0, .int .i64 0, .int .i64 0, .int .i64 0, .int .i64 0] 27) = wb) := ⟨_, rfl⟩
  have hM : CfM wb w.heap.size l s x q := by rw [← HW.out]; exact (CfM.new w l s x q 23).keep (Fr.alloc _ _ _)
  have hr : wb.heap[w.heap.size + 1]? = some (.cells (stA 0 0 0 0 0) 27 (0, 0)) := by
    rw [← HW.out, show w.heap.size + 1 = (w.alloc (.cells #[.int .i64 l, .int .i64 s, .int .i64 x, .int .i64 q] 23)).heap.size by simp]
    exact heap_alloc_new _ _
  have HF : Hid (Fr [] w wb) := by rw [← HW.out]; exact (Fr.alloc [] w _).then (Fr.alloc _ _ _)
  have HLo : Hid (w.heap.size ≤ w.heap.size) := Nat.le_refl _
  obtain ⟨b, HB⟩ : ∃ b, Hid (w.heap.size = b) := ⟨_, rfl⟩
  rw [HB.out] at hM hr
  have HR : Hid (∀ W, Fr [] wb W → W.heap[b + 1]? = some (.cells (stA 0 0 0 0 0) 27 (0, 0))) := fun W hf => hf.keep hr (by simp)
  obtain ⟨_, m0, m1, m2, m3⟩ := hM
  clear hr hc
  go_enter Tryd.func5, Tryd.ntmps5
  go_upto_region 1 with fail
  rw [HW.out, HB.out]
  go_wp2_with fail
  with_reducible refine (HC.out _).mono ?_
  rintro e w1 ⟨rfl, hF1⟩
  have HF1 : Hid (Fr [] wb w1) := hF1
  clear hF1 m0 m1 m2 m3
  go_wp2_with (refine wpList_storeSt rfl _ _ rfl (b + 1) 0 0 0 0 0 rfl rfl 0 0 0 0 0 (HR.out _ HF1.out) ?_; intro w3 hw3 hf3)
  refine bodyPost_ret (results_ct_row rfl _ _ _ (b + 1) _ rfl (load_st hw3.out)) rfl ?_
  exact ⟨rfl, (HF.out.then HF1.out).on hf3 (by intro y hy; have := HB.out; simp at hy; omega)⟩
set_option maxHeartbeats 32000000 in
set_option maxRecDepth 100000 in
theorem of_ok (L : Nat) (s x q : Int) (eo : Option Addr) (en ec : Nat) (es : List Ev) (w : World) (hc : Cf.may ⟨L, s, x, q⟩) (hE : ERs w eo es) (hen : en = es.length) :
    Calls Tryd.prog 5 #[.agg #[.int .i64 (L : Int), .int .i64 s, .int .i64 x, .int .i64 q], .slice eo en ec] w fun e w' => e = .returned (.tuple #[.agg (sta L es en).a, .int .i64 0]) ∧ Fr [] w w' := by
  have HC : Hid (∀ W, Calls Tryd.prog 14 #[.agg #[.int .i64 (L : Int), .int .i64 s, .int .i64 x, .int .i64 q]] W fun e w' => e = .returned (.int .i64 0) ∧ Fr [] W w') := fun W => (check_cells L s x q W).mono fun e w' h => ⟨by rw [h.1, Cf.err, if_pos hc], h.2⟩
  have hL : L ≤ 16 := by have := hc.1.2; simp only at this; omega
  obtain ⟨iB, hiB, hzB, hsB, hbB⟩ := binfo_parts
  obtain ⟨wb, HW⟩ : ∃ wb, Hid ((w.alloc (.cells #[.int .i64 (L : Int), .int .i64 s, .int .i64 x, .int .i64 q] 23)).alloc (.cells #[.int .i64 0, .int .i64 0, .int .i64 0, .int .i64 0, .int .i64 0] 27) = wb) := ⟨_, rfl⟩
  have hM : CfM wb w.heap.size L s x q := by rw [← HW.out]; exact (CfM.new w L s x q 23).keep (Fr.alloc _ _ _)
  have hr : wb.heap[w.heap.size + 1]? = some (.cells (stA 0 0 0 0 0) 27 (0, 0)) := by
    rw [← HW.out, show w.heap.size + 1 = (w.alloc (.cells #[.int .i64 (L : Int), .int .i64 s, .int .i64 x, .int .i64 q] 23)).heap.size by simp]
    exact heap_alloc_new _ _
  have HF : Hid (Fr [] w wb) := by rw [← HW.out]; exact (Fr.alloc [] w _).then (Fr.alloc _ _ _)
  obtain ⟨b, HB⟩ : ∃ b, Hid (w.heap.size = b) := ⟨_, rfl⟩
  rw [HB.out] at hM hr
  have HR : Hid (∀ W, Fr [] wb W → W.heap[b + 1]? = some (.cells (stA 0 0 0 0 0) 27 (0, 0))) := fun W hf => hf.keep hr (by simp)
  have HM : Hid (∀ W, Fr [] wb W → W.cell? ⟨b, 0, none⟩ = some (.int .i64 (L : Int))) := fun W hf => (hM.keep hf).2.1
  have HE : Hid (∀ W, Fr [] w W → ERs W eo es) := fun W hf => hE.keep hf
  have HL : Hid (en = es.length) := hen
  have HFew : Hid (es.length ≤ 4398046511104) := hE.few
  have hbb : b + 1 < wb.heap.size := lt_of_block hr
  obtain ⟨_, m0, m1, m2, m3⟩ := hM
  clear hr hE hen hc
  go_enter Tryd.func5, Tryd.ntmps5
  go_upto_region 1 with fail
  rw [HW.out, HB.out]
  go_wp2_with fail
  with_reducible refine (HC.out _).mono ?_
  rintro e w1 ⟨rfl, hF1⟩
  obtain ⟨w2, HW2⟩ : ∃ w2, Hid (w1.alloc (.cells #[.int .i64 0, .int .i64 0, .int .i64 0, .int .i64 0, .int .i64 0] 27) = w2) := ⟨_, rfl⟩
  obtain ⟨sb, HSb⟩ : ∃ sb, Hid (w1.heap.size = sb) := ⟨_, rfl⟩
  have hF2 : Fr [] w1 w2 := by rw [← HW2.out]; exact Fr.alloc _ _ _
  have HF2 : Hid (Fr [] wb w2) := hF1.then hF2
  have HS2 : Hid (w2.heap[sb]? = some (.cells (stA 0 0 0 0 0) 27 (0, 0))) := by show _ = _; rw [← HW2.out, ← HSb.out]; exact heap_alloc_new _ _
  have hsb : b + 1 < sb := by rw [← HSb.out]; exact Nat.lt_of_lt_of_le hbb hF1.size
  have m0 := HM.out _ HF2.out
  clear hF1 hF2 m1 m2 m3
  go_upto_region 5 with fail
  rw [HW2.out, HSb.out]
  go_wp2_with (at_make; refine wpList_make_full _ rfl (.tmp 21) (.tmp 21) 57 rfl 0 4 iB _ 1 Tryd.undBools hiB hzB hsB .i64 .i64 (L : Int) (L : Int) L rfl rfl rfl rfl ?b2 ?b3 ?b4 ?_)
  case b2 => rw [hbB]; omega
  case b3 => unfold maxLen; omega
  case b4 => exact Nat.zero_le _
  intro w3 hown hgrow
  rw [made_bools] at hown
  have hrow : BR w3 w2.heap.size (List.replicate L false) := bools_full hown
  have hF3 : Fr [] w2 w3 := Fr.grown (S := []) hgrow (by simp)
  obtain ⟨g, HG⟩ : ∃ g, Hid (w2.heap.size = g) := ⟨_, rfl⟩
  rw [HG.out] at hrow ⊢
  have hsg : sb < g := by rw [← HG.out]; exact lt_of_block HS2.out
  have HF3 : Hid (Fr [] w2 w3) := hF3
  have HG3 : Hid (BR w3 g (hs L es 0)) := by show BR _ _ _; rw [hs_zero]; exact hrow
  have HRw := rows_any sb g L w3
  unfold rwA at HRw
  clear hown hgrow hrow hF3 m0 hiB hzB hsB hbB
  go_wp2_with fail
  with_reducible refine HRw.mono ?_
  rintro e w4 ⟨Q, rfl, hQ3, hQ, hF4⟩
  obtain ⟨wS, HWS⟩ : ∃ wS, Hid (w4.alloc (.cells (rwA sb Q) 62) = wS) := ⟨_, rfl⟩
  obtain ⟨rb, HRb⟩ : ∃ rb, Hid (w4.heap.size = rb) := ⟨_, rfl⟩
  have hFS : Fr [] w4 wS := by rw [← HWS.out]; exact Fr.alloc _ _ _
  have hgQ : g < Q := Nat.lt_of_lt_of_le (lt_of_block HG3.out) hQ3
  have hQr : Q < rb := by rw [← HRb.out]; exact lt_of_block hQ
  have hRS : wS.heap[rb]? = some (.cells (rwA sb Q) 62 (0, 0)) := by rw [← HWS.out, ← HRb.out]; exact heap_alloc_new _ _
  have hfS : Fr [] wb wS := ((HF2.out.then HF3.out).then hF4).then hFS
  have HFS : Hid (Fr [] w wS) := HF.out.then hfS
  have HQS : Hid (∀ W, Fr [sb, g] wS W → W.heap[Q]? = some (.cells #[.slice (some ⟨g, 0, none⟩) L L] 57 (0, 0))) := fun W hf => hf.keep (hFS.keep hQ (by simp)) (by simp; omega)
  have HRS : Hid (∀ W, Fr [sb, g] wS W → W.heap[rb]? = some (.cells (rwA sb Q) 62 (0, 0))) := fun W hf => hf.keep hRS (by simp; omega)
  have HOS : Hid (∀ W, Fr [sb, g] wS W → W.heap[b + 1]? = some (.cells (stA 0 0 0 0 0) 27 (0, 0))) := fun W hf => hf.keep (HR.out _ hfS) (by simp; omega)
  have HW0 : Hid (∀ W, Fr [sb, g] wS W → Fr [] w W) := fun W hf => HFS.out.on hf (by intro y hy; have := HB.out; simp at hy; omega)
  have H0 : Hid (OfP sb g wS L es 0 wS) := ⟨((HF3.out.then hF4).then hFS).keep HS2.out (by simp), HG3.out.keep (hF4.then hFS) (by simp), Fr.refl _ _⟩
  have hrS : rb < wS.heap.size := lt_of_block hRS
  clear hF4 hFS hQ hRS hfS HRw hQ3
  go_upto_region 7 with fail
  have hwS := HWS.out
  unfold rwA at hwS
  simp only [hwS, HRb.out]
  clear hwS HWS HRb
  go_wp2_with fail
  go_loopw [27] (fun ii wr => ∃ (i : Nat), ii = .int .i64 i ∧ i ≤ en ∧ Hid (OfP sb g wS L es i wr)) (fun ii _ => en - (RowKit.intOf ii).toNat)
  case atStart => exact ⟨0, rfl, Nat.zero_le _, H0⟩
  case round =>
    obtain ⟨i, rfl, hin, HP⟩ := hrel
    by_cases hi : i < en
    · have hi' : i < es.length := by rw [← HL.out]; exact hi
      obtain ⟨bb, off, rfl, _, hcE⟩ := (HE.out _ (HW0.out _ HP.out.2.2)).lies (by omega)
      obtain ⟨d0, d1, d2, d3, d4, d5⟩ := hcE i hi'
      obtain ⟨E, hEE⟩ : ∃ E, E = es.getD i Ev.no := ⟨_, rfl⟩
      rw [← hEE] at d0 d1 d2 d3 d4 d5
      have HEE : Hid (E = es.getD i Ev.no) := hEE
      obtain ⟨w5, HW5⟩ : ∃ w5, Hid (wr.alloc (.cells #[.int .i64 E.t, .int .u8 E.k, .int .i64 E.n, .int .i64 E.s, .int .i64 E.c, .int .i64 E.m] 54) = w5) := ⟨_, rfl⟩
      obtain ⟨eb, HEb⟩ : ∃ eb, Hid (wr.heap.size = eb) := ⟨_, rfl⟩
      have hF5 : Fr [] wr w5 := by rw [← HW5.out]; exact Fr.alloc _ _ _
      have hby : w5.heap[eb]? = some (.cells (evA E.t E.k E.n E.s E.c E.m) 54 (0, 0)) := by rw [← HW5.out, ← HEb.out]; exact heap_alloc_new wr _
      obtain ⟨y0, y1, y2, y3, y4, y5⟩ := evt_cells hby
      have hre : rb < eb := by rw [← HEb.out]; exact Nat.lt_of_lt_of_le hrS HP.out.2.2.size
      have HSee : Hid (Calls Tryd.prog 16 #[.slice (some ⟨g, 0, none⟩) L L, .agg #[.int .i64 E.t, .int .u8 E.k, .int .i64 E.n, .int .i64 E.s, .int .i64 E.c, .int .i64 E.m]] w5 fun x w' => x = .returned (.tuple #[]) ∧ Hid (InP sb g eb wS E (hs L es (i + 1)) (sta L es i) (sta L es (i + 1)) 0 w')) := by
        have hz := see_any g (hs L es i) E w5 (HP.out.2.1.keep hF5 (by simp)) (by rw [hs_length]; exact hL)
        rw [hs_length] at hz
        refine Calls.mono hz fun e w' hh => ⟨hh.1, ?_⟩
        refine ⟨hh.2.2.keep (hF5.keep HP.out.1 (by simp)) (by simp; omega), ?_, hh.2.2.keep hby (by simp; omega), (HP.out.2.2.then (hF5.mono (by simp))).then (hh.2.2.mono (by simp))⟩
        rw [hs_succ, ← HEE.out]
        exact hh.2.1
      clear hEE hby hF5 hcE
      go_upto_region 10 with fail
      rw [HW5.out, HEb.out]
      clear HW5 HEb
      go_wp2_with fail
      with_reducible refine HSee.out.mono ?_
      rintro e w6 ⟨rfl, HI6⟩
      clear d0 d1 d2 d3 d4 d5 y0 y1 y2 y3 y4 y5 HSee
      obtain ⟨k0, k1, k2, k3, k4, k5, k6, k7, k8, k9⟩ := rw_cells (HRS.out _ HI6.out.2.2.2)
      go_wp2_with fail
      clear k0 k1 k2 k3 k4 k5 k6 k7 k8 k9
      go_loopw [35] (fun jj wr => ∃ (j : Nat), jj = .int .i64 j ∧ j ≤ 5 ∧ Hid (InP sb g eb wS E (hs L es (i + 1)) (sta L es i) (sta L es (i + 1)) j wr)) (fun jj _ => 5 - (RowKit.intOf jj).toNat)
      case atStart => exact ⟨0, rfl, by omega, HI6⟩
      case round =>
        obtain ⟨j, rfl, hj5, HI⟩ := hrel
        by_cases hj : j < 5
        · have x0 := rw_ix0 sb Q
          have x1 := rw_ix1 sb Q
          have x2 := rw_ix2 sb Q
          have x3 := rw_ix3 sb Q
          have x4 := rw_ix4 sb Q
          have hsn := sta_n L es i
          have hsi := sta_i L es i
          have hsg2 := sta_g L es i
          have hsr := sta_r L es i
          have hfew := HFew.out
          have HEv : Hid (∀ (j : Nat) (W : World), InP sb g eb wS E (hs L es (i + 1)) (sta L es i) (sta L es (i + 1)) j W → W.heap[eb]? = some (.cells (evA E.t E.k E.n E.s E.c E.m) 54 (0, 0))) := fun j W hh => hh.2.2.1
          have HN1 : Hid (sb ≠ g ∧ sb ≠ eb) := ⟨by omega, by omega⟩
          rcases (show j = 0 ∨ j = 1 ∨ j = 2 ∨ j = 3 ∨ j = 4 by omega) with rfl | rfl | rfl | rfl | rfl
          · have HCk : Hid (∀ W, Fr [] wr W → Calls Tryd.prog 54 #[.int .i64 (sta L es i).n, .agg (evA E.t E.k E.n E.s E.c E.m)] W fun e w' => e = .returned (.int .i64 (sta L es (i + 1)).n) ∧ Fr [] W w') := fun W hf => (stR1_any (sta L es i).n E W (by rw [hsn]; omega) (by rw [hsn]; omega)).mono fun e w' hh => ⟨by rw [hh.1]; simp only [sta, HEE.out], hh.2⟩
            obtain ⟨w7, HW7⟩ : ∃ w7, Hid (wr.alloc (.cells #[.pointer (some ⟨sb, 0, none⟩), .func (Fn.func 54) #[] #[]] 61) = w7) := ⟨_, rfl⟩
            obtain ⟨pb, HPb⟩ : ∃ pb, Hid (wr.heap.size = pb) := ⟨_, rfl⟩
            have hF7 : Fr [] wr w7 := by rw [← HW7.out]; exact Fr.alloc _ _ _
            have hrow : w7.heap[pb]? = some (.cells #[.pointer (some ⟨sb, 0, none⟩), .func (Fn.func 54) #[] #[]] 61 (0, 0)) := by rw [← HW7.out, ← HPb.out]; exact heap_alloc_new _ _
            have hI7 := HI.out.quiet hF7
            have HEy : ∀ y : Wd13 w7, _ := fun y => evt_cells (HEv.out _ _ (hI7.quiet y.h))
            have y0 := fun y => (HEy y).1
            have y1 := fun y => (HEy y).2.1
            have y2 := fun y => (HEy y).2.2.1
            have y3 := fun y => (HEy y).2.2.2.1
            have y4 := fun y => (HEy y).2.2.2.2.1
            have y5 := fun y => (HEy y).2.2.2.2.2
            have p0 : ∀ y : Wd13 w7, y.W.cell? ⟨pb, 0, none⟩ = some (.pointer (some ⟨sb, 0, none⟩)) := fun y => by rw [cell_of_row _ _ _ _ _ _ (y.h.keep hrow (by simp))]; rfl
            have p1 : ∀ y : Wd13 w7, y.W.cell? ⟨pb, 1, none⟩ = some (.func (Fn.func 54) #[] #[]) := fun y => by rw [cell_of_row _ _ _ _ _ _ (y.h.keep hrow (by simp))]; rfl
            have v0 : ∀ y : Wd13 w7, y.W.cell? ⟨sb, 0, none⟩ = some (.int .i64 (sta L es i).n) := fun y => mix_cell0 (hI7.quiet y.h).1
            have HV1 : Hid (∀ y : Wd13 w7, y.W.frozen? ⟨sb, 0, none⟩ = false ∧ InP sb g eb wS E (hs L es (i + 1)) (sta L es i) (sta L es (i + 1)) (0 + 1) (y.W.setCell ⟨sb, 0, none⟩ (.int .i64 (sta L es (i + 1)).n))) := fun y => ⟨by simp [World.frozen?, (hI7.quiet y.h).1], (hI7.quiet y.h).put HN1.out.1 HN1.out.2 mix_set0⟩
            have HCl : Hid (∀ W, Fr [] w7 W → Calls Tryd.prog 54 #[.int .i64 (sta L es i).n, .agg #[.int .i64 E.t, .int .u8 E.k, .int .i64 E.n, .int .i64 E.s, .int .i64 E.c, .int .i64 E.m]] W fun e w' => e = .returned (.int .i64 (sta L es (i + 1)).n) ∧ Fr [] W w') := fun W hf => HCk.out W (hF7.then hf)
            generalize (sta L es i).n = old at HCl v0
            generalize (sta L es (i + 1)).n = nw at HCl HV1
            clear hrow hI7 HCk hF7 hsn hsi hsg2 hsr hfew HI HEy
            go_upto_region 14 with fail
            rw [HW7.out, HPb.out]
            clear HW7 HPb
            refine wp_region_last2 (C := fun w' => ∃ x : Wd13 w7, w' = x.W) (by simp only [List.dropLast]; rfl) (by simp only [List.getLast?]; rfl) (by kernel_rfl) (by kernel_rfl) (by kernel_rfl) (by kernel_rfl) ⟨⟨_, Fr.drew [] _⟩, rfl⟩ ?_
            repeat (go_big_quiet_step ((go_at_call 54; with_reducible refine (HCl.out _ (Wd13.h _)).mono ?_; exact fun e w3 hh => ⟨hh.1, ⟨_, Fr.then (Wd13.h _) hh.2⟩, rfl⟩)))
            refine wpQuiet_nil ?_
            rintro _ ⟨y, rfl⟩
            have v1 := v0 y
            obtain ⟨v2, hI8⟩ := HV1.out y
            have HI8 : Hid (InP sb g eb wS E (hs L es (i + 1)) (sta L es i) (sta L es (i + 1)) _ _) := hI8
            clear y0 y1 y2 y3 y4 y5 p0 p1 v0 HV1 HCl hI8
            go_wp2_with fail
            go_roundw
            case rel => exact ⟨0 + 1, rfl, by omega, HI8⟩
            case measure => simp [intOf]
          · have HCk : Hid (∀ W, Fr [] wr W → Calls Tryd.prog 55 #[.int .i64 (sta L es i).i, .agg (evA E.t E.k E.n E.s E.c E.m)] W fun e w' => e = .returned (.int .i64 (sta L es (i + 1)).i) ∧ Fr [] W w') := fun W hf => (stR2_any (sta L es i).i E W (by omega) (by omega)).mono fun e w' hh => ⟨by rw [hh.1]; simp only [sta, HEE.out], hh.2⟩
            obtain ⟨w7, HW7⟩ : ∃ w7, Hid (wr.alloc (.cells #[.pointer (some ⟨sb, 1, none⟩), .func (Fn.func 55) #[] #[]] 61) = w7) := ⟨_, rfl⟩
            obtain ⟨pb, HPb⟩ : ∃ pb, Hid (wr.heap.size = pb) := ⟨_, rfl⟩
            have hF7 : Fr [] wr w7 := by rw [← HW7.out]; exact Fr.alloc _ _ _
            have hrow : w7.heap[pb]? = some (.cells #[.pointer (some ⟨sb, 1, none⟩), .func (Fn.func 55) #[] #[]] 61 (0, 0)) := by rw [← HW7.out, ← HPb.out]; exact heap_alloc_new _ _
            have hI7 := HI.out.quiet hF7
            have HEy : ∀ y : Wd13 w7, _ := fun y => evt_cells (HEv.out _ _ (hI7.quiet y.h))
            have y0 := fun y => (HEy y).1
            have y1 := fun y => (HEy y).2.1
            have y2 := fun y => (HEy y).2.2.1
            have y3 := fun y => (HEy y).2.2.2.1
            have y4 := fun y => (HEy y).2.2.2.2.1
            have y5 := fun y => (HEy y).2.2.2.2.2
            have p0 : ∀ y : Wd13 w7, y.W.cell? ⟨pb, 0, none⟩ = some (.pointer (some ⟨sb, 1, none⟩)) := fun y => by rw [cell_of_row _ _ _ _ _ _ (y.h.keep hrow (by simp))]; rfl
            have p1 : ∀ y : Wd13 w7, y.W.cell? ⟨pb, 1, none⟩ = some (.func (Fn.func 55) #[] #[]) := fun y => by rw [cell_of_row _ _ _ _ _ _ (y.h.keep hrow (by simp))]; rfl
            have v0 : ∀ y : Wd13 w7, y.W.cell? ⟨sb, 1, none⟩ = some (.int .i64 (sta L es i).i) := fun y => mix_cell1 (hI7.quiet y.h).1
            have HV1 : Hid (∀ y : Wd13 w7, y.W.frozen? ⟨sb, 1, none⟩ = false ∧ InP sb g eb wS E (hs L es (i + 1)) (sta L es i) (sta L es (i + 1)) (1 + 1) (y.W.setCell ⟨sb, 1, none⟩ (.int .i64 (sta L es (i + 1)).i))) := fun y => ⟨by simp [World.frozen?, (hI7.quiet y.h).1], (hI7.quiet y.h).put HN1.out.1 HN1.out.2 mix_set1⟩
            have HCl : Hid (∀ W, Fr [] w7 W → Calls Tryd.prog 55 #[.int .i64 (sta L es i).i, .agg #[.int .i64 E.t, .int .u8 E.k, .int .i64 E.n, .int .i64 E.s, .int .i64 E.c, .int .i64 E.m]] W fun e w' => e = .returned (.int .i64 (sta L es (i + 1)).i) ∧ Fr [] W w') := fun W hf => HCk.out W (hF7.then hf)
            generalize (sta L es i).i = old at HCl v0
            generalize (sta L es (i + 1)).i = nw at HCl HV1
            clear hrow hI7 HCk hF7 hsn hsi hsg2 hsr hfew HI HEy
            go_upto_region 14 with fail
            rw [HW7.out, HPb.out]
            clear HW7 HPb
            refine wp_region_last2 (C := fun w' => ∃ x : Wd13 w7, w' = x.W) (by simp only [List.dropLast]; rfl) (by simp only [List.getLast?]; rfl) (by kernel_rfl) (by kernel_rfl) (by kernel_rfl) (by kernel_rfl) ⟨⟨_, Fr.drew [] _⟩, rfl⟩ ?_
            repeat (go_big_quiet_step ((go_at_call 55; with_reducible refine (HCl.out _ (Wd13.h _)).mono ?_; exact fun e w3 hh => ⟨hh.1, ⟨_, Fr.then (Wd13.h _) hh.2⟩, rfl⟩)))
            refine wpQuiet_nil ?_
            rintro _ ⟨y, rfl⟩
            have v1 := v0 y
            obtain ⟨v2, hI8⟩ := HV1.out y
            have HI8 : Hid (InP sb g eb wS E (hs L es (i + 1)) (sta L es i) (sta L es (i + 1)) _ _) := hI8
            clear y0 y1 y2 y3 y4 y5 p0 p1 v0 HV1 HCl hI8
            go_wp2_with fail
            go_roundw
            case rel => exact ⟨1 + 1, rfl, by omega, HI8⟩
            case measure => simp [intOf]
          · have HCk : Hid (∀ W, Fr [] wr W → Calls Tryd.prog 57 #[.int .i64 (sta L es i).g, .agg (evA E.t E.k E.n E.s E.c E.m)] W fun e w' => e = .returned (.int .i64 (sta L es (i + 1)).g) ∧ Fr [] W w') := fun W hf => (stR3_any (sta L es i).g E W (by omega) (by omega)).mono fun e w' hh => ⟨by rw [hh.1]; simp only [sta, HEE.out], hh.2⟩
            obtain ⟨w7, HW7⟩ : ∃ w7, Hid (wr.alloc (.cells #[.pointer (some ⟨sb, 2, none⟩), .func (Fn.func 57) #[] #[]] 61) = w7) := ⟨_, rfl⟩
            obtain ⟨pb, HPb⟩ : ∃ pb, Hid (wr.heap.size = pb) := ⟨_, rfl⟩
            have hF7 : Fr [] wr w7 := by rw [← HW7.out]; exact Fr.alloc _ _ _
            have hrow : w7.heap[pb]? = some (.cells #[.pointer (some ⟨sb, 2, none⟩), .func (Fn.func 57) #[] #[]] 61 (0, 0)) := by rw [← HW7.out, ← HPb.out]; exact heap_alloc_new _ _
            have hI7 := HI.out.quiet hF7
            have HEy : ∀ y : Wd13 w7, _ := fun y => evt_cells (HEv.out _ _ (hI7.quiet y.h))
            have y0 := fun y => (HEy y).1
            have y1 := fun y => (HEy y).2.1
            have y2 := fun y => (HEy y).2.2.1
            have y3 := fun y => (HEy y).2.2.2.1
            have y4 := fun y => (HEy y).2.2.2.2.1
            have y5 := fun y => (HEy y).2.2.2.2.2
            have p0 : ∀ y : Wd13 w7, y.W.cell? ⟨pb, 0, none⟩ = some (.pointer (some ⟨sb, 2, none⟩)) := fun y => by rw [cell_of_row _ _ _ _ _ _ (y.h.keep hrow (by simp))]; rfl
            have p1 : ∀ y : Wd13 w7, y.W.cell? ⟨pb, 1, none⟩ = some (.func (Fn.func 57) #[] #[]) := fun y => by rw [cell_of_row _ _ _ _ _ _ (y.h.keep hrow (by simp))]; rfl
            have v0 : ∀ y : Wd13 w7, y.W.cell? ⟨sb, 2, none⟩ = some (.int .i64 (sta L es i).g) := fun y => mix_cell2 (hI7.quiet y.h).1
            have HV1 : Hid (∀ y : Wd13 w7, y.W.frozen? ⟨sb, 2, none⟩ = false ∧ InP sb g eb wS E (hs L es (i + 1)) (sta L es i) (sta L es (i + 1)) (2 + 1) (y.W.setCell ⟨sb, 2, none⟩ (.int .i64 (sta L es (i + 1)).g))) := fun y => ⟨by simp [World.frozen?, (hI7.quiet y.h).1], (hI7.quiet y.h).put HN1.out.1 HN1.out.2 mix_set2⟩
            have HCl : Hid (∀ W, Fr [] w7 W → Calls Tryd.prog 57 #[.int .i64 (sta L es i).g, .agg #[.int .i64 E.t, .int .u8 E.k, .int .i64 E.n, .int .i64 E.s, .int .i64 E.c, .int .i64 E.m]] W fun e w' => e = .returned (.int .i64 (sta L es (i + 1)).g) ∧ Fr [] W w') := fun W hf => HCk.out W (hF7.then hf)
            generalize (sta L es i).g = old at HCl v0
            generalize (sta L es (i + 1)).g = nw at HCl HV1
            clear hrow hI7 HCk hF7 hsn hsi hsg2 hsr hfew HI HEy
            go_upto_region 14 with fail
            rw [HW7.out, HPb.out]
            clear HW7 HPb
            refine wp_region_last2 (C := fun w' => ∃ x : Wd13 w7, w' = x.W) (by simp only [List.dropLast]; rfl) (by simp only [List.getLast?]; rfl) (by kernel_rfl) (by kernel_rfl) (by kernel_rfl) (by kernel_rfl) ⟨⟨_, Fr.drew [] _⟩, rfl⟩ ?_
            repeat (go_big_quiet_step ((go_at_call 57; with_reducible refine (HCl.out _ (Wd13.h _)).mono ?_; exact fun e w3 hh => ⟨hh.1, ⟨_, Fr.then (Wd13.h _) hh.2⟩, rfl⟩)))
            refine wpQuiet_nil ?_
            rintro _ ⟨y, rfl⟩
            have v1 := v0 y
            obtain ⟨v2, hI8⟩ := HV1.out y
            have HI8 : Hid (InP sb g eb wS E (hs L es (i + 1)) (sta L es i) (sta L es (i + 1)) _ _) := hI8
            clear y0 y1 y2 y3 y4 y5 p0 p1 v0 HV1 HCl hI8
            go_wp2_with fail
            go_roundw
            case rel => exact ⟨2 + 1, rfl, by omega, HI8⟩
            case measure => simp [intOf]
          · have HCk : Hid (∀ W, Fr [] wr W → Calls Tryd.prog 58 #[.int .i64 (sta L es i).b, .agg (evA E.t E.k E.n E.s E.c E.m), .pointer (some ⟨Q, 0, none⟩)] W fun e w' => e = .returned (.int .i64 (sta L es (i + 1)).b) ∧ Fr [] W w') := fun W hf => (stR4_any (sta L es i).b E Q g (hs L es (i + 1)) W (by rw [hs_length]; exact HQS.out _ (HI.out.2.2.2.then (hf.mono (by simp)))) (HI.out.2.1.keep hf (by simp)) (by rw [hs_length]; exact hL)).mono fun e w' hh => ⟨by rw [hh.1]; simp only [sta, HEE.out], hh.2⟩
            obtain ⟨w7, HW7⟩ : ∃ w7, Hid (wr.alloc (.cells #[.pointer (some ⟨sb, 3, none⟩), .func (Fn.func 58) #[] #[.pointer (some ⟨Q, 0, none⟩)]] 61) = w7) := ⟨_, rfl⟩
            obtain ⟨pb, HPb⟩ : ∃ pb, Hid (wr.heap.size = pb) := ⟨_, rfl⟩
            have hF7 : Fr [] wr w7 := by rw [← HW7.out]; exact Fr.alloc _ _ _
            have hrow : w7.heap[pb]? = some (.cells #[.pointer (some ⟨sb, 3, none⟩), .func (Fn.func 58) #[] #[.pointer (some ⟨Q, 0, none⟩)]] 61 (0, 0)) := by rw [← HW7.out, ← HPb.out]; exact heap_alloc_new _ _
            have hI7 := HI.out.quiet hF7
            have HEy : ∀ y : Wd13 w7, _ := fun y => evt_cells (HEv.out _ _ (hI7.quiet y.h))
            have y0 := fun y => (HEy y).1
            have y1 := fun y => (HEy y).2.1
            have y2 := fun y => (HEy y).2.2.1
            have y3 := fun y => (HEy y).2.2.2.1
            have y4 := fun y => (HEy y).2.2.2.2.1
            have y5 := fun y => (HEy y).2.2.2.2.2
            have p0 : ∀ y : Wd13 w7, y.W.cell? ⟨pb, 0, none⟩ = some (.pointer (some ⟨sb, 3, none⟩)) := fun y => by rw [cell_of_row _ _ _ _ _ _ (y.h.keep hrow (by simp))]; rfl
            have p1 : ∀ y : Wd13 w7, y.W.cell? ⟨pb, 1, none⟩ = some (.func (Fn.func 58) #[] #[.pointer (some ⟨Q, 0, none⟩)]) := fun y => by rw [cell_of_row _ _ _ _ _ _ (y.h.keep hrow (by simp))]; rfl
            have v0 : ∀ y : Wd13 w7, y.W.cell? ⟨sb, 3, none⟩ = some (.int .i64 (sta L es i).b) := fun y => mix_cell3 (hI7.quiet y.h).1
            have HV1 : Hid (∀ y : Wd13 w7, y.W.frozen? ⟨sb, 3, none⟩ = false ∧ InP sb g eb wS E (hs L es (i + 1)) (sta L es i) (sta L es (i + 1)) (3 + 1) (y.W.setCell ⟨sb, 3, none⟩ (.int .i64 (sta L es (i + 1)).b))) := fun y => ⟨by simp [World.frozen?, (hI7.quiet y.h).1], (hI7.quiet y.h).put HN1.out.1 HN1.out.2 mix_set3⟩
            have HCl : Hid (∀ W, Fr [] w7 W → Calls Tryd.prog 58 #[.int .i64 (sta L es i).b, .agg #[.int .i64 E.t, .int .u8 E.k, .int .i64 E.n, .int .i64 E.s, .int .i64 E.c, .int .i64 E.m], .pointer (some ⟨Q, 0, none⟩)] W fun e w' => e = .returned (.int .i64 (sta L es (i + 1)).b) ∧ Fr [] W w') := fun W hf => HCk.out W (hF7.then hf)
            generalize (sta L es i).b = old at HCl v0
            generalize (sta L es (i + 1)).b = nw at HCl HV1
            clear hrow hI7 HCk hF7 hsn hsi hsg2 hsr hfew HI HEy
            go_upto_region 14 with fail
            rw [HW7.out, HPb.out]
            clear HW7 HPb
            refine wp_region_last2 (C := fun w' => ∃ x : Wd13 w7, w' = x.W) (by simp only [List.dropLast]; rfl) (by simp only [List.getLast?]; rfl) (by kernel_rfl) (by kernel_rfl) (by kernel_rfl) (by kernel_rfl) ⟨⟨_, Fr.drew [] _⟩, rfl⟩ ?_
            repeat (go_big_quiet_step ((go_at_call 58; with_reducible refine (HCl.out _ (Wd13.h _)).mono ?_; exact fun e w3 hh => ⟨hh.1, ⟨_, Fr.then (Wd13.h _) hh.2⟩, rfl⟩)))
            refine wpQuiet_nil ?_
            rintro _ ⟨y, rfl⟩
            have v1 := v0 y
            obtain ⟨v2, hI8⟩ := HV1.out y
            have HI8 : Hid (InP sb g eb wS E (hs L es (i + 1)) (sta L es i) (sta L es (i + 1)) _ _) := hI8
            clear y0 y1 y2 y3 y4 y5 p0 p1 v0 HV1 HCl hI8
            go_wp2_with fail
            go_roundw
            case rel => exact ⟨3 + 1, rfl, by omega, HI8⟩
            case measure => simp [intOf]
          · have HCk : Hid (∀ W, Fr [] wr W → Calls Tryd.prog 60 #[.int .i64 (sta L es i).r, .agg (evA E.t E.k E.n E.s E.c E.m)] W fun e w' => e = .returned (.int .i64 (sta L es (i + 1)).r) ∧ Fr [] W w') := fun W hf => (stR5_any (sta L es i).r E W (by omega) (by omega)).mono fun e w' hh => ⟨by rw [hh.1]; simp only [sta, HEE.out], hh.2⟩
            obtain ⟨w7, HW7⟩ : ∃ w7, Hid (wr.alloc (.cells #[.pointer (some ⟨sb, 4, none⟩), .func (Fn.func 60) #[] #[]] 61) = w7) := ⟨_, rfl⟩
            obtain ⟨pb, HPb⟩ : ∃ pb, Hid (wr.heap.size = pb) := ⟨_, rfl⟩
            have hF7 : Fr [] wr w7 := by rw [← HW7.out]; exact Fr.alloc _ _ _
            have hrow : w7.heap[pb]? = some (.cells #[.pointer (some ⟨sb, 4, none⟩), .func (Fn.func 60) #[] #[]] 61 (0, 0)) := by rw [← HW7.out, ← HPb.out]; exact heap_alloc_new _ _
            have hI7 := HI.out.quiet hF7
            have HEy : ∀ y : Wd13 w7, _ := fun y => evt_cells (HEv.out _ _ (hI7.quiet y.h))
            have y0 := fun y => (HEy y).1
            have y1 := fun y => (HEy y).2.1
            have y2 := fun y => (HEy y).2.2.1
            have y3 := fun y => (HEy y).2.2.2.1
            have y4 := fun y => (HEy y).2.2.2.2.1
            have y5 := fun y => (HEy y).2.2.2.2.2
            have p0 : ∀ y : Wd13 w7, y.W.cell? ⟨pb, 0, none⟩ = some (.pointer (some ⟨sb, 4, none⟩)) := fun y => by rw [cell_of_row _ _ _ _ _ _ (y.h.keep hrow (by simp))]; rfl
            have p1 : ∀ y : Wd13 w7, y.W.cell? ⟨pb, 1, none⟩ = some (.func (Fn.func 60) #[] #[]) := fun y => by rw [cell_of_row _ _ _ _ _ _ (y.h.keep hrow (by simp))]; rfl
            have v0 : ∀ y : Wd13 w7, y.W.cell? ⟨sb, 4, none⟩ = some (.int .i64 (sta L es i).r) := fun y => mix_cell4 (hI7.quiet y.h).1
            have HV1 : Hid (∀ y : Wd13 w7, y.W.frozen? ⟨sb, 4, none⟩ = false ∧ InP sb g eb wS E (hs L es (i + 1)) (sta L es i) (sta L es (i + 1)) (4 + 1) (y.W.setCell ⟨sb, 4, none⟩ (.int .i64 (sta L es (i + 1)).r))) := fun y => ⟨by simp [World.frozen?, (hI7.quiet y.h).1], (hI7.quiet y.h).put HN1.out.1 HN1.out.2 mix_set4⟩
            have HCl : Hid (∀ W, Fr [] w7 W → Calls Tryd.prog 60 #[.int .i64 (sta L es i).r, .agg #[.int .i64 E.t, .int .u8 E.k, .int .i64 E.n, .int .i64 E.s, .int .i64 E.c, .int .i64 E.m]] W fun e w' => e = .returned (.int .i64 (sta L es (i + 1)).r) ∧ Fr [] W w') := fun W hf => HCk.out W (hF7.then hf)
            generalize (sta L es i).r = old at HCl v0
            generalize (sta L es (i + 1)).r = nw at HCl HV1
            clear hrow hI7 HCk hF7 hsn hsi hsg2 hsr hfew HI HEy
            go_upto_region 14 with fail
            rw [HW7.out, HPb.out]
            clear HW7 HPb
            refine wp_region_last2 (C := fun w' => ∃ x : Wd13 w7, w' = x.W) (by simp only [List.dropLast]; rfl) (by simp only [List.getLast?]; rfl) (by kernel_rfl) (by kernel_rfl) (by kernel_rfl) (by kernel_rfl) ⟨⟨_, Fr.drew [] _⟩, rfl⟩ ?_
            repeat (go_big_quiet_step ((go_at_call 60; with_reducible refine (HCl.out _ (Wd13.h _)).mono ?_; exact fun e w3 hh => ⟨hh.1, ⟨_, Fr.then (Wd13.h _) hh.2⟩, rfl⟩)))
            refine wpQuiet_nil ?_
            rintro _ ⟨y, rfl⟩
            have v1 := v0 y
            obtain ⟨v2, hI8⟩ := HV1.out y
            have HI8 : Hid (InP sb g eb wS E (hs L es (i + 1)) (sta L es i) (sta L es (i + 1)) _ _) := hI8
            clear y0 y1 y2 y3 y4 y5 p0 p1 v0 HV1 HCl hI8
            go_wp2_with fail
            go_roundw
            case rel => exact ⟨4 + 1, rfl, by omega, HI8⟩
            case measure => simp [intOf]
        · obtain rfl : j = 5 := by omega
          have HO : Hid (OfP sb g wS L es (i + 1) wr) := ⟨by rw [← mixA_five (sta L es i)]; exact HI.out.1, HI.out.2.1, HI.out.2.2.2⟩
          have hwi : IntKind.i64.wrap ((i : Int) + 1) = (i : Int) + 1 := by
            have h1 := HFew.out
            have h2 := HL.out
            rw [IntKind.wrap_i64]
            omega
          clear HI hj hj5
          go_wp2_with fail
          go_roundw
          case rel => exact ⟨i + 1, by simp, by omega, HO⟩
          case measure => simp [intOf]; omega
    · obtain rfl : i = en := by omega
      have hO := HOS.out _ HP.out.2.2
      obtain ⟨S, hS⟩ : ∃ S, S = sta L es i := ⟨_, rfl⟩
      have h1 := HP.out.1
      rw [← hS] at h1
      obtain ⟨sn, si, sg, sbb, sr⟩ := S
      have HSS : Hid (_ = _) := hS
      have q0 : wr.cell? ⟨sb, 0, none⟩ = some (.int .i64 sn) := by rw [cell_of_row _ _ _ _ _ _ h1]; rfl
      have q1 : wr.cell? ⟨sb, 1, none⟩ = some (.int .i64 si) := by rw [cell_of_row _ _ _ _ _ _ h1]; rfl
      have q2 : wr.cell? ⟨sb, 2, none⟩ = some (.int .i64 sg) := by rw [cell_of_row _ _ _ _ _ _ h1]; rfl
      have q3 : wr.cell? ⟨sb, 3, none⟩ = some (.int .i64 sbb) := by rw [cell_of_row _ _ _ _ _ _ h1]; rfl
      have q4 : wr.cell? ⟨sb, 4, none⟩ = some (.int .i64 sr) := by rw [cell_of_row _ _ _ _ _ _ h1]; rfl
      have HO : Hid (_ = _) := hO
      have HWr := HW0.out _ HP.out.2.2
      have HWr2 : Hid (Fr [] w wr) := HWr
      clear h1 hO hS HWr hi hin
      go_wp2_with (refine wpList_storeSt rfl _ _ rfl (b + 1) sn si sg sbb sr rfl rfl 0 0 0 0 0 HO.out ?_; intro w9 hw9 hf9)
      refine bodyPost_ret (results_ct_row rfl _ _ _ (b + 1) _ rfl (load_st hw9.out)) rfl ?_
      exact ⟨by rw [← HSS.out]; rfl, HWr2.out.on hf9 (by intro y hy; have := HB.out; simp at hy; omega)⟩
end Go.Proofs.YtfhfjplhfjlpaaaDoor

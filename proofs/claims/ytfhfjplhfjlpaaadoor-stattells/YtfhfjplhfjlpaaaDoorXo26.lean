/- What the document's Of answers. Conditions: the events can be read. -/
import Derived.Test.YtfhfjplhfjlpaaaDoorXl26
import Derived.Deep.CutBlock
namespace Go.Proofs.YtfhfjplhfjlpaaaDoor
open Go.ChangeShapes Go.WideShapes Go.ChangeAt Go.RowKit Go.Lib
set_option linter.unusedVariables false
set_option linter.unusedSimpArgs false

set_option maxHeartbeats 8000000 in
set_option maxRecDepth 100000 in
theorem xof_no (l s x q : Int) (eo : Option Addr) (en ec : Nat) (w : World) (hc : ¬ Cf.may ⟨l, s, x, q⟩) :
    Calls Tryd.prog 7 #[.agg #[.int .i64 l, .int .i64 s, .int .i64 x, .int .i64 q], .slice eo en ec] w fun e w' => e = .returned (.tuple #[.agg (stA 0 0 0 0 0), .int .i64 7]) ∧ Fr [] w w' := by
  have HC : Hid (∀ W, Calls Tryd.prog 17 #[.agg #[.int .i64 l, .int .i64 s, .int .i64 x, .int .i64 q]] W fun e w' => e = .returned (.int .i64 7) ∧ Fr [] W w') := fun W => (ocheck_cells l s x q W).mono fun e w' h => ⟨by rw [h.1, Cf.err, if_neg hc], h.2⟩
  obtain ⟨wb, HW⟩ : ∃ wb, Hid ((w.alloc (.cells #[.int .i64 l, .int .i64 s, .int .i64 x, .int .i64 q] 23)).alloc (.cells #[.int .i64 0, .int .i64 0, .int .i64 0, .int .i64 0, .int .i64 0] 27) = wb) := ⟨_, rfl⟩
  have hM : CfM wb w.heap.size l s x q := by rw [← HW.out]; exact (CfM.new w l s x q 23).keep (Fr.alloc _ _ _)
  have hr : wb.heap[w.heap.size + 1]? = some (.cells (stA 0 0 0 0 0) 27 (0, 0)) := by
    rw [← HW.out, show w.heap.size + 1 = (w.alloc (.cells #[.int .i64 l, .int .i64 s, .int .i64 x, .int .i64 q] 23)).heap.size by simp]
    exact heap_alloc_new _ _
  have HF : Hid (Fr [] w wb) := by rw [← HW.out]; exact (Fr.alloc [] w _).then (Fr.alloc _ _ _)
  obtain ⟨b, HB⟩ : ∃ b, Hid (w.heap.size = b) := ⟨_, rfl⟩
  rw [HB.out] at hM hr
  have HR : Hid (∀ W, Fr [] wb W → W.heap[b + 1]? = some (.cells (stA 0 0 0 0 0) 27 (0, 0))) := fun W hf => hf.keep hr (by simp)
  obtain ⟨_, m0, m1, m2, m3⟩ := hM
  clear hr hc
  go_enter Tryd.func7, Tryd.ntmps7
  go_upto_region 1 with fail
  rw [HW.out, HB.out]
  go_wp2_with fail
  with_reducible refine (HC.out _).mono ?_
  rintro e w1 ⟨rfl, hF1⟩
  have HF1 : Hid (Fr [] wb w1) := hF1
  clear hF1 m0 m1 m2 m3
  go_wp2_with (refine wpList_storeSt rfl _ _ rfl (b + 1) 0 0 0 0 0 rfl rfl 0 0 0 0 0 (HR.out _ HF1.out) ?_; intro w3 hw3 hf3)
  refine bodyPost_ret (results_ct_row rfl _ _ _ (b + 1) _ rfl (load_st hw3.out)) rfl ?_
  exact ⟨rfl, (HF.out.then HF1.out).on hf3 (by intro y hy; have := HB.out; simp at hy; omega)⟩
/-- What stands between two events. -/
def XoP (sb : Nat) (wS : World) (n i g b r : Int) (W : World) : Prop := W.heap[sb]? = some (.cells (stA n i g b r) 27 (0, 0)) ∧ Fr [sb] wS W
theorem XoP.quiet {sb : Nat} {wS W W' : World} {n i g b r : Int} (h : XoP sb wS n i g b r W) (hf : Fr [] W W') : XoP sb wS n i g b r W' := ⟨hf.keep h.1 (by simp), h.2.then (hf.mono (by simp))⟩
theorem XoP.put {sb : Nat} {wS W : World} {n i g b r n' i' g' b' r' : Int} {j : Nat} {v : Int} (h : XoP sb wS n i g b r W) (hx : (stA n i g b r).setIfInBounds j (.int .i64 v) = stA n' i' g' b' r') : XoP sb wS n' i' g' b' r' (W.setCell ⟨sb, j, none⟩ (.int .i64 v)) := by
  have hr := row_putj (v := .int .i64 v) (j := j) h.1
  rw [hx] at hr
  exact ⟨hr, h.2.then (Fr.set _ _ _ (by simp))⟩
theorem XoP.cells {sb : Nat} {wS W : World} {n i g b r : Int} (h : XoP sb wS n i g b r W) : W.cell? ⟨sb, 0, none⟩ = some (.int .i64 n) ∧ W.cell? ⟨sb, 1, none⟩ = some (.int .i64 i) ∧ W.cell? ⟨sb, 2, none⟩ = some (.int .i64 g) ∧ W.cell? ⟨sb, 3, none⟩ = some (.int .i64 b) ∧ W.cell? ⟨sb, 4, none⟩ = some (.int .i64 r) ∧ ∀ j, W.frozen? ⟨sb, j, none⟩ = false :=
  ⟨by rw [cell_of_row _ _ _ _ _ _ h.1]; rfl, by rw [cell_of_row _ _ _ _ _ _ h.1]; rfl, by rw [cell_of_row _ _ _ _ _ _ h.1]; rfl, by rw [cell_of_row _ _ _ _ _ _ h.1]; rfl, by rw [cell_of_row _ _ _ _ _ _ h.1]; rfl, fun j => by simp [World.frozen?, h.1]⟩
set_option maxHeartbeats 32000000 in
set_option maxRecDepth 100000 in
theorem xof_ok (L : Nat) (s x q : Int) (eo : Option Addr) (en ec : Nat) (es : List Ev) (w : World) (hc : Cf.may ⟨L, s, x, q⟩) (hE : ERs w eo es) (hen : en = es.length) (hec : en ≤ ec) :
    Calls Tryd.prog 7 #[.agg #[.int .i64 (L : Int), .int .i64 s, .int .i64 x, .int .i64 q], .slice eo en ec] w fun e w' => e = .returned (.tuple #[.agg (sta L es en).a, .int .i64 0]) ∧ Fr [] w w' := by
  have HC : Hid (∀ W, Calls Tryd.prog 17 #[.agg #[.int .i64 (L : Int), .int .i64 s, .int .i64 x, .int .i64 q]] W fun e w' => e = .returned (.int .i64 0) ∧ Fr [] W w') := fun W => (ocheck_cells L s x q W).mono fun e w' h => ⟨by rw [h.1, Cf.err, if_pos hc], h.2⟩
  have hL : L ≤ 16 := by have := hc.1.2; simp only at this; omega
  obtain ⟨wb, HW⟩ : ∃ wb, Hid ((w.alloc (.cells #[.int .i64 (L : Int), .int .i64 s, .int .i64 x, .int .i64 q] 23)).alloc (.cells #[.int .i64 0, .int .i64 0, .int .i64 0, .int .i64 0, .int .i64 0] 27) = wb) := ⟨_, rfl⟩
  have hM : CfM wb w.heap.size L s x q := by rw [← HW.out]; exact (CfM.new w L s x q 23).keep (Fr.alloc _ _ _)
  have hr : wb.heap[w.heap.size + 1]? = some (.cells (stA 0 0 0 0 0) 27 (0, 0)) := by
    rw [← HW.out, show w.heap.size + 1 = (w.alloc (.cells #[.int .i64 (L : Int), .int .i64 s, .int .i64 x, .int .i64 q] 23)).heap.size by simp]
    exact heap_alloc_new _ _
  have HF : Hid (Fr [] w wb) := by rw [← HW.out]; exact (Fr.alloc [] w _).then (Fr.alloc _ _ _)
  obtain ⟨b, HB⟩ : ∃ b, Hid (w.heap.size = b) := ⟨_, rfl⟩
  rw [HB.out] at hM hr
  have HR : Hid (∀ W, Fr [] wb W → W.heap[b + 1]? = some (.cells (stA 0 0 0 0 0) 27 (0, 0))) := fun W hf => hf.keep hr (by simp)
  have HM : Hid (∀ W, Fr [] wb W → CfM W b L s x q) := fun W hf => hM.keep hf
  have HE : Hid (∀ W, Fr [] w W → ERs W eo es) := fun W hf => hE.keep hf
  have HL : Hid (en = es.length) := hen
  have HH : Hid (∀ (W : World) (i : Nat) (j : Int), Fr [] w W → i < en → Calls Tryd.prog 18 #[.slice eo (i + 1) ec, .int .i64 j] W fun e w' => e = .returned (.bool (hold es j (i + 1))) ∧ Fr [] W w') := fun W i j hf hi => by
    have := holds_any eo (i + 1) ec (es.take (i + 1)) j W ((hE.keep hf).take (i + 1)) (by rw [List.length_take]; omega)
    rwa [hold_take es (i + 1) j (i + 1) (Nat.le_refl _)] at this
  have hen2 : en ≤ 4398046511104 := by have := hE.few; omega
  have hbb : b + 1 < wb.heap.size := lt_of_block hr
  obtain ⟨_, m0, m1, m2, m3⟩ := hM
  clear hr hE hen hc
  go_enter Tryd.func7, Tryd.ntmps7
  go_upto_region 1 with fail
  rw [HW.out, HB.out]
  go_wp2_with fail
  with_reducible refine (HC.out _).mono ?_
  rintro e w1 ⟨rfl, hF1⟩
  obtain ⟨wS, HWS⟩ : ∃ wS, Hid (w1.alloc (.cells #[.int .i64 en, .int .i64 0, .int .i64 0, .int .i64 0, .int .i64 0] 27) = wS) := ⟨_, rfl⟩
  obtain ⟨sb, HSb⟩ : ∃ sb, Hid (w1.heap.size = sb) := ⟨_, rfl⟩
  have hF2 : Fr [] w1 wS := by rw [← HWS.out]; exact Fr.alloc _ _ _
  have HF2 : Hid (Fr [] wb wS) := hF1.then hF2
  have hsb : b + 1 < sb := by rw [← HSb.out]; exact Nat.lt_of_lt_of_le hbb hF1.size
  have hrs : wS.heap[sb]? = some (.cells (stA en 0 0 0 0) 27 (0, 0)) := by rw [← HWS.out, ← HSb.out]; exact heap_alloc_new _ _
  have H0 : Hid (XoP sb wS en (sta L es 0).i (sta L es 0).g (sta L es 0).b (sta L es 0).r wS) := ⟨hrs, Fr.refl _ _⟩
  have hfS := HF.out.then HF2.out
  have HW0 : Hid (∀ W, Fr [sb] wS W → Fr [] w W ∧ W.cell? ⟨b, 0, none⟩ = some (.int .i64 (L : Int)) ∧ W.heap[b + 1]? = some (.cells (stA 0 0 0 0 0) 27 (0, 0))) := fun W hf => by
    refine ⟨hfS.on hf (by intro y hy; have := HB.out; simp at hy; omega), ?_, hf.keep (HR.out _ HF2.out) (by simp; omega)⟩
    rw [show W.cell? ⟨b, 0, none⟩ = wS.cell? ⟨b, 0, none⟩ from World.cell?_of_block (a := ⟨b, 0, none⟩) (hf.block b (Nat.lt_of_lt_of_le (Nat.lt_of_succ_lt hbb) HF2.out.size) (by simp; omega))]
    exact (HM.out _ HF2.out).2.1
  have hsS : sb < wS.heap.size := lt_of_block hrs
  clear hF1 hF2 m0 m1 m2 m3 hrs hfS
  go_upto_region 4 with fail
  rw [HWS.out, HSb.out]
  clear HWS HSb
  go_wp2_with fail
  go_loopw [7] (fun ii wr => ∃ (i : Nat), ii = .int .i64 i ∧ i ≤ en ∧ Hid (XoP sb wS en (sta L es i).i (sta L es i).g (sta L es i).b (sta L es i).r wr)) (fun ii _ => en - (RowKit.intOf ii).toNat)
  case atStart => exact ⟨0, rfl, Nat.zero_le _, H0⟩
  case round =>
    obtain ⟨i, rfl, hin, HP⟩ := hrel
    by_cases hi : i < en
    · have hwi : IntKind.i64.wrap ((i : Int) + 1) = (i : Int) + 1 := by rw [IntKind.wrap_i64]; omega
      obtain ⟨hF0, m0, _⟩ := HW0.out _ HP.out.2
      obtain ⟨bb, off, rfl, _, hcE⟩ := (HE.out _ hF0).lies (by rw [← HL.out]; omega)
      obtain ⟨d0, d1, d2, d3, d4, d5⟩ := hcE i (by rw [← HL.out]; exact hi)
      obtain ⟨E, hEE⟩ : ∃ E, E = es.getD i Ev.no := ⟨_, rfl⟩
      rw [← hEE] at d0 d1 d2 d3 d4 d5
      have HEE : Hid (E = es.getD i Ev.no) := hEE
      obtain ⟨t, k, n, sx, c, m⟩ := E
      simp only at d0 d1 d2 d3 d4 d5
      obtain ⟨w5, HW5⟩ : ∃ w5, Hid (wr.alloc (.cells #[.int .i64 t, .int .u8 k, .int .i64 n, .int .i64 sx, .int .i64 c, .int .i64 m] 54) = w5) := ⟨_, rfl⟩
      obtain ⟨eb, HEb⟩ : ∃ eb, Hid (wr.heap.size = eb) := ⟨_, rfl⟩
      have hF5 : Fr [] wr w5 := by rw [← HW5.out]; exact Fr.alloc _ _ _
      have hby : w5.heap[eb]? = some (.cells (evA t k n sx c m) 54 (0, 0)) := by rw [← HW5.out, ← HEb.out]; exact heap_alloc_new wr _
      obtain ⟨y0, y1, y2, y3, y4, y5⟩ := evt_cells hby
      have HP5 : Hid (XoP sb wS en (sta L es i).i (sta L es i).g (sta L es i).b (sta L es i).r w5) := HP.out.quiet hF5
      have HF5 : Hid (Fr [] w w5) := hF0.then hF5
      have g1 := sta_i L es i
      have g2 := sta_g L es i
      have g3 := sta_r L es i
      have g4 := sta_b L es i
      have HN : Hid ((sta L es (i + 1)).i = (sta L es i).i + insE ⟨t, k, n, sx, c, m⟩ ∧ (sta L es (i + 1)).g = max (sta L es i).g (dspE ⟨t, k, n, sx, c, m⟩) ∧ (sta L es (i + 1)).r = (sta L es i).r + endE ⟨t, k, n, sx, c, m⟩ ∧ (sta L es (i + 1)).b = max (sta L es i).b (busyL (hs L es (i + 1)) : Nat)) := by
        simp only [sta, HEE.out]
        exact ⟨trivial, trivial, trivial, trivial⟩
      have HO : Hid (∀ W, XoP sb wS en (sta L es (i + 1)).i (sta L es (i + 1)).g (sta L es (i + 1)).b (sta L es (i + 1)).r W → XoP sb wS en (sta L es (i + 1)).i (sta L es (i + 1)).g (sta L es (i + 1)).b (sta L es (i + 1)).r W) := fun W h => h
      generalize hI' : (sta L es (i + 1)).i = I' at HN HO
      generalize hG' : (sta L es (i + 1)).g = G' at HN HO
      generalize hR' : (sta L es (i + 1)).r = R' at HN HO
      generalize hB' : (sta L es (i + 1)).b = B' at HN HO
      have HI' : Hid (_ ∧ _ ∧ _ ∧ _) := ⟨hI', hG', hR', hB'⟩
      clear hI' hG' hR' hB'
      clear hEE hF5 hF0 hcE hby
      go_upto_region 8 with fail
      rw [HW5.out, HEb.out]
      clear HW5 HEb d0 d1 d2 d3 d4 d5
      go_cut [9] from 29 to 46 (fun mv wx => mv = .bool (decide (inlg n ∧ inlg m)) ∧ wx = w5)
      case first =>
        by_cases h1 : 0 ≤ n
        · by_cases h2 : n ≤ 65536
          · by_cases h3 : 0 ≤ m
            · by_cases h4 : m ≤ 65536
              · go_wp2_with fail
                go_meet
                exact ⟨by rw [decide_eq_true (p := inlg n ∧ inlg m) ⟨⟨h1, h2⟩, ⟨h3, h4⟩⟩], rfl⟩
              · go_wp2_with fail
                go_meet
                exact ⟨by rw [decide_eq_false (p := inlg n ∧ inlg m) (by unfold inlg; omega)], rfl⟩
            · go_wp2_with fail
              go_meet
              exact ⟨by rw [decide_eq_false (p := inlg n ∧ inlg m) (by unfold inlg; omega)], rfl⟩
          · go_wp2_with fail
            go_meet
            exact ⟨by rw [decide_eq_false (p := inlg n ∧ inlg m) (by unfold inlg; omega)], rfl⟩
        · go_wp2_with fail
          go_meet
          exact ⟨by rw [decide_eq_false (p := inlg n ∧ inlg m) (by unfold inlg; omega)], rfl⟩
      case rest =>
        obtain ⟨rfl, rfl⟩ := hcut
        generalize (sta L es i).i = I at HP5 HN g1
        generalize (sta L es i).g = G at HP5 HN g2
        generalize (sta L es i).r = R at HP5 HN g3
        generalize (sta L es i).b = B at HP5 HN g4
        obtain ⟨z0, z1, z2, z3, z4, hz⟩ := HP5.out.cells
        go_upto_block 2 with fail
        go_cut [9] from 47 to 90 (fun mv wx => mv = .bool (decide (inlg n ∧ inlg m)) ∧ Hid (XoP sb wS en I' G' B R' wx ∧ Fr [] w wx))
        case first =>
          have z5 := hz 1
          have z6 := hz 2
          have z7 := hz 4
          have HSt : Hid (∀ (j : Nat) (v i' g' b' r' : Int), (stA en I G B R).setIfInBounds j (.int .i64 v) = stA en i' g' b' r' → XoP sb wS en i' g' b' r' (wc.setCell ⟨sb, j, none⟩ (.int .i64 v)) ∧ Fr [] w (wc.setCell ⟨sb, j, none⟩ (.int .i64 v))) := fun j v i' g' b' r' hx => ⟨HP5.out.put hx, (HW0.out _ (HP5.out.put hx).2).1⟩
          have HSame : Hid (I' = I → G' = G → R' = R → XoP sb wS en I' G' B R' wc ∧ Fr [] w wc) := fun h1 h2 h3 => by rw [h1, h2, h3]; exact ⟨HP5.out, HF5.out⟩
          obtain ⟨n1, n2, n3, _⟩ := HN.out
          by_cases h7 : k = 7
          · subst h7
            have e2 : G' = G := by rw [n2]; simp only [dspE]; omega
            have e3 : R' = R := by rw [n3]; simp [endE]
            by_cases h0 : 0 < n
            · have e1 : I' = I + 1 := by rw [n1]; simp [insE, h0]
              have hw : IntKind.i64.wrap (I + 1) = I + 1 := by rw [IntKind.wrap_i64]; omega
              have HFin : Hid (XoP sb wS en I' G' B R' (wc.setCell ⟨sb, 1, none⟩ (.int .i64 (I + 1))) ∧ Fr [] w (wc.setCell ⟨sb, 1, none⟩ (.int .i64 (I + 1)))) := HSt.out 1 (I + 1) I' G' B R' (by rw [e1, e2, e3]; rfl)
              clear HSt HSame n1 n2 n3 e1 e2 e3 hz
              go_wp2_with fail
              go_meet
              exact ⟨by first | rfl | rw [em] | simp, HFin.out⟩
            · have e1 : I' = I := by rw [n1]; simp [insE, h0]
              have HFin : Hid (_ ∧ _) := HSame.out e1 e2 e3
              clear HSt HSame n1 n2 n3 e1 e2 e3 hz
              go_wp2_with fail
              go_meet
              exact ⟨by first | rfl | rw [em] | simp, HFin.out⟩
          · have b7 : (k == 7) = false := by simp [h7]
            have e1 : I' = I := by rw [n1]; simp [insE, h7]
            by_cases h3 : k = 3
            · subst h3
              have e3 : R' = R := by rw [n3]; simp [endE]
              by_cases hM : inlg n ∧ inlg m
              · have ed : dspE ⟨t, 3, n, sx, c, m⟩ = n - m := by simp [dspE, lagE, hM]
                have em : decide (inlg n ∧ inlg m) = true := decide_eq_true hM
                rw [em]
                have hw : IntKind.i64.wrap (n - m) = n - m := by
                  obtain ⟨⟨_, _⟩, ⟨_, _⟩⟩ := hM
                  rw [IntKind.wrap_i64]; omega
                by_cases hg : G < n - m
                · have e2 : G' = n - m := by rw [n2, ed]; omega
                  have HFin : Hid (XoP sb wS en I' G' B R' (wc.setCell ⟨sb, 2, none⟩ (.int .i64 (n - m))) ∧ Fr [] w (wc.setCell ⟨sb, 2, none⟩ (.int .i64 (n - m)))) := HSt.out 2 (n - m) I' G' B R' (by rw [e1, e2, e3]; rfl)
                  clear HSt HSame n1 n2 n3 e1 e2 e3 hz hM ed
                  go_wp2_with fail
                  go_meet
                  exact ⟨by first | rfl | rw [em] | simp, HFin.out⟩
                · have e2 : G' = G := by rw [n2, ed]; omega
                  have HFin : Hid (_ ∧ _) := HSame.out e1 e2 e3
                  clear HSt HSame n1 n2 n3 e1 e2 e3 hz hM ed
                  go_wp2_with fail
                  go_meet
                  exact ⟨by first | rfl | rw [em] | simp, HFin.out⟩
              · have em : decide (inlg n ∧ inlg m) = false := decide_eq_false hM
                rw [em]
                have e2 : G' = G := by rw [n2]; simp [dspE, lagE, hM]; omega
                have HFin : Hid (_ ∧ _) := HSame.out e1 e2 e3
                clear HSt HSame n1 n2 n3 e1 e2 e3 hz hM
                go_wp2_with fail
                go_meet
                exact ⟨by first | rfl | rw [em] | simp, HFin.out⟩
            · have b3 : (k == 3) = false := by simp [h3]
              have e2 : G' = G := by rw [n2]; simp [dspE, h3]; omega
              by_cases h12 : k = 12
              · subst h12
                have e3 : R' = R + 1 := by rw [n3]; simp [endE]
                have hw : IntKind.i64.wrap (R + 1) = R + 1 := by rw [IntKind.wrap_i64]; omega
                have HFin : Hid (XoP sb wS en I' G' B R' (wc.setCell ⟨sb, 4, none⟩ (.int .i64 (R + 1))) ∧ Fr [] w (wc.setCell ⟨sb, 4, none⟩ (.int .i64 (R + 1)))) := HSt.out 4 (R + 1) I' G' B R' (by rw [e1, e2, e3]; rfl)
                clear HSt HSame n1 n2 n3 e1 e2 e3 hz
                go_wp2_with fail
                go_meet
                exact ⟨by first | rfl | rw [em] | simp, HFin.out⟩
              · have b12 : (k == 12) = false := by simp [h12]
                have e3 : R' = R := by rw [n3]; simp [endE, h12]
                have HFin : Hid (_ ∧ _) := HSame.out e1 e2 e3
                clear HSt HSame n1 n2 n3 e1 e2 e3 hz
                go_wp2_with fail
                go_meet
                exact ⟨by first | rfl | rw [em] | simp, HFin.out⟩
        case rest =>
          obtain ⟨rfl, HC2⟩ := hcut
          generalize decide (inlg n ∧ inlg m) = mvb at *
          obtain ⟨_, _, _, n4⟩ := HN.out
          have HB4 : Hid (B' = max B (busyL (hs L es (i + 1)) : Nat)) := n4
          clear n4 HN y0 y1 y2 y3 y4 y5 z0 z1 z2 z3 z4 hz HP5 HF5 g1 g2 g3
          go_wp2_with fail
          go_loopw [10, 11] (fun ub jj wr => ∃ (j : Nat), ub = .int .i64 (busyL ((hs L es (i + 1)).take j) : Nat) ∧ jj = .int .i64 ((j : Int) + 1) ∧ j ≤ L ∧ Hid (XoP sb wS en I' G' B R' wr ∧ Fr [] w wr)) (fun _ jj _ => L + 1 - (RowKit.intOf jj).toNat)
          case atStart => exact ⟨0, by simp [busyL], rfl, by omega, HC2⟩
          case round =>
            obtain ⟨j, rfl, rfl, hjL, HI⟩ := hrel
            have hwj : IntKind.i64.wrap ((j : Int) + 1 + 1) = ((j + 1 : Nat) : Int) + 1 := by rw [IntKind.wrap_i64]; omega
            obtain ⟨_, m0, _⟩ := HW0.out _ HI.out.1.2
            by_cases hj : j < L
            · have hle : (j : Int) + 1 ≤ (L : Int) := by omega
              have HHj : Hid (Calls Tryd.prog 18 #[.slice (some ⟨bb, off, none⟩) (i + 1) ec, .int .i64 ((j : Int) + 1)] wr fun e w' => e = .returned (.bool (hold es ((j : Int) + 1) (i + 1))) ∧ Fr [] wr w') := HH.out wr i _ HI.out.2 hi
              have hsl := slE_h (some ⟨bb, off, none⟩) en ec (i + 1) (by omega)
              rw [show ((i + 1 : Nat) : Int) = (i : Int) + 1 by omega] at hsl
              have hs1 := busy_snoc (hs L es (i + 1)) j (by rw [hs_length]; exact hj)
              rw [hs_getD L es (i + 1) j hj] at hs1
              have HS1 : Hid (_ = _) := hs1
              have hb1 := busyL_le ((hs L es (i + 1)).take j)
              rw [List.length_take, hs_length] at hb1
              clear hs1
              have HQ6 : Hid (∀ W, Fr [] wr W → XoP sb wS en I' G' B R' W ∧ Fr [] w W) := fun W hf => ⟨HI.out.1.quiet hf, HI.out.2.then hf⟩
              cases hh : hold es ((j : Int) + 1) (i + 1) with
              | true =>
                rw [hh] at HHj HS1
                have HS2 : Hid (busyL ((hs L es (i + 1)).take (j + 1)) = busyL ((hs L es (i + 1)).take j) + 1) := HS1.out
                generalize busyL ((hs L es (i + 1)).take j) = U at HS2 hb1
                have hwu : IntKind.i64.wrap ((U : Int) + 1) = (U : Int) + 1 := by rw [IntKind.wrap_i64]; omega
                clear hh HI HS1
                go_wp2_with fail
                with_reducible refine HHj.out.mono ?_
                rintro e w6 ⟨rfl, hf6⟩
                have HC6 : Hid (_ ∧ _) := HQ6.out w6 hf6
                clear hf6 m0
                go_wp2_with fail
                go_roundw
                case rel => exact ⟨j + 1, by rw [HS2.out]; rfl, rfl, by omega, HC6⟩
                case measure => simp [intOf]; omega
              | false =>
                rw [hh] at HHj HS1
                have HS2 : Hid (busyL ((hs L es (i + 1)).take (j + 1)) = busyL ((hs L es (i + 1)).take j)) := HS1.out
                generalize busyL ((hs L es (i + 1)).take j) = U at HS2 hb1
                clear hh HI HS1
                go_wp2_with fail
                with_reducible refine HHj.out.mono ?_
                rintro e w6 ⟨rfl, hf6⟩
                have HC6 : Hid (_ ∧ _) := HQ6.out w6 hf6
                clear hf6 m0
                go_wp2_with fail
                go_roundw
                case rel => exact ⟨j + 1, by rw [HS2.out], rfl, by omega, HC6⟩
                case measure => simp [intOf]; omega
            · obtain rfl : j = L := by omega
              have hle : ¬ (j : Int) + 1 ≤ (j : Int) := by omega
              obtain ⟨z0, z1, z2, z3, z4, hz⟩ := HI.out.1.cells
              have z5 := hz 3
              have e1 : (hs j es (i + 1)).take j = hs j es (i + 1) := by rw [List.take_of_length_le (by rw [hs_length]; exact Nat.le_refl _)]
              rw [e1]
              have hU := busyL_le (hs j es (i + 1))
              have HRel : Hid (∀ W, XoP sb wS en I' G' B' R' W → ∃ i', (Value.int .i64 ((i : Int) + 1)) = .int .i64 (i' : Nat) ∧ i' ≤ en ∧ Hid (XoP sb wS en (sta j es i').i (sta j es i').g (sta j es i').b (sta j es i').r W)) := fun W h => by
                obtain ⟨q1, q2, q3, q4⟩ := HI'.out
                exact ⟨i + 1, rfl, by omega, by rw [q1, q2, q3, q4]; exact h⟩
              generalize busyL (hs j es (i + 1)) = U at HB4
              by_cases hb : B < (U : Int)
              · have HFin : Hid (XoP sb wS en I' G' B' R' (wr.setCell ⟨sb, 3, none⟩ (.int .i64 (U : Int)))) := HI.out.1.put (by rw [show B' = (U : Int) by have := HB4.out; omega]; rfl)
                clear HI hj hjL hz e1 hU
                go_wp2_with fail
                go_roundw
                case rel => exact HRel.out _ HFin.out
                case measure => simp [intOf]; omega
              · have HFin : Hid (XoP sb wS en I' G' B' R' wr) := by show XoP _ _ _ _ _ _ _ _; rw [show B' = B by have := HB4.out; omega]; exact HI.out.1
                clear HI hj hjL hz e1 hU
                go_wp2_with fail
                go_roundw
                case rel => exact HRel.out _ HFin.out
                case measure => simp [intOf]; omega
    · obtain rfl : i = en := by omega
      have hO := (HW0.out _ HP.out.2).2.2
      have HWr2 : Hid (Fr [] w wr) := (HW0.out _ HP.out.2).1
      have hn := sta_n L es i
      obtain ⟨z0, z1, z2, z3, z4, _⟩ := HP.out.cells
      have HSS : Hid ((sta L es i).a = stA i (sta L es i).i (sta L es i).g (sta L es i).b (sta L es i).r) := by show _ = _; unfold Sst.a; rw [hn]
      generalize (sta L es i).i = I at z1 HSS
      generalize (sta L es i).g = G at z2 HSS
      generalize (sta L es i).b = B at z3 HSS
      generalize (sta L es i).r = R at z4 HSS
      have HO : Hid (_ = _) := hO
      clear hO hi hin hn
      go_wp2_with (refine wpList_storeSt rfl _ _ rfl (b + 1) i I G B R rfl rfl 0 0 0 0 0 HO.out ?_; intro w9 hw9 hf9)
      refine bodyPost_ret (results_ct_row rfl _ _ _ (b + 1) _ rfl (load_st hw9.out)) rfl ?_
      exact ⟨by rw [HSS.out]; rfl, HWr2.out.on hf9 (by intro y hy; have := HB.out; simp at hy; omega)⟩
end Go.Proofs.YtfhfjplhfjlpaaaDoor

/- Texts of this claim laid together, one behind the other: contracts and plain lemmas; conditions as each names them. -/
import Derived.Test.YtdojhkgnnbdfkaaGreatGp41
/- The document's Whole: its walk. Conditions: fewer than 2^41 bytes. -/
namespace Go.Proofs.YtdojhkgnnbdfkaaGreat
open BigFrame Go.ChangeShapes Go.WideShapes Go.ChangeAt Go.RowKit Go.Lib Go.Maps
set_option linter.unusedVariables false
set_option linter.unusedSimpArgs false

theorem Good.sum {ys xs : List Nat} {g : Nat} (h : Good ys g xs) : more (more 0 ((ys.drop 4).take 12)) (ys.drop 20) = sumH g xs := by
  have e := hd_split g xs xs
  rw [← h.eq] at e
  have d1 : ys.drop 4 = midB g xs.length ++ (leB 4 (sumH g xs) ++ xs) := by
    rw [e, List.drop_left' (leB_length 4 _)]
    simp [midB]
  rw [d1, List.take_left' (midB_length _ _), h.drop]
  rfl
/-- A reader of the document's in a box. -/
structure X4 (w : World) (b : Nat) (x0 x1 x2 x3 : Value) : Prop where
  box : w.heap[b]? = some (.cells #[x0, x1, x2, x3] 140 (0, 0))
theorem X4.keep {S : List Nat} {w w' : World} {b : Nat} {x0 x1 x2 x3 : Value} (h : X4 w b x0 x1 x2 x3) (hf : Fr S w w') (hn : b ∉ S) : X4 w' b x0 x1 x2 x3 := ⟨hf.keep h.box hn⟩
theorem X4.c0 {w : World} {b : Nat} {x0 x1 x2 x3 : Value} (h : X4 w b x0 x1 x2 x3) : w.cell? ⟨b, 0, none⟩ = some x0 := by rw [cell_of_row _ _ _ _ _ _ h.box]; rfl
theorem X4.c1 {w : World} {b : Nat} {x0 x1 x2 x3 : Value} (h : X4 w b x0 x1 x2 x3) : w.cell? ⟨b, 1, none⟩ = some x1 := by rw [cell_of_row _ _ _ _ _ _ h.box]; rfl
theorem X4.c2 {w : World} {b : Nat} {x0 x1 x2 x3 : Value} (h : X4 w b x0 x1 x2 x3) : w.cell? ⟨b, 2, none⟩ = some x2 := by rw [cell_of_row _ _ _ _ _ _ h.box]; rfl
theorem X4.c3 {w : World} {b : Nat} {x0 x1 x2 x3 : Value} (h : X4 w b x0 x1 x2 x3) : w.cell? ⟨b, 3, none⟩ = some x3 := by rw [cell_of_row _ _ _ _ _ _ h.box]; rfl
theorem X4.fz {w : World} {b : Nat} {x0 x1 x2 x3 : Value} (h : X4 w b x0 x1 x2 x3) (j : Nat) : w.frozen? ⟨b, j, none⟩ = false := by simp [World.frozen?, h.box]
theorem X4.put {w : World} {b : Nat} {x0 x1 x2 x3 : Value} (h : X4 w b x0 x1 x2 x3) (y0 y1 y2 y3 : Value) : X4 ((((w.setCell ⟨b, 0, none⟩ y0).setCell ⟨b, 1, none⟩ y1).setCell ⟨b, 2, none⟩ y2).setCell ⟨b, 3, none⟩ y3) b y0 y1 y2 y3 ∧ Fr [b] w ((((w.setCell ⟨b, 0, none⟩ y0).setCell ⟨b, 1, none⟩ y1).setCell ⟨b, 2, none⟩ y2).setCell ⟨b, 3, none⟩ y3) := by
  refine ⟨⟨?_⟩, (Fr.set w ⟨b, 0, none⟩ _ (by simp)).then ((Fr.set _ ⟨b, 1, none⟩ _ (by simp)).then ((Fr.set _ ⟨b, 2, none⟩ _ (by simp)).then (Fr.set _ ⟨b, 3, none⟩ _ (by simp))))⟩
  rw [row_setCell _ (row_setCell _ (row_setCell _ (row_setCell _ h.box)))]
  rfl
set_option maxHeartbeats 8000000 in
set_option maxRecDepth 100000 in
theorem whole_any (ao : Option Addr) (L cap : Nat) (ys : List Nat) (w : World) (hA : BArg w ao L cap ys) (hlen : ys.length < 2^31) :
    Calls Tryz.prog 61 #[.slice ao L cap] w fun e w' => WhP ys w e w' := by
  have HL : Hid (L = ys.length) := hA.len
  have hLm : L < 2^31 := by rw [hA.len]; exact hlen
  have hfits := hA.fits
  have HLow : Hid (∀ x ∈ ys, x < 256) := hA.low
  obtain ⟨w1, HW1⟩ : ∃ w1, Hid (w.alloc (.cells #[.int .i64 0, .slice none 0 0, .slice none 0 0] 27) = w1) := ⟨_, rfl⟩
  have hF1 : Fr [] w w1 := by rw [← HW1.out]; exact Fr.alloc [] w _
  have hs1 : SB w1 w.heap.size (.int .i64 0) (.slice none 0 0) (.slice none 0 0) := ⟨by rw [← HW1.out]; exact svnew w⟩
  obtain ⟨A, hAe⟩ : ∃ A, A = w.heap.size := ⟨_, rfl⟩
  rw [← hAe] at hs1
  obtain ⟨w2, HW2⟩ : ∃ w2, Hid (w1.alloc (.cells #[.bool false, .slice ao L cap, .int .i64 0, .int .i64 0] 140) = w2) := ⟨_, rfl⟩
  have hF2 : Fr [] w1 w2 := by rw [← HW2.out]; exact Fr.alloc [] w1 _
  obtain ⟨R, hRe⟩ : ∃ R, R = w1.heap.size := ⟨_, rfl⟩
  have hx2 : X4 w2 R (.bool false) (.slice ao L cap) (.int .i64 0) (.int .i64 0) := ⟨by rw [← HW2.out, hRe]; exact heap_alloc_new w1 _⟩
  have hs2 := hs1.keep hF2 (by simp)
  have hAR : A ≠ R := by
    have := lt_of_block hs1.box
    omega
  have HAR : Hid (w.heap.size ≤ A ∧ w.heap.size ≤ R ∧ A ≠ R) := ⟨by omega, by have := hF1.size; omega, hAR⟩
  have HA : Hid (∀ W, Fr [] w W → BArg W ao L cap ys) := fun W hf => hA.keep hf
  have HRs : Hid (∀ W, Fr [] w W → Rs W ao ys) := fun W hf => (HA.out W hf).rs (by omega)
  have HGw2 : Hid (Fr [] w w2 ∧ SB w2 A (.int .i64 0) (.slice none 0 0) (.slice none 0 0)) := ⟨hF1.then hF2, hs2⟩
  have HXw2 : Hid (X4 w2 R (.bool false) (.slice ao L cap) (.int .i64 0) (.int .i64 0)) := hx2
  have HNo : Hid (∀ W, Fr [] w W → SB W A (.int .i64 0) (.slice none 0 0) (.slice none 0 0) → Wh ys false 0 0 [] [] → (loadVar 27 ⟨A, 0, none⟩).run Tryz.prog (((W.setCell ⟨A, 0, none⟩ (.int .i64 0)).setCell ⟨A, 1, none⟩ (.slice none 0 0)).setCell ⟨A, 2, none⟩ (.slice none 0 0)) = .ok (.agg #[.int .i64 0, .slice none 0 0, .slice none 0 0]) (((W.setCell ⟨A, 0, none⟩ (.int .i64 0)).setCell ⟨A, 1, none⟩ (.slice none 0 0)).setCell ⟨A, 2, none⟩ (.slice none 0 0)) ∧ WhP ys w (.returned (.tuple #[.agg #[.int .i64 0, .slice none 0 0, .slice none 0 0], .int .u64 0, .bool false])) (((W.setCell ⟨A, 0, none⟩ (.int .i64 0)).setCell ⟨A, 1, none⟩ (.slice none 0 0)).setCell ⟨A, 2, none⟩ (.slice none 0 0))) := fun W hf hS hW => by
    obtain ⟨q1, q2⟩ := hS.fr0 (.int .i64 0) (.slice none 0 0) (.slice none 0 0)
    exact ⟨load_sv q1.box, WhP.no hW (hf.on q2 (fun j hj => by have := HAR.out.1; simp at hj; omega))⟩
  clear hs1 hs2 hx2 hF1 hF2 hA hlen hAR
  go_enter Tryz.func61, Tryz.ntmps61
  go_upto_region 1 with fail
  rw [HW1.out, ← hAe]
  go_upto_region 2 with fail
  rw [HW2.out, ← hRe]
  clear HW1 HW2 hAe hRe
  obtain ⟨p1, c1, v1, hR1, hp1, hv1, hC1⟩ := fx_any ao L cap 0 0 4 ys w2 (HRs.out _ HGw2.out.1) HLow.out HL.out (by omega) (by omega) (by omega)
  have HR1 : Hid (FxR ys 4 0 0 p1 c1 v1) := hR1
  have HC1 : Hid (Calls _ _ _ _ _) := hC1
  have x0 := HXw2.out.c0
  have x1 := HXw2.out.c1
  have x2 := HXw2.out.c2
  have x3 := HXw2.out.c3
  clear hR1 hC1
  go_wp2_with fail
  refine Calls.mono HC1.out ?_
  rintro e u1 ⟨rfl, hFu⟩
  have hXu := HXw2.out.keep hFu (by simp)
  have x0 := hXu.c0
  have x1 := hXu.c1
  have x2 := hXu.c2
  have x3 := hXu.c3
  have z0 := hXu.fz 0
  have z1 := hXu.fz 1
  have z2 := hXu.fz 2
  have z3 := hXu.fz 3
  obtain ⟨t1, HT1⟩ : ∃ t1, Hid ((((u1.setCell ⟨R, 0, none⟩ (.bool false)).setCell ⟨R, 1, none⟩ (.slice ao L cap)).setCell ⟨R, 2, none⟩ (.int .i64 (p1 : Int))).setCell ⟨R, 3, none⟩ (.int .i64 (c1 : Int)) = t1) := ⟨_, rfl⟩
  have HXt1 : Hid (X4 t1 R (.bool false) (.slice ao L cap) (.int .i64 (p1 : Int)) (.int .i64 (c1 : Int))) := by
    show X4 _ _ _ _ _ _
    rw [← HT1.out]
    exact (hXu.put _ _ _ _).1
  have HGt1 : Hid (Fr [] w t1 ∧ SB t1 A (.int .i64 0) (.slice none 0 0) (.slice none 0 0)) := by
    have h9 : Fr [R] u1 t1 := by rw [← HT1.out]; exact (hXu.put _ _ _ _).2
    exact ⟨(HGw2.out.1.then hFu).on h9 (fun j hj => by have := HAR.out.2.1; simp at hj; omega), (HGw2.out.2.keep hFu (by simp)).keep h9 (by have := HAR.out.2.2; simp; omega)⟩
  clear hXu hFu HC1 HGw2 HXw2
  go_upto_region 3 with fail
  rw [HT1.out]
  clear HT1 x0 x1 x2 x3 z0 z1 z2 z3
  obtain ⟨p2, c2, v2, hR2, hp2, hv2, hC2⟩ := fx_any ao L cap p1 c1 8 ys t1 (HRs.out _ HGt1.out.1) HLow.out HL.out hp1 (by omega) (by omega)
  have HR2 : Hid (FxR ys 8 p1 c1 p2 c2 v2) := hR2
  have HC2 : Hid (Calls _ _ _ _ _) := hC2
  have x0 := HXt1.out.c0
  have x1 := HXt1.out.c1
  have x2 := HXt1.out.c2
  have x3 := HXt1.out.c3
  clear hR2 hC2
  go_wp2_with fail
  refine Calls.mono HC2.out ?_
  rintro e u2 ⟨rfl, hFu⟩
  have hXu := HXt1.out.keep hFu (by simp)
  have x0 := hXu.c0
  have x1 := hXu.c1
  have x2 := hXu.c2
  have x3 := hXu.c3
  have z0 := hXu.fz 0
  have z1 := hXu.fz 1
  have z2 := hXu.fz 2
  have z3 := hXu.fz 3
  obtain ⟨t2, HT2⟩ : ∃ t2, Hid ((((u2.setCell ⟨R, 0, none⟩ (.bool false)).setCell ⟨R, 1, none⟩ (.slice ao L cap)).setCell ⟨R, 2, none⟩ (.int .i64 (p2 : Int))).setCell ⟨R, 3, none⟩ (.int .i64 (c2 : Int)) = t2) := ⟨_, rfl⟩
  have HXt2 : Hid (X4 t2 R (.bool false) (.slice ao L cap) (.int .i64 (p2 : Int)) (.int .i64 (c2 : Int))) := by
    show X4 _ _ _ _ _ _
    rw [← HT2.out]
    exact (hXu.put _ _ _ _).1
  have HGt2 : Hid (Fr [] w t2 ∧ SB t2 A (.int .i64 0) (.slice none 0 0) (.slice none 0 0)) := by
    have h9 : Fr [R] u2 t2 := by rw [← HT2.out]; exact (hXu.put _ _ _ _).2
    exact ⟨(HGt1.out.1.then hFu).on h9 (fun j hj => by have := HAR.out.2.1; simp at hj; omega), (HGt1.out.2.keep hFu (by simp)).keep h9 (by have := HAR.out.2.2; simp; omega)⟩
  clear hXu hFu HC2 HGt1 HXt1
  go_upto_region 4 with fail
  rw [HT2.out]
  clear HT2 x0 x1 x2 x3 z0 z1 z2 z3
  obtain ⟨p3, c3, v3, hR3, hp3, hv3, hC3⟩ := fx_any ao L cap p2 c2 4 ys t2 (HRs.out _ HGt2.out.1) HLow.out HL.out hp2 (by omega) (by omega)
  have HR3 : Hid (FxR ys 4 p2 c2 p3 c3 v3) := hR3
  have HC3 : Hid (Calls _ _ _ _ _) := hC3
  have x0 := HXt2.out.c0
  have x1 := HXt2.out.c1
  have x2 := HXt2.out.c2
  have x3 := HXt2.out.c3
  clear hR3 hC3
  go_wp2_with fail
  refine Calls.mono HC3.out ?_
  rintro e u3 ⟨rfl, hFu⟩
  have hXu := HXt2.out.keep hFu (by simp)
  have x0 := hXu.c0
  have x1 := hXu.c1
  have x2 := hXu.c2
  have x3 := hXu.c3
  have z0 := hXu.fz 0
  have z1 := hXu.fz 1
  have z2 := hXu.fz 2
  have z3 := hXu.fz 3
  obtain ⟨t3, HT3⟩ : ∃ t3, Hid ((((u3.setCell ⟨R, 0, none⟩ (.bool false)).setCell ⟨R, 1, none⟩ (.slice ao L cap)).setCell ⟨R, 2, none⟩ (.int .i64 (p3 : Int))).setCell ⟨R, 3, none⟩ (.int .i64 (c3 : Int)) = t3) := ⟨_, rfl⟩
  have HXt3 : Hid (X4 t3 R (.bool false) (.slice ao L cap) (.int .i64 (p3 : Int)) (.int .i64 (c3 : Int))) := by
    show X4 _ _ _ _ _ _
    rw [← HT3.out]
    exact (hXu.put _ _ _ _).1
  have HGt3 : Hid (Fr [] w t3 ∧ SB t3 A (.int .i64 0) (.slice none 0 0) (.slice none 0 0)) := by
    have h9 : Fr [R] u3 t3 := by rw [← HT3.out]; exact (hXu.put _ _ _ _).2
    exact ⟨(HGt2.out.1.then hFu).on h9 (fun j hj => by have := HAR.out.2.1; simp at hj; omega), (HGt2.out.2.keep hFu (by simp)).keep h9 (by have := HAR.out.2.2; simp; omega)⟩
  clear hXu hFu HC3 HGt2 HXt2
  go_upto_region 5 with fail
  rw [HT3.out]
  clear HT3 x0 x1 x2 x3 z0 z1 z2 z3
  obtain ⟨p4, c4, v4, hR4, hp4, hv4, hC4⟩ := fx_any ao L cap p3 c3 4 ys t3 (HRs.out _ HGt3.out.1) HLow.out HL.out hp3 (by omega) (by omega)
  have HR4 : Hid (FxR ys 4 p3 c3 p4 c4 v4) := hR4
  have HC4 : Hid (Calls _ _ _ _ _) := hC4
  have x0 := HXt3.out.c0
  have x1 := HXt3.out.c1
  have x2 := HXt3.out.c2
  have x3 := HXt3.out.c3
  clear hR4 hC4
  go_wp2_with fail
  refine Calls.mono HC4.out ?_
  rintro e u4 ⟨rfl, hFu⟩
  have hXu := HXt3.out.keep hFu (by simp)
  have x0 := hXu.c0
  have x1 := hXu.c1
  have x2 := hXu.c2
  have x3 := hXu.c3
  have z0 := hXu.fz 0
  have z1 := hXu.fz 1
  have z2 := hXu.fz 2
  have z3 := hXu.fz 3
  obtain ⟨t4, HT4⟩ : ∃ t4, Hid ((((u4.setCell ⟨R, 0, none⟩ (.bool false)).setCell ⟨R, 1, none⟩ (.slice ao L cap)).setCell ⟨R, 2, none⟩ (.int .i64 (p4 : Int))).setCell ⟨R, 3, none⟩ (.int .i64 (c4 : Int)) = t4) := ⟨_, rfl⟩
  have HXt4 : Hid (X4 t4 R (.bool false) (.slice ao L cap) (.int .i64 (p4 : Int)) (.int .i64 (c4 : Int))) := by
    show X4 _ _ _ _ _ _
    rw [← HT4.out]
    exact (hXu.put _ _ _ _).1
  have HGt4 : Hid (Fr [] w t4 ∧ SB t4 A (.int .i64 0) (.slice none 0 0) (.slice none 0 0)) := by
    have h9 : Fr [R] u4 t4 := by rw [← HT4.out]; exact (hXu.put _ _ _ _).2
    exact ⟨(HGt3.out.1.then hFu).on h9 (fun j hj => by have := HAR.out.2.1; simp at hj; omega), (HGt3.out.2.keep hFu (by simp)).keep h9 (by have := HAR.out.2.2; simp; omega)⟩
  clear hXu hFu HC4 HGt3 HXt3
  go_upto_region 6 with fail
  rw [HT4.out]
  clear HT4 x0 x1 x2 x3 z0 z1 z2 z3
  have HFo : Hid ((c4 ≠ 0 ∧ ys.length < 20) ∨ (c4 = 0 ∧ p4 = 20 ∧ Fo ys v1 v2 v3 v4)) := fo_of HR1.out HR2.out HR3.out HR4.out
  have x0 := HXt4.out.c0
  have x1 := HXt4.out.c1
  have x2 := HXt4.out.c2
  have x3 := HXt4.out.c3
  clear HR1 HR2 HR3 HR4
  rcases HFo.out with ⟨hc4, hsh⟩ | ⟨hc4, hp20, hfo⟩
  · have hce : ((c4 : Int) != 0) = true := by simp; omega
    clear hc4
    obtain ⟨n1, n2⟩ := HNo.out t4 (HGt4.out.1) (HGt4.out.2) (Wh.short hsh)
    have N1 : Hid ((loadVar _ _).run _ _ = _) := n1
    have N2 : Hid (WhP ys w _ _) := n2
    have a0 := (HGt4.out.2).c0
    have a1 := (HGt4.out.2).c1
    have a2 := (HGt4.out.2).c2
    have b0 := (HGt4.out.2).fz 0
    have b1 := (HGt4.out.2).fz 1
    have b2 := (HGt4.out.2).fz 2
    clear n1 n2
    go_wp2
    refine bodyPost_ret (v := .tuple #[.agg #[.int .i64 0, .slice none 0 0, .slice none 0 0], .int .u64 0, .bool false]) (by rw [results_ctt19 rfl _ _ _ A _ rfl N1.out]; rfl) rfl ?_
    exact N2.out
  · subst hc4
    subst hp20
    have hL20 : 20 ≤ L := by rw [HL.out]; exact hfo.len
    have HF : Hid (Fo ys v1 v2 v3 v4) := hfo
    have HX32 : Hid (∀ g xs, Good ys g xs → xs.length < 2^32) := fun g xs hG => by have := hG.len; have := HL.out; omega
    clear hfo HFo
    by_cases h1 : v1 = 1464880980
    · have h1e : ((v1 : Int) != 1464880980) = false := by simp; omega
      have H1 : Hid (v1 = 1464880980) := h1
      clear h1
      by_cases h2 : v2 < 1
      · have h2e : (v2 : Int) < 1 := by omega
        obtain ⟨n1, n2⟩ := HNo.out t4 (HGt4.out.1) (HGt4.out.2) (Wh.none fun g xs hG => (by have h9 := (hG.parts HF.out (HX32.out g xs hG)).2.1; have := hG.lo; omega))
        have N1 : Hid ((loadVar _ _).run _ _ = _) := n1
        have N2 : Hid (WhP ys w _ _) := n2
        have a0 := (HGt4.out.2).c0
        have a1 := (HGt4.out.2).c1
        have a2 := (HGt4.out.2).c2
        have b0 := (HGt4.out.2).fz 0
        have b1 := (HGt4.out.2).fz 1
        have b2 := (HGt4.out.2).fz 2
        clear n1 n2
        go_wp2
        refine bodyPost_ret (v := .tuple #[.agg #[.int .i64 0, .slice none 0 0, .slice none 0 0], .int .u64 0, .bool false]) (by rw [results_ctt19 rfl _ _ _ A _ rfl N1.out]; rfl) rfl ?_
        exact N2.out
      · have h2e : ¬ (v2 : Int) < 1 := by omega
        by_cases h3 : 4611686018427387904 < v2
        · have h3e : (4611686018427387904 : Int) < (v2 : Int) := by omega
          obtain ⟨n1, n2⟩ := HNo.out t4 (HGt4.out.1) (HGt4.out.2) (Wh.none fun g xs hG => (by have h9 := (hG.parts HF.out (HX32.out g xs hG)).2.1; have := hG.hi; omega))
          have N1 : Hid ((loadVar _ _).run _ _ = _) := n1
          have N2 : Hid (WhP ys w _ _) := n2
          have a0 := (HGt4.out.2).c0
          have a1 := (HGt4.out.2).c1
          have a2 := (HGt4.out.2).c2
          have b0 := (HGt4.out.2).fz 0
          have b1 := (HGt4.out.2).fz 1
          have b2 := (HGt4.out.2).fz 2
          clear n1 n2
          go_wp2
          refine bodyPost_ret (v := .tuple #[.agg #[.int .i64 0, .slice none 0 0, .slice none 0 0], .int .u64 0, .bool false]) (by rw [results_ctt19 rfl _ _ _ A _ rfl N1.out]; rfl) rfl ?_
          exact N2.out
        · have h3e : ¬ (4611686018427387904 : Int) < (v2 : Int) := by omega
          have HLf : Hid (Calls _ _ _ _ _) := xLeft_any ao L cap 20 0 t4 (by omega) hL20
          have hwr : IntKind.u64.wrap ((L - 20 : Nat) : Int) = ((L - 20 : Nat) : Int) := u64_nat _ (by omega) (by omega)
          obtain ⟨Lr, HLr⟩ : ∃ Lr, Hid (L - 20 = Lr) := ⟨_, rfl⟩
          rw [HLr.out] at HLf hwr
          go_wp2_with fail
          refine Calls.mono HLf.out ?_
          rintro e s1 ⟨rfl, hFs⟩
          have HGs : Hid (Fr [] w s1 ∧ SB s1 A (.int .i64 0) (.slice none 0 0) (.slice none 0 0)) := ⟨HGt4.out.1.then hFs, HGt4.out.2.keep hFs (by simp)⟩
          clear hFs HLf HGt4 HXt4 x0 x1 x2 x3
          by_cases h4 : v3 = Lr
          · have h4e : ((v3 : Int) != (Lr : Int)) = false := by simp; omega
            have H4 : Hid (v3 = (ys.drop 20).length) := by
              have := HL.out
              have := HLr.out
              show _ = _
              simp
              omega
            obtain ⟨so, HSo⟩ : ∃ so, Hid (so = fromB ao cap 20) := ⟨_, rfl⟩
            obtain ⟨sm, HSm⟩ : ∃ sm, Hid (sm = fromB ao cap 4) := ⟨_, rfl⟩
            have hsl : ∀ W : World, (Instr.sliceAt 76 (.slice ao L cap) (some (.int .i64 20)) none none).run Tryz.prog W = .ok (.slice so Lr (cap - 20)) W := fun W => by rw [HSo.out, ← HLr.out]; exact slB_l ao L cap 20 hL20 W
            have hsm : ∀ W : World, (Instr.sliceAt 76 (.slice ao L cap) (some (.int .i64 4)) (some (.int .i64 16)) none).run Tryz.prog W = .ok (.slice sm 12 (cap - 4)) W := fun W => by rw [HSm.out]; exact slB_lh ao L cap 4 16 (by omega) (by omega) W
            have HSa : Hid (∀ W, Fr [] w W → BArg W so Lr (cap - 20) (ys.drop 20)) := fun W hf => by rw [HSo.out, ← HLr.out]; exact (HA.out W hf).tail 20 hL20
            have HMa : Hid (∀ W, Fr [] w W → BArg W sm 12 (cap - 4) ((ys.drop 4).take 12)) := fun W hf => by rw [HSm.out]; exact (HA.out W hf).cut 4 16 (by omega) (by omega)
            obtain ⟨C, HC⟩ : ∃ C, Hid (more 0 ((ys.drop 4).take 12) = C) := ⟨_, rfl⟩
            obtain ⟨M, HM⟩ : ∃ M, Hid (more C (ys.drop 20) = M) := ⟨_, rfl⟩
            have hC32 : C < 4294967296 := by rw [← HC.out]; exact more_lt _ _
            have hM32 : M < 4294967296 := by rw [← HM.out]; exact more_lt _ _
            have HCr : Hid (Calls _ _ _ _ _) := refCrc_any C sm 12 (cap - 4) ((ys.drop 4).take 12) s1 (HMa.out _ HGs.out.1) HC.out
            have hwm : IntKind.u64.wrap (M : Int) = (M : Int) := u64_nat _ (by omega) (by omega)
            clear h4
            go_wp2_with fail
            refine Calls.mono HCr.out ?_
            rintro e s2 ⟨rfl, hFs⟩
            have HGs2 : Hid (Fr [] w s2 ∧ SB s2 A (.int .i64 0) (.slice none 0 0) (.slice none 0 0)) := ⟨HGs.out.1.then hFs, HGs.out.2.keep hFs (by simp)⟩
            have HMo : Hid (Calls _ _ _ _ _) := refMore_any C M so Lr (cap - 20) (ys.drop 20) s2 hC32 (HSa.out _ HGs2.out.1) HM.out
            clear hFs HCr HGs
            go_wp2_with fail
            refine Calls.mono HMo.out ?_
            rintro e s3 ⟨rfl, hFs⟩
            have HGs3 : Hid (Fr [] w s3 ∧ SB s3 A (.int .i64 0) (.slice none 0 0) (.slice none 0 0)) := ⟨HGs2.out.1.then hFs, HGs2.out.2.keep hFs (by simp)⟩
            clear hFs HMo HGs2
            by_cases h5 : v4 = M
            · have h5e : ((v4 : Int) != (M : Int)) = false := by simp; omega
              have HGd : Hid (Good ys v2 (ys.drop 20)) := HF.out.good HLow.out H1.out (by omega) (by omega) H4.out (by rw [HC.out, HM.out]; exact h5)
              have HDe : Hid (Calls _ _ _ _ _) := ydecode_any so Lr (cap - 20) (ys.drop 20) s3 ⟨(HSa.out _ HGs3.out.1).rs (by have := HLr.out; omega), (HSa.out _ HGs3.out.1).low, (HSa.out _ HGs3.out.1).len, (HSa.out _ HGs3.out.1).fits⟩
              clear h5
              go_wp2_with fail
              refine Calls.mono HDe.out ?_
              intro e w6 hp
              obtain ⟨c, m, bo, Lb, cb, ho, Lh, ch, bs, hs, rfl, hans, hLb, hLh, hlim, hio, hho, hF6⟩ := hp.one (fun x hx => HLow.out x (List.mem_of_mem_drop hx))
              have HAns : Hid (AnsD (ys.drop 20) c m bs (hs.map Hd.kv)) := hans
              obtain ⟨w7, HW7⟩ : ∃ w7, Hid (w6.alloc (.cells #[.int .i64 m, .slice bo Lb cb, .slice ho Lh ch] 27) = w7) := ⟨_, rfl⟩
              have hF7 : Fr [] w6 w7 := by rw [← HW7.out]; exact Fr.alloc [] w6 _
              have hs7 : SB w7 w6.heap.size (.int .i64 m) (.slice bo Lb cb) (.slice ho Lh ch) := ⟨by rw [← HW7.out]; exact heap_alloc_new w6 _⟩
              have HG7 : Hid (Fr [] w w7 ∧ SB w7 A (.int .i64 0) (.slice none 0 0) (.slice none 0 0)) := ⟨HGs3.out.1.then (hF6.then hF7), (HGs3.out.2.keep hF6 (by simp)).keep hF7 (by simp)⟩
              have HSv : Hid (SvO w w7 bo Lb cb ho Lh ch bs hs) := ((⟨hLb, hLh, hlim, hio, hho⟩ : SvO s3 w6 bo Lb cb ho Lh ch bs hs).keep hF7).later HGs3.out.1.size
              have j0 := hs7.c0
              have j1 := hs7.c1
              have j2 := hs7.c2
              obtain ⟨Q, hQ⟩ : ∃ Q, Q = w6.heap.size := ⟨_, rfl⟩
              obtain ⟨B, hB⟩ : ∃ B, ((c : Int) == 0) = B := ⟨_, rfl⟩
              have HB : Hid (((c : Int) == 0) = B) := hB
              have HR : Hid (WhP ys w (.returned (.tuple #[.agg #[.int .i64 m, .slice bo Lb cb, .slice ho Lh ch], .int .u64 (v2 : Int), .bool B])) (((w7.setCell ⟨A, 0, none⟩ (.int .i64 m)).setCell ⟨A, 1, none⟩ (.slice bo Lb cb)).setCell ⟨A, 2, none⟩ (.slice ho Lh ch))) := by
                obtain ⟨q1, q2⟩ := HG7.out.2.fr0 (.int .i64 m) (.slice bo Lb cb) (.slice ho Lh ch)
                have hsv := HSv.out.offS HG7.out.2 q2
                have hfr : Fr [] w (((w7.setCell ⟨A, 0, none⟩ (.int .i64 m)).setCell ⟨A, 1, none⟩ (.slice bo Lb cb)).setCell ⟨A, 2, none⟩ (.slice ho Lh ch)) := HG7.out.1.on q2 (fun j hj => by have := HAR.out.1; simp at hj; omega)
                by_cases hc : c = 0
                · have hBt : B = true := by rw [← HB.out]; simp; omega
                  subst hc
                  exact ⟨B, v2, v2, m, bo, Lb, cb, ho, Lh, ch, bs, hs, rfl, by rw [hBt]; exact Wh.ok HGd.out HAns.out, fun _ => rfl, by omega, hsv, hfr⟩
                · have hBf : B = false := by rw [← HB.out]; simp; omega
                  rcases HAns.out with ⟨_, _, hm0, hb0, hp0⟩ | ⟨q, _⟩
                  · exact ⟨B, 0, v2, m, bo, Lb, cb, ho, Lh, ch, bs, hs, rfl, by rw [hBf, hm0, hb0, hp0]; exact Wh.bad HGd.out HAns.out hc, fun e => (by rw [hBf] at e; cases e), by omega, hsv, hfr⟩
                  · exact absurd q hc
              have HLd : Hid ((loadVar 27 ⟨A, 0, none⟩).run Tryz.prog (((w7.setCell ⟨A, 0, none⟩ (.int .i64 m)).setCell ⟨A, 1, none⟩ (.slice bo Lb cb)).setCell ⟨A, 2, none⟩ (.slice ho Lh ch)) = .ok (.agg #[.int .i64 m, .slice bo Lb cb, .slice ho Lh ch]) (((w7.setCell ⟨A, 0, none⟩ (.int .i64 m)).setCell ⟨A, 1, none⟩ (.slice bo Lb cb)).setCell ⟨A, 2, none⟩ (.slice ho Lh ch))) := load_sv (HG7.out.2.fr0 (.int .i64 m) (.slice bo Lb cb) (.slice ho Lh ch)).1.box
              have a0 := HG7.out.2.c0
              have a1 := HG7.out.2.c1
              have a2 := HG7.out.2.c2
              have b0 := HG7.out.2.fz 0
              have b1 := HG7.out.2.fz 1
              have b2 := HG7.out.2.fz 2
              clear HDe hp hans hLb hLh hlim hio hho hF6 hF7 hs7
              go_upto_region 12 with fail
              rw [HW7.out]
              rw [← hQ] at j0 j1 j2 ⊢
              clear HW7 hQ
              go_wp2
              refine bodyPost_ret (v := .tuple #[.agg #[.int .i64 m, .slice bo Lb cb, .slice ho Lh ch], .int .u64 (v2 : Int), .bool B]) (by rw [results_ctt19 rfl _ _ _ A _ rfl HLd.out]; rfl) rfl ?_
              exact HR.out
            · have h5e : ((v4 : Int) != (M : Int)) = true := by simp; omega
              obtain ⟨n1, n2⟩ := HNo.out s3 (HGs3.out.1) (HGs3.out.2) (Wh.none fun g xs hG => (by have h9 := (hG.parts HF.out (HX32.out g xs hG)).2.2.2; have h8 := hG.sum; rw [HC.out, HM.out] at h8; omega))
              have N1 : Hid ((loadVar _ _).run _ _ = _) := n1
              have N2 : Hid (WhP ys w _ _) := n2
              have a0 := (HGs3.out.2).c0
              have a1 := (HGs3.out.2).c1
              have a2 := (HGs3.out.2).c2
              have b0 := (HGs3.out.2).fz 0
              have b1 := (HGs3.out.2).fz 1
              have b2 := (HGs3.out.2).fz 2
              clear n1 n2
              go_wp2
              refine bodyPost_ret (v := .tuple #[.agg #[.int .i64 0, .slice none 0 0, .slice none 0 0], .int .u64 0, .bool false]) (by rw [results_ctt19 rfl _ _ _ A _ rfl N1.out]; rfl) rfl ?_
              exact N2.out
          · have h4e : ((v3 : Int) != (Lr : Int)) = true := by simp; omega
            obtain ⟨n1, n2⟩ := HNo.out s1 (HGs.out.1) (HGs.out.2) (Wh.none fun g xs hG => (by have h9 := (hG.parts HF.out (HX32.out g xs hG)).2.2.1; have h8 := hG.len; have := HL.out; have := HLr.out; omega))
            have N1 : Hid ((loadVar _ _).run _ _ = _) := n1
            have N2 : Hid (WhP ys w _ _) := n2
            have a0 := (HGs.out.2).c0
            have a1 := (HGs.out.2).c1
            have a2 := (HGs.out.2).c2
            have b0 := (HGs.out.2).fz 0
            have b1 := (HGs.out.2).fz 1
            have b2 := (HGs.out.2).fz 2
            clear n1 n2
            go_wp2
            refine bodyPost_ret (v := .tuple #[.agg #[.int .i64 0, .slice none 0 0, .slice none 0 0], .int .u64 0, .bool false]) (by rw [results_ctt19 rfl _ _ _ A _ rfl N1.out]; rfl) rfl ?_
            exact N2.out
    · have h1e : ((v1 : Int) != 1464880980) = true := by simp; omega
      obtain ⟨n1, n2⟩ := HNo.out t4 (HGt4.out.1) (HGt4.out.2) (Wh.none fun g xs hG => h1 (hG.parts HF.out (HX32.out g xs hG)).1)
      have N1 : Hid ((loadVar _ _).run _ _ = _) := n1
      have N2 : Hid (WhP ys w _ _) := n2
      have a0 := (HGt4.out.2).c0
      have a1 := (HGt4.out.2).c1
      have a2 := (HGt4.out.2).c2
      have b0 := (HGt4.out.2).fz 0
      have b1 := (HGt4.out.2).fz 1
      have b2 := (HGt4.out.2).fz 2
      clear n1 n2
      go_wp2
      refine bodyPost_ret (v := .tuple #[.agg #[.int .i64 0, .slice none 0 0, .slice none 0 0], .int .u64 0, .bool false]) (by rw [results_ctt19 rfl _ _ _ A _ rfl N1.out]; rfl) rfl ?_
      exact N2.out
end Go.Proofs.YtdojhkgnnbdfkaaGreat

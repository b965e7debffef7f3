/- The program's feed: contract of Dispatch. Conditions as each names them. -/
import Derived.Test.YtakbodlicfmkjaaGreatFs16
namespace Go.Proofs.YtakbodlicfmkjaaGreat.F
open Go.ChangeShapes Go.WideShapes Go.ChangeAt Go.RowKit Go.Lib Go.Maps
set_option linter.unusedVariables false
set_option linter.unusedSimpArgs false

section
variable {w0 w w' : World} {f g lb L : Nat} {ts : List Tm} {v : Value} {qs : List Nat} {mb : Nat} {bs : List Int} {s : Fe} {hw : Value}
/-- What Dispatch hands on. -/
def disV (s : Fe) (bs : List Int) (mark : Int) (hw : Value) : Value := if s.disC bs mark = 0 then .agg #[.int .i64 (s.rd : Int), hw] else .agg #[.int .i64 0, .slice none 0 0]
def disH (s : Fe) (bs : List Int) (mark : Int) (hw : Value) : Value := if s.disC bs mark = 0 then .slice none 0 0 else hw
set_option maxHeartbeats 4000000 in
set_option maxRecDepth 100000 in
theorem fDis_any (h : FdM w0 w f g lb L ts v qs mb bs s hw) (mark : Int) : Calls Tryz.prog 256 #[.pointer (some ⟨f, 0, none⟩), .int .i64 mark] w fun e w' => e = .returned (.tuple #[disV s bs mark hw, .int .i64 (s.disC bs mark : Int)]) ∧ FdM w0 w' f g lb L ts v qs mb bs (s.disS bs mark) (disH s bs mark hw) ∧ Fr [f] w w' := by
  have hF0 : Fr [] w (w.alloc (.cells #[.int .i64 0, .slice none 0 0] 59)) := Fr.alloc _ _ _
  obtain ⟨W, HW⟩ : ∃ W, Hid (w.alloc (.cells #[.int .i64 0, .slice none 0 0] 59) = W) := ⟨_, rfl⟩
  obtain ⟨A, HA⟩ : ∃ A, Hid (w.heap.size = A) := ⟨_, rfl⟩
  have hB : B2 W A (.int .i64 0) (.slice none 0 0) := ⟨by rw [← HW.out, ← HA.out]; exact heap_alloc_new _ _⟩
  rw [HW.out] at hF0
  have h0 := h.keep hF0
  have HT : Hid (Calls _ _ _ _ _) := fThere_any h0
  have HB : Hid (∀ S V, Fr S W V → A ∉ S → B2 V A (.int .i64 0) (.slice none 0 0)) := fun S V hf hn => hB.keepS hf hn
  have hfA : f ≠ A := by have := h.lt; rw [← HA.out]; omega
  have HSt : Hid (∀ V x y, Fr [f] W V → Fr [f] w ((V.setCell ⟨A, 0, none⟩ x).setCell ⟨A, 1, none⟩ y)) := fun V x y hf => ((hF0.mono (by simp)).then hf).trans (Fr.box2 V A x y) (U := [f]) (fun x hx _ => hx) (fun x hx hl => by simp at hx; rw [HA.out] at hl; omega)
  by_cases hv : s.hv = true
  · by_cases hb : (s.rd : Int) ∈ bs
    · have e1 : s.disC bs mark = 6 := by simp [Fe.disC, hv, hb]
      have HU : Hid (Calls _ _ _ _ _) := fTurn_skip h0 hv hb
      have HH : Hid (∀ V x y, Fr [] W V → FdM w0 ((V.setCell ⟨A, 0, none⟩ x).setCell ⟨A, 1, none⟩ y) f g lb L ts v qs mb bs s hw) := fun V x y hf => h.upd (HSt.out V x y (hf.mono (by simp))) ((Fr.box2 V A x y).keep ((hF0.then hf).keep h.box (by simp)) (by simpa using hfA)) rfl rfl h.rf h.fl (fun x => ⟨x, rfl⟩) h.slot
      rw [show disV s bs mark hw = .agg #[.int .i64 0, .slice none 0 0] from by simp [disV, e1], show disH s bs mark hw = hw from by simp [disH, e1], show s.disS bs mark = s from by simp [Fe.disS, e1], e1]
      clear h h0 hF0 hB e1
      go_enter Tryz.func256, Tryz.ntmps256
      go_upto_region 1 with fail
      rw [HW.out, HA.out]
      clear HW HA
      go_wp2_with fail
      refine Calls.mono HT.out ?_
      rintro e w1 ⟨rfl, rfl⟩
      go_wp2_with fail
      refine Calls.mono HU.out ?_
      rintro e w1 ⟨rfl, hF1⟩
      have hBz := HB.out [] _ hF1 (by simp)
      obtain ⟨s0, s1, s2, s3⟩ : _ ∧ _ ∧ _ ∧ _ := ⟨hBz.c0, hBz.c1, hBz.f0, hBz.f1⟩
      clear hBz
      go_wp2
      refine bodyPost_ret (v := .tuple #[.agg #[.int .i64 0, .slice none 0 0], .int .i64 6]) (by rw [results_cell_tmp rfl]; go_simp) rfl ⟨rfl, HH.out _ _ _ hF1, HSt.out _ _ _ (hF1.mono (by simp))⟩
    · by_cases hn : s.near mark = false
      · have e1 : s.disC bs mark = 6 := by simp [Fe.disC, hv, hn]
        have HU : Hid (Calls _ _ _ _ _) := fTurn_dis h0 hv hb
        have HH : Hid (∀ V x y, Fr [] W V → FdM w0 ((V.setCell ⟨A, 0, none⟩ x).setCell ⟨A, 1, none⟩ y) f g lb L ts v qs mb bs s hw) := fun V x y hf => h.upd (HSt.out V x y (hf.mono (by simp))) ((Fr.box2 V A x y).keep ((hF0.then hf).keep h.box (by simp)) (by simpa using hfA)) rfl rfl h.rf h.fl (fun x => ⟨x, rfl⟩) h.slot
        have HN : Hid (∀ V, Fr [] W V → Calls Tryz.prog 76 #[.pointer (some ⟨f, 0, none⟩), .int .i64 mark] V fun e w' => e = .returned (.bool (s.near mark)) ∧ Fr [] V w') := fun V hf => fNear_any (h0.keep hf) hv mark
        rw [hn] at HN
        rw [show disV s bs mark hw = .agg #[.int .i64 0, .slice none 0 0] from by simp [disV, e1], show disH s bs mark hw = hw from by simp [disH, e1], show s.disS bs mark = s from by simp [Fe.disS, e1], e1]
        clear h h0 hF0 hB e1
        go_enter Tryz.func256, Tryz.ntmps256
        go_upto_region 1 with fail
        rw [HW.out, HA.out]
        clear HW HA
        go_wp2_with fail
        refine Calls.mono HT.out ?_
        rintro e w1 ⟨rfl, rfl⟩
        go_wp2_with fail
        refine Calls.mono HU.out ?_
        rintro e w1 ⟨rfl, hF1⟩
        go_wp2_with fail
        refine Calls.mono (HN.out _ hF1) ?_
        rintro e w2 ⟨rfl, hF2⟩
        have hF1 := hF1.then hF2
        have hBz := HB.out [] _ hF1 (by simp)
        obtain ⟨s0, s1, s2, s3⟩ : _ ∧ _ ∧ _ ∧ _ := ⟨hBz.c0, hBz.c1, hBz.f0, hBz.f1⟩
        clear hBz
        go_wp2
        refine bodyPost_ret (v := .tuple #[.agg #[.int .i64 0, .slice none 0 0], .int .i64 6]) (by rw [results_cell_tmp rfl]; go_simp) rfl ⟨rfl, HH.out _ _ _ hF1, HSt.out _ _ _ (hF1.mono (by simp))⟩
      · have hn : s.near mark = true := by simpa using hn
        have e1 : s.disC bs mark = 0 := by simp [Fe.disC, hv, hb, hn]
        have HU : Hid (Calls _ _ _ _ _) := fTurn_dis h0 hv hb
        have HN : Hid (∀ V, Fr [] W V → Calls Tryz.prog 76 #[.pointer (some ⟨f, 0, none⟩), .int .i64 mark] V fun e w' => e = .returned (.bool (s.near mark)) ∧ Fr [] V w') := fun V hf => fNear_any (h0.keep hf) hv mark
        rw [hn] at HN
        obtain ⟨o, n, c, hhw⟩ := h.slot
        subst hhw
        have HO : Hid (∀ V, Fr [] W V → Calls Tryz.prog 255 #[.pointer (some ⟨f, 0, none⟩)] V fun e w' => e = .returned (.agg #[.int .i64 (s.rd : Int), .slice o n c]) ∧ FdM w0 w' f g lb L ts v qs mb bs { s with hv := false } (.slice none 0 0) ∧ Fr [f] V w') := fun V hf => fHandOn_any (h0.keep hf) hv
        have HH : Hid (∀ V x y, Fr [f] W V → FdM w0 V f g lb L ts v qs mb bs { s with hv := false } (.slice none 0 0) → FdM w0 ((V.setCell ⟨A, 0, none⟩ x).setCell ⟨A, 1, none⟩ y) f g lb L ts v qs mb bs { s with hv := false } (.slice none 0 0)) := fun V x y hf hV => h.upd (HSt.out V x y hf) ((Fr.box2 V A x y).keep hV.box (by simpa using hfA)) rfl rfl h.rf h.fl (fun e => by cases e) ⟨_, _, _, rfl⟩
        rw [show disV s bs mark (.slice o n c) = .agg #[.int .i64 (s.rd : Int), .slice o n c] from by simp [disV, e1], show disH s bs mark (.slice o n c) = .slice none 0 0 from by simp [disH, e1], show s.disS bs mark = { s with hv := false } from by simp [Fe.disS, e1], e1]
        clear h h0 hF0 hB e1
        go_enter Tryz.func256, Tryz.ntmps256
        go_upto_region 1 with fail
        rw [HW.out, HA.out]
        clear HW HA
        go_wp2_with fail
        refine Calls.mono HT.out ?_
        rintro e w1 ⟨rfl, rfl⟩
        go_wp2_with fail
        refine Calls.mono HU.out ?_
        rintro e w1 ⟨rfl, hF1⟩
        go_wp2_with fail
        refine Calls.mono (HN.out _ hF1) ?_
        rintro e w2 ⟨rfl, hF2⟩
        have hF2 := hF1.then hF2
        go_wp2_with fail
        refine Calls.mono (HO.out _ hF2) ?_
        rintro e w3 ⟨rfl, h3, hF3⟩
        have hF3 := (hF2.mono (T := [f]) (by simp)).then hF3
        have hBz := HB.out [f] _ hF3 (by simp; exact fun e => hfA e.symm)
        obtain ⟨s0, s1, s2, s3⟩ : _ ∧ _ ∧ _ ∧ _ := ⟨hBz.c0, hBz.c1, hBz.f0, hBz.f1⟩
        have HE : Hid (∀ x y, _ ∧ _) := fun x y => ⟨HH.out w3 x y hF3 h3, HSt.out w3 x y hF3⟩
        clear hBz h3 hF1 hF2 hF3
        go_wp2
        refine bodyPost_ret (v := .tuple #[.agg #[.int .i64 (s.rd : Int), .slice o n c], .int .i64 0]) (by rw [results_cell_tmp rfl]; go_simp) rfl ⟨rfl, HE.out _ _⟩
  · have hv2 : s.hv = false := by simpa using hv
    have e1 : s.disC bs mark = 9 := by simp [Fe.disC, hv2]
    have HU : Hid (Calls _ _ _ _ _) := fTurn_none h0 hv2
    have HH : Hid (∀ V x y, Fr [] W V → FdM w0 ((V.setCell ⟨A, 0, none⟩ x).setCell ⟨A, 1, none⟩ y) f g lb L ts v qs mb bs s hw) := fun V x y hf => h.upd (HSt.out V x y (hf.mono (by simp))) ((Fr.box2 V A x y).keep ((hF0.then hf).keep h.box (by simp)) (by simpa using hfA)) rfl rfl h.rf h.fl (fun x => ⟨x, rfl⟩) h.slot
    rw [show disV s bs mark hw = .agg #[.int .i64 0, .slice none 0 0] from by simp [disV, e1], show disH s bs mark hw = hw from by simp [disH, e1], show s.disS bs mark = s from by simp [Fe.disS, e1], e1]
    clear h h0 hF0 hB e1
    go_enter Tryz.func256, Tryz.ntmps256
    go_upto_region 1 with fail
    rw [HW.out, HA.out]
    clear HW HA
    go_wp2_with fail
    refine Calls.mono HT.out ?_
    rintro e w1 ⟨rfl, rfl⟩
    go_wp2_with fail
    refine Calls.mono HU.out ?_
    rintro e w1 ⟨rfl, hF1⟩
    have hBz := HB.out [] _ hF1 (by simp)
    obtain ⟨s0, s1, s2, s3⟩ : _ ∧ _ ∧ _ ∧ _ := ⟨hBz.c0, hBz.c1, hBz.f0, hBz.f1⟩
    clear hBz
    go_wp2
    refine bodyPost_ret (v := .tuple #[.agg #[.int .i64 0, .slice none 0 0], .int .i64 9]) (by rw [results_cell_tmp rfl]; go_simp) rfl ⟨rfl, HH.out _ _ _ hF1, HSt.out _ _ _ (hF1.mono (by simp))⟩
end
end Go.Proofs.YtakbodlicfmkjaaGreat.F

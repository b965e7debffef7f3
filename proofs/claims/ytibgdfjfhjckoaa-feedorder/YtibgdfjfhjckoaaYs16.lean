/- The document's feed: contracts of Skip, Dispatch. Conditions as each names them. -/
import Derived.Test.YtibgdfjfhjckoaaYr16
import Derived.Test.YtibgdfjfhjckoaaFq16
namespace Go.Proofs.Ytibgdfjfhjckoaa
open Go.ChangeShapes Go.WideShapes Go.ChangeAt Go.RowKit Go.Lib Go.Maps
set_option linter.unusedVariables false
set_option linter.unusedSimpArgs false

section
variable {w0 w w' : World} {f g L lc : Nat} {lo : Option Addr} {us : List Tm} {v : Value} {qs : List Nat} {bo : Option Addr} {M bc : Nat} {bs : List Int} {s : Fe} {hn : Int} {hw : Value}
set_option maxHeartbeats 4000000 in
set_option maxRecDepth 100000 in
theorem yfSkip_any (h : YfM w0 w f g L lo lc us v qs bo M bc bs s hn hw) : Calls Try.prog 32 #[.pointer (some ⟨f, 0, none⟩)] w fun e w' => e = .returned (.tuple #[.int .i64 (s.skipN bs : Int), .int .i64 (s.skipC bs : Int)]) ∧ YfM w0 w' f g L lo lc us v qs bo M bc bs (s.skipS bs) hn hw ∧ Fr [f] w w' := by
  have c5 := h.c5
  by_cases hv : s.hv = true
  · obtain ⟨_, h2, _⟩ := h.held hv
    rw [hv] at c5
    have HH : Hid (∀ W, Fr [] w W → YfM w0 W f g L lo lc us v qs bo M bc bs s hn hw) := fun W hf => h.keep hf
    by_cases hb : (s.rd : Int) ∈ bs
    · have HU : Hid (Calls _ _ _ _ _) := yfThere_any h true (by rw [h2]; simp [hb])
      have e1 : s.skipC bs = 0 := by simp [Fe.skipC, hv, hb]
      have e2 : s.skipN bs = s.rd := by simp [Fe.skipN, e1]
      have e3 : s.skipS bs = { s with hv := false } := by simp [Fe.skipS, e1]
      have H2 : Hid (hn = (s.rd : Int)) := h2
      rw [e1, e2, e3]
      clear h hb e1 e2 e3 h2
      go_enter Try.func32, Try.ntmps32
      go_wp2_with fail
      refine Calls.mono HU.out ?_
      rintro e w1 ⟨rfl, hF1⟩
      have h1 := HH.out _ hF1
      have d5 := h1.c5
      have z5 := h1.fz 5
      have hFs : Fr [f] w1 (w1.setCell ⟨f, 5, none⟩ (.bool false)) := Fr.set _ _ _ (by simp)
      have q6 : (w1.setCell ⟨f, 5, none⟩ (.bool false)).cell? ⟨f, 6, none⟩ = some (.int .i64 hn) := (far_off (by omega)).trans h1.c6
      rw [H2.out] at q6
      have HE : Hid (YfM w0 (w1.setCell ⟨f, 5, none⟩ (.bool false)) f g L lo lc us v qs bo M bc bs { s with hv := false } hn hw ∧ Fr [f] w (w1.setCell ⟨f, 5, none⟩ (.bool false))) := ⟨h1.upd hFs (by have := yf_set (j := 5) (.bool false) h1.box; exact this) rfl rfl h1.rf h1.fl (fun e => by cases e) h1.slot, (hF1.mono (by simp)).then hFs⟩
      clear h1 hFs hF1
      go_wp2
      go_ret2
      exact ⟨rfl, HE.out⟩
    · have HU : Hid (Calls _ _ _ _ _) := yfThere_any h false (by rw [h2]; simp [hb])
      have e1 : s.skipC bs = 6 := by simp [Fe.skipC, hv, hb]
      have e2 : s.skipN bs = 0 := by simp [Fe.skipN, e1]
      have e3 : s.skipS bs = s := by simp [Fe.skipS, e1]
      rw [e1, e2, e3]
      clear h hb e1 e2 e3 h2
      go_enter Try.func32, Try.ntmps32
      go_wp2_with fail
      refine Calls.mono HU.out ?_
      rintro e w1 ⟨rfl, hF1⟩
      go_wp2
      go_ret2
      exact ⟨rfl, HH.out _ hF1, hF1.mono (by simp)⟩
  · have hv2 : s.hv = false := by simpa using hv
    rw [hv2] at c5
    have e1 : s.skipC bs = 9 := by simp [Fe.skipC, hv2]
    have e2 : s.skipN bs = 0 := by simp [Fe.skipN, e1]
    have e3 : s.skipS bs = s := by simp [Fe.skipS, e1]
    rw [e1, e2, e3]
    have HH : Hid (YfM w0 w f g L lo lc us v qs bo M bc bs s hn hw) := h
    clear h hv hv2 e1 e2 e3
    go_enter Try.func32, Try.ntmps32
    go_wp2
    go_ret2
    exact ⟨rfl, HH.out, Fr.refl _ _⟩
set_option maxHeartbeats 4000000 in
set_option maxRecDepth 100000 in
theorem yfDis_any (h : YfM w0 w f g L lo lc us v qs bo M bc bs s hn hw) (mark : Int) : Calls Try.prog 33 #[.pointer (some ⟨f, 0, none⟩), .int .i64 mark] w fun e w' => e = .returned (.tuple #[disV s bs mark hw, .int .i64 (s.disC bs mark : Int)]) ∧ YfM w0 w' f g L lo lc us v qs bo M bc bs (s.disS bs mark) hn hw ∧ Fr [f] w w' := by
  have hF0 : Fr [] w (w.alloc (.cells #[.int .i64 0, .slice none 0 0] 42)) := Fr.alloc _ _ _
  obtain ⟨W, HW⟩ : ∃ W, Hid (w.alloc (.cells #[.int .i64 0, .slice none 0 0] 42) = W) := ⟨_, rfl⟩
  obtain ⟨A, HA⟩ : ∃ A, Hid (w.heap.size = A) := ⟨_, rfl⟩
  have hB : B2 W A (.int .i64 0) (.slice none 0 0) := ⟨by rw [← HW.out, ← HA.out]; exact heap_alloc_new _ _⟩
  rw [HW.out] at hF0
  have h0 := h.keep hF0
  have c5 := h0.c5
  have HB : Hid (∀ S V, Fr S W V → A ∉ S → B2 V A (.int .i64 0) (.slice none 0 0)) := fun S V hf hn => hB.keepS hf hn
  have hfA : f ≠ A := by have := h.lt; rw [← HA.out]; omega
  have HSt : Hid (∀ V x y, Fr [f] W V → Fr [f] w ((V.setCell ⟨A, 0, none⟩ x).setCell ⟨A, 1, none⟩ y)) := fun V x y hf => ((hF0.mono (by simp)).then hf).trans (Fr.box2 V A x y) (U := [f]) (fun x hx _ => hx) (fun x hx hl => by simp at hx; rw [HA.out] at hl; omega)
  have HH : Hid (∀ V x y, Fr [] W V → YfM w0 ((V.setCell ⟨A, 0, none⟩ x).setCell ⟨A, 1, none⟩ y) f g L lo lc us v qs bo M bc bs s hn hw) := fun V x y hf => h.upd (HSt.out V x y (hf.mono (by simp))) ((Fr.box2 V A x y).keep ((hF0.then hf).keep h.box (by simp)) (by simpa using hfA)) rfl rfl h.rf h.fl (fun x => ⟨x, rfl, rfl⟩) h.slot
  by_cases hv : s.hv = true
  · obtain ⟨_, h2, _⟩ := h.held hv
    rw [hv] at c5
    by_cases hb : (s.rd : Int) ∈ bs
    · have e1 : s.disC bs mark = 6 := by simp [Fe.disC, hv, hb]
      have HU : Hid (Calls _ _ _ _ _) := yfThere_any h0 true (by rw [h2]; simp [hb])
      rw [show disV s bs mark hw = .agg #[.int .i64 0, .slice none 0 0] from by simp [disV, e1], show s.disS bs mark = s from by simp [Fe.disS, e1], e1]
      clear h h0 hF0 hB e1
      go_enter Try.func33, Try.ntmps33
      go_upto_region 1 with fail
      rw [HW.out, HA.out]
      clear HW HA
      go_wp2_with fail
      refine Calls.mono HU.out ?_
      rintro e w1 ⟨rfl, hF1⟩
      have hBz := HB.out [] _ hF1 (by simp)
      obtain ⟨s0, s1, s2, s3⟩ : _ ∧ _ ∧ _ ∧ _ := ⟨hBz.c0, hBz.c1, hBz.f0, hBz.f1⟩
      clear hBz
      go_wp2
      refine bodyPost_ret (v := .tuple #[.agg #[.int .i64 0, .slice none 0 0], .int .i64 6]) (by rw [results_cell_tmp rfl]; go_simp) rfl ⟨rfl, HH.out _ _ _ hF1, HSt.out _ _ _ (hF1.mono (by simp))⟩
    · have HU : Hid (Calls _ _ _ _ _) := yfThere_any h0 false (by rw [h2]; simp [hb])
      have HN : Hid (∀ V, Fr [] W V → Calls Try.prog 54 #[.pointer (some ⟨f, 0, none⟩), .int .i64 mark] V fun e w' => e = .returned (.bool (s.near mark)) ∧ Fr [] V w') := fun V hf => yfNear_any (h0.keep hf) hv mark
      by_cases hn' : s.near mark = false
      · have e1 : s.disC bs mark = 6 := by simp [Fe.disC, hv, hn']
        rw [hn'] at HN
        rw [show disV s bs mark hw = .agg #[.int .i64 0, .slice none 0 0] from by simp [disV, e1], show s.disS bs mark = s from by simp [Fe.disS, e1], e1]
        clear h h0 hF0 hB e1
        go_enter Try.func33, Try.ntmps33
        go_upto_region 1 with fail
        rw [HW.out, HA.out]
        clear HW HA
        go_wp2_with fail
        refine Calls.mono HU.out ?_
        rintro e w1 ⟨rfl, hF1⟩
        go_wp2_with fail
        refine Calls.mono (HN.out _ hF1) ?_
        rintro e w2 ⟨rfl, hF2⟩
        have hF1 := hF1.then hF2
        have hBz := HB.out [] _ hF1 (by simp)
        obtain ⟨s0, s1, s2, s3⟩ : _ ∧ _ ∧ _ ∧ _ := ⟨hBz.c0, hBz.c1, hBz.f0, hBz.f1⟩
        clear hBz
        go_wp2
        refine bodyPost_ret (v := .tuple #[.agg #[.int .i64 0, .slice none 0 0], .int .i64 6]) (by rw [results_cell_tmp rfl]; go_simp) rfl ⟨rfl, HH.out _ _ _ hF1, HSt.out _ _ _ (hF1.mono (by simp))⟩
      · have hn' : s.near mark = true := by simpa using hn'
        have e1 : s.disC bs mark = 0 := by simp [Fe.disC, hv, hb, hn']
        rw [hn'] at HN
        obtain ⟨o, n, c, hhw⟩ := h.slot
        subst hhw
        have H2 : Hid (hn = (s.rd : Int)) := h2
        have HK : Hid (∀ V, Fr [] W V → YfM w0 V f g L lo lc us v qs bo M bc bs s hn (.slice o n c)) := fun V hf => h0.keep hf
        have HE : Hid (∀ V x y, Fr [] W V → YfM w0 (((V.setCell ⟨f, 5, none⟩ (.bool false)).setCell ⟨A, 0, none⟩ x).setCell ⟨A, 1, none⟩ y) f g L lo lc us v qs bo M bc bs { s with hv := false } hn (.slice o n c) ∧ Fr [f] w (((V.setCell ⟨f, 5, none⟩ (.bool false)).setCell ⟨A, 0, none⟩ x).setCell ⟨A, 1, none⟩ y)) := fun V x y hf => by
          have hFs : Fr [f] W (V.setCell ⟨f, 5, none⟩ (.bool false)) := (hf.mono (by simp)).then (Fr.set _ _ _ (by simp))
          have hb := yf_set (j := 5) (.bool false) (h0.keep hf).box
          exact ⟨h.upd (HSt.out _ x y hFs) ((Fr.box2 _ A x y).keep hb (by simpa using hfA)) rfl rfl h.rf h.fl (fun e => by cases e) ⟨_, _, _, rfl⟩, HSt.out _ x y hFs⟩
        rw [show disV s bs mark (.slice o n c) = .agg #[.int .i64 (s.rd : Int), .slice o n c] from by simp [disV, e1], show s.disS bs mark = { s with hv := false } from by simp [Fe.disS, e1], e1]
        clear h h0 hF0 hB e1 h2
        go_enter Try.func33, Try.ntmps33
        go_upto_region 1 with fail
        rw [HW.out, HA.out]
        clear HW HA
        go_wp2_with fail
        refine Calls.mono HU.out ?_
        rintro e w1 ⟨rfl, hF1⟩
        go_wp2_with fail
        refine Calls.mono (HN.out _ hF1) ?_
        rintro e w2 ⟨rfl, hF2⟩
        have hF2 := hF1.then hF2
        have h2 := HK.out _ hF2
        have d5 := h2.c5
        have z5 := h2.fz 5
        have hBz := HB.out [] _ hF2 (by simp)
        have hFs : Fr [f] w2 (w2.setCell ⟨f, 5, none⟩ (.bool false)) := Fr.set _ _ _ (by simp)
        have hBs := hBz.keepS hFs (by simp; exact fun e => hfA e.symm)
        obtain ⟨s0, s1, s2, s3⟩ : _ ∧ _ ∧ _ ∧ _ := ⟨hBs.c0, hBs.c1, hBs.f0, hBs.f1⟩
        have q6 : (w2.setCell ⟨f, 5, none⟩ (.bool false)).cell? ⟨f, 6, none⟩ = some (.int .i64 hn) := (far_off (by omega)).trans h2.c6
        have q7 : (w2.setCell ⟨f, 5, none⟩ (.bool false)).cell? ⟨f, 7, none⟩ = some (.slice o n c) := (far_off (by omega)).trans h2.c7
        rw [H2.out] at q6
        have HR := (show Hid _ from fun x y => HE.out w2 x y hF2)
        clear hBz hBs h2 hF1 hF2 hFs HE
        go_wp2
        refine bodyPost_ret (v := .tuple #[.agg #[.int .i64 (s.rd : Int), .slice o n c], .int .i64 0]) (by rw [results_cell_tmp rfl]; go_simp) rfl ⟨rfl, HR.out _ _⟩
  · have hv2 : s.hv = false := by simpa using hv
    rw [hv2] at c5
    have e1 : s.disC bs mark = 9 := by simp [Fe.disC, hv2]
    have hF1 : Fr [] W W := Fr.refl _ _
    rw [show disV s bs mark hw = .agg #[.int .i64 0, .slice none 0 0] from by simp [disV, e1], show s.disS bs mark = s from by simp [Fe.disS, e1], e1]
    clear h h0 hF0 hB e1
    go_enter Try.func33, Try.ntmps33
    go_upto_region 1 with fail
    rw [HW.out, HA.out]
    clear HW HA
    have hBz := HB.out [] _ hF1 (by simp)
    obtain ⟨s0, s1, s2, s3⟩ : _ ∧ _ ∧ _ ∧ _ := ⟨hBz.c0, hBz.c1, hBz.f0, hBz.f1⟩
    clear hBz
    go_wp2
    refine bodyPost_ret (v := .tuple #[.agg #[.int .i64 0, .slice none 0 0], .int .i64 9]) (by rw [results_cell_tmp rfl]; go_simp) rfl ⟨rfl, HH.out _ _ _ hF1, HSt.out _ _ _ (hF1.mono (by simp))⟩
end
end Go.Proofs.Ytibgdfjfhjckoaa

/- A record taken off a reader: the contract of takeRecord. Conditions: the reader is one of NewReader with nothing wrong. -/
import Derived.Test.YtaefninikmaiiaaGreatDoorTake6
import Derived.Test.YtaefninikmaiiaaGreatDoorRec2
namespace Go.Proofs.YtaefninikmaiiaaGreatDoor
open Go.ChangeShapes Go.WideShapes Go.ChangeAt Go.RowKit Go.Lib
set_option linter.unusedVariables false

theorem B2.keepS {S : List Nat} {w w' : World} {b : Nat} {u v : Value} (h : B2 w b u v) (hf : Fr S w w') (hn : b ∉ S) : B2 w' b u v := ⟨hf.keep h.box hn⟩
theorem Fr.set2g {g : Nat} {w w1 : World} {b : Nat} (h : Fr [g] w w1) (hb : w.heap.size ≤ b) (u v : Value) : Fr [g] w ((w1.setCell ⟨b, 0, none⟩ u).setCell ⟨b, 1, none⟩ v) := by
  have k : Fr [b] w1 ((w1.setCell ⟨b, 0, none⟩ u).setCell ⟨b, 1, none⟩ v) := (Fr.set w1 ⟨b, 0, none⟩ u (by simp)).then (Fr.set _ ⟨b, 1, none⟩ v (by simp))
  exact h.trans k (fun _ x _ => x) (fun y hy hl => by simp at hy; omega)
theorem Fr.box2 (w1 : World) (b : Nat) (u v : Value) : Fr [b] w1 ((w1.setCell ⟨b, 0, none⟩ u).setCell ⟨b, 1, none⟩ v) := (Fr.set w1 ⟨b, 0, none⟩ u (by simp)).then (Fr.set _ ⟨b, 1, none⟩ v (by simp))
/-- What takeRecord answers where there is none. -/
def ErR (w : World) (xs : List Nat) (g r c : Nat) : Prop := Calls Tryz.prog 140 #[.pointer (some ⟨g, 0, none⟩)] w fun e w' => e = .returned (.tuple #[.agg #[.int .i64 0, .slice none 0 0], .int .i64 (c : Int)]) ∧ ∃ ys er ao' cap', Rd w' g r ys er ao' cap' ∧ ys.length ≤ xs.length ∧ Fr [g] w w'
/-- What it answers where there is one. -/
def OkR (w : World) (g r n : Nat) (ws : List Wt) (ys : List Nat) : Prop := Calls Tryz.prog 140 #[.pointer (some ⟨g, 0, none⟩)] w fun e w' => ∃ k C, e = .returned (.tuple #[.agg #[.int .i64 (n : Int), .slice (some ⟨k, 0, none⟩) C C], .int .i64 0]) ∧ w.heap.size ≤ k ∧ C = ws.length ∧ w'.heap[k]? = some (.cells (wtsC ws).toArray 124 (0, 0)) ∧ ∃ ao' cap', Rd w' g r ys 0 ao' cap' ∧ Fr [g] w w'
theorem ErR.calls {w : World} {xs : List Nat} {g r c : Nat} (h : ErR w xs g r c) : Calls Tryz.prog 140 #[.pointer (some ⟨g, 0, none⟩)] w fun e w' => e = .returned (.tuple #[.agg #[.int .i64 0, .slice none 0 0], .int .i64 (c : Int)]) ∧ ∃ ys er ao' cap', Rd w' g r ys er ao' cap' ∧ ys.length ≤ xs.length ∧ Fr [g] w w' := h
theorem OkR.calls {w : World} {g r n : Nat} {ws : List Wt} {ys : List Nat} (h : OkR w g r n ws ys) : Calls Tryz.prog 140 #[.pointer (some ⟨g, 0, none⟩)] w fun e w' => ∃ k C, e = .returned (.tuple #[.agg #[.int .i64 (n : Int), .slice (some ⟨k, 0, none⟩) C C], .int .i64 0]) ∧ w.heap.size ≤ k ∧ C = ws.length ∧ w'.heap[k]? = some (.cells (wtsC ws).toArray 124 (0, 0)) ∧ ∃ ao' cap', Rd w' g r ys 0 ao' cap' ∧ Fr [g] w w' := h

set_option maxHeartbeats 8000000 in
set_option maxRecDepth 100000 in
theorem takeRec_any (g r : Nat) (xs : List Nat) (ao : Option Addr) (cap : Nat) (w : World) (h : Rd w g r xs 0 ao cap) (hr : r < w.heap.size) :
    (∃ c : Nat, recF xs = .error c ∧ ErR w xs g r c) ∨ (∃ (n : Nat) (ws : List Wt) (ys : List Nat), recF xs = .ok (⟨(n : Int), ws⟩, ys) ∧ ys.length < xs.length ∧ OkR w g r n ws ys) := by
  have hgl := h.lt
  have hxl := h.sl.len
  have hlow := h.sl.low
  obtain ⟨w0, HW0⟩ : ∃ w0, Hid ((w.alloc (.cells #[.pointer (some ⟨g, 0, none⟩)] 187)).alloc (.cells #[.int .i64 0, .slice none 0 0] 63) = w0) := ⟨_, rfl⟩
  have hF0 : Fr [] w w0 := by rw [← HW0.out]; exact (Fr.alloc [] w _).then (Fr.alloc [] _ _)
  have hP0 : Bv w0 w.heap.size 187 (.pointer (some ⟨g, 0, none⟩)) := by
    rw [← HW0.out]; exact (Bv.new w _ _).keep (Fr.alloc [] _ _) (by simp)
  have hT0 : B2 w0 (w.heap.size + 1) (.int .i64 0) (.slice none 0 0) := ⟨by rw [← HW0.out]; have := heap_alloc_new (w.alloc (.cells #[.pointer (some ⟨g, 0, none⟩)] 187)) (.cells #[.int .i64 0, .slice none 0 0] 63); simpa using this⟩
  have hs0 : w0.heap.size = w.heap.size + 2 := by rw [← HW0.out]; simp
  have hR0 := h.keep hF0 (by simp) (by simp)
  have hgb : w.heap.size ∉ [g] := by simp; omega
  have hgt : w.heap.size + 1 ∉ [g] := by simp; omega
  have hgg : g ∉ [w.heap.size + 1] := by simp; omega
  have hrg : r ∉ [w.heap.size + 1] := by simp; omega
  have cb0 := hP0.c
  rcases ltakeS_any g r xs ao cap w0 hR0 w.heap.size cb0 with ⟨c, hc, h1, hE⟩ | ⟨s, ys, h1, hl1, hE⟩
  · refine Or.inl ⟨c, by unfold recF; rw [h1], ?_⟩
    show Calls _ _ _ _ _
    have hcb : ((c : Int) != 0) = true := by rw [bne_iff_ne]; omega
    clear hc h1 hlow
    go_enter Tryz.func140, Tryz.ntmps140
    go_wp2_with fail
    rw [HW0.out]
    refine hE.calls.mono ?_
    rintro e w1 ⟨rfl, ao1, cap1, hR1, hF1⟩
    have hT1 := hT0.keepS hF1 hgt
    obtain ⟨x0, x1, y0, y1⟩ : _ ∧ _ ∧ _ ∧ _ := ⟨hT1.c0, hT1.c1, hT1.f0, hT1.f1⟩
    have hG : Fr [g] w w1 := (hF0.mono (by simp)).then hF1
    have HF : Hid (_ ∧ _) := ⟨hR1.keep (Fr.box2 w1 (w.heap.size + 1) (.int .i64 0) (.slice none 0 0)) hgg hrg, hG.set2g (b := w.heap.size + 1) (by omega) (.int .i64 0) (.slice none 0 0)⟩
    clear hT1 hG hR1 hF1 hE hF0 hT0 hP0 hR0
    go_wp2
    refine bodyPost_ret (v := .tuple #[.agg #[.int .i64 0, .slice none 0 0], .int .i64 (c : Int)]) (by rw [results_cell_tmp rfl]; go_simp) rfl ⟨rfl, xs, c, ao1, cap1, HF.out.1, Nat.le_refl _, HF.out.2⟩
  · have hss : s.size ≤ 65536 := (tkS_inv (m := 65536) hlow h1).2.1
    have hyl : ys.length ≤ xs.length := by omega
    have hsl := strNs_lt s
    have hnl := strNs_length s
    have hdec : recF xs = recS s ys := by unfold recF; rw [h1]
    have HDEC : Hid (recF xs = recS s ys) := hdec
    clear hdec h1 hlow h
    cases h2 : tk (fixF 4) ref0 ys with
    | error c =>
      refine Or.inl ⟨c, by rw [HDEC.out]; unfold recS; rw [h2], ?_⟩
      show Calls _ _ _ _ _
      have H2 : Hid (tk (fixF 4) ref0 ys = .error c) := h2
      have hcb : ((c : Int) != 0) = true := by have := tk_code h2; rw [bne_iff_ne]; omega
      clear h2
      go_enter Tryz.func140, Tryz.ntmps140
      go_wp2_with fail
      rw [HW0.out]
      refine hE.calls.mono ?_
      rintro e w1 ⟨rfl, ao1, cap1, hR1, hF1⟩
      have hT1 := hT0.keepS hF1 hgt
      have hP1 := hP0.keep hF1 hgb
      have cb1 := hP1.c
      have hG : Fr [g] w w1 := (hF0.mono (by simp)).then hF1
      clear hE hF1 hT0 hP0 hR0 hF0 cb0
      go_wp2_with fail
      rcases ltakeU_any g r ys ao1 cap1 w1 hR1 w.heap.size cb1 with ⟨c2, hc2, h3, hE2⟩ | ⟨cr, zs, h3, hl2, hE2⟩
      · obtain rfl : c2 = c := by have := H2.out; rw [h3] at this; cases this; rfl
        refine hE2.calls.mono ?_
        rintro e w2 ⟨rfl, ao2, cap2, hR2, hF2⟩
        have hT2 := hT1.keepS hF2 hgt
        obtain ⟨x0, x1, y0, y1⟩ : _ ∧ _ ∧ _ ∧ _ := ⟨hT2.c0, hT2.c1, hT2.f0, hT2.f1⟩
        have hG2 := hG.then hF2
        have HF : Hid (_ ∧ _) := ⟨hR2.keep (Fr.box2 w2 (w.heap.size + 1) (.int .i64 0) (.slice none 0 0)) hgg hrg, hG2.set2g (b := w.heap.size + 1) (by omega) (.int .i64 0) (.slice none 0 0)⟩
        clear hT1 hT2 hG hR1 hR2 hF2 hE2 hG2
        go_wp2
        refine bodyPost_ret (v := .tuple #[.agg #[.int .i64 0, .slice none 0 0], .int .i64 (c2 : Int)]) (by rw [results_cell_tmp rfl]; go_simp) rfl ⟨rfl, ys, c2, ao2, cap2, HF.out.1, hyl, HF.out.2⟩
      · exfalso
        have := H2.out
        rw [h3] at this
        cases this
    | ok p =>
      obtain ⟨cr, zs⟩ := p
      have H2 : Hid (tk (fixF 4) ref0 ys = .ok (cr, zs)) := h2
      have hzl : zs.length ≤ ys.length := by
        obtain ⟨_, _, _, e4⟩ := tk_inv h2
        rw [← e4, List.length_drop]; omega
      have hdec2 : recF xs = recC cr (strNs s) zs := by rw [HDEC.out]; unfold recS; rw [h2]
      have HDEC2 : Hid (recF xs = recC cr (strNs s) zs) := hdec2
      clear hdec2 h2 HDEC
      by_cases hcrc : cr = crcN (strNs s)
      · cases h5 : decT (strNs s) with
        | error c =>
          refine Or.inl ⟨c, by rw [HDEC2.out]; unfold recC; rw [if_pos hcrc, h5], ?_⟩
          show Calls _ _ _ _ _
          have H5 : Hid (decT (strNs s) = .error c) := h5
          have HC : Hid (crcN (strNs s) = cr) := hcrc.symm
          clear h5 hcrc HDEC2
          go_enter Tryz.func140, Tryz.ntmps140
          go_wp2_with fail
          rw [HW0.out]
          refine hE.calls.mono ?_
          rintro e w1 ⟨rfl, ao1, cap1, hR1, hF1⟩
          have hT1 := hT0.keepS hF1 hgt
          have hP1 := hP0.keep hF1 hgb
          have cb1 := hP1.c
          have hG : Fr [g] w w1 := (hF0.mono (by simp)).then hF1
          clear hE hF1 hT0 hP0 hR0 hF0 cb0
          go_wp2_with fail
          rcases ltakeU_any g r ys ao1 cap1 w1 hR1 w.heap.size cb1 with ⟨c2, hc2, h3, hE2⟩ | ⟨cr2, zs2, h3, hl2, hE2⟩
          · exfalso
            have := H2.out
            rw [h3] at this
            cases this
          obtain ⟨rfl, rfl⟩ : cr2 = cr ∧ zs2 = zs := by have := H2.out; rw [h3] at this; cases this; exact ⟨rfl, rfl⟩
          refine hE2.calls.mono ?_
          rintro e w2 ⟨rfl, ao2, cap2, hR2, hF2⟩
          have hT2 := hT1.keepS hF2 hgt
          have hG2 := hG.then hF2
          clear hT1 hP1 cb1 hG hR1 hF2 hE2 h3 H2
          obtain ⟨ccap, w3, hconv, hA3, hF3⟩ := conv_bytes s w2 (by omega)
          have hT3 := hT2.keepS hF3 (by simp)
          have hG3 := hG2.then (hF3.mono (by simp))
          have hR3 := hR2.keep hF3 (by simp) (by simp)
          clear hT2 hG2 hR2 hF3
          go_wp2_with fail
          refine (crc_any cr2 _ _ ccap (strNs s) _ hA3 HC.out).mono ?_
          rintro e w4 ⟨rfl, hF4⟩
          have hcrl : cr2 < 4294967296 := by have := HC.out; rw [← this]; exact crcN_lt _
          have hT4 := hT3.keepS hF4 (by simp)
          have hG4 := hG3.then (hF4.mono (by simp))
          have hR4 := hR3.keep hF4 (by simp) (by simp)
          have hA4 := hA3.keep hF4
          clear hT3 hG3 hR3 hF4 hA3
          have hne : ((cr2 : Int) != cr2) = false := by simp
          go_wp2_with fail
          refine (decode_err _ _ ccap c (strNs s) _ hA4 hnl.symm (by rw [hnl]; omega) H5.out).mono ?_
          rintro e w5 ⟨rfl, hF5⟩
          have hT5 := hT4.keepS hF5 (by simp)
          obtain ⟨x0, x1, y0, y1⟩ : _ ∧ _ ∧ _ ∧ _ := ⟨hT5.c0, hT5.c1, hT5.f0, hT5.f1⟩
          have hG5 := hG4.then (hF5.mono (by simp))
          have hR5 := hR4.keep hF5 (by simp) (by simp)
          have HF : Hid (_ ∧ _) := ⟨hR5.keep (Fr.box2 w5 (w.heap.size + 1) (.int .i64 0) (.slice none 0 0)) hgg hrg, hG5.set2g (b := w.heap.size + 1) (by omega) (.int .i64 0) (.slice none 0 0)⟩
          clear hT4 hT5 hG4 hG5 hR4 hR5 hF5
          go_wp2
          refine bodyPost_ret (v := .tuple #[.agg #[.int .i64 0, .slice none 0 0], .int .i64 (c : Int)]) (by rw [results_cell_tmp rfl]; go_simp) rfl ⟨rfl, zs2, 0, ao2, cap2, HF.out.1, by omega, HF.out.2⟩
        | ok p =>
          obtain ⟨n, ws⟩ := p
          refine Or.inr ⟨n, ws, zs, by rw [HDEC2.out]; unfold recC; rw [if_pos hcrc, h5], by omega, ?_⟩
          show Calls _ _ _ _ _
          have H5 : Hid (decT (strNs s) = .ok (n, ws)) := h5
          have HC : Hid (crcN (strNs s) = cr) := hcrc.symm
          clear h5 hcrc HDEC2
          go_enter Tryz.func140, Tryz.ntmps140
          go_wp2_with fail
          rw [HW0.out]
          refine hE.calls.mono ?_
          rintro e w1 ⟨rfl, ao1, cap1, hR1, hF1⟩
          have hT1 := hT0.keepS hF1 hgt
          have hP1 := hP0.keep hF1 hgb
          have cb1 := hP1.c
          have hG : Fr [g] w w1 := (hF0.mono (by simp)).then hF1
          clear hE hF1 hT0 hP0 hR0 hF0 cb0
          go_wp2_with fail
          rcases ltakeU_any g r ys ao1 cap1 w1 hR1 w.heap.size cb1 with ⟨c2, hc2, h3, hE2⟩ | ⟨cr2, zs2, h3, hl2, hE2⟩
          · exfalso
            have := H2.out
            rw [h3] at this
            cases this
          obtain ⟨rfl, rfl⟩ : cr2 = cr ∧ zs2 = zs := by have := H2.out; rw [h3] at this; cases this; exact ⟨rfl, rfl⟩
          refine hE2.calls.mono ?_
          rintro e w2 ⟨rfl, ao2, cap2, hR2, hF2⟩
          have hT2 := hT1.keepS hF2 hgt
          have hG2 := hG.then hF2
          clear hT1 hP1 cb1 hG hR1 hF2 hE2 h3 H2
          obtain ⟨ccap, w3, hconv, hA3, hF3⟩ := conv_bytes s w2 (by omega)
          have hT3 := hT2.keepS hF3 (by simp)
          have hG3 := hG2.then (hF3.mono (by simp))
          have hR3 := hR2.keep hF3 (by simp) (by simp)
          clear hT2 hG2 hR2 hF3
          go_wp2_with fail
          refine (crc_any cr2 _ _ ccap (strNs s) _ hA3 HC.out).mono ?_
          rintro e w4 ⟨rfl, hF4⟩
          have hcrl : cr2 < 4294967296 := by have := HC.out; rw [← this]; exact crcN_lt _
          have hT4 := hT3.keepS hF4 (by simp)
          have hG4 := hG3.then (hF4.mono (by simp))
          have hR4 := hR3.keep hF4 (by simp) (by simp)
          have hA4 := hA3.keep hF4
          clear hT3 hG3 hR3 hF4 hA3
          have hne : ((cr2 : Int) != cr2) = false := by simp
          go_wp2_with fail
          refine (decode_ok _ _ ccap n ws (strNs s) _ hA4 hnl.symm (by rw [hnl]; omega) H5.out).mono ?_
          rintro e w5 ⟨k, C, rfl, hk, hC, hrow, hF5⟩
          have HCC : Hid (C = ws.length) := hC
          have hT5 := hT4.keepS hF5 (by simp)
          obtain ⟨x0, x1, y0, y1⟩ : _ ∧ _ ∧ _ ∧ _ := ⟨hT5.c0, hT5.c1, hT5.f0, hT5.f1⟩
          have hG5 := hG4.then (hF5.mono (by simp))
          have hR5 := hR4.keep hF5 (by simp) (by simp)
          have hs4 := hG4.size
          have hkb : k ∉ [w.heap.size + 1] := by have := hT4.lt; simp; omega
          have HF : Hid (_ ∧ _ ∧ _) := ⟨(Fr.box2 w5 (w.heap.size + 1) (.int .i64 (n : Int)) (.slice (some ⟨k, 0, none⟩) C C)).keep hrow hkb, hR5.keep (Fr.box2 w5 (w.heap.size + 1) (.int .i64 (n : Int)) (.slice (some ⟨k, 0, none⟩) C C)) hgg hrg, hG5.set2g (b := w.heap.size + 1) (by omega) (.int .i64 (n : Int)) (.slice (some ⟨k, 0, none⟩) C C)⟩
          clear hT4 hT5 hG4 hG5 hR4 hR5 hF5 hrow hC
          go_wp2
          refine bodyPost_ret (v := .tuple #[.agg #[.int .i64 (n : Int), .slice (some ⟨k, 0, none⟩) C C], .int .i64 0]) (by rw [results_cell_tmp rfl]; go_simp) rfl ⟨k, C, rfl, by omega, HCC.out, HF.out.1, ao2, cap2, HF.out.2⟩
      · refine Or.inl ⟨4, by rw [HDEC2.out]; unfold recC; rw [if_neg hcrc], ?_⟩
        show Calls _ _ _ _ _
        obtain ⟨m, hm⟩ : ∃ m, crcN (strNs s) = m := ⟨_, rfl⟩
        have HC : Hid (crcN (strNs s) = m) := hm
        have hml : m < 4294967296 := by rw [← hm]; exact crcN_lt _
        have hne : ((m : Int) != cr) = true := by rw [bne_iff_ne]; intro hh; exact hcrc (by rw [hm]; omega)
        clear hcrc HDEC2 hm
        go_enter Tryz.func140, Tryz.ntmps140
        go_wp2_with fail
        rw [HW0.out]
        refine hE.calls.mono ?_
        rintro e w1 ⟨rfl, ao1, cap1, hR1, hF1⟩
        have hT1 := hT0.keepS hF1 hgt
        have hP1 := hP0.keep hF1 hgb
        have cb1 := hP1.c
        have hG : Fr [g] w w1 := (hF0.mono (by simp)).then hF1
        clear hE hF1 hT0 hP0 hR0 hF0 cb0
        go_wp2_with fail
        rcases ltakeU_any g r ys ao1 cap1 w1 hR1 w.heap.size cb1 with ⟨c2, hc2, h3, hE2⟩ | ⟨cr2, zs2, h3, hl2, hE2⟩
        · exfalso
          have := H2.out
          rw [h3] at this
          cases this
        obtain ⟨rfl, rfl⟩ : cr2 = cr ∧ zs2 = zs := by have := H2.out; rw [h3] at this; cases this; exact ⟨rfl, rfl⟩
        refine hE2.calls.mono ?_
        rintro e w2 ⟨rfl, ao2, cap2, hR2, hF2⟩
        have hT2 := hT1.keepS hF2 hgt
        have hG2 := hG.then hF2
        clear hT1 hP1 cb1 hG hR1 hF2 hE2 h3 H2
        obtain ⟨ccap, w3, hconv, hA3, hF3⟩ := conv_bytes s w2 (by omega)
        have hT3 := hT2.keepS hF3 (by simp)
        have hG3 := hG2.then (hF3.mono (by simp))
        have hR3 := hR2.keep hF3 (by simp) (by simp)
        clear hT2 hG2 hR2 hF3
        go_wp2_with fail
        refine (crc_any m _ _ ccap (strNs s) _ hA3 HC.out).mono ?_
        rintro e w4 ⟨rfl, hF4⟩
        have hT4 := hT3.keepS hF4 (by simp)
        have hG4 := hG3.then (hF4.mono (by simp))
        have hR4 := hR3.keep hF4 (by simp) (by simp)
        have hA4 := hA3.keep hF4
        clear hT3 hG3 hR3 hF4 hA3
        have hT4' := hT4
        obtain ⟨x0, x1, y0, y1⟩ : _ ∧ _ ∧ _ ∧ _ := ⟨hT4.c0, hT4.c1, hT4.f0, hT4.f1⟩
        have HF : Hid (_ ∧ _) := ⟨hR4.keep (Fr.box2 w4 (w.heap.size + 1) (.int .i64 0) (.slice none 0 0)) hgg hrg, hG4.set2g (b := w.heap.size + 1) (by omega) (.int .i64 0) (.slice none 0 0)⟩
        clear hT4 hT4' hG4 hR4
        go_wp2
        refine bodyPost_ret (v := .tuple #[.agg #[.int .i64 0, .slice none 0 0], .int .i64 4]) (by rw [results_cell_tmp rfl]; go_simp) rfl ⟨rfl, zs2, 0, ao2, cap2, HF.out.1, by omega, HF.out.2⟩
end Go.Proofs.YtaefninikmaiiaaGreatDoor

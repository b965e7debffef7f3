/- The walk of the law FeedPlays. Conditions: what the law's frame hands on. -/
import Derived.Test.YtibgdfjfhjckoaaMd16
import Derived.Test.YtibgdfjfhjckoaaNo16
namespace Go.Proofs.Ytibgdfjfhjckoaa
open Go.ChangeShapes Go.WideShapes Go.ChangeAt Go.RowKit Go.Lib Go.Maps
set_option linter.unusedVariables false
set_option linter.unusedSimpArgs false

/-- What made leaves, by one word. -/
theorem Made.asks {w : World} {L : Nat} {X : List Tx} {mark : Int} {bs : List Int} {win : Int} {e : Ending} {w' : World} (h : Made w L X mark bs win e w') : Fr [] w w' ∧ ∃ (pf px ps : Value) (I : Nat → World → Prop), e = .returned (.tuple #[pf, px, ps, .bool true]) ∧ Hid (Asks pf px w.heap.size I) ∧ Hid (I 0 w') := by
  obtain ⟨hF, h⟩ := h
  refine ⟨hF, ?_⟩
  rcases h with ⟨ps, he⟩ | ⟨_, _, f, x, g, he, w0, w1, lb, ts, mb, hw, yg, lo, lc, us, v', yo, M, yc, hn, hw', hT⟩
  · exact ⟨_, _, ps, fun _ w => NoF (.pointer none) w, he, asks_none _ _, Or.inl rfl⟩
  · exact ⟨_, _, _, Both w.heap.size f x L bs X, he, asks_both _ _ _ _ _ _, w0, w1, g, lb, ts, _, _, mb, _, hw, yg, lo, lc, us, v', _, yo, M, yc, hn, hw', hT⟩
set_option maxHeartbeats 16000000 in
set_option maxRecDepth 100000 in
theorem plays16_walk (ao : Option Addr) (L cap : Nat) (ts : List Tm) (mark win : Int) (bo : Option Addr) (M bc : Nat) (bs : List Int) (qo : Option Addr) (Q qc : Nat) (os : List (Nat × Int)) (w : World) (hT : TRs w ao ts) (hL : L = ts.length) (hR : IRs w bo bs) (hM : M = bs.length) (hi : ∀ x ∈ bs, i64 x) (hm : i64 mark) (hO : OArg w qo Q qc os) :
    Calls Try.prog 3 #[.slice ao L cap, .agg #[.int .i64 mark, .slice bo M bc, .int .i64 win], .slice qo Q qc] w fun e w' => e = .returned (.bool true) ∧ Fr [] w w' := by
  obtain ⟨w0, HW0⟩ : ∃ w0, Hid (w.alloc (.cells #[.int .i64 mark, .slice bo M bc, .int .i64 win] 25) = w0) := ⟨_, rfl⟩
  obtain ⟨A, HA⟩ : ∃ A, Hid (w.heap.size = A) := ⟨_, rfl⟩
  have hF0 : Fr [] w w0 := by rw [← HW0.out]; exact Fr.alloc _ _ _
  have hab : w0.heap[A]? = some (.cells #[.int .i64 mark, .slice bo M bc, .int .i64 win] 25 (0, 0)) := by rw [← HW0.out, ← HA.out]; exact heap_alloc_new _ _
  have a0 : w0.cell? ⟨A, 0, none⟩ = some (.int .i64 mark) := by rw [cell_of_row _ _ _ _ _ _ hab]; rfl
  have a1 : w0.cell? ⟨A, 1, none⟩ = some (.slice bo M bc) := by rw [cell_of_row _ _ _ _ _ _ hab]; rfl
  have a2 : w0.cell? ⟨A, 2, none⟩ = some (.int .i64 win) := by rw [cell_of_row _ _ _ _ _ _ hab]; rfl
  have HMd : Hid (Calls _ _ _ _ _) := made16_any ao L cap ts mark win bo M bc bs w0 (hT.keep hF0) hL (hR.keep hF0) hM hi hm
  have HO : Hid (OArg w qo Q qc os) := hO
  have HF0 : Hid (Fr [] w w0) := hF0
  have hmost := hO.most
  clear hO hF0 hab hT hL hR hM hi hm
  go_enter Try.func3, Try.ntmps3
  go_upto_region 1 with fail
  rw [HW0.out, HA.out]
  clear HW0 HA
  go_wp2_with fail
  refine Calls.mono HMd.out ?_
  rintro e w1 hmade
  obtain ⟨hF1, pf, px, ps, I, rfl, HAs, HI⟩ := hmade.asks
  have HF1 : Hid (Fr [] w0 w1) := hF1
  clear hmade hF1 a0 a1 a2 HMd
  go_wp2_with fail
  go_loopw [11] (fun ii wr => ∃ i : Nat, ii = .int .i64 i ∧ i ≤ 400 ∧ Hid (∃ m, m ≤ i ∧ I m wr) ∧ Hid (Fr [] w0 wr)) (fun ii _ => 400 - (RowKit.intOf ii).toNat)
  case atStart => exact ⟨0, rfl, Nat.zero_le _, ⟨0, Nat.le_refl _, HI.out⟩, HF1⟩
  case round =>
    obtain ⟨i, rfl, hi4, HIm, HF⟩ := hrel
    by_cases hil : i < Q
    · have hdl : decide ((i : Int) < (Q : Int)) = true := by simpa using hil
      by_cases hi : i < 400
      · obtain ⟨bb, off, e, _, hc⟩ := (HO.out.keepO (HF0.out.then HF.out)).lies (by omega)
        subst e
        obtain ⟨d0, d1⟩ := hc i hil
        have hk := (HO.out.each (os.getD i (0, 0)) (by
          have := HO.out.len
          have hi' : i < os.length := by omega
          simp [List.getD, hi'])).1
        obtain ⟨k, hkk⟩ : ∃ k, k = (os.getD i (0, 0)).1 := ⟨_, rfl⟩
        obtain ⟨x, hxx⟩ : ∃ x, x = (os.getD i (0, 0)).2 := ⟨_, rfl⟩
        rw [← hkk] at d0 hk
        rw [← hxx] at d1
        clear hkk hxx hc
        obtain ⟨m, hm, hIm⟩ := HIm.out
        have HC1 : Hid (Calls _ _ _ _ _) := asks16_any HAs.out m (by omega) wr hIm k hk x
        go_wp2_with fail
        refine Calls.mono HC1.out ?_
        rintro e w2 ⟨rfl, hf2, n2, hn2, hI2⟩
        have HF2 : Hid (Fr [] w0 w2) := hf2.fr HF.out
        have HI2 : Hid (∃ m, m ≤ i + 1 ∧ I m w2) := ⟨n2, by omega, hI2⟩
        have HC2 : Hid (Calls _ _ _ _ _) := HAs.out.held n2 w2 hI2
        have HC3 : Hid (Calls _ _ _ _ _) := HAs.out.fed n2 w2 hI2
        clear hf2 hI2 HC1 hIm
        go_wp2_with fail
        refine Calls.mono HC2.out ?_
        rintro e w3 ⟨c, rfl, rfl, HC4⟩
        go_wp2_with fail
        refine Calls.mono HC4.out ?_
        rintro e w3 ⟨rfl, rfl⟩
        have hcc : (c != c) = false := by simp
        go_wp2_with fail
        refine Calls.mono HC3.out ?_
        rintro e w3 ⟨c', rfl, rfl, HC5⟩
        go_wp2_with fail
        refine Calls.mono HC5.out ?_
        rintro e w3 ⟨rfl, rfl⟩
        have hcc' : (c' != c') = false := by simp
        go_wp2
        go_roundw
        case rel => exact ⟨i + 1, by simp, by omega, HI2, HF2⟩
        case measure => simp [RowKit.intOf]; omega
      · have hi5 : i = 400 := by omega
        have hd5 : decide ((i : Int) < 400) = false := by simp; omega
        have HLv : Hid (Calls _ _ _ _ _) := lives16_any wr
        go_wp2_with fail
        refine Calls.mono HLv.out ?_
        rintro e w2 ⟨rfl, hF2⟩
        go_wp2
        go_ret
        exact ⟨rfl, HF0.out.then (HF.out.then hF2)⟩
    · have hdl : decide ((i : Int) < (Q : Int)) = false := by simpa using hil
      have HLv : Hid (Calls _ _ _ _ _) := lives16_any wr
      go_wp2_with fail
      refine Calls.mono HLv.out ?_
      rintro e w2 ⟨rfl, hF2⟩
      go_wp2
      go_ret
      exact ⟨rfl, HF0.out.then (HF.out.then hF2)⟩
end Go.Proofs.Ytibgdfjfhjckoaa

/- What the statements' asks answers, of both sides by one word. Conditions as each names them. -/
import Derived.Test.YtibgdfjfhjckoaaFx16
import Derived.Deep.RegionHeld3
namespace Go.Proofs.Ytibgdfjfhjckoaa
open Go.ChangeShapes Go.WideShapes Go.ChangeAt Go.RowKit Go.Lib Go.Maps
set_option linter.unusedVariables false
set_option linter.unusedSimpArgs false

set_option maxHeartbeats 8000000 in
set_option maxRecDepth 100000 in
theorem asks16_any {p q : Value} {b : Nat} {I : Nat → World → Prop} (h : Asks p q b I) (n : Nat) (hn : n < 1000000) (w : World) (hI : I n w) (k : Nat) (hk : k ≤ 255) (x : Int) :
    Calls Try.prog 8 #[p, q, .agg #[.int .u8 (k : Int), .int .i64 x]] w fun e w' => e = .returned (.bool true) ∧ FrO b w w' ∧ ∃ m, m ≤ n + 1 ∧ I m w' := by
  have HH : Hid (Asks p q b I) := h
  obtain ⟨w0, HW0⟩ : ∃ w0, Hid (w.alloc (.cells #[.int .u8 (k : Int), .int .i64 x] 35) = w0) := ⟨_, rfl⟩
  obtain ⟨B, HB⟩ : ∃ B, Hid (w.heap.size = B) := ⟨_, rfl⟩
  have hF0 : Fr [] w w0 := by rw [← HW0.out]; exact Fr.alloc _ _ _
  have hb0 : w0.heap[B]? = some (.cells #[.int .u8 (k : Int), .int .i64 x] 35 (0, 0)) := by rw [← HW0.out, ← HB.out]; exact heap_alloc_new _ _
  have HI0 : Hid (I n w0) := h.keep _ _ _ hI hF0
  have HK : Hid (∀ W, FrO b w0 W → W.heap[B]? = some (.cells #[.int .u8 (k : Int), .int .i64 x] 35 (0, 0))) := fun W hf => hf.keep hb0 (by decide) (by decide) (by decide) (by decide) (by decide)
  have HC : Hid (∀ W, FrO b w0 W → W.cell? ⟨B, 0, none⟩ = some (.int .u8 (k : Int)) ∧ W.cell? ⟨B, 1, none⟩ = some (.int .i64 x)) := fun W hf => by
    have := HK.out W hf
    exact ⟨by rw [cell_of_row _ _ _ _ _ _ this]; rfl, by rw [cell_of_row _ _ _ _ _ _ this]; rfl⟩
  have HF0 : Hid (Fr [] w w0) := hF0
  obtain ⟨c0, c1⟩ := HC.out w0 (FrO.refl _ _)
  clear hI hF0 hb0 h
  go_enter Try.func8, Try.ntmps8
  go_upto_region 1 with fail
  rw [HW0.out, HB.out]
  clear HW0 HB
  by_cases k0 : k = 0
  · subst k0
    have HM : Hid (Calls Try.prog 15 #[p, .int .i64 x] w0.drew fun e w1 => ∃ c : Int, e = .returned (.int .i64 c) ∧ Hid (FrO b w0 w1) ∧ w1.cell? ⟨B, 1, none⟩ = some (.int .i64 x) ∧ Hid (Calls Try.prog 29 #[q, .int .i64 x] w1 fun e2 w2 => e2 = .returned (.int .i64 c) ∧ Hid (FrO b w0 w2) ∧ w2.cell? ⟨B, 1, none⟩ = some (.int .i64 x) ∧ Hid (I n w2))) := by
      refine Calls.mono (HH.out.more n w0.drew x (HH.out.keep _ _ _ HI0.out (Fr.drew _ _))) ?_
      rintro e w1 ⟨c, he, hF1, HN⟩
      have hG1 : FrO b w0 w1 := (FrO.of (Fr.drew _ _)).then hF1
      refine ⟨c, he, hG1, (HC.out _ hG1).2, Calls.mono (HN.out _ (Fr.refl _ _)) ?_⟩
      rintro e w2 ⟨he2, hF2, HI2⟩
      exact ⟨he2, hG1.then hF2, (HC.out _ (hG1.then hF2)).2, HI2⟩
    go_wp2_with fail
    go_region_held3 (fun W => W.cell? ⟨B, 1, none⟩ = some (.int .i64 x)) (go_keep)
      (first
        | (go_at_call 29; with_reducible refine Calls.mono HN.out ?_; rintro e w2 ⟨rfl, HF2, d2, HI2⟩)
        | (go_at_call 15; with_reducible refine Calls.mono HM.out ?_; rintro e w1 ⟨c, rfl, HF1, d1, HN⟩))
    go_wp2
    go_ret
    exact ⟨by simp, (FrO.of HF0.out).then HF2.out, n, by omega, HI2.out⟩
  by_cases k1 : k = 1
  · subst k1
    have HM : Hid (Calls Try.prog 16 #[p, .int .i64 x] w0.drew fun e w1 => ∃ c : Int, e = .returned (.int .u8 c) ∧ Hid (FrO b w0 w1) ∧ w1.cell? ⟨B, 1, none⟩ = some (.int .i64 x) ∧ Hid (Calls Try.prog 30 #[q, .int .i64 x] w1 fun e2 w2 => e2 = .returned (.int .u8 c) ∧ Hid (FrO b w0 w2) ∧ w2.cell? ⟨B, 1, none⟩ = some (.int .i64 x) ∧ Hid (I n w2))) := by
      refine Calls.mono (HH.out.can n w0.drew x (HH.out.keep _ _ _ HI0.out (Fr.drew _ _))) ?_
      rintro e w1 ⟨c, he, hF1, HN⟩
      have hG1 : FrO b w0 w1 := (FrO.of (Fr.drew _ _)).then hF1
      refine ⟨c, he, hG1, (HC.out _ hG1).2, Calls.mono (HN.out _ (Fr.refl _ _)) ?_⟩
      rintro e w2 ⟨he2, hF2, HI2⟩
      exact ⟨he2, hG1.then hF2, (HC.out _ (hG1.then hF2)).2, HI2⟩
    go_wp2_with fail
    go_region_held3 (fun W => W.cell? ⟨B, 1, none⟩ = some (.int .i64 x)) (go_keep)
      (first
        | (go_at_call 30; with_reducible refine Calls.mono HN.out ?_; rintro e w2 ⟨rfl, HF2, d2, HI2⟩)
        | (go_at_call 16; with_reducible refine Calls.mono HM.out ?_; rintro e w1 ⟨c, rfl, HF1, d1, HN⟩))
    go_wp2
    go_ret
    exact ⟨by simp, (FrO.of HF0.out).then HF2.out, n, by omega, HI2.out⟩
  by_cases k2 : k = 2
  · subst k2
    have HM := (show Hid _ from HH.out.read n w0 HI0.out hn)
    go_wp2_with fail
    refine Calls.mono HM.out ?_
    rintro e w1 ⟨m, c, rfl, hF1, HN⟩
    have HF1 : Hid (FrO b w0 w1) := hF1
    clear hF1
    go_wp2_with fail
    refine Calls.mono (HN.out _ (Fr.refl _ _)) ?_
    rintro e w2 ⟨rfl, hF2, HI2⟩
    have HF2 : Hid (FrO b w0 w2) := HF1.out.then hF2
    have hm : (m == m) = true := by simp
    have hc : (c == c) = true := by simp
    clear hF2
    go_wp2
    go_ret
    exact ⟨rfl, (FrO.of HF0.out).then HF2.out, n + 1, by omega, HI2.out⟩
  by_cases k3 : k = 3
  · subst k3
    have HM := (show Hid _ from HH.out.skip n w0 HI0.out)
    go_wp2_with fail
    refine Calls.mono HM.out ?_
    rintro e w1 ⟨m, c, rfl, hF1, HN⟩
    have HF1 : Hid (FrO b w0 w1) := hF1
    clear hF1
    go_wp2_with fail
    refine Calls.mono (HN.out _ (Fr.refl _ _)) ?_
    rintro e w2 ⟨rfl, hF2, HI2⟩
    have HF2 : Hid (FrO b w0 w2) := HF1.out.then hF2
    have hm : (m == m) = true := by simp
    have hc : (c == c) = true := by simp
    clear hF2
    go_wp2
    go_ret
    exact ⟨rfl, (FrO.of HF0.out).then HF2.out, n, by omega, HI2.out⟩
  by_cases k4 : k = 4
  · subst k4
    have HM := (show Hid _ from HH.out.dis n w0 x HI0.out)
    go_wp2_with fail
    refine Calls.mono HM.out ?_
    rintro e w1 ⟨m, c, o, L, cap, ws, rfl, hF1, HL, HN⟩
    obtain ⟨W1, HW1⟩ : ∃ W1, Hid (w1.alloc (.cells #[.int .i64 m, .slice o L cap] 42) = W1) := ⟨_, rfl⟩
    obtain ⟨B1, HB1⟩ : ∃ B1, Hid (w1.heap.size = B1) := ⟨_, rfl⟩
    have hFa : Fr [] w1 W1 := by rw [← HW1.out]; exact Fr.alloc _ _ _
    have hb1 : W1.heap[B1]? = some (.cells #[.int .i64 m, .slice o L cap] 42 (0, 0)) := by rw [← HW1.out, ← HB1.out]; exact heap_alloc_new _ _
    have HF1 : Hid (FrO b w0 W1) := hF1.then (.of hFa)
    have HR1 : Hid (W1.heap[B1]? = some (.cells #[.int .i64 m, .slice o L cap] 42 (0, 0))) := hb1
    have HM2 := (show Hid _ from HN.out W1 hFa)
    obtain ⟨_, d1⟩ := HC.out _ HF1.out
    clear hFa hb1 hF1 HN
    go_upto_region 16 with fail
    rw [HW1.out, HB1.out]
    clear HW1 HB1
    go_wp2_with fail
    refine Calls.mono HM2.out ?_
    rintro e w2 ⟨o2, cap2, rfl, hF2, HR2, HI2⟩
    obtain ⟨W2, HW2⟩ : ∃ W2, Hid (w2.alloc (.cells #[.int .i64 m, .slice o2 L cap2] 42) = W2) := ⟨_, rfl⟩
    obtain ⟨B2, HB2⟩ : ∃ B2, Hid (w2.heap.size = B2) := ⟨_, rfl⟩
    have hFa : Fr [] w2 W2 := by rw [← HW2.out]; exact Fr.alloc _ _ _
    have hb2 : W2.heap[B2]? = some (.cells #[.int .i64 m, .slice o2 L cap2] 42 (0, 0)) := by rw [← HW2.out, ← HB2.out]; exact heap_alloc_new _ _
    have hb1 : W2.heap[B1]? = some (.cells #[.int .i64 m, .slice o L cap] 42 (0, 0)) := hFa.keep (hF2.keep HR1.out (by decide) (by decide) (by decide) (by decide) (by decide)) (by simp)
    have HF2 : Hid (FrO b w0 W2) := HF1.out.then (hF2.then (.of hFa))
    have HI3 : Hid (I n W2) := HH.out.keep _ _ _ HI2.out hFa
    have x0 : W2.cell? ⟨B1, 0, none⟩ = some (.int .i64 m) := by rw [cell_of_row _ _ _ _ _ _ hb1]; rfl
    have x1 : W2.cell? ⟨B1, 1, none⟩ = some (.slice o L cap) := by rw [cell_of_row _ _ _ _ _ _ hb1]; rfl
    have y0 : W2.cell? ⟨B2, 0, none⟩ = some (.int .i64 m) := by rw [cell_of_row _ _ _ _ _ _ hb2]; rfl
    have y1 : W2.cell? ⟨B2, 1, none⟩ = some (.slice o2 L cap2) := by rw [cell_of_row _ _ _ _ _ _ hb2]; rfl
    have HS : Hid (Calls _ _ _ _ _) := sameTxn_any m m o o2 L L cap cap2 true ws ws W2 (HR2.out.1.keep hFa) (HR2.out.2.keep hFa) HL.out HL.out (by simp)
    have hc : (c == c) = true := by simp
    clear hFa hb1 hb2 hF2
    go_upto_region 17 with fail
    rw [HW2.out, HB2.out]
    clear HW2 HB2
    go_wp2_with fail
    refine Calls.mono HS.out ?_
    rintro e w3 ⟨rfl, hF3⟩
    have HI4 : Hid (I n w3) := HH.out.keep _ _ _ HI3.out hF3
    have HF3 : Hid (FrO b w0 w3) := HF2.out.then (.of hF3)
    clear hF3
    go_wp2
    go_ret
    exact ⟨rfl, (FrO.of HF0.out).then HF3.out, n, by omega, HI4.out⟩
  · have e0 : ((k : Int) == 0) = false := by rw [beq_eq_false_iff_ne]; omega
    have e1 : ((k : Int) == 1) = false := by rw [beq_eq_false_iff_ne]; omega
    have e2 : ((k : Int) == 2) = false := by rw [beq_eq_false_iff_ne]; omega
    have e3 : ((k : Int) == 3) = false := by rw [beq_eq_false_iff_ne]; omega
    have e4 : ((k : Int) == 4) = false := by rw [beq_eq_false_iff_ne]; omega
    have HM := (show Hid _ from HH.out.close n w0 HI0.out)
    go_wp2_with fail
    refine Calls.mono HM.out ?_
    rintro e w1 ⟨⟨u, rfl⟩, hF1, HN⟩
    have HF1 : Hid (FrO b w0 w1) := hF1
    clear hF1
    go_wp2_with fail
    refine Calls.mono (HN.out _ (Fr.refl _ _)) ?_
    rintro e w2 ⟨⟨u2, rfl⟩, hF2, HI2⟩
    have HF2 : Hid (FrO b w0 w2) := HF1.out.then hF2
    clear hF2
    go_wp2
    go_ret
    exact ⟨rfl, (FrO.of HF0.out).then HF2.out, n, by omega, HI2.out⟩
end Go.Proofs.Ytibgdfjfhjckoaa

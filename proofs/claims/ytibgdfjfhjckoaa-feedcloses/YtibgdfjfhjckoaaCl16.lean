/- The walk of the law FeedCloses. Conditions: what the law's frame hands on. -/
import Derived.Test.YtibgdfjfhjckoaaOn16
namespace Go.Proofs.Ytibgdfjfhjckoaa
open Go.ChangeShapes Go.WideShapes Go.ChangeAt Go.RowKit Go.Lib Go.Maps
set_option linter.unusedVariables false
set_option linter.unusedSimpArgs false

set_option maxHeartbeats 16000000 in
set_option maxRecDepth 100000 in
theorem closes16_walk (ao : Option Addr) (L cap : Nat) (ts : List Tm) (mark win : Int) (bo : Option Addr) (M bc : Nat) (bs : List Int) (w : World) (hT : TRs w ao ts) (hL : L = ts.length) (hR : IRs w bo bs) (hM : M = bs.length) (hi : ∀ x ∈ bs, i64 x) (hm : i64 mark) :
    Calls Try.prog 6 #[.slice ao L cap, .agg #[.int .i64 mark, .slice bo M bc, .int .i64 win]] w fun e w' => e = .returned (.bool true) ∧ Fr [] w w' := by
  obtain ⟨w0, HW0⟩ : ∃ w0, Hid (w.alloc (.cells #[.int .i64 mark, .slice bo M bc, .int .i64 win] 25) = w0) := ⟨_, rfl⟩
  obtain ⟨A, HA⟩ : ∃ A, Hid (w.heap.size = A) := ⟨_, rfl⟩
  have hF0 : Fr [] w w0 := by rw [← HW0.out]; exact Fr.alloc _ _ _
  have hab : w0.heap[A]? = some (.cells #[.int .i64 mark, .slice bo M bc, .int .i64 win] 25 (0, 0)) := by rw [← HW0.out, ← HA.out]; exact heap_alloc_new _ _
  have HAb : Hid (w0.heap[A]? = some (.cells #[.int .i64 mark, .slice bo M bc, .int .i64 win] 25 (0, 0))) := hab
  have a0 : w0.cell? ⟨A, 0, none⟩ = some (.int .i64 mark) := by rw [cell_of_row _ _ _ _ _ _ hab]; rfl
  have a1 : w0.cell? ⟨A, 1, none⟩ = some (.slice bo M bc) := by rw [cell_of_row _ _ _ _ _ _ hab]; rfl
  have a2 : w0.cell? ⟨A, 2, none⟩ = some (.int .i64 win) := by rw [cell_of_row _ _ _ _ _ _ hab]; rfl
  have HMd : Hid (Calls _ _ _ _ _) := made16_any ao L cap ts mark win bo M bc bs w0 (hT.keep hF0) hL (hR.keep hF0) hM hi hm
  have HF0 : Hid (Fr [] w w0) := hF0
  clear hF0 hab hT hL hR hM hi hm
  go_enter Try.func6, Try.ntmps6
  go_upto_region 1 with fail
  rw [HW0.out, HA.out]
  clear HW0 HA
  go_wp2_with fail
  refine Calls.mono HMd.out ?_
  rintro e w1 hmade
  obtain ⟨hF1, hone⟩ := hmade.one
  have HF1 : Hid (Fr [] w0 w1) := hF1
  clear hmade hF1 a0 a1 a2 HMd
  rcases hone with ⟨ps, rfl⟩ | ⟨hnew, hok, f, x, g, rfl, hO⟩
  · have HLv : Hid (Calls _ _ _ _ _) := lives16_any w1
    go_wp2_with fail
    refine Calls.mono HLv.out ?_
    rintro e w2 ⟨rfl, hF2⟩
    go_wp2
    go_ret
    exact ⟨rfl, HF0.out.then (HF1.out.then hF2)⟩
  · obtain ⟨p1, p2, p3, p4, p5⟩ := newC_ok hnew
    obtain ⟨m, rfl⟩ : ∃ m : Nat, mark = m := ⟨mark.toNat, by omega⟩
    obtain ⟨q, rfl⟩ : ∃ q : Nat, win = q := ⟨win.toNat, by omega⟩
    simp only [Int.toNat_natCast] at hO
    obtain ⟨n1, n2, n3, n4, n5⟩ := hO.nums
    simp only at n1 n2 n3 n4 n5
    obtain ⟨b, hb⟩ : ∃ b, b = w0.heap.size := ⟨_, rfl⟩
    rw [← hb] at hO
    have HO1 : Hid (One b f g L bs (txs ts) ⟨m, m, q, false, false⟩ [] w1) := hO
    have HEnd : Hid (∀ W, FrO b w1 W → Fr [] w0 W) := fun W hf => by rw [hb] at hf; exact hf.fr HF1.out
    have HAc : Hid (∀ W, FrO b w1 W → W.cell? ⟨A, 0, none⟩ = some (.int .i64 (m : Int))) := fun W hf => by
      have := hf.keep (HF1.out.keep HAb.out (by simp)) (by decide) (by decide) (by decide) (by decide) (by decide)
      rw [cell_of_row _ _ _ _ _ _ this]; rfl
    have HNb : Hid (¬ ((m + 1 : Nat) : Int) ∈ bs) := fun hx => by have := (p2.gr.2 _ hx).1; omega
    clear hO hnew hok p1 p2 p5 hb
    have HC : Hid (Calls _ _ _ _ _) := one_more HO1.out (L : Int)
    go_wp2_with fail
    refine Calls.mono HC.out ?_
    rintro e w2 ⟨rfl, HO2, HG2⟩
    have hs2 : Fe.moreS ⟨m, m, q, false, false⟩ L (L : Int) = ⟨m, L, q, false, false⟩ := by
      have : Fe.moreC ⟨m, m, q, false, false⟩ L (L : Int) = 0 := by simp [Fe.moreC]; omega
      simp [Fe.moreS, this]
    rw [hs2] at HO2
    clear HC hs2 HO1
    by_cases hmL : m < L
    · have HC : Hid (Calls _ _ _ _ _) := one_read HO2.out (by simp)
      go_wp2_with fail
      refine Calls.mono HC.out ?_
      rintro e w3 ⟨rfl, HO3, HG3⟩
      have hc3 : Fe.readC ⟨m, L, q, false, false⟩ = 0 := by simp [Fe.readC]; omega
      have hn3 : Fe.readN ⟨m, L, q, false, false⟩ = m + 1 := by simp [Fe.readN, hc3]
      rw [show Fe.readS ⟨m, L, q, false, false⟩ = ⟨m + 1, L, q, true, false⟩ from by simp [Fe.readS, hc3], show Fe.readQ ⟨m, L, q, false, false⟩ [] = [m + 1] from by simp [Fe.readQ, hc3]] at HO3
      rw [hc3, hn3]
      have HG3' : Hid (FrO b w1 w3) := HG2.out.then HG3.out
      clear HC hc3 hn3 HO2 HG2 HG3
      have HC : Hid (Calls _ _ _ _ _) := one_close HO3.out
      go_wp2_with fail
      refine Calls.mono HC.out ?_
      rintro e w4 ⟨⟨u4, rfl⟩, HO4, HG4⟩
      have HO4' : Hid (One b f g L bs (txs ts) ⟨m + 1, L, q, true, true⟩ [m + 1] w4) := HO4.out
      have HG4' : Hid (FrO b w1 w4) := HG3'.out.then HG4.out
      clear HC HO3 HO4 HG4 HG3'
      have HC : Hid (Calls _ _ _ _ _) := one_asked HO4'.out (by simp) 1 rfl
      go_wp2_with fail
      refine Calls.mono HC.out ?_
      rintro e w5 ⟨bo5, rfl, HIs5, HF5⟩
      have HO5 : Hid (One b f g L bs (txs ts) ⟨m + 1, L, q, true, true⟩ [m + 1] w5) := HO4'.out.keep HF5.out
      have HG5 : Hid (FrO b w1 w5) := HG4'.out.then (.of HF5.out)
      clear HC HO4' HG4' HF5 HIs5
      have HC : Hid (Calls _ _ _ _ _) := one_read HO5.out (by simp)
      go_wp2_with fail
      refine Calls.mono HC.out ?_
      rintro e w6 ⟨rfl, HO6, HG6⟩
      have hc6 : Fe.readC ⟨m + 1, L, q, true, true⟩ = 10 := by simp [Fe.readC]
      have hn6 : Fe.readN ⟨m + 1, L, q, true, true⟩ = 0 := by simp [Fe.readN, hc6]
      rw [show Fe.readS ⟨m + 1, L, q, true, true⟩ = ⟨m + 1, L, q, true, true⟩ from by simp [Fe.readS, hc6], show Fe.readQ ⟨m + 1, L, q, true, true⟩ [m + 1] = [m + 1] from by simp [Fe.readQ, hc6]] at HO6
      rw [hc6, hn6]
      have HG6' : Hid (FrO b w1 w6) := HG5.out.then HG6.out
      clear HC hc6 hn6 HO5 HG5 HG6
      have HH : ∀ y : Wd16 w6, Calls Try.prog 9 #[.pointer (some ⟨f, 0, none⟩)] y.W fun e w' => e = .returned (.int .i64 ((m : Int) + 1)) ∧ Fr [] y.W w' := fun y => by
        refine Calls.mono (one_held (HO6.out.keep y.h)) ?_
        rintro e w' ⟨he, rfl⟩
        exact ⟨by rw [he]; simp [Fe.num], Fr.refl _ _⟩
      have HCn : ∀ y : Wd16 w6, Calls Try.prog 16 #[.pointer (some ⟨f, 0, none⟩), .int .i64 (L : Int)] y.W fun e w' => e = .returned (.int .u8 3) ∧ Fr [] y.W w' := fun y => by
        refine Calls.mono (one_can (HO6.out.keep y.h) (L : Int)) ?_
        rintro e w' ⟨he, hf⟩
        have hc : Fe.can ⟨m + 1, L, q, true, true⟩ bs (L : Int) = 3 := by
          have hn : Fe.near ⟨m + 1, L, q, true, true⟩ (L : Int) = true := by simp only [Fe.near, decide_eq_true_iff]; omega
          simp only [Fe.can, Bool.true_eq_false, if_false, HNb.out, hn, if_true]
        exact ⟨by rw [he, hc]; rfl, hf.out⟩
      have f0 : ∀ y : Wd16 w6, y.W.cell? ⟨A, 0, none⟩ = some (.int .i64 (m : Int)) := fun y => HAc.out _ (HG6'.out.then (.of y.h))
      have hnn : (((m : Int) + 1) != ((m : Int) + 1)) = false := by simp
      have hwr : IntKind.i64.wrap ((m : Int) + 1) = (m : Int) + 1 := by rw [IntKind.wrap_i64]; omega
      go_wp2_with fail
      refine wp_region_wd16 (w1 := w6) (by kernel_rfl) (by kernel_rfl) (Fr.refl _ _) ?_
      repeat (go_big_quiet_step (first
        | (go_at_call 9; with_reducible refine (HH _).mono ?_; exact fun e w3 hh => ⟨hh.1, ⟨_, Fr.then (Wd16.h _) hh.2⟩, rfl⟩)
        | (go_at_call 16; with_reducible refine (HCn _).mono ?_; exact fun e w3 hh => ⟨hh.1, ⟨_, Fr.then (Wd16.h _) hh.2⟩, rfl⟩)))
      refine wpQuiet_nil ?_
      rintro _ ⟨z, rfl⟩
      clear f0 HH HCn
      obtain ⟨w7, hF7⟩ := z
      simp only
      have HO7 : Hid (One b f g L bs (txs ts) ⟨m + 1, L, q, true, true⟩ [m + 1] w7) := HO6.out.keep hF7
      have HG7 : Hid (FrO b w1 w7) := HG6'.out.then (.of hF7)
      clear hF7 HO6 HG6'
      have HC : Hid (Calls _ _ _ _ _) := one_dis HO7.out (L : Int) (by
        have hn : Fe.near ⟨m + 1, L, q, true, true⟩ (L : Int) = true := by simp only [Fe.near, decide_eq_true_iff]; omega
        simp [Fe.disC, HNb.out, hn]
        have := HNb.out
        simpa using this)
      go_wp2_with fail
      refine Calls.mono HC.out ?_
      rintro e w8 ⟨kk, nn, rfl, _, HO8, HG8⟩
      have HO8' : Hid (One b f g L bs (txs ts) ⟨m + 1, L, q, false, true⟩ [m + 1] w8) := HO8.out
      have HG8' : Hid (FrO b w1 w8) := HG7.out.then HG8.out
      clear HC HO7 HG7 HO8 HG8
      obtain ⟨w9, HW9⟩ : ∃ w9, Hid (w8.alloc (.cells #[.int .i64 ((m : Int) + 1), .slice (some ⟨kk, 0, none⟩) nn nn] 42) = w9) := ⟨_, rfl⟩
      obtain ⟨B, HB⟩ : ∃ B, Hid (w8.heap.size = B) := ⟨_, rfl⟩
      have hF9 : Fr [] w8 w9 := by rw [← HW9.out]; exact Fr.alloc _ _ _
      have hB9 : B2 w9 B (.int .i64 ((m : Int) + 1)) (.slice (some ⟨kk, 0, none⟩) nn nn) := ⟨by rw [← HW9.out, ← HB.out]; exact heap_alloc_new _ _⟩
      have HO9 : Hid (One b f g L bs (txs ts) ⟨m + 1, L, q, false, true⟩ [m + 1] w9) := HO8'.out.keep hF9
      have HG9 : Hid (FrO b w1 w9) := HG8'.out.then (.of hF9)
      have b0 := hB9.c0
      have a0 := HAc.out _ HG9.out
      have hmm : (((m + 1 : Nat) : Int) != ((m : Int) + 1)) = false := by simp
      clear hF9 hB9 HO8' HG8'
      go_upto_region 15 with fail
      rw [HW9.out, HB.out]
      clear HW9 HB
      have HC : Hid (Calls _ _ _ _ _) := one_read HO9.out (by simp)
      go_wp2_with fail
      refine Calls.mono HC.out ?_
      rintro e w10 ⟨rfl, HO10, HG10⟩
      have hc10 : Fe.readC ⟨m + 1, L, q, false, true⟩ = 12 := by simp [Fe.readC]
      have hn10 : Fe.readN ⟨m + 1, L, q, false, true⟩ = 0 := by simp [Fe.readN, hc10]
      rw [show Fe.readS ⟨m + 1, L, q, false, true⟩ = ⟨m + 1, L, q, false, true⟩ from by simp [Fe.readS, hc10], show Fe.readQ ⟨m + 1, L, q, false, true⟩ [m + 1] = [m + 1] from by simp [Fe.readQ, hc10]] at HO10
      rw [hc10, hn10]
      have HG10' : Hid (FrO b w1 w10) := HG9.out.then HG10.out
      clear HC hc10 hn10 HO9 HG9 HG10 b0 a0
      have HC : Hid (Calls _ _ _ _ _) := one_can HO10.out (L : Int)
      go_wp2_with fail
      refine Calls.mono HC.out ?_
      rintro e w11 ⟨rfl, HF11⟩
      rw [show Fe.can ⟨m + 1, L, q, false, true⟩ bs (L : Int) = 0 from by simp [Fe.can]]
      have HO11 : Hid (One b f g L bs (txs ts) ⟨m + 1, L, q, false, true⟩ [m + 1] w11) := HO10.out.keep HF11.out
      have HG11 : Hid (FrO b w1 w11) := HG10'.out.then (.of HF11.out)
      clear HC HO10 HG10' HF11
      have HC : Hid (Calls _ _ _ _ _) := one_asked HO11.out (by simp) 1 rfl
      go_wp2_with fail
      refine Calls.mono HC.out ?_
      rintro e w12 ⟨bo12, rfl, _, HF12⟩
      have HO12 : Hid (One b f g L bs (txs ts) ⟨m + 1, L, q, false, true⟩ [m + 1] w12) := HO11.out.keep HF12.out
      have HG12 : Hid (FrO b w1 w12) := HG11.out.then (.of HF12.out)
      clear HC HO11 HG11 HF12
      have HC : Hid (Calls _ _ _ _ _) := one_held HO12.out
      go_wp2_with fail
      refine Calls.mono HC.out ?_
      rintro e w13 ⟨rfl, rfl⟩
      rw [show Fe.num ⟨m + 1, L, q, false, true⟩ = 0 from by simp [Fe.num]]
      have HLv : Hid (Calls _ _ _ _ _) := lives16_any w12
      go_wp2_with fail
      refine Calls.mono HLv.out ?_
      rintro e w14 ⟨rfl, hF14⟩
      have HGz : Hid (Fr [] w0 w14) := HEnd.out _ (HG12.out.then (.of hF14))
      clear hF14 HC HLv
      go_wp2
      go_ret
      exact ⟨rfl, HF0.out.then HGz.out⟩
    · obtain rfl : m = L := by omega
      have HC : Hid (Calls _ _ _ _ _) := one_read HO2.out (by simp)
      go_wp2_with fail
      refine Calls.mono HC.out ?_
      rintro e w3 ⟨rfl, HO3, HG3⟩
      have hc3 : Fe.readC ⟨m, m, q, false, false⟩ = 9 := by simp [Fe.readC]
      have hn3 : Fe.readN ⟨m, m, q, false, false⟩ = 0 := by simp [Fe.readN, hc3]
      rw [show Fe.readS ⟨m, m, q, false, false⟩ = ⟨m, m, q, false, false⟩ from by simp [Fe.readS, hc3], show Fe.readQ ⟨m, m, q, false, false⟩ [] = [] from by simp [Fe.readQ, hc3]] at HO3
      rw [hc3, hn3]
      have HG3' : Hid (FrO b w1 w3) := HG2.out.then HG3.out
      clear HC hc3 hn3 HO2 HG2 HG3
      have HC : Hid (Calls _ _ _ _ _) := one_close HO3.out
      go_wp2_with fail
      refine Calls.mono HC.out ?_
      rintro e w4 ⟨⟨u4, rfl⟩, HO4, HG4⟩
      have HO4' : Hid (One b f g m bs (txs ts) ⟨m, m, q, false, true⟩ [] w4) := HO4.out
      have HG4' : Hid (FrO b w1 w4) := HG3'.out.then HG4.out
      clear HC HO3 HO4 HG4 HG3'
      have HC : Hid (Calls _ _ _ _ _) := one_asked HO4'.out (by simp) 0 rfl
      go_wp2_with fail
      refine Calls.mono HC.out ?_
      rintro e w5 ⟨bo5, rfl, HIs5, HF5⟩
      have HO5 : Hid (One b f g m bs (txs ts) ⟨m, m, q, false, true⟩ [] w5) := HO4'.out.keep HF5.out
      have HG5 : Hid (FrO b w1 w5) := HG4'.out.then (.of HF5.out)
      clear HC HO4' HG4' HF5 HIs5
      have hcr : Fe.readC ⟨m, m, q, false, true⟩ = 12 := by simp [Fe.readC]
      have hnr : Fe.readN ⟨m, m, q, false, true⟩ = 0 := by simp [Fe.readN, hcr]
      have HC : Hid (Calls _ _ _ _ _) := one_read HO5.out (by simp)
      go_wp2_with fail
      refine Calls.mono HC.out ?_
      rintro e w6 ⟨rfl, HO6, HG6⟩
      rw [show Fe.readS ⟨m, m, q, false, true⟩ = ⟨m, m, q, false, true⟩ from by simp [Fe.readS, hcr], show Fe.readQ ⟨m, m, q, false, true⟩ [] = [] from by simp [Fe.readQ, hcr]] at HO6
      rw [hcr, hnr]
      have HG6' : Hid (FrO b w1 w6) := HG5.out.then HG6.out
      clear HC HO5 HG5 HG6
      have HC : Hid (Calls _ _ _ _ _) := one_read HO6.out (by simp)
      go_wp2_with fail
      refine Calls.mono HC.out ?_
      rintro e w10 ⟨rfl, HO10, HG10⟩
      rw [show Fe.readS ⟨m, m, q, false, true⟩ = ⟨m, m, q, false, true⟩ from by simp [Fe.readS, hcr], show Fe.readQ ⟨m, m, q, false, true⟩ [] = [] from by simp [Fe.readQ, hcr]] at HO10
      rw [hcr, hnr]
      have HG10' : Hid (FrO b w1 w10) := HG6'.out.then HG10.out
      clear HC hcr hnr HO6 HG6' HG10
      have HC : Hid (Calls _ _ _ _ _) := one_can HO10.out (m : Int)
      go_wp2_with fail
      refine Calls.mono HC.out ?_
      rintro e w11 ⟨rfl, HF11⟩
      rw [show Fe.can ⟨m, m, q, false, true⟩ bs (m : Int) = 0 from by simp [Fe.can]]
      have HO11 : Hid (One b f g m bs (txs ts) ⟨m, m, q, false, true⟩ [] w11) := HO10.out.keep HF11.out
      have HG11 : Hid (FrO b w1 w11) := HG10'.out.then (.of HF11.out)
      clear HC HO10 HG10' HF11
      have HC : Hid (Calls _ _ _ _ _) := one_asked HO11.out (by simp) 0 rfl
      go_wp2_with fail
      refine Calls.mono HC.out ?_
      rintro e w12 ⟨bo12, rfl, _, HF12⟩
      have HO12 : Hid (One b f g m bs (txs ts) ⟨m, m, q, false, true⟩ [] w12) := HO11.out.keep HF12.out
      have HG12 : Hid (FrO b w1 w12) := HG11.out.then (.of HF12.out)
      clear HC HO11 HG11 HF12
      have HC : Hid (Calls _ _ _ _ _) := one_held HO12.out
      go_wp2_with fail
      refine Calls.mono HC.out ?_
      rintro e w13 ⟨rfl, rfl⟩
      rw [show Fe.num ⟨m, m, q, false, true⟩ = 0 from by simp [Fe.num]]
      have HLv : Hid (Calls _ _ _ _ _) := lives16_any w12
      go_wp2_with fail
      refine Calls.mono HLv.out ?_
      rintro e w14 ⟨rfl, hF14⟩
      have HGz : Hid (Fr [] w0 w14) := HEnd.out _ (HG12.out.then (.of hF14))
      clear hF14 HC HLv
      go_wp2
      go_ret
      exact ⟨rfl, HF0.out.then HGz.out⟩
end Go.Proofs.Ytibgdfjfhjckoaa

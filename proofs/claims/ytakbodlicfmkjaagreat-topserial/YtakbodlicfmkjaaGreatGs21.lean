/- A replica of a world over a new disk, fed: started. Conditions as each names them. -/
import Derived.Test.YtakbodlicfmkjaaGreatRn20
import Derived.Test.YtakbodlicfmkjaaGreatFg20
namespace Go.Proofs.YtakbodlicfmkjaaGreat.Ap
open Go.ChangeShapes Go.WideShapes Go.ChangeAt Go.RowKit Go.Lib Go.Maps
set_option linter.unusedVariables false
set_option linter.unusedSimpArgs false
/-- The cells of a world of the law's. -/
def wdC (l s x q : Int) (ao : Option Addr) (L cap : Nat) (C fd : Int) (po : Option Addr) (P pc : Nat) : Array Value := #[.int .i64 l, .int .i64 s, .int .i64 x, .int .i64 q, .slice ao L cap, .int .i64 C, .int .i64 fd, .slice po P pc]
/-- What started answers where all may be. -/
def StR (w : World) (c : Cf) (T : List Tx) (fd : Int) (e : Ending) (w' : World) : Prop := ∃ (p : Nat) (dv : Value) (Z : Lay) (w0 : World), e = .returned (.tuple #[.pointer (some ⟨p, 0, none⟩), dv]) ∧ Fr [] w w0 ∧ RP w0 w' p c T Z { ms0 with fd := fedTo T 0 fd } ∧ Z.nr = 0
section
variable {w : World} {l s x q C fd : Int} {ao po : Option Addr} {L cap P pc : Nat} {ts : List Tm}
set_option maxHeartbeats 8000000 in
set_option maxRecDepth 100000 in
theorem started_ok (hT : TRs w ao ts) (hL : L = ts.length) (hok : okL 1 (txs ts)) (hC0 : 0 ≤ C) (hC1 : C ≤ 16777216) (hc : Cf.may ⟨l, s, x, q⟩) :
    Calls Tryz.prog 4 #[.agg (wdC l s x q ao L cap C fd po P pc)] w fun e w' => StR w ⟨l, s, x, q⟩ (txs ts) fd e w' := by
  obtain ⟨w1, HW1⟩ : ∃ w1, Hid (w.alloc (.cells (wdC l s x q ao L cap C fd po P pc) 27) = w1) := ⟨_, rfl⟩
  obtain ⟨A, HA⟩ : ∃ A, Hid (w.heap.size = A) := ⟨_, rfl⟩
  have hF1 : Fr [] w w1 := by rw [← HW1.out]; exact Fr.alloc [] w _
  have hb1 : w1.heap[A]? = some (.cells (wdC l s x q ao L cap C fd po P pc) 27 (0, 0)) := by rw [← HW1.out, ← HA.out]; exact heap_alloc_new _ _
  have HBx : Hid (∀ W, Fr [] w1 W → W.cell? ⟨A, 0, none⟩ = some (.int .i64 l) ∧ W.cell? ⟨A, 1, none⟩ = some (.int .i64 s) ∧ W.cell? ⟨A, 2, none⟩ = some (.int .i64 x) ∧ W.cell? ⟨A, 3, none⟩ = some (.int .i64 q) ∧ W.cell? ⟨A, 4, none⟩ = some (.slice ao L cap) ∧ W.cell? ⟨A, 5, none⟩ = some (.int .i64 C) ∧ W.cell? ⟨A, 6, none⟩ = some (.int .i64 fd)) := fun W hf => by
    have hr := hf.keep hb1 (by simp)
    refine ⟨?_, ?_, ?_, ?_, ?_, ?_, ?_⟩ <;> (rw [cell_of_row _ _ _ _ _ _ hr]; rfl)
  have HT : Hid (∀ W, Fr [] w1 W → TRs W ao ts) := fun W hf => hT.keep (hF1.then hf)
  have HD : Hid (Calls _ _ _ _ _) := Dz.dnew_ok C w1 hC0 hC1
  have HF1 : Hid (Fr [] w w1) := hF1
  have HL : Hid (L = ts.length) := hL
  have HOK : Hid (okL 1 (txs ts)) := hok
  have HM : Hid (Cf.may ⟨l, s, x, q⟩) := hc
  obtain ⟨f0, f1, f2, f3, f4, f5, f6⟩ := HBx.out _ (Fr.refl _ _)
  clear hT hL hok hc hF1 hb1
  unfold wdC at HW1
  unfold wdC
  go_enter Tryz.func4, Tryz.ntmps4
  go_upto_region 1 with fail
  rw [HW1.out, HA.out]
  clear HW1 HA
  go_wp2_with fail
  refine Calls.mono HD.out ?_
  rintro e w2 ⟨rfl, hd, hf2⟩
  obtain ⟨db, hdb⟩ : ∃ db, db = w1.heap.size := ⟨_, rfl⟩
  rw [← hdb] at hd ⊢
  have HD2 : Hid (∀ W, Fr [] w2 W → Dz.D0 W db C) := fun W hf => hd.keep hf (by simp)
  have HF2 : Hid (Fr [] w1 w2) := hf2
  obtain ⟨g0, g1, g2, g3, g4, g5, g6⟩ := HBx.out _ hf2
  have HLg : Hid (Calls _ _ _ _ _) := F.new_ok ao L cap ts w2 (HT.out _ hf2) HL.out HOK.out
  clear hd hf2 HD hdb f0 f1 f2 f3 f4 f5 f6 HT
  go_wp2_with fail
  refine Calls.mono HLg.out ?_
  rintro e w3 ⟨g, lb, ds, rfl, hS, hts, hf3⟩
  have HF3 : Hid (Fr [] w2 w3) := hf3
  obtain ⟨f0, f1, f2, f3, f4, f5, f6⟩ := HBx.out _ (HF2.out.then hf3)
  have HN : Hid (Calls _ _ _ _ _) := rnew_ok (w0 := w2) hS (by rw [hts]; exact HOK.out) (HD2.out _ hf3) HM.out hf3
  rw [hts] at HN
  clear hS hts hf3 HLg g0 g1 g2 g3 g4 g5 g6
  go_wp2_with fail
  refine Calls.mono HN.out ?_
  rintro e w4 ⟨p, Z, rfl, hR, hnr⟩
  have hf4 : Fr [] w2 w4 := hR.m.fr
  obtain ⟨g0, g1, g2, g3, g4, g5, g6⟩ := HBx.out _ (HF2.out.then hf4)
  have HFd : Hid (Calls Tryz.prog 16 #[.pointer (some ⟨p, 0, none⟩), .int .i64 fd] w4 fun e w' => (∃ v, e = .returned v) ∧ Hid (∃ Z' : Lay, RP w2 w' p ⟨l, s, x, q⟩ (txs ts) Z' { ms0 with fd := fedTo (txs ts) 0 fd } ∧ Z'.nr = 0)) := by
    refine Calls.mono (rfeed_any hR fd) ?_
    rintro e w' ⟨he, hD⟩
    exact ⟨he, _, hR.dn hD, hnr⟩
  clear hR hnr hf4 HN f0 f1 f2 f3 f4 f5 f6
  go_wp2_with fail
  refine Calls.mono HFd.out ?_
  rintro e w5 ⟨⟨_, rfl⟩, HE⟩
  clear HFd g0 g1 g2 g3 g4 g5 g6
  go_wp2
  go_ret2
  obtain ⟨Z', hR', hn'⟩ := HE.out
  exact ⟨p, _, Z', w2, rfl, HF1.out.then HF2.out, hR', hn'⟩
set_option maxHeartbeats 8000000 in
set_option maxRecDepth 100000 in
theorem started_no (hT : TRs w ao ts) (hL : L = ts.length) (h : ¬ (okL 1 (txs ts) ∧ (0 ≤ C ∧ C ≤ 16777216) ∧ Cf.may ⟨l, s, x, q⟩)) :
    Calls Tryz.prog 4 #[.agg (wdC l s x q ao L cap C fd po P pc)] w fun e w' => (∃ v, e = .returned (.tuple #[.pointer none, v])) ∧ Fr [] w w' := by
  obtain ⟨w1, HW1⟩ : ∃ w1, Hid (w.alloc (.cells (wdC l s x q ao L cap C fd po P pc) 27) = w1) := ⟨_, rfl⟩
  obtain ⟨A, HA⟩ : ∃ A, Hid (w.heap.size = A) := ⟨_, rfl⟩
  have hF1 : Fr [] w w1 := by rw [← HW1.out]; exact Fr.alloc [] w _
  have hb1 : w1.heap[A]? = some (.cells (wdC l s x q ao L cap C fd po P pc) 27 (0, 0)) := by rw [← HW1.out, ← HA.out]; exact heap_alloc_new _ _
  have HBx : Hid (∀ W, Fr [] w1 W → W.cell? ⟨A, 0, none⟩ = some (.int .i64 l) ∧ W.cell? ⟨A, 1, none⟩ = some (.int .i64 s) ∧ W.cell? ⟨A, 2, none⟩ = some (.int .i64 x) ∧ W.cell? ⟨A, 3, none⟩ = some (.int .i64 q) ∧ W.cell? ⟨A, 4, none⟩ = some (.slice ao L cap) ∧ W.cell? ⟨A, 5, none⟩ = some (.int .i64 C) ∧ W.cell? ⟨A, 6, none⟩ = some (.int .i64 fd)) := fun W hf => by
    have hr := hf.keep hb1 (by simp)
    refine ⟨?_, ?_, ?_, ?_, ?_, ?_, ?_⟩ <;> (rw [cell_of_row _ _ _ _ _ _ hr]; rfl)
  have HT : Hid (∀ W, Fr [] w1 W → TRs W ao ts) := fun W hf => hT.keep (hF1.then hf)
  have HF1 : Hid (Fr [] w w1) := hF1
  have HL : Hid (L = ts.length) := hL
  obtain ⟨bc, hbc⟩ := Bad.ex (txs ts) 1
  have HB : Hid (Bad 1 (txs ts) bc) := hbc
  have HK : Hid (bc = 0 ↔ okL 1 (txs ts)) := Bad.ok hbc
  have HH : Hid (¬ (okL 1 (txs ts) ∧ (0 ≤ C ∧ C ≤ 16777216) ∧ Cf.may ⟨l, s, x, q⟩)) := h
  obtain ⟨f0, f1, f2, f3, f4, f5, f6⟩ := HBx.out _ (Fr.refl _ _)
  clear hT hL h hF1 hb1 hbc
  by_cases hC : 0 ≤ C ∧ C ≤ 16777216
  · have HD : Hid (Calls _ _ _ _ _) := Dz.dnew_ok C w1 hC.1 hC.2
    have HCC : Hid (0 ≤ C ∧ C ≤ 16777216) := hC
    clear hC
    by_cases hb : bc = 0
    · have HOK : Hid (okL 1 (txs ts)) := HK.out.1 hb
      have HM : Hid (¬ Cf.may ⟨l, s, x, q⟩) := fun hm => HH.out ⟨HOK.out, HCC.out, hm⟩
      clear hb HB HK HH
      unfold wdC at HW1
      unfold wdC
      go_enter Tryz.func4, Tryz.ntmps4
      go_upto_region 1 with fail
      rw [HW1.out, HA.out]
      clear HW1 HA
      go_wp2_with fail
      refine Calls.mono HD.out ?_
      rintro e w2 ⟨rfl, hd, hf2⟩
      obtain ⟨db, hdb⟩ : ∃ db, db = w1.heap.size := ⟨_, rfl⟩
      rw [← hdb] at hd ⊢
      have HD2 : Hid (∀ W, Fr [] w2 W → Dz.D0 W db C) := fun W hf => hd.keep hf (by simp)
      have HF2 : Hid (Fr [] w1 w2) := hf2
      obtain ⟨g0, g1, g2, g3, g4, g5, g6⟩ := HBx.out _ hf2
      have HLg : Hid (Calls _ _ _ _ _) := F.new_ok ao L cap ts w2 (HT.out _ hf2) HL.out HOK.out
      clear hd hf2 HD hdb f0 f1 f2 f3 f4 f5 f6 HT
      go_wp2_with fail
      refine Calls.mono HLg.out ?_
      rintro e w3 ⟨g, lb, ds, rfl, hS, hts, hf3⟩
      have HF3 : Hid (Fr [] w2 w3) := hf3
      obtain ⟨f0, f1, f2, f3, f4, f5, f6⟩ := HBx.out _ (HF2.out.then hf3)
      have HN : Hid (Calls _ _ _ _ _) := rnew_no (w0 := w2) hS (HD2.out _ hf3) HM.out
      clear hS hts hf3 HLg g0 g1 g2 g3 g4 g5 g6
      go_wp2_with fail
      refine Calls.mono HN.out ?_
      rintro e w4 ⟨rfl, hf4⟩
      have HF4 : Hid (Fr [] w w4) := HF1.out.then (HF2.out.then (HF3.out.then hf4))
      clear hf4 HN f0 f1 f2 f3 f4 f5 f6
      go_wp2
      go_ret2
      exact ⟨⟨_, rfl⟩, HF4.out⟩
    · have hcb : ((bc : Int) != 0) = true := by rw [bne_iff_ne]; omega
      have HNB : Hid (bc ≠ 0) := hb
      clear hb HK HH
      unfold wdC at HW1
      unfold wdC
      go_enter Tryz.func4, Tryz.ntmps4
      go_upto_region 1 with fail
      rw [HW1.out, HA.out]
      clear HW1 HA
      go_wp2_with fail
      refine Calls.mono HD.out ?_
      rintro e w2 ⟨rfl, hd, hf2⟩
      have HF2 : Hid (Fr [] w1 w2) := hf2
      obtain ⟨g0, g1, g2, g3, g4, g5, g6⟩ := HBx.out _ hf2
      have HLg : Hid (Calls _ _ _ _ _) := F.new_no ao L cap bc ts w2 (HT.out _ hf2) HL.out HB.out HNB.out
      clear hd hf2 HD f0 f1 f2 f3 f4 f5 f6 HT
      go_wp2_with fail
      refine Calls.mono HLg.out ?_
      rintro e w3 ⟨rfl, hf3⟩
      have HF3 : Hid (Fr [] w w3) := HF1.out.then (HF2.out.then hf3)
      clear hf3 HLg g0 g1 g2 g3 g4 g5 g6
      go_wp2
      go_ret2
      exact ⟨⟨_, rfl⟩, HF3.out⟩
  · have HD : Hid (Calls _ _ _ _ _) := Dz.dnew_no C w1 (by omega)
    by_cases hb : bc = 0
    · have HOK : Hid (okL 1 (txs ts)) := HK.out.1 hb
      clear hb HB HK HH hC
      unfold wdC at HW1
      unfold wdC
      go_enter Tryz.func4, Tryz.ntmps4
      go_upto_region 1 with fail
      rw [HW1.out, HA.out]
      clear HW1 HA
      go_wp2_with fail
      refine Calls.mono HD.out ?_
      rintro e w2 ⟨rfl, rfl⟩
      have HLg : Hid (Calls _ _ _ _ _) := F.new_ok ao L cap ts w1 (HT.out _ (Fr.refl _ _)) HL.out HOK.out
      clear HD
      go_wp2_with fail
      refine Calls.mono HLg.out ?_
      rintro e w3 ⟨g, lb, ds, rfl, _, _, hf3⟩
      have HF3 : Hid (Fr [] w w3) := HF1.out.then hf3
      clear hf3 HLg
      go_wp2
      go_ret2
      exact ⟨⟨_, rfl⟩, HF3.out⟩
    · have hcb : ((bc : Int) != 0) = true := by rw [bne_iff_ne]; omega
      have HNB : Hid (bc ≠ 0) := hb
      clear hb HK HH hC
      unfold wdC at HW1
      unfold wdC
      go_enter Tryz.func4, Tryz.ntmps4
      go_upto_region 1 with fail
      rw [HW1.out, HA.out]
      clear HW1 HA
      go_wp2_with fail
      refine Calls.mono HD.out ?_
      rintro e w2 ⟨rfl, rfl⟩
      have HLg : Hid (Calls _ _ _ _ _) := F.new_no ao L cap bc ts w1 (HT.out _ (Fr.refl _ _)) HL.out HB.out HNB.out
      clear HD
      go_wp2_with fail
      refine Calls.mono HLg.out ?_
      rintro e w3 ⟨rfl, hf3⟩
      have HF3 : Hid (Fr [] w w3) := HF1.out.then hf3
      clear hf3 HLg
      go_wp2
      go_ret2
      exact ⟨⟨_, rfl⟩, HF3.out⟩
end
end Go.Proofs.YtakbodlicfmkjaaGreat.Ap

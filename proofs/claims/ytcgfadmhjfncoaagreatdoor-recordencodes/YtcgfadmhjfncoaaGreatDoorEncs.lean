/- The walk of the law RecordEncodes. Conditions: how its argument lies in memory. -/
import Derived.Test.YtcgfadmhjfncoaaGreatDoorFin5
namespace Go.Proofs.YtcgfadmhjfncoaaGreatDoor
open BigFrame Go.ChangeShapes Go.WideShapes Go.ChangeAt Go.RowKit Go.Lib
set_option linter.unusedVariables false
set_option linter.unusedSimpArgs false

set_option maxHeartbeats 8000000 in
set_option maxRecDepth 100000 in
theorem encs (n : Int) (ao : Option Addr) (L cap : Nat) (ws : List Wt) (w : World) (hT : TArg w n ao L cap ws) :
    Calls Tryz.prog 3 #[.agg #[.int .i64 n, .slice ao L cap]] w fun e w' => e = .returned (.bool true) ∧ Fr [] w w' := by
  have HL : Hid (L = ws.length) := hT.len
  have hn0 := hT.n0
  have hn1 := hT.n1
  have HEa : Hid (∀ x ∈ ws, x.key.size ≤ 140737488355328 ∧ x.val.size ≤ 140737488355328) := hT.rs.each
  have HFe : Hid (ws.length ≤ 140737488355328) := hT.rs.few
  obtain ⟨w0, HW0⟩ : ∃ w0, Hid (w.alloc (.cells #[.int .i64 n, .slice ao L cap] 24) = w0) := ⟨_, rfl⟩
  have hF0 : Fr [] w w0 := by rw [← HW0.out]; exact Fr.alloc [] w _
  have hb0 : w0.heap[w.heap.size]? = some (.cells #[.int .i64 n, .slice ao L cap] 24 (0, 0)) := by rw [← HW0.out]; exact heap_alloc_new w _
  have x0 : w0.cell? ⟨w.heap.size, 0, none⟩ = some (.int .i64 n) := by rw [cell_of_row _ _ _ _ _ _ hb0]; rfl
  have x1 : w0.cell? ⟨w.heap.size, 1, none⟩ = some (.slice ao L cap) := by rw [cell_of_row _ _ _ _ _ _ hb0]; rfl
  have HC1 : Hid (∀ W, Fr [] w0 W → W.cell? ⟨w.heap.size, 0, none⟩ = some (.int .i64 n) ∧ W.cell? ⟨w.heap.size, 1, none⟩ = some (.slice ao L cap)) := fun W hf => by
    have hb := hf.keep hb0 (by simp)
    exact ⟨by rw [cell_of_row _ _ _ _ _ _ hb]; rfl, by rw [cell_of_row _ _ _ _ _ _ hb]; rfl⟩
  have HI : Hid (∀ W, Fr [] w0 W → WRs W ao ws) := fun W hf => hT.rs.keep (hF0.then hf)
  clear hb0 x0 x1
  go_enter Tryz.func3, Tryz.ntmps3
  go_wp2_with fail
  rw [HW0.out]
  refine (txSize_any n ao L cap ws _ (HI.out _ (Fr.refl _ _)) HL.out).mono ?_
  rintro e w1 ⟨N0, rfl, hN0, hF1⟩
  have hN0b := hN0.2.1
  go_wp2_with fail
  refine (beyond_any w1.heap.size (N0 + 1) _ (by omega) (by simp)).mono ?_
  rintro e w2 ⟨rfl, rfl⟩
  have hF2 : Fr [] w1 (w1.alloc (.cells #[.int .i64 ((N0 : Int) + 1)] 3)) := Fr.alloc _ _ _
  obtain ⟨w2, HW2⟩ : ∃ w2, Hid (w1.alloc (.cells #[.int .i64 ((N0 : Int) + 1)] 3) = w2) := ⟨_, rfl⟩
  rw [HW2.out] at hF2 ⊢
  have hG2 := hF1.then hF2
  by_cases hbig : 1048576 < N0 + 1
  · have hbd : decide (1048576 < N0 + 1) = true := by simpa using hbig
    rw [hbd]
    go_wp2
    go_ret
    exact ⟨rfl, hF0.then hG2⟩
  · have hbd : decide (1048576 < N0 + 1) = false := by simpa using hbig
    rw [hbd]
    have hLs : L < 2^21 := by have := hN0.1; rw [← HL.out] at this; omega
    obtain ⟨c, ys, hTo⟩ := Told5.ex n ws
    have HTo : Hid (Told5 n ws c ys) := hTo
    obtain ⟨N, HN⟩ : ∃ N, Hid (N = ys.length) := ⟨_, rfl⟩
    have hNb : N ≤ 65000 := by rw [HN.out]; exact hTo.len
    obtain ⟨x0, x1⟩ := HC1.out _ hG2
    clear hTo hF1 hF2 hN0 hbig hbd
    go_wp2_with fail
    refine (twinTxn_any n ao L cap ws _ (HI.out _ hG2) HL.out hLs).mono ?_
    rintro e w3 ⟨t, rfl, ht, hrow3, hF3⟩
    have hF4 : Fr [] w3 (w3.alloc (.cells #[.int .i64 n, .slice (some ⟨t, 0, none⟩) L (L + 1)] 24)) := Fr.alloc _ _ _
    have hb4 : (w3.alloc (.cells #[.int .i64 n, .slice (some ⟨t, 0, none⟩) L (L + 1)] 24)).heap[w3.heap.size]? = some (.cells #[.int .i64 n, .slice (some ⟨t, 0, none⟩) L (L + 1)] 24 (0, 0)) := heap_alloc_new w3 _
    obtain ⟨w4, HW4⟩ : ∃ w4, Hid (w3.alloc (.cells #[.int .i64 n, .slice (some ⟨t, 0, none⟩) L (L + 1)] 24) = w4) := ⟨_, rfl⟩
    rw [HW4.out] at hF4 hb4
    have hG4 := hG2.then (hF3.then hF4)
    have hrow4 := hF4.keep hrow3 (by simp)
    have htl : t < w4.heap.size := lt_of_block hrow4
    have HC3 : Hid (∀ W, Fr [] w4 W → W.cell? ⟨w3.heap.size, 0, none⟩ = some (.int .i64 n) ∧ W.cell? ⟨w3.heap.size, 1, none⟩ = some (.slice (some ⟨t, 0, none⟩) L (L + 1)) ∧ W.cell? ⟨w.heap.size, 0, none⟩ = some (.int .i64 n) ∧ W.cell? ⟨w.heap.size, 1, none⟩ = some (.slice ao L cap)) := fun W hf => by
      have hb := hf.keep hb4 (by simp)
      have h1 := HC1.out _ (hG4.then hf)
      exact ⟨by rw [cell_of_row _ _ _ _ _ _ hb]; rfl, by rw [cell_of_row _ _ _ _ _ _ hb]; rfl, h1.1, h1.2⟩
    have HRow : Hid (∀ W, Fr [] w4 W → W.heap[t]? = some (.cells (wtsC (ws ++ [spW])).toArray 63 (0, 0))) := fun W hf => hf.keep hrow4 (by simp)
    have HX : Hid (∀ W, Fr [] w4 W → WRs W (some ⟨t, 0, none⟩) ws) := fun W hf => twin_rs (HRow.out W hf) HFe.out HEa.out
    have HI4 : Hid (∀ W, Fr [] w4 W → WRs W ao ws) := fun W hf => HI.out W (hG4.then hf)
    have hwt : w.heap.size ≤ t := by have := hF0.size; have := hG2.size; omega
    have HG04 : Hid (Fr [] w w4) := hF0.then hG4
    clear hrow3 hrow4 hb4 hF3 hF4 hG2 hG4 x0 x1 HI HC1
    go_wp2_with fail
    rw [HW4.out]
    refine (encode_gen n (some ⟨t, 0, none⟩) L (L + 1) c N ws ys _ (HX.out _ (Fr.refl _ _)) HL.out hn0 hn1 HTo.out HN.out).mono ?_
    rintro e w5 ⟨b1, cb1, rfl, hO5, hk5, hF5⟩
    obtain ⟨x0, x1, _, _⟩ := HC3.out _ hF5
    go_wp2_with fail
    refine (encode_gen n (some ⟨t, 0, none⟩) L (L + 1) c N ws ys _ (HX.out _ hF5) HL.out hn0 hn1 HTo.out HN.out).mono ?_
    rintro e w6 ⟨b2, cb2, rfl, hO6, hk6, hF6⟩
    have hG6 := hF5.then hF6
    obtain ⟨y0, y1, _, _⟩ := HC3.out _ hG6
    have hlt5 : ∀ k, (Value.slice b1 N cb1).ownBlock = some k → k < w5.heap.size := fun k hk => (hO5.lt k hk).2
    have hO56 := owns_keep hO5 hF6 (by simp)
    clear x0 x1 hO5
    go_wp2_with fail
    refine (size_gen n (some ⟨t, 0, none⟩) L (L + 1) c N ws ys _ (HX.out _ hG6) HL.out hn0 hn1 HTo.out HN.out).mono ?_
    rintro e w7 ⟨rfl, hF7⟩
    have hG7 := hG6.then hF7
    obtain ⟨_, _, z0, z1⟩ := HC3.out _ hG7
    clear y0 y1
    go_wp2_with fail
    refine (xEncode_gen n ao L cap c N ws ys _ (HI4.out _ hG7) HL.out hn0 hn1 HTo.out HN.out).mono ?_
    rintro e w8 ⟨b3, cb3, rfl, hR8, hF8⟩
    have hF68 := hF7.then hF8
    have hG8 := hG7.then hF8
    have hO1 := owns_keep hO56 hF68 (by simp)
    have hO2 := owns_keep hO6 hF68 (by simp)
    have hl1 : ys.length < 2^41 := by rw [← HN.out]; omega
    have HS1 : Hid (∀ W, Fr [] w8 W → Calls Tryz.prog 12 #[.slice b1 N cb1, .slice b3 N cb3] W fun e w' => e = .returned (.bool true) ∧ Fr [] W w') := fun W hf => by
      refine (same_yes b1 b3 N N cb1 cb3 ys ys W (own_rs (owns_keep hO1 hf (by simp)) HN.out hl1) (hR8.fr5 hf) HN.out HN.out rfl).mono ?_
      rintro e w' ⟨rfl, q, rfl⟩
      exact ⟨rfl, Fr.drewN _ _ _⟩
    have HS2 : Hid (∀ W, Fr [] w8 W → Calls Tryz.prog 12 #[.slice b2 N cb2, .slice b3 N cb3] W fun e w' => e = .returned (.bool true) ∧ Fr [] W w') := fun W hf => by
      refine (same_yes b2 b3 N N cb2 cb3 ys ys W (own_rs (owns_keep hO2 hf (by simp)) HN.out hl1) (hR8.fr5 hf) HN.out HN.out rfl).mono ?_
      rintro e w' ⟨rfl, q, rfl⟩
      exact ⟨rfl, Fr.drewN _ _ _⟩
    have HK1 : Hid (∀ W, Fr [] w8 W → Calls Tryz.prog 10 #[.agg #[.int .i64 n, .slice (some ⟨t, 0, none⟩) L (L + 1)]] W fun e w' => e = .returned (.int .i64 (c : Int)) ∧ Fr [] W w') := fun W hf => check_any n _ L (L + 1) c ws W (HX.out _ (hG8.then hf)) HL.out hn0 hn1 HTo.out.chk
    have HK2 : Hid (∀ W, Fr [] w8 W → Calls Tryz.prog 11 #[.agg #[.int .i64 n, .slice ao L cap]] W fun e w' => e = .returned (.int .i64 (c : Int)) ∧ Fr [] W w') := fun W hf => xCheck_any n _ L cap c ws W (HI4.out _ (hG8.then hf)) HL.out hn0 hn1 HTo.out.chk
    have HLf : Hid (∀ W, Fr [] w8 W → Calls Tryz.prog 13 #[.agg #[.int .i64 n, .slice (some ⟨t, 0, none⟩) L (L + 1)], .agg #[.int .i64 n, .slice ao L cap]] W fun e w' => e = .returned (.bool true) ∧ Fr [] W w') := fun W hf => leftTxn_any n t ao L cap ws W (HI4.out _ (hG8.then hf)) HL.out hLs (HRow.out _ (hG8.then hf))
    have HCe : Hid (∀ W, Fr [] w8 W → W.cell? ⟨w3.heap.size, 0, none⟩ = some (.int .i64 n) ∧ W.cell? ⟨w3.heap.size, 1, none⟩ = some (.slice (some ⟨t, 0, none⟩) L (L + 1)) ∧ W.cell? ⟨w.heap.size, 0, none⟩ = some (.int .i64 n) ∧ W.cell? ⟨w.heap.size, 1, none⟩ = some (.slice ao L cap)) := fun W hf => HC3.out _ (hG8.then hf)
    have hcc : ((c : Int) != c) = false := by simp
    have hNN : ((N : Int) != N) = false := by simp
    have i0 : ∀ x : Wd w8, x.W.cell? ⟨w3.heap.size, 0, none⟩ = some (.int .i64 n) := fun x => (HCe.out _ x.h).1
    have i1 : ∀ x : Wd w8, x.W.cell? ⟨w3.heap.size, 1, none⟩ = some (.slice (some ⟨t, 0, none⟩) L (L + 1)) := fun x => (HCe.out _ x.h).2.1
    have i2 : ∀ x : Wd w8, x.W.cell? ⟨w.heap.size, 0, none⟩ = some (.int .i64 n) := fun x => (HCe.out _ x.h).2.2.1
    have i3 : ∀ x : Wd w8, x.W.cell? ⟨w.heap.size, 1, none⟩ = some (.slice ao L cap) := fun x => (HCe.out _ x.h).2.2.2
    have HR : Hid (Fr [] w4 w8) := hG8
    have HO1 : Hid (w8.ownsRow 0 5 1 (.slice b1 N cb1) N (bts ys)) := hO1
    have HO2 : Hid (w8.ownsRow 0 5 1 (.slice b2 N cb2) N (bts ys)) := hO2
    have HB1 : Hid (∀ k, (Value.slice b1 N cb1).ownBlock = some k → w4.heap.size ≤ k ∧ k < w5.heap.size) := fun k hk => ⟨hk5 k hk, hlt5 k hk⟩
    have hs45 : w4.heap.size ≤ w5.heap.size := hF5.size
    have HB2 : Hid (∀ k, (Value.slice b2 N cb2).ownBlock = some k → w5.heap.size ≤ k) := hk6
    clear hO1 hO2 hO56 hO6 hR8 z0 z1 hF5 hF6 hG6 hF7 hG7 hF8 hF68 hG8 hk5 hk6 hlt5
    go_upto_region 8 with fail
    refine wp_region_wd (w1 := w8) (by kernel_rfl) (by kernel_rfl) (Fr.refl _ _) ?_
    repeat (go_big_quiet_step (first
      | (go_at_call 10; with_reducible refine (HK1.out _ (Wd.h _)).mono ?_; exact fun e w3 hh => ⟨hh.1, ⟨_, Fr.then (Wd.h _) hh.2⟩, rfl⟩)
      | (go_at_call 11; with_reducible refine (HK2.out _ (Wd.h _)).mono ?_; exact fun e w3 hh => ⟨hh.1, ⟨_, Fr.then (Wd.h _) hh.2⟩, rfl⟩)
      | (go_at_call 12; with_reducible refine (HS1.out _ (Wd.h _)).mono ?_; exact fun e w3 hh => ⟨hh.1, ⟨_, Fr.then (Wd.h _) hh.2⟩, rfl⟩)
      | (go_at_call 12; with_reducible refine (HS2.out _ (Wd.h _)).mono ?_; exact fun e w3 hh => ⟨hh.1, ⟨_, Fr.then (Wd.h _) hh.2⟩, rfl⟩)
      | (go_at_call 13; with_reducible refine (HLf.out _ (Wd.h _)).mono ?_; exact fun e w3 hh => ⟨hh.1, ⟨_, Fr.then (Wd.h _) hh.2⟩, rfl⟩)))
    refine wpQuiet_nil ?_
    rintro _ ⟨x, rfl⟩
    have hG9 := x.h
    obtain ⟨w9, hw9⟩ : ∃ w9, w9 = x.W := ⟨_, rfl⟩
    rw [← hw9] at hG9 ⊢
    have HG9 : Hid (Fr [] w8 w9) := hG9
    obtain ⟨x0, x1, _, _⟩ := HC3.out _ (HR.out.then hG9)
    obtain ⟨bk, HBk⟩ : ∃ bk, Hid (bk = w9.heap.size) := ⟨_, rfl⟩
    obtain ⟨wl, HWl⟩ : ∃ wl, Hid (wl = w9.alloc (Obj.cells #[.int .i64 0, .slice none 0 0, .slice none 0 0, .slice none 0 0, .slice none 0 0, .slice none 0 0, .slice none 0 0, .slice none 0 0, .slice none 0 0, .slice none 0 0, .slice none 0 0, .slice none 0 0] 49)) := ⟨_, rfl⟩
    clear hw9 i0 i1 i2 i3 hG9 HS1 HS2 HK1 HK2 HLf
    go_upto_region 11 with fail
    rw [← HWl.out, ← HBk.out]
    have HFl : Hid (Fr [] w9 wl) := by rw [HWl.out]; exact Fr.alloc _ _ _
    have HBl : Hid (wl.heap[bk]? = some (.cells newBk 49 (0, 0))) := by rw [HWl.out, HBk.out]; exact heap_alloc_new w9 _
    have HG8l : Hid (Fr [] w8 wl) := HG9.out.then HFl.out
    have hbk1 : w8.heap.size ≤ bk := by rw [HBk.out]; exact HG9.out.size
    clear x0 x1
    obtain ⟨x0, x1, _, _⟩ := HC3.out _ (HR.out.then HG8l.out)
    go_wp2_with fail
    refine (bkTxn_any bk n (some ⟨t, 0, none⟩) L (L + 1) wl HBl.out).mono ?_
    rintro e wa ⟨rfl, g, rc, hBa, hRa, hga, hFa⟩
    have HBa : Hid (Bk 1 (.slice (some ⟨g, 0, none⟩) 1 rc) wa bk (.slice none 0 0) []) := hBa
    have HRa : Hid (wa.ownsRow 0 89 3 (.slice (some ⟨g, 0, none⟩) 1 rc) 1 [.slice (some ⟨t, 0, none⟩) L (L + 1), .slice none 0 0, .int .i64 1]) := hRa
    have HFa : Hid (Fr [bk] wl wa) := hFa
    clear hBa hRa hFa x0 x1
    go_wp2_with fail
    refine (bytes_any bk (.slice none 0 0) [] b1 N cb1 wa HBa.out (by simp)).mono ?_
    rintro e wb ⟨rfl, rv1, hBb, hFb, hMb⟩
    have HBb : Hid (Bk 1 (.slice (some ⟨g, 0, none⟩) 1 rc) wb bk rv1 ([] ++ [⟨.slice b1 N cb1, .slice none 0 0, 1 + ([] : List HB).length + 1⟩])) := hBb
    have HFb : Hid (Fr (bk :: (Value.slice none 0 0).ownBlock.toList) wa wb) := hFb
    have HMb : Hid (Moved wa.heap.size (.slice none 0 0) rv1) := hMb
    clear hBb hFb hMb
    go_wp2_with fail
    refine (bytes_any bk rv1 _ b2 N cb2 wb HBb.out (by simp)).mono ?_
    rintro e wc ⟨rfl, rv2, hBc, hFc, hMc⟩
    obtain ⟨hs, HHs⟩ : ∃ hs : List HB, Hid (hs = [⟨.slice b1 N cb1, .slice none 0 0, 2⟩, ⟨.slice b2 N cb2, .slice none 0 0, 3⟩]) := ⟨_, rfl⟩
    have HBc : Hid (Bk 1 (.slice (some ⟨g, 0, none⟩) 1 rc) wc bk rv2 hs) := by rw [HHs.out]; exact hBc
    have hfin := fin5 HHs.out HG04.out HR.out HG8l.out (by omega) HL.out hLs hwt (HRow.out _ (Fr.refl _ _)) HO1.out HO2.out HB1.out HB2.out hs45 hbk1 (lt_of_block HBl.out) hga HRa.out HFa.out HFb.out HMb.out hFc hMc
    have HFin : Hid (Fin5 w wc rv2 hs g rc t L ws) := hfin
    clear hBc hFc hMc hfin
    go_wp2_with fail
    refine (apart_any bk rv2 hs g rc t L (L + 1) (wtsC ws) wc HBc.out HFin.out.p0 HFin.out.alone HFin.out.num HFin.out.fresh HFin.out.hrow HFin.out.hl hLs).mono ?_
    rintro e wd ⟨rfl, hFd⟩
    have HF : Hid (Fr [] w wd) := HFin.out.fr wd hFd
    clear hFd
    go_wp2
    go_ret
    exact ⟨rfl, HF.out⟩
end Go.Proofs.YtcgfadmhjfncoaaGreatDoor

/- Check. Conditions as it names them. -/
import Derived.Test.YtaaghcimfcjehaaGreatDoorNf21
namespace Go.Proofs.YtaaghcimfcjehaaGreatDoor
open Go.ChangeShapes Go.WideShapes Go.ChangeAt Go.RowKit Go.Lib Go.Maps
set_option linter.unusedVariables false
set_option linter.unusedSimpArgs false

open Classical in
/-- The place that Check tells; what is wrong. -/
noncomputable def tkN (c : Cf) (ts : List Tm) (m : Int) (xs : List Int) (es : List Ev) : Nat := if c.may ∧ Beg ts m xs then (goes c (txs ts) (sy0 m xs) es).1 else 0
open Classical in
noncomputable def tkC (c : Cf) (ts : List Tm) (m : Int) (xs : List Int) (es : List Ev) : Int := if ¬ c.may then 7 else if ¬ Beg ts m xs then 1 else folC c (txs ts) (sy0 m xs) es
set_option maxHeartbeats 8000000 in
set_option maxRecDepth 100000 in
theorem tk_any (c : Cf) (lo : Option Addr) (M mc : Nat) (ts : List Tm) (m : Int) (bo : Option Addr) (bn bc : Nat) (xs : List Int) (ho : Option Addr) (hl hcp : Nat) (eo : Option Addr) (en ec : Nat) (es : List Ev) (w : World)
    (hN : Nms w) (hT : TRs w lo ts) (hM : M = ts.length) (hMc : M ≤ mc) (hX : IRs w bo xs) (hbn : bn = xs.length) (hbc : bn ≤ bc) (hE : ERs w eo es) (hen : en = es.length) (hec : en ≤ ec) (hk : es.length ≤ 4194304) :
    Calls Tryz.prog 10 #[.agg #[.int .i64 c.l, .int .i64 c.s, .int .i64 c.w, .int .i64 c.q], .slice lo M mc, .agg #[.int .i64 m, .slice bo bn bc, .slice ho hl hcp], .slice eo en ec] w fun e w' => e = .returned (.tuple #[.int .i64 ((tkN c ts m xs es : Nat) : Int), .int .i64 (tkC c ts m xs es)]) ∧ Fr [] w w' := by
  obtain ⟨wa, hwa⟩ : ∃ wa, wa = w.alloc (.cells #[.int .i64 c.l, .int .i64 c.s, .int .i64 c.w, .int .i64 c.q] 23) := ⟨_, rfl⟩
  obtain ⟨wb, hwb⟩ : ∃ wb, wb = wa.alloc (.cells #[.int .i64 m, .slice bo bn bc, .slice ho hl hcp] 28) := ⟨_, rfl⟩
  have f1 : Fr [] w wa := by rw [hwa]; exact Fr.alloc _ _ _
  have f2 : Fr [] wa wb := by rw [hwb]; exact Fr.alloc _ _ _
  have s1 : wa.heap.size = w.heap.size + 1 := by rw [hwa]; simp
  have hcf : CfM wb w.heap.size c.l c.s c.w c.q := by refine CfM.keep ?_ f2; rw [hwa]; exact CfM.new _ _ _ _ _ _
  have r5 : wb.heap[w.heap.size + 1]? = some (.cells #[.int .i64 m, .slice bo bn bc, .slice ho hl hcp] 28 (0, 0)) := by rw [hwb, ← s1]; exact heap_alloc_new _ _
  have HW : Hid ((w.alloc (.cells #[.int .i64 c.l, .int .i64 c.s, .int .i64 c.w, .int .i64 c.q] 23)).alloc (.cells #[.int .i64 m, .slice bo bn bc, .slice ho hl hcp] 28) = wb) := by show _ = _; rw [hwb, hwa]
  have HFb : Hid (Fr [] w wb) := f1.then f2
  have HCf : Hid (∀ W, Fr [] wb W → CfM W w.heap.size c.l c.s c.w c.q) := fun W hf => hcf.keep hf
  have HC : Hid (∀ W, Calls _ _ _ W _) := fun W => check_cells c.l c.s c.w c.q W
  have HS : Hid (∀ W, c.may → Fr [] w W → Calls _ _ _ W _) := fun W hc hf => newS_any c hc lo M mc ts m bo bn bc xs ho hl hcp W (hT.keep hf) hM hMc (hX.keep hf) hbn hbc
  have HFo : Hid (∀ W W' Z, c.may → Beg ts m xs → Fr [] w W → SyM W' Z c (sy0 m xs) 0 → Cx W W' Z ts → Calls Tryz.prog 26 #[.pointer (some ⟨Z.sb, 0, none⟩), .slice eo en ec] W' fun e w' => e = .returned (.tuple #[.int .i64 ((goes c (txs ts) (sy0 m xs) es).1 : Int), .int .i64 (folC c (txs ts) (sy0 m xs) es)]) ∧ Fr [] W w') := fun W W' Z hc hb hf hS hx => by
    rw [hen]
    exact follow_any ⟨hS, hx, lk_of hb.1, iv_zero hc hb.2.1 (by rw [tx_len]; exact hb.2.2), by omega⟩ (hN.keep hf (by simp)) (hE.keep hf) (by omega) (by omega)
  have H5 : Hid (∀ W, Fr [] wb W → W.cell? ⟨w.heap.size + 1, 0, none⟩ = some (.int .i64 m) ∧ W.cell? ⟨w.heap.size + 1, 1, none⟩ = some (.slice bo bn bc) ∧ W.cell? ⟨w.heap.size + 1, 2, none⟩ = some (.slice ho hl hcp)) := fun W hf => by
    have := hf.keep r5 (by simp)
    exact ⟨by rw [cell_of_row _ _ _ _ _ _ this]; rfl, by rw [cell_of_row _ _ _ _ _ _ this]; rfl, by rw [cell_of_row _ _ _ _ _ _ this]; rfl⟩
  clear hwa hwb f1 f2 s1 hcf r5 hT hM hMc hX hbn hbc hE hen hec hN
  obtain ⟨nb, hnb⟩ : ∃ nb, nb = w.heap.size := ⟨_, rfl⟩
  rw [← hnb] at H5 HCf
  have HNb : Hid (w.heap.size = nb) := hnb.symm
  clear hnb
  obtain ⟨_, k0, k1, k2, k3⟩ := HCf.out wb (Fr.refl _ _)
  go_enter Tryz.func10, Tryz.ntmps10
  go_upto_region 1 with fail
  rw [HW.out, HNb.out]
  go_wp2_with fail
  refine Calls.mono (HC.out _) ?_
  rintro e w1 ⟨rfl, hf1⟩
  have HF1 : Hid (Fr [] wb w1) := hf1
  clear hf1 HC HW k0 k1 k2 k3
  by_cases hc : c.may
  rotate_left
  · have he : Cf.err ⟨c.l, c.s, c.w, c.q⟩ = 7 := if_neg hc
    rw [he]
    have HN : Hid (tkN c ts m xs es = 0 ∧ tkC c ts m xs es = 7) := ⟨if_neg (fun h => hc h.1), if_pos hc⟩
    clear hc he
    go_wp2_with fail
    go_ret2
    exact ⟨by rw [HN.out.1, HN.out.2]; rfl, HFb.out.then HF1.out⟩
  have he : Cf.err ⟨c.l, c.s, c.w, c.q⟩ = 0 := if_pos hc
  rw [he]
  clear he
  have HMay : Hid c.may := hc
  clear hc
  obtain ⟨c0, c1, c2⟩ := H5.out w1 HF1.out
  obtain ⟨_, k0, k1, k2, k3⟩ := HCf.out w1 HF1.out
  go_wp2_with fail
  refine Calls.mono (HS.out _ HMay.out (HFb.out.then HF1.out)) ?_
  rintro e w2 ⟨hf2, ⟨hb, Z, rfl, hS, hx⟩ | ⟨hb, rfl⟩⟩
  rotate_left
  · have HN : Hid (tkN c ts m xs es = 0 ∧ tkC c ts m xs es = 1) := ⟨if_neg (fun h => hb h.2), by unfold tkC; rw [if_neg (fun h => h HMay.out), if_pos hb]⟩
    have HF2 : Hid (Fr [] w w2) := (HFb.out.then HF1.out).then hf2
    clear hb hf2 c0 c1 c2 k0 k1 k2 k3
    go_wp2_with fail
    go_ret2
    exact ⟨by rw [HN.out.1, HN.out.2]; rfl, HF2.out⟩
  have HN : Hid (tkN c ts m xs es = (goes c (txs ts) (sy0 m xs) es).1 ∧ tkC c ts m xs es = folC c (txs ts) (sy0 m xs) es) := ⟨if_pos ⟨HMay.out, hb⟩, by unfold tkC; rw [if_neg (fun h => h HMay.out), if_neg (fun h => h hb)]⟩
  have HFl : Hid (Calls _ _ _ _ _) := HFo.out w1 w2 Z HMay.out hb (HFb.out.then HF1.out) hS hx
  clear hb hS hx c0 c1 c2 k0 k1 k2 k3 HFo
  go_wp2_with fail
  refine Calls.mono HFl.out ?_
  rintro e w3 ⟨rfl, hf3⟩
  have HF3 : Hid (Fr [] w w3) := (HFb.out.then HF1.out).then hf3
  clear hf3
  go_wp2_with fail
  go_ret2
  exact ⟨by rw [HN.out.1, HN.out.2]; rfl, HF3.out⟩
end Go.Proofs.YtaaghcimfcjehaaGreatDoor

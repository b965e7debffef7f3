/- newStory. Conditions as it names them. -/
import Derived.Test.YtaaghcimfcjehaaGreatDoorNe21
namespace Go.Proofs.YtaaghcimfcjehaaGreatDoor
open Go.ChangeShapes Go.WideShapes Go.ChangeAt Go.RowKit Go.Lib Go.Maps
set_option linter.unusedVariables false
set_option linter.unusedSimpArgs false

/-- Of such a log, from such a checkpoint, a story can begin. -/
def Beg (ts : List Tm) (m : Int) (xs : List Int) : Prop := okL 1 (txs ts) ∧ Gok m xs ∧ grt m xs ≤ (ts.length : Int)
/-- What newStory answers. -/
def NewP (c : Cf) (ts : List Tm) (m : Int) (xs : List Int) (lo : Option Addr) (M mc : Nat) (w : World) (e : Ending) (w' : World) : Prop :=
  Fr [] w w' ∧ ((Beg ts m xs ∧ ∃ Z, e = .returned (.tuple #[.pointer (some ⟨Z.sb, 0, none⟩), .bool true]) ∧ SyM w' Z c (sy0 m xs) 0 ∧ Cx w w' Z ts) ∨ (¬ Beg ts m xs ∧ e = .returned (.tuple #[.pointer none, .bool false])))
theorem tx_len (ts : List Tm) : (txs ts).length = ts.length := by simp [txs]
set_option maxHeartbeats 8000000 in
set_option maxRecDepth 100000 in
theorem newS_any (c : Cf) (hc : c.may) (lo : Option Addr) (M mc : Nat) (ts : List Tm) (m : Int) (bo : Option Addr) (bn bc : Nat) (xs : List Int) (ho : Option Addr) (hl hcp : Nat) (w : World)
    (hT : TRs w lo ts) (hM : M = ts.length) (hMc : M ≤ mc) (hX : IRs w bo xs) (hbn : bn = xs.length) (hbc : bn ≤ bc) :
    Calls Tryz.prog 25 #[.agg #[.int .i64 c.l, .int .i64 c.s, .int .i64 c.w, .int .i64 c.q], .slice lo M mc, .agg #[.int .i64 m, .slice bo bn bc, .slice ho hl hcp]] w (NewP c ts m xs lo M mc w) := by
  obtain ⟨ps, cc, hS⟩ := ScTold.ex (txs ts) 0 ⟨#[]⟩ ⟨#[]⟩
  have hcc : cc = 0 ↔ okL 1 (txs ts) := by
    rcases hS.1 with ⟨h1, h2⟩ | ⟨h1, h2, h3⟩ | ⟨h1, h2, h3⟩
    · exact ⟨fun h => absurd h h2, fun h => by have := h1.ok.2 h; exact this⟩
    · exact absurd ⟨Int.le_refl _, by omega⟩ h2
    · exact ⟨fun _ => h1, fun _ => h3⟩
  obtain ⟨wa, hwa⟩ : ∃ wa, wa = w.alloc (.cells #[.int .i64 c.l, .int .i64 c.s, .int .i64 c.w, .int .i64 c.q] 23) := ⟨_, rfl⟩
  obtain ⟨wb, hwb⟩ : ∃ wb, wb = wa.alloc (.cells #[.int .i64 m, .slice bo bn bc, .slice ho hl hcp] 28) := ⟨_, rfl⟩
  have f1 : Fr [] w wa := by rw [hwa]; exact Fr.alloc _ _ _
  have f2 : Fr [] wa wb := by rw [hwb]; exact Fr.alloc _ _ _
  have s1 : wa.heap.size = w.heap.size + 1 := by rw [hwa]; simp
  have hcf : CfM wb w.heap.size c.l c.s c.w c.q := by refine CfM.keep ?_ f2; rw [hwa]; exact CfM.new _ _ _ _ _ _
  have r5 : wb.heap[w.heap.size + 1]? = some (.cells #[.int .i64 m, .slice bo bn bc, .slice ho hl hcp] 28 (0, 0)) := by rw [hwb, ← s1]; exact heap_alloc_new _ _
  have HW : Hid ((w.alloc (.cells #[.int .i64 c.l, .int .i64 c.s, .int .i64 c.w, .int .i64 c.q] 23)).alloc (.cells #[.int .i64 m, .slice bo bn bc, .slice ho hl hcp] 28) = wb) := by show _ = _; rw [hwb, hwa]
  have HFb : Hid (Fr [] w wb) := f1.then f2
  have HCf : Hid (CfM wb w.heap.size c.l c.s c.w c.q) := hcf
  have HS : Hid (∀ W, Fr [] w W → Calls _ _ _ W _) := fun W hf => fStore_any lo M mc 0 ps _ cc ts W (hT.keep hf) hM hMc (by omega) (by omega) hS rfl
  have HG : Hid (∀ W, Fr [] w W → Calls _ _ _ W _) := fun W hf => anew_any m bo bn bc xs W (hX.keep hf) hbn
  have HR : Hid (∀ W, Fr [] w W → Calls _ _ _ W _) := fun W hf => great_any m bo bn bc xs W (hX.keep hf) hbn hbc ho hl hcp
  have H5 : Hid (∀ W, Fr [] wb W → W.cell? ⟨w.heap.size + 1, 0, none⟩ = some (.int .i64 m) ∧ W.cell? ⟨w.heap.size + 1, 1, none⟩ = some (.slice bo bn bc) ∧ W.cell? ⟨w.heap.size + 1, 2, none⟩ = some (.slice ho hl hcp)) := fun W hf => by
    have := hf.keep r5 (by simp)
    exact ⟨by rw [cell_of_row _ _ _ _ _ _ this]; rfl, by rw [cell_of_row _ _ _ _ _ _ this]; rfl, by rw [cell_of_row _ _ _ _ _ _ this]; rfl⟩
  have HT : Hid (TRs w lo ts ∧ M = ts.length) := ⟨hT, hM⟩
  have HCC : Hid (cc = 0 ↔ okL 1 (txs ts)) := hcc
  have hMf : M ≤ 140737488355328 := by have := hT.few; omega
  clear hwa hwb f1 f2 s1 hcf r5 hT hM hMc hX hbn hbc hS hcc
  obtain ⟨nb, hnb⟩ : ∃ nb, nb = w.heap.size := ⟨_, rfl⟩
  rw [← hnb] at H5 HCf
  have HNb : Hid (w.heap.size = nb) := hnb.symm
  clear hnb
  go_enter Tryz.func25, Tryz.ntmps25
  go_upto_region 1 with fail
  rw [HW.out, HNb.out]
  go_wp2_with fail
  refine Calls.mono (HS.out _ HFb.out) ?_
  rintro e w1 ⟨ro, rc, rfl, _, hf1⟩
  have HF1 : Hid (Fr [] wb w1) := hf1
  clear hf1 HS HW
  by_cases h0 : cc = 0
  rotate_left
  · have HN : Hid (¬ Beg ts m xs) := fun h => h0 (HCC.out.2 h.1)
    have h0' : ((cc : Int)) ≠ 0 := by omega
    have hne : ((cc : Int) != 0) = true := by simpa using h0'
    go_wp2_with fail
    go_ret2
    exact ⟨HFb.out.then HF1.out, Or.inr ⟨HN.out, rfl⟩⟩
  have HOk : Hid (okL 1 (txs ts)) := HCC.out.1 h0
  subst h0
  clear HCC
  obtain ⟨c0, c1, c2⟩ := H5.out w1 HF1.out
  go_wp2_with fail
  refine Calls.mono (HG.out _ (HFb.out.then HF1.out)) ?_
  rintro e w2 ⟨hf2, hor⟩
  have HF2 : Hid (Fr [] wb w2) := HF1.out.then hf2
  have hsz : Hid (w.heap.size ≤ w1.heap.size) := (HFb.out.then HF1.out).size
  clear hf2 HG HF1 c0 c1 c2
  obtain ⟨c0, c1, c2⟩ := H5.out w2 HF2.out
  rcases hor with ⟨hgk, g, gw, rfl, hg1, hgm, hgw⟩ | ⟨hgk, rfl⟩
  rotate_left
  · have HN : Hid (¬ Beg ts m xs) := fun h => hgk h.2.1
    clear hgk
    go_wp2_with fail
    go_ret2
    exact ⟨HFb.out.then HF2.out, Or.inr ⟨HN.out, rfl⟩⟩
  have HGG : Hid (GG w2 g m xs ∧ w1.heap.size ≤ g) := ⟨⟨⟨gw, hgm, hgw⟩, hgk⟩, hg1⟩
  clear hgm hgw hg1
  have HGk : Hid (Gok m xs) := hgk
  clear hgk
  go_wp2_with fail
  refine Calls.mono (HR.out _ (HFb.out.then HF2.out)) ?_
  rintro e w3 ⟨rfl, hf3⟩
  have HF3 : Hid (Fr [] wb w3) := HF2.out.then hf3
  have HG3 : Hid (GG w3 g m xs ∧ w.heap.size ≤ g) := ⟨HGG.out.1.keep hf3 (by simp), by have := HGG.out.2; have := hsz.out; omega⟩
  clear hf3 HF2 HGG HR c0 c1 c2 hsz
  obtain ⟨gr, hgr⟩ : ∃ gr, gr = grt m xs := ⟨_, rfl⟩
  have HGr : Hid (gr = grt m xs) := hgr
  rw [← hgr]
  clear hgr
  by_cases hle : gr ≤ (M : Int)
  rotate_left
  · have HN : Hid (¬ Beg ts m xs) := fun h => by have h2 := h.2.2; rw [← HGr.out, ← HT.out.2] at h2; exact hle h2
    have hle2 : (M : Int) < gr := by omega
    go_wp2_with fail
    go_ret2
    exact ⟨HFb.out.then HF3.out, Or.inr ⟨HN.out, rfl⟩⟩
  have hle2 : ¬ (M : Int) < gr := by omega
  have HBg : Hid (Beg ts m xs) := ⟨HOk.out, HGk.out, by rw [← HGr.out, ← HT.out.2]; exact hle⟩
  go_upto_region 7 with fail
  refine wp_region_made (ops := ops7) (w0 := w3) (Φ := Ph c lo M mc g m nb (nb + 1)) (by kernel_rfl) hN7 (hg7 rfl) (hPh7 c lo M mc g m nb (nb + 1)) (hs7 hc rfl rfl rfl rfl rfl (HCf.out.keep HF3.out) (fun W hf => (H5.out W (HF3.out.then hf)).1)) hlex7 ?_
  intro a w4 B hf4 hsz hdf hsame hP hB hA
  obtain ⟨Z, p6, p7, hS, hZg, hZl, hZM, hZc, hown⟩ := sy_made hc (HG3.out.1.keep hf4 (by simp)) HG3.out.1.lt (fun i hi => hP i hi) (fun i hi => hB i hi) (fun i j hij hi hj => hA i j hij hi hj)
  have HE : Hid (NewP c ts m xs lo M mc w (.returned (.tuple #[.pointer (some ⟨Z.sb, 0, none⟩), .bool true])) w4) := by
    refine ⟨(HFb.out.then HF3.out).then hf4, Or.inl ⟨HBg.out, Z, rfl, hS, ⟨(HFb.out.then HF3.out).then hf4, fun x hx => ?_, by rw [hZl]; exact HT.out.1, by rw [hZM]; exact HT.out.2⟩⟩⟩
    rcases hown x hx with rfl | h1
    · exact HG3.out.2
    · exact Nat.le_trans (HFb.out.then HF3.out).size h1
  clear hS hown hP hB hA hsame
  rename_i K hK
  show K a w4
  refine hK a w4 ?_
  go_wp2_with fail
  refine bodyPost_ret (results_tmp2 (t := 6) (u := 7) rfl _ _ _) hdf ?_
  have q6 : a.tmps.getD 6 undef = .pointer (some ⟨Z.sb, 0, none⟩) := p6
  have q7 : a.tmps.getD 7 undef = .bool true := p7
  rw [q6, q7]
  exact HE.out
end Go.Proofs.YtaaghcimfcjehaaGreatDoor

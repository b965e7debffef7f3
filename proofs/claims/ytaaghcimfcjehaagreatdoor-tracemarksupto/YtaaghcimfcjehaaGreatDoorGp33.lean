/- Texts of this claim laid together, one behind the other: contracts and plain lemmas; conditions as each names them. -/
import Derived.Test.YtaaghcimfcjehaaGreatDoorGp32
/- A new story. Conditions as each names them. -/
namespace Go.Proofs.YtaaghcimfcjehaaGreatDoor
open Go.ChangeShapes Go.WideShapes Go.ChangeAt Go.RowKit Go.Lib Go.Maps
set_option linter.unusedVariables false
set_option linter.unusedSimpArgs false

/-- Where a story begins. -/
def sy0 (m : Int) (xs : List Int) : Sy := ⟨m, false, m, xs, [], fun _ => False, fun _ => 0, fun _ => [], fun _ => 0, fun _ => 0⟩
theorem lk_of {T : List Tx} (h : okL 1 T) : Lk T := by
  have hg := fun (n : Int) (h1 : 1 ≤ n) (h2 : n ≤ (T.length : Int)) => okL_get h (n - 1).toNat (by omega)
  refine ⟨okL_few h, fun n h1 h2 => ?_, fun n h1 h2 => ?_, fun n h1 h2 => ?_⟩
  · exact (hg n h1 h2).1.2.2.1
  · have e := (hg n h1 h2).2
    have e2 : ((1 + (n - 1).toNat : Nat) : Int) = n := by omega
    have := (hg n h1 h2).1
    unfold Tx.ok at this
    rw [e, e2] at this
    exact this
  · rw [(hg n h1 h2).2]
    omega
theorem grt_low {m : Int} {xs : List Int} (h : Gok m xs) : m ≤ grt m xs := by
  unfold grt
  split
  · next h0 =>
    have hm : xs.getD (xs.length - 1) 0 ∈ xs := by simp [List.getD, show xs.length - 1 < xs.length by omega]
    have := (h.1.bey _ hm).1
    omega
  · exact Int.le_refl _
theorem iv_zero {c : Cf} {T : List Tx} {m : Int} {xs : List Int} (hc : c.may) (h : Gok m xs) (ht : grt m xs ≤ (T.length : Int)) : Iv c T (sy0 m xs) 0 := by
  have h1 := h.1.low
  have h2 := grt_low h
  have hq := hc.2.2.2.1
  refine ⟨h1, by show m ≤ _; omega, by intro hh; simp [sy0] at hh, by simp [sy0], by simp [sy0], by simp [sy0], fun i => Or.inl rfl, by simp [sy0], by simp [sy0], fun j hj => ?_, by simp [sy0], by simp [sy0], by simp [sy0], by simp [sy0]⟩
  simp [sy0]
  omega
theorem rng_at (n i : Nat) (h : i < n) : (Array.range n)[i]? = some i := by
  have h2 : i < (Array.range n).size := by rw [Array.size_range]; exact h
  rw [Array.getElem?_eq_getElem h2, Array.getElem_range]
theorem zLn_at (n i : Nat) (h : i < n) : (zLn (n * 2))[2 * i]? = some (.int .i64 0) ∧ (zLn (n * 2))[2 * i + 1]? = some (.slice none 0 0) := by
  have e1 : 2 * i % 2 = 0 := by omega
  have e2 : (2 * i + 1) % 2 = 1 := by omega
  constructor
  · simp only [zLn, madeCells, Array.getElem?_map]
    rw [rng_at _ _ (by omega)]
    simp [e1]
  · simp only [zLn, madeCells, Array.getElem?_map]
    rw [rng_at _ _ (by omega)]
    simp [e2]
theorem zQu_at (n i : Nat) (h : i < n) : (zQu (n * 1))[i]? = some (.slice none 0 0) := by
  simp only [zQu, madeCells, Array.getElem?_map]
  rw [rng_at _ _ (by omega)]
  simp [Nat.mod_one]
theorem sy_made {c : Cf} {lo : Option Addr} {M mc g b3 b5 : Nat} {m : Int} {xs : List Int} {w0 w : World} {ρ : Nat → Value} {B : Nat → List Nat} (hc : c.may) (hG : GG w g m xs) (hg : g < w0.heap.size)
    (hP : ∀ i, i < 18 → Ph c lo M mc g m b3 b5 i ρ (B i) w) (hB : ∀ i, i < 18 → ∀ x ∈ B i, w0.heap.size ≤ x ∧ x < w.heap.size) (hA : ∀ i j, i ≠ j → i < 18 → j < 18 → ∀ x ∈ B i, x ∉ B j) :
    ∃ Z, ρ 6 = .pointer (some ⟨Z.sb, 0, none⟩) ∧ ρ 7 = .bool true ∧ SyM w Z c (sy0 m xs) 0 ∧ Z.g = g ∧ Z.logo = lo ∧ Z.M = M ∧ Z.mc = mc ∧ (∀ x ∈ Z.own, x = g ∨ w0.heap.size ≤ x) := by
  obtain ⟨_, p37⟩ := hP 1 (by omega)
  obtain ⟨_, p38⟩ := hP 2 (by omega)
  obtain ⟨tb, p39, hT⟩ := hP 3 (by omega)
  obtain ⟨_, p41⟩ := hP 5 (by omega)
  obtain ⟨lb, p44, b8, hL⟩ := hP 8 (by omega)
  obtain ⟨qq, p47, b11, hQ⟩ := hP 11 (by omega)
  obtain ⟨ob, p48, b12, hO⟩ := hP 12 (by omega)
  obtain ⟨cb, p49, b13, hC⟩ := hP 13 (by omega)
  obtain ⟨_, p50⟩ := hP 14 (by omega)
  obtain ⟨sb, cells, q50, p51, b15, hS⟩ := hP 15 (by omega)
  obtain ⟨_, p6⟩ := hP 16 (by omega)
  obtain ⟨_, p7⟩ := hP 17 (by omega)
  rw [p37, p38, p39, p41, p44, p47, p48, p49] at p50
  rw [p50] at q50
  cases q50
  have mem : ∀ i b, B i = [b] → b ∈ B i := fun i b h => by rw [h]; simp
  have ne : ∀ i j a b, i ≠ j → i < 18 → j < 18 → B i = [a] → B j = [b] → a ≠ b := by
    intro i j a b hij hi hj ha hb e
    subst e
    exact hA i j hij hi hj a (mem i a ha) (mem j a hb)
  have neB : ∀ i a, i ≠ 3 → i < 18 → B i = [a] → a ∉ B 3 := fun i a hi hl ha => hA i 3 hi hl (by omega) a (mem i a ha)
  have lo' : ∀ i a, i < 18 → B i = [a] → w0.heap.size ≤ a := fun i a hi ha => (hB i hi a (mem i a ha)).1
  have l8 := lo' 8 lb (by omega) b8
  have l11 := lo' 11 qq (by omega) b11
  have l12 := lo' 12 ob (by omega) b12
  have l13 := lo' 13 cb (by omega) b13
  have l15 := lo' 15 sb (by omega) b15
  have d1 := ne 15 8 sb lb (by omega) (by omega) (by omega) b15 b8
  have d2 := ne 15 11 sb qq (by omega) (by omega) (by omega) b15 b11
  have d3 := ne 15 12 sb ob (by omega) (by omega) (by omega) b15 b12
  have d4 := ne 15 13 sb cb (by omega) (by omega) (by omega) b15 b13
  have d5 := ne 8 11 lb qq (by omega) (by omega) (by omega) b8 b11
  have d6 := ne 8 12 lb ob (by omega) (by omega) (by omega) b8 b12
  have d7 := ne 8 13 lb cb (by omega) (by omega) (by omega) b8 b13
  have d8 := ne 11 12 qq ob (by omega) (by omega) (by omega) b11 b12
  have d9 := ne 11 13 qq cb (by omega) (by omega) (by omega) b11 b13
  have d10 := ne 12 13 ob cb (by omega) (by omega) (by omega) b12 b13
  have hrows : (⟨sb, g, tb, lb, qq, ob, cb, B 3, fun _ => Sq.no, lo, M, mc⟩ : Zs).rows = [] := by
    refine List.eq_nil_iff_forall_not_mem.2 fun b hb => ?_
    obtain ⟨i, _, hi⟩ := Zs.rows_mem hb
    simp [Sq.no, qb] at hi
  refine ⟨⟨sb, g, tb, lb, qq, ob, cb, B 3, fun _ => Sq.no, lo, M, mc⟩, by rw [p6, p51], p7, ?_, rfl, rfl, rfl, rfl, fun x hx => ?_⟩
  · refine ⟨hS, ⟨_, hL, ?_, fun i hi => zLn_at _ i hi⟩, ⟨_, hQ, ?_, fun j hj => zQu_at _ j hj⟩, fun i => QR.nil w, hG, ⟨Dt.none, hT, Inv.none, by simp [Dt.none]⟩, ⟨_, hO, fun n => rfl⟩, ⟨_, hC, fun n => rfl⟩, ?_, hc⟩
    · simp [zLn, size_madeCells]; omega
    · simp [zQu, size_madeCells]
    · refine ⟨?_, fun x hx => ?_, fun i b hb => by simp [Sq.no, qb] at hb, fun i j b _ hb => by simp [Sq.no, qb] at hb, fun i _ => rfl⟩
      · simp only [Zs.six, List.nodup_cons, List.mem_cons, List.not_mem_nil, or_false, not_or, List.nodup_nil, not_false_eq_true, and_true]
        refine ⟨⟨by omega, d1, d2, d3, d4⟩, ⟨by omega, by omega, by omega, by omega⟩, ⟨d5, d6, d7⟩, ⟨d8, d9⟩, d10⟩
      · simp only [Zs.six, List.mem_cons, List.not_mem_nil, or_false] at hx
        rcases hx with rfl | rfl | rfl | rfl | rfl | rfl
        · exact neB 15 _ (by omega) (by omega) b15
        · intro hh
          have := (hB 3 (by omega) _ hh).1
          omega
        · exact neB 8 _ (by omega) (by omega) b8
        · exact neB 11 _ (by omega) (by omega) b11
        · exact neB 12 _ (by omega) (by omega) b12
        · exact neB 13 _ (by omega) (by omega) b13
  · rw [Zs.mem_own, hrows] at hx
    simp only [Zs.six, List.mem_cons, List.not_mem_nil, or_false] at hx
    rcases hx with (rfl | rfl | rfl | rfl | rfl | rfl) | hx
    · exact Or.inr l15
    · exact Or.inl rfl
    · exact Or.inr l8
    · exact Or.inr l11
    · exact Or.inr l12
    · exact Or.inr l13
    · exact Or.inr (hB 3 (by omega) x hx).1
end Go.Proofs.YtaaghcimfcjehaaGreatDoor
/- newStory. Conditions as it names them. -/
namespace Go.Proofs.YtaaghcimfcjehaaGreatDoor
open Go.ChangeShapes Go.WideShapes Go.ChangeAt Go.RowKit Go.Lib Go.Maps
set_option linter.unusedVariables false
set_option linter.unusedSimpArgs false

/-- Of such a log, from such a checkpoint, a story can begin. -/
def Beg (ts : List Tm) (m : Int) (xs : List Int) : Prop := okL 1 (txs ts) ∧ Gok m xs ∧ grt m xs ≤ (ts.length : Int)
/-- What newStory answers. -/
def NewP (c : Cf) (ts : List Tm) (m : Int) (xs : List Int) (lo : Option Addr) (M mc : Nat) (w : World) (e : Ending) (w' : World) : Prop :=
  Fr [] w w' ∧ ((Beg ts m xs ∧ ∃ Z, e = .returned (.tuple #[.pointer (some ⟨Z.sb, 0, none⟩), .bool true]) ∧ SyM w' Z c (sy0 m xs) 0 ∧ Cx w w' Z ts) ∨ (¬ Beg ts m xs ∧ e = .returned (.tuple #[.pointer none, .bool false])))
theorem tx_len (ts : List Tm) : (txs ts).length = ts.length := by simp [txs]
set_option maxHeartbeats 8000000 in
set_option maxRecDepth 100000 in
theorem newS_any (c : Cf) (hc : c.may) (lo : Option Addr) (M mc : Nat) (ts : List Tm) (m : Int) (bo : Option Addr) (bn bc : Nat) (xs : List Int) (ho : Option Addr) (hl hcp : Nat) (w : World)
    (hT : TRs w lo ts) (hM : M = ts.length) (hMc : M ≤ mc) (hX : IRs w bo xs) (hbn : bn = xs.length) (hbc : bn ≤ bc) :
    Calls Tryz.prog 25 #[.agg #[.int .i64 c.l, .int .i64 c.s, .int .i64 c.w, .int .i64 c.q], .slice lo M mc, .agg #[.int .i64 m, .slice bo bn bc, .slice ho hl hcp]] w (NewP c ts m xs lo M mc w) := by
  obtain ⟨ps, cc, hS⟩ := ScTold.ex (txs ts) 0 ⟨#[]⟩ ⟨#[]⟩
  have hcc : cc = 0 ↔ okL 1 (txs ts) := by
    rcases hS.1 with ⟨h1, h2⟩ | ⟨h1, h2, h3⟩ | ⟨h1, h2, h3⟩
    · exact ⟨fun h => absurd h h2, fun h => by have := h1.ok.2 h; exact this⟩
    · exact absurd ⟨Int.le_refl _, by omega⟩ h2
    · exact ⟨fun _ => h1, fun _ => h3⟩
  obtain ⟨wa, hwa⟩ : ∃ wa, wa = w.alloc (.cells #[.int .i64 c.l, .int .i64 c.s, .int .i64 c.w, .int .i64 c.q] 23) := ⟨_, rfl⟩
  obtain ⟨wb, hwb⟩ : ∃ wb, wb = wa.alloc (.cells #[.int .i64 m, .slice bo bn bc, .slice ho hl hcp] 28) := ⟨_, rfl⟩
  have f1 : Fr [] w wa := by rw [hwa]; exact Fr.alloc _ _ _
  have f2 : Fr [] wa wb := by rw [hwb]; exact Fr.alloc _ _ _
  have s1 : wa.heap.size = w.heap.size + 1 := by rw [hwa]; simp
  have hcf : CfM wb w.heap.size c.l c.s c.w c.q := by refine CfM.keep ?_ f2; rw [hwa]; exact CfM.new _ _ _ _ _ _
  have r5 : wb.heap[w.heap.size + 1]? = some (.cells #[.int .i64 m, .slice bo bn bc, .slice ho hl hcp] 28 (0, 0)) := by rw [hwb, ← s1]; exact heap_alloc_new _ _
  have HW : Hid ((w.alloc (.cells #[.int .i64 c.l, .int .i64 c.s, .int .i64 c.w, .int .i64 c.q] 23)).alloc (.cells #[.int .i64 m, .slice bo bn bc, .slice ho hl hcp] 28) = wb) := by show _ = _; rw [hwb, hwa]
  have HFb : Hid (Fr [] w wb) := f1.then f2
  have HCf : Hid (CfM wb w.heap.size c.l c.s c.w c.q) := hcf
  have HS : Hid (∀ W, Fr [] w W → Calls _ _ _ W _) := fun W hf => fStore_any lo M mc 0 ps _ cc ts W (hT.keep hf) hM hMc (by omega) (by omega) hS rfl
  have HG : Hid (∀ W, Fr [] w W → Calls _ _ _ W _) := fun W hf => anew_any m bo bn bc xs W (hX.keep hf) hbn
  have HR : Hid (∀ W, Fr [] w W → Calls _ _ _ W _) := fun W hf => great_any m bo bn bc xs W (hX.keep hf) hbn hbc ho hl hcp
  have H5 : Hid (∀ W, Fr [] wb W → W.cell? ⟨w.heap.size + 1, 0, none⟩ = some (.int .i64 m) ∧ W.cell? ⟨w.heap.size + 1, 1, none⟩ = some (.slice bo bn bc) ∧ W.cell? ⟨w.heap.size + 1, 2, none⟩ = some (.slice ho hl hcp)) := fun W hf => by
    have := hf.keep r5 (by simp)
    exact ⟨by rw [cell_of_row _ _ _ _ _ _ this]; rfl, by rw [cell_of_row _ _ _ _ _ _ this]; rfl, by rw [cell_of_row _ _ _ _ _ _ this]; rfl⟩
  have HT : Hid (TRs w lo ts ∧ M = ts.length) := ⟨hT, hM⟩
  have HCC : Hid (cc = 0 ↔ okL 1 (txs ts)) := hcc
  have hMf : M ≤ 140737488355328 := by have := hT.few; omega
  clear hwa hwb f1 f2 s1 hcf r5 hT hM hMc hX hbn hbc hS hcc
  obtain ⟨nb, hnb⟩ : ∃ nb, nb = w.heap.size := ⟨_, rfl⟩
  rw [← hnb] at H5 HCf
  have HNb : Hid (w.heap.size = nb) := hnb.symm
  clear hnb
  go_enter Tryz.func25, Tryz.ntmps25
  go_upto_region 1 with fail
  rw [HW.out, HNb.out]
  go_wp2_with fail
  refine Calls.mono (HS.out _ HFb.out) ?_
  rintro e w1 ⟨ro, rc, rfl, _, hf1⟩
  have HF1 : Hid (Fr [] wb w1) := hf1
  clear hf1 HS HW
  by_cases h0 : cc = 0
  rotate_left
  · have HN : Hid (¬ Beg ts m xs) := fun h => h0 (HCC.out.2 h.1)
    have h0' : ((cc : Int)) ≠ 0 := by omega
    have hne : ((cc : Int) != 0) = true := by simpa using h0'
    go_wp2_with fail
    go_ret2
    exact ⟨HFb.out.then HF1.out, Or.inr ⟨HN.out, rfl⟩⟩
  have HOk : Hid (okL 1 (txs ts)) := HCC.out.1 h0
  subst h0
  clear HCC
  obtain ⟨c0, c1, c2⟩ := H5.out w1 HF1.out
  go_wp2_with fail
  refine Calls.mono (HG.out _ (HFb.out.then HF1.out)) ?_
  rintro e w2 ⟨hf2, hor⟩
  have HF2 : Hid (Fr [] wb w2) := HF1.out.then hf2
  have hsz : Hid (w.heap.size ≤ w1.heap.size) := (HFb.out.then HF1.out).size
  clear hf2 HG HF1 c0 c1 c2
  obtain ⟨c0, c1, c2⟩ := H5.out w2 HF2.out
  rcases hor with ⟨hgk, g, gw, rfl, hg1, hgm, hgw⟩ | ⟨hgk, rfl⟩
  rotate_left
  · have HN : Hid (¬ Beg ts m xs) := fun h => hgk h.2.1
    clear hgk
    go_wp2_with fail
    go_ret2
    exact ⟨HFb.out.then HF2.out, Or.inr ⟨HN.out, rfl⟩⟩
  have HGG : Hid (GG w2 g m xs ∧ w1.heap.size ≤ g) := ⟨⟨⟨gw, hgm, hgw⟩, hgk⟩, hg1⟩
  clear hgm hgw hg1
  have HGk : Hid (Gok m xs) := hgk
  clear hgk
  go_wp2_with fail
  refine Calls.mono (HR.out _ (HFb.out.then HF2.out)) ?_
  rintro e w3 ⟨rfl, hf3⟩
  have HF3 : Hid (Fr [] wb w3) := HF2.out.then hf3
  have HG3 : Hid (GG w3 g m xs ∧ w.heap.size ≤ g) := ⟨HGG.out.1.keep hf3 (by simp), by have := HGG.out.2; have := hsz.out; omega⟩
  clear hf3 HF2 HGG HR c0 c1 c2 hsz
  obtain ⟨gr, hgr⟩ : ∃ gr, gr = grt m xs := ⟨_, rfl⟩
  have HGr : Hid (gr = grt m xs) := hgr
  rw [← hgr]
  clear hgr
  by_cases hle : gr ≤ (M : Int)
  rotate_left
  · have HN : Hid (¬ Beg ts m xs) := fun h => by have h2 := h.2.2; rw [← HGr.out, ← HT.out.2] at h2; exact hle h2
    have hle2 : (M : Int) < gr := by omega
    go_wp2_with fail
    go_ret2
    exact ⟨HFb.out.then HF3.out, Or.inr ⟨HN.out, rfl⟩⟩
  have hle2 : ¬ (M : Int) < gr := by omega
  have HBg : Hid (Beg ts m xs) := ⟨HOk.out, HGk.out, by rw [← HGr.out, ← HT.out.2]; exact hle⟩
  go_upto_region 7 with fail
  refine wp_region_made (ops := ops7) (w0 := w3) (Φ := Ph c lo M mc g m nb (nb + 1)) (by kernel_rfl) hN7 (hg7 rfl) (hPh7 c lo M mc g m nb (nb + 1)) (hs7 hc rfl rfl rfl rfl rfl (HCf.out.keep HF3.out) (fun W hf => (H5.out W (HF3.out.then hf)).1)) hlex7 ?_
  intro a w4 B hf4 hsz hdf hsame hP hB hA
  obtain ⟨Z, p6, p7, hS, hZg, hZl, hZM, hZc, hown⟩ := sy_made hc (HG3.out.1.keep hf4 (by simp)) HG3.out.1.lt (fun i hi => hP i hi) (fun i hi => hB i hi) (fun i j hij hi hj => hA i j hij hi hj)
  have HE : Hid (NewP c ts m xs lo M mc w (.returned (.tuple #[.pointer (some ⟨Z.sb, 0, none⟩), .bool true])) w4) := by
    refine ⟨(HFb.out.then HF3.out).then hf4, Or.inl ⟨HBg.out, Z, rfl, hS, ⟨(HFb.out.then HF3.out).then hf4, fun x hx => ?_, by rw [hZl]; exact HT.out.1, by rw [hZM]; exact HT.out.2⟩⟩⟩
    rcases hown x hx with rfl | h1
    · exact HG3.out.2
    · exact Nat.le_trans (HFb.out.then HF3.out).size h1
  clear hS hown hP hB hA hsame
  rename_i K hK
  show K a w4
  refine hK a w4 ?_
  go_wp2_with fail
  refine bodyPost_ret (results_tmp2 (t := 6) (u := 7) rfl _ _ _) hdf ?_
  have q6 : a.tmps.getD 6 undef = .pointer (some ⟨Z.sb, 0, none⟩) := p6
  have q7 : a.tmps.getD 7 undef = .bool true := p7
  rw [q6, q7]
  exact HE.out
end Go.Proofs.YtaaghcimfcjehaaGreatDoor
/- Check. Conditions as it names them. -/
namespace Go.Proofs.YtaaghcimfcjehaaGreatDoor
open Go.ChangeShapes Go.WideShapes Go.ChangeAt Go.RowKit Go.Lib Go.Maps
set_option linter.unusedVariables false
set_option linter.unusedSimpArgs false

open Classical in
/-- The place that Check tells; what is wrong. -/
noncomputable def tkN (c : Cf) (ts : List Tm) (m : Int) (xs : List Int) (es : List Ev) : Nat := if c.may ∧ Beg ts m xs then (goes c (txs ts) (sy0 m xs) es).1 else 0
open Classical in
noncomputable def tkC (c : Cf) (ts : List Tm) (m : Int) (xs : List Int) (es : List Ev) : Int := if ¬ c.may then 7 else if ¬ Beg ts m xs then 1 else folC c (txs ts) (sy0 m xs) es
set_option maxHeartbeats 8000000 in
set_option maxRecDepth 100000 in
theorem tk_any (c : Cf) (lo : Option Addr) (M mc : Nat) (ts : List Tm) (m : Int) (bo : Option Addr) (bn bc : Nat) (xs : List Int) (ho : Option Addr) (hl hcp : Nat) (eo : Option Addr) (en ec : Nat) (es : List Ev) (w : World)
    (hN : Nms w) (hT : TRs w lo ts) (hM : M = ts.length) (hMc : M ≤ mc) (hX : IRs w bo xs) (hbn : bn = xs.length) (hbc : bn ≤ bc) (hE : ERs w eo es) (hen : en = es.length) (hec : en ≤ ec) (hk : es.length ≤ 4194304) :
    Calls Tryz.prog 10 #[.agg #[.int .i64 c.l, .int .i64 c.s, .int .i64 c.w, .int .i64 c.q], .slice lo M mc, .agg #[.int .i64 m, .slice bo bn bc, .slice ho hl hcp], .slice eo en ec] w fun e w' => e = .returned (.tuple #[.int .i64 ((tkN c ts m xs es : Nat) : Int), .int .i64 (tkC c ts m xs es)]) ∧ Fr [] w w' := by
  obtain ⟨wa, hwa⟩ : ∃ wa, wa = w.alloc (.cells #[.int .i64 c.l, .int .i64 c.s, .int .i64 c.w, .int .i64 c.q] 23) := ⟨_, rfl⟩
  obtain ⟨wb, hwb⟩ : ∃ wb, wb = wa.alloc (.cells #[.int .i64 m, .slice bo bn bc, .slice ho hl hcp] 28) := ⟨_, rfl⟩
  have f1 : Fr [] w wa := by rw [hwa]; exact Fr.alloc _ _ _
  have f2 : Fr [] wa wb := by rw [hwb]; exact Fr.alloc _ _ _
  have s1 : wa.heap.size = w.heap.size + 1 := by rw [hwa]; simp
  have hcf : CfM wb w.heap.size c.l c.s c.w c.q := by refine CfM.keep ?_ f2; rw [hwa]; exact CfM.new _ _ _ _ _ _
  have r5 : wb.heap[w.heap.size + 1]? = some (.cells #[.int .i64 m, .slice bo bn bc, .slice ho hl hcp] 28 (0, 0)) := by rw [hwb, ← s1]; exact heap_alloc_new _ _
  have HW : Hid ((w.alloc (.cells #[.int .i64 c.l, .int .i64 c.s, .int .i64 c.w, .int .i64 c.q] 23)).alloc (.cells #[.int .i64 m, .slice bo bn bc, .slice ho hl hcp] 28) = wb) := by show _ = _; rw [hwb, hwa]
  have HFb : Hid (Fr [] w wb) := f1.then f2
  have HCf : Hid (∀ W, Fr [] wb W → CfM W w.heap.size c.l c.s c.w c.q) := fun W hf => hcf.keep hf
  have HC : Hid (∀ W, Calls _ _ _ W _) := fun W => check_cells c.l c.s c.w c.q W
  have HS : Hid (∀ W, c.may → Fr [] w W → Calls _ _ _ W _) := fun W hc hf => newS_any c hc lo M mc ts m bo bn bc xs ho hl hcp W (hT.keep hf) hM hMc (hX.keep hf) hbn hbc
  have HFo : Hid (∀ W W' Z, c.may → Beg ts m xs → Fr [] w W → SyM W' Z c (sy0 m xs) 0 → Cx W W' Z ts → Calls Tryz.prog 26 #[.pointer (some ⟨Z.sb, 0, none⟩), .slice eo en ec] W' fun e w' => e = .returned (.tuple #[.int .i64 ((goes c (txs ts) (sy0 m xs) es).1 : Int), .int .i64 (folC c (txs ts) (sy0 m xs) es)]) ∧ Fr [] W w') := fun W W' Z hc hb hf hS hx => by
    rw [hen]
    exact follow_any ⟨hS, hx, lk_of hb.1, iv_zero hc hb.2.1 (by rw [tx_len]; exact hb.2.2), by omega⟩ (hN.keep hf (by simp)) (hE.keep hf) (by omega) (by omega)
  have H5 : Hid (∀ W, Fr [] wb W → W.cell? ⟨w.heap.size + 1, 0, none⟩ = some (.int .i64 m) ∧ W.cell? ⟨w.heap.size + 1, 1, none⟩ = some (.slice bo bn bc) ∧ W.cell? ⟨w.heap.size + 1, 2, none⟩ = some (.slice ho hl hcp)) := fun W hf => by
    have := hf.keep r5 (by simp)
    exact ⟨by rw [cell_of_row _ _ _ _ _ _ this]; rfl, by rw [cell_of_row _ _ _ _ _ _ this]; rfl, by rw [cell_of_row _ _ _ _ _ _ this]; rfl⟩
  clear hwa hwb f1 f2 s1 hcf r5 hT hM hMc hX hbn hbc hE hen hec hN
  obtain ⟨nb, hnb⟩ : ∃ nb, nb = w.heap.size := ⟨_, rfl⟩
  rw [← hnb] at H5 HCf
  have HNb : Hid (w.heap.size = nb) := hnb.symm
  clear hnb
  obtain ⟨_, k0, k1, k2, k3⟩ := HCf.out wb (Fr.refl _ _)
  go_enter Tryz.func10, Tryz.ntmps10
  go_upto_region 1 with fail
  rw [HW.out, HNb.out]
  go_wp2_with fail
  refine Calls.mono (HC.out _) ?_
  rintro e w1 ⟨rfl, hf1⟩
  have HF1 : Hid (Fr [] wb w1) := hf1
  clear hf1 HC HW k0 k1 k2 k3
  by_cases hc : c.may
  rotate_left
  · have he : Cf.err ⟨c.l, c.s, c.w, c.q⟩ = 7 := if_neg hc
    rw [he]
    have HN : Hid (tkN c ts m xs es = 0 ∧ tkC c ts m xs es = 7) := ⟨if_neg (fun h => hc h.1), if_pos hc⟩
    clear hc he
    go_wp2_with fail
    go_ret2
    exact ⟨by rw [HN.out.1, HN.out.2]; rfl, HFb.out.then HF1.out⟩
  have he : Cf.err ⟨c.l, c.s, c.w, c.q⟩ = 0 := if_pos hc
  rw [he]
  clear he
  have HMay : Hid c.may := hc
  clear hc
  obtain ⟨c0, c1, c2⟩ := H5.out w1 HF1.out
  obtain ⟨_, k0, k1, k2, k3⟩ := HCf.out w1 HF1.out
  go_wp2_with fail
  refine Calls.mono (HS.out _ HMay.out (HFb.out.then HF1.out)) ?_
  rintro e w2 ⟨hf2, ⟨hb, Z, rfl, hS, hx⟩ | ⟨hb, rfl⟩⟩
  rotate_left
  · have HN : Hid (tkN c ts m xs es = 0 ∧ tkC c ts m xs es = 1) := ⟨if_neg (fun h => hb h.2), by unfold tkC; rw [if_neg (fun h => h HMay.out), if_pos hb]⟩
    have HF2 : Hid (Fr [] w w2) := (HFb.out.then HF1.out).then hf2
    clear hb hf2 c0 c1 c2 k0 k1 k2 k3
    go_wp2_with fail
    go_ret2
    exact ⟨by rw [HN.out.1, HN.out.2]; rfl, HF2.out⟩
  have HN : Hid (tkN c ts m xs es = (goes c (txs ts) (sy0 m xs) es).1 ∧ tkC c ts m xs es = folC c (txs ts) (sy0 m xs) es) := ⟨if_pos ⟨HMay.out, hb⟩, by unfold tkC; rw [if_neg (fun h => h HMay.out), if_neg (fun h => h hb)]⟩
  have HFl : Hid (Calls _ _ _ _ _) := HFo.out w1 w2 Z HMay.out hb (HFb.out.then HF1.out) hS hx
  clear hb hS hx c0 c1 c2 k0 k1 k2 k3 HFo
  go_wp2_with fail
  refine Calls.mono HFl.out ?_
  rintro e w3 ⟨rfl, hf3⟩
  have HF3 : Hid (Fr [] w w3) := (HFb.out.then HF1.out).then hf3
  clear hf3
  go_wp2_with fail
  go_ret2
  exact ⟨by rw [HN.out.1, HN.out.2]; rfl, HF3.out⟩
end Go.Proofs.YtaaghcimfcjehaaGreatDoor
/- The statements' own example as mathematics: its seven events go, without the first none goes. No conditions. -/
namespace Go.Proofs.YtaaghcimfcjehaaGreatDoor
set_option linter.unusedVariables false
set_option linter.unusedSimpArgs false

def lc : Cf := ⟨1, 1, 4, 1⟩
def lW : List Wt := [⟨⟨#[97]⟩, ⟨#[49]⟩, false⟩]
def lT : List Tx := [⟨1, lW⟩]
def lE : List Ev := [⟨0, 1, 1, 0, 0, 0⟩, ⟨0, 3, 1, 0, 0, 0⟩, ⟨1, 4, 1, 0, 0, 0⟩, ⟨1, 5, 1, 0, 0, 0⟩, ⟨2, 7, 1, 0, 0, 0⟩, ⟨1, 6, 1, 0, 0, 0⟩, ⟨3, 8, 1, 0, 1, 1⟩]
theorem lW_ok : ∀ x ∈ lW, okW x := by
  intro x hx
  simp only [lW, List.mem_cons, List.not_mem_nil, or_false] at hx
  subst hx
  exact ⟨by decide, by decide, by decide, fun h => by simp at h⟩
theorem lT_ok : okL 1 lT := ⟨⟨by decide, by decide, by decide, lW_ok⟩, rfl, trivial⟩
theorem l_may : lc.may := by unfold Cf.may lc; decide
theorem l_gok : Gok 0 [] := ⟨⟨by omega, by omega, List.Pairwise.nil, by simp⟩, by simp⟩
theorem wsAt1 : wsAt lT 1 = lW := rfl
theorem dd1 : dd lW = lW := by
  have hk : Kept lW 0 := by
    intro m h1 h2
    have : lW.length = 1 := rfl
    omega
  show ddTo lW 1 = lW
  rw [ddTo_yes hk]
  rfl
theorem shs1 : shs lc lT 1 = [0] := by
  unfold shs
  rw [wsAt1, dd1]
  simp [lW, shN13, lc, Int.emod_one]
theorem adx1 (en : Int → Prop) (ks : List ByteArray) : adx [] en ks = [] := by
  refine adx_eq ⟨List.Pairwise.nil, fun m => ⟨fun h => by simp at h, fun h => ?_⟩⟩
  obtain ⟨⟨⟨p, hp, _⟩, _⟩, _⟩ := h
  simp at hp
noncomputable def k0 : Sy := sy0 0 []
noncomputable def k1 : Sy := (stp lc lT k0 ⟨0, 1, 1, 0, 0, 0⟩).2
noncomputable def k2 : Sy := (stp lc lT k1 ⟨0, 3, 1, 0, 0, 0⟩).2
noncomputable def k3 : Sy := (stp lc lT k2 ⟨1, 4, 1, 0, 0, 0⟩).2
noncomputable def k4 : Sy := (stp lc lT k3 ⟨1, 5, 1, 0, 0, 0⟩).2
noncomputable def k5 : Sy := (stp lc lT k4 ⟨2, 7, 1, 0, 0, 0⟩).2
noncomputable def k6 : Sy := (stp lc lT k5 ⟨1, 6, 1, 0, 0, 0⟩).2
noncomputable def k7 : Sy := (stp lc lT k6 ⟨3, 8, 1, 0, 1, 1⟩).2
theorem q1 : stp lc lT k0 ⟨0, 1, 1, 0, 0, 0⟩ = (⟨1, 1, 0, 0⟩, { k0 with read := 1, holds := true }) := by
  simp [stp, dsp, k0, sy0, lT]
theorem k1_eq : k1 = { k0 with read := 1, holds := true } := by unfold k1; rw [q1]
theorem q2 : stp lc lT k1 ⟨0, 3, 1, 0, 0, 0⟩ = (⟨3, 1, 0, 0⟩, { k1 with holds := false, L := [(1, keysW lW)], R := upd k1.R 0 [1] }) := by
  rw [k1_eq]
  simp [stp, dsp, k0, sy0, wsAt1, adx1, lc]
theorem k2_eq : k2 = { k1 with holds := false, L := [(1, keysW lW)], R := upd k1.R 0 [1] } := by unfold k2; rw [q2]
theorem q3 : stp lc lT k2 ⟨1, 4, 1, 0, 0, 0⟩ = (⟨4, 1, 0, 0⟩, { k2 with num := upd k2.num 0 1, R := upd (upd k2.R 0 []) 2 [0] }) := by
  rw [k2_eq, k1_eq]
  simp only [stp, lan, k0, sy0, lc, upd_same]
  simp
  rw [show shs ⟨1, 1, 4, 1⟩ lT 1 = [0] from shs1]
theorem k3_eq : k3 = { k2 with num := upd k2.num 0 1, R := upd (upd k2.R 0 []) 2 [0] } := by unfold k3; rw [q3]
theorem k3R (j : Nat) (h0 : j ≠ 0) (h2 : j ≠ 2) : k3.R j = [] := by rw [k3_eq, k2_eq, k1_eq]; simp [upd, h0, h2, k0, sy0]
theorem k3R0 : k3.R 0 = [] := by rw [k3_eq]; simp [upd]
theorem k3R2 : k3.R 2 = [0] := by rw [k3_eq]; simp [upd]
theorem k3n : k3.num 0 = 1 := by rw [k3_eq]; simp [upd]
theorem k3F (n : Int) : k3.F n = 0 := by rw [k3_eq, k2_eq, k1_eq]; rfl
theorem k3m : k3.ma = 0 := by rw [k3_eq, k2_eq, k1_eq]; rfl
theorem k3x : k3.bx = [] := by rw [k3_eq, k2_eq, k1_eq]; rfl
theorem q4 : stp lc lT k3 ⟨1, 5, 1, 0, 0, 0⟩ = (⟨5, 1, 0, 0⟩, { asks k3 0 1 with R := upd (asks k3 0 1).R 2 [] }) := by
  have h18 := k3R 18 (by decide) (by decide)
  simp [stp, lan, lc, k3n, k3R2, h18]
theorem k4_eq : k4 = { asks k3 0 1 with R := upd (asks k3 0 1).R 2 [] } := by unfold k4; rw [q4]
theorem k4q : k4.R 18 = [1] := by rw [k4_eq]; simp [asks, upd, k3R 18 (by decide) (by decide)]
theorem k4n : k4.num 0 = 1 := by rw [k4_eq]; exact k3n
theorem k4R2 : k4.R 2 = [] := by rw [k4_eq]; simp [upd]
theorem k4R1 : k4.R 1 = [] := by rw [k4_eq]; simp [asks, upd, k3R 1 (by decide) (by decide)]
theorem k4F : k4.F 1 = 1 := by rw [k4_eq]; simp [asks, updI, k3F]
theorem k4m : k4.ma = 0 ∧ k4.bx = [] := by rw [k4_eq]; exact ⟨k3m, k3x⟩
theorem q5 : stp lc lT k4 ⟨2, 7, 1, 0, 0, 0⟩ = (⟨7, 1, 0, 0⟩, { k4 with R := upd k4.R 18 [], F := updI k4.F 1 (k4.F 1 - 1) }) := by
  simp [stp, own, lc, k4q]
theorem k5_eq : k5 = { k4 with R := upd k4.R 18 [], F := updI k4.F 1 (k4.F 1 - 1) } := by unfold k5; rw [q5]
theorem k5n : k5.num 0 = 1 := by rw [k5_eq]; exact k4n
theorem k5R2 : k5.R 2 = [] := by rw [k5_eq]; simp [upd, k4R2]
theorem k5R1 : k5.R 1 = [] := by rw [k5_eq]; simp [upd, k4R1]
theorem k5F : k5.F 1 = 0 := by rw [k5_eq]; simp [updI, k4F]
theorem k5m : k5.ma = 0 ∧ k5.bx = [] := by rw [k5_eq]; exact k4m
theorem q6 : stp lc lT k5 ⟨1, 6, 1, 0, 0, 0⟩ = (⟨6, 1, 0, 0⟩, { k5 with num := upd k5.num 0 0, R := upd k5.R 1 [1] }) := by
  simp [stp, lan, lc, k5n, k5R2, k5R1, k5F]
theorem k6_eq : k6 = { k5 with num := upd k5.num 0 0, R := upd k5.R 1 [1] } := by unfold k6; rw [q6]
theorem k6R1 : k6.R 1 = [1] := by rw [k6_eq]; simp [upd]
theorem k6m : k6.ma = 0 ∧ k6.bx = [] := by rw [k6_eq]; exact k5m
theorem gdx1 : gdx 0 [] 1 = (1, 1, []) := by simp [gdx, insI, adv]
theorem q7 : (stp lc lT k6 ⟨3, 8, 1, 0, 1, 1⟩).1 = ⟨8, 1, 0, 1⟩ ∧ (stp lc lT k6 ⟨3, 8, 1, 0, 1, 1⟩).2.ma = 1 := by
  simp [stp, gat, lc, k6R1, k6m.1, k6m.2, gdx1]
theorem can_of {c : Cf} {T : List Tx} {s : Sy} {e : Ev} {a : Te} {s' : Sy} (ht : e.t < c.l + c.s + 2) (h : stp c T s e = (a, s')) (hk : a.k ≠ 0) (he : (⟨e.t, a.k, a.n, a.s, a.c, s'.ma⟩ : Ev) = e) : Can c T s e := by
  unfold Can tolE
  rw [if_pos ht, h]
  exact ⟨hk, he⟩
theorem goes_cons {c : Cf} {T : List Tx} {s : Sy} {e : Ev} {r : List Ev} (h : Can c T s e) : goes c T s (e :: r) = ((goes c T (stp c T s e).2 r).1 + 1, (goes c T (stp c T s e).2 r).2) := by
  simp only [goes, if_pos h]
theorem l_seven : (goes lc lT (sy0 0 []) lE).1 = 7 := by
  have c1 : Can lc lT k0 ⟨0, 1, 1, 0, 0, 0⟩ := can_of (by decide) q1 (by decide) rfl
  have c2 : Can lc lT k1 ⟨0, 3, 1, 0, 0, 0⟩ := can_of (by decide) q2 (by decide) (by rw [k1_eq]; rfl)
  have c3 : Can lc lT k2 ⟨1, 4, 1, 0, 0, 0⟩ := can_of (by decide) q3 (by decide) (by rw [k2_eq, k1_eq]; rfl)
  have c4 : Can lc lT k3 ⟨1, 5, 1, 0, 0, 0⟩ := can_of (by decide) q4 (by decide) (by simp only [asks]; rw [k3m])
  have c5 : Can lc lT k4 ⟨2, 7, 1, 0, 0, 0⟩ := can_of (by decide) q5 (by decide) (by simp only; rw [k4m.1])
  have c6 : Can lc lT k5 ⟨1, 6, 1, 0, 0, 0⟩ := can_of (by decide) q6 (by decide) (by simp only; rw [k5m.1])
  have c7 : Can lc lT k6 ⟨3, 8, 1, 0, 1, 1⟩ := by
    unfold Can tolE
    rw [if_pos (by decide), q7.1, q7.2]
    exact ⟨by decide, rfl⟩
  show (goes lc lT k0 lE).1 = 7
  unfold lE
  rw [goes_cons c1]
  show (goes lc lT k1 _).1 + 1 = 7
  rw [goes_cons c2]
  show (goes lc lT k2 _).1 + 1 + 1 = 7
  rw [goes_cons c3]
  show (goes lc lT k3 _).1 + 1 + 1 + 1 = 7
  rw [goes_cons c4]
  show (goes lc lT k4 _).1 + 1 + 1 + 1 + 1 = 7
  rw [goes_cons c5]
  show (goes lc lT k5 _).1 + 1 + 1 + 1 + 1 + 1 = 7
  rw [goes_cons c6]
  show (goes lc lT k6 _).1 + 1 + 1 + 1 + 1 + 1 + 1 = 7
  rw [goes_cons c7]
  rfl
theorem l_none : (goes lc lT (sy0 0 []) (lE.drop 1)).1 = 0 := by
  have hn : ¬ Can lc lT (sy0 0 []) ⟨0, 3, 1, 0, 0, 0⟩ := by
    intro h
    have h2 := h.2
    unfold tolE at h2
    rw [if_pos (by decide)] at h2
    simp [stp, dsp, sy0, lT] at h2
  show (goes lc lT (sy0 0 []) (⟨0, 3, 1, 0, 0, 0⟩ :: _)).1 = 0
  unfold goes
  rw [if_neg hn]
end Go.Proofs.YtaaghcimfcjehaaGreatDoor

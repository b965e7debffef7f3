/- Texts of this claim laid together, one behind the other: contracts and plain lemmas; conditions as each names them. -/
import Derived.Test.YtaaghcimfcjehaaGreatDoorGp34
import Derived.Test.YtaaghcimfcjehaaGreatDoorGp12
/- The walk of TraceStops. Conditions as it names them. -/
namespace Go.Proofs.YtaaghcimfcjehaaGreatDoor
open Go.ChangeShapes Go.WideShapes Go.ChangeAt Go.RowKit Go.Lib Go.Maps
set_option linter.unusedVariables false
set_option linter.unusedSimpArgs false

theorem tkC_ways (c : Cf) (ts : List Tm) (m : Int) (xs : List Int) (es : List Ev) : (tkC c ts m xs es = 0 ∧ tkN c ts m xs es = es.length) ∨ (tkC c ts m xs es = 14 ∧ tkN c ts m xs es < es.length ∧ c.may ∧ Beg ts m xs) ∨ ((tkC c ts m xs es = 7 ∨ tkC c ts m xs es = 1) ∧ tkN c ts m xs es = 0) := by
  by_cases hc : c.may
  · by_cases hb : Beg ts m xs
    · have h1 : tkN c ts m xs es = (goes c (txs ts) (sy0 m xs) es).1 := if_pos ⟨hc, hb⟩
      have h2 : tkC c ts m xs es = folC c (txs ts) (sy0 m xs) es := by unfold tkC; rw [if_neg (fun h => h hc), if_neg (fun h => h hb)]
      have h3 := goes_le (c := c) (T := txs ts) es (sy0 m xs)
      rw [h1, h2]
      unfold folC
      by_cases h4 : (goes c (txs ts) (sy0 m xs) es).1 = es.length
      · exact Or.inl ⟨if_pos h4, h4⟩
      · exact Or.inr (Or.inl ⟨if_neg h4, by omega, hc, hb⟩)
    · exact Or.inr (Or.inr ⟨Or.inr (by unfold tkC; rw [if_neg (fun h => h hc), if_pos hb]), if_neg (fun h => hb h.2)⟩)
  · exact Or.inr (Or.inr ⟨Or.inl (by unfold tkC; rw [if_pos hc]), if_neg (fun h => hc h.1)⟩)
theorem tk_stop {c : Cf} {ts : List Tm} {m : Int} {xs : List Int} {es : List Ev} (hc : c.may) (hb : Beg ts m xs) (hlt : tkN c ts m xs es < es.length) (ms : List Ev) :
    (tkN c ts m xs (es.take (tkN c ts m xs es)) = tkN c ts m xs es ∧ tkC c ts m xs (es.take (tkN c ts m xs es)) = 0) ∧ (tkN c ts m xs (es.take (tkN c ts m xs es + 1)) = tkN c ts m xs es ∧ tkC c ts m xs (es.take (tkN c ts m xs es + 1)) = 14) ∧ (tkN c ts m xs (es.take (tkN c ts m xs es + 1) ++ ms) = tkN c ts m xs es ∧ tkC c ts m xs (es.take (tkN c ts m xs es + 1) ++ ms) = 14) := by
  have hn : ∀ l, tkN c ts m xs l = (goes c (txs ts) (sy0 m xs) l).1 := fun l => if_pos ⟨hc, hb⟩
  have hcc : ∀ l, tkC c ts m xs l = folC c (txs ts) (sy0 m xs) l := fun l => by unfold tkC; rw [if_neg (fun h => h hc), if_neg (fun h => h hb)]
  simp only [hn, hcc] at hlt ⊢
  have e1 := goes_take (c := c) (T := txs ts) es (sy0 m xs)
  have e2 := fun q => goes_more (c := c) (T := txs ts) es (sy0 m xs) q hlt
  have e3 := e2 []
  rw [List.append_nil] at e3
  unfold folC
  refine ⟨⟨by rw [e1], ?_⟩, ⟨by rw [e3], ?_⟩, ⟨by rw [e2], ?_⟩⟩
  · rw [e1, if_pos (by rw [List.length_take]; omega)]
  · rw [e3, if_neg (by rw [List.length_take]; omega)]
  · rw [e2, if_neg (by rw [List.length_append, List.length_take]; omega)]
set_option maxHeartbeats 16000000 in
set_option maxRecDepth 100000 in
theorem tstops_any (c : Cf) (lo : Option Addr) (M mc : Nat) (ts : List Tm) (m : Int) (bo : Option Addr) (bn bc : Nat) (xs : List Int) (ho : Option Addr) (hl hcp : Nat) (eo : Option Addr) (en ec : Nat) (es : List Ev) (mo : Option Addr) (mn mcp : Nat) (ms : List Ev) (w : World)
    (hN : Nms w) (hT : TRs w lo ts) (hM : M = ts.length) (hMc : M ≤ mc) (hX : IRs w bo xs) (hbn : bn = xs.length) (hbc : bn ≤ bc) (hE : ERs w eo es) (hen : en = es.length) (hec : en ≤ ec) (hX2 : ERs w mo ms) (hmn : mn = ms.length) (hmc : mn ≤ mcp) (hk : es.length + ms.length ≤ 4194304) (hec2 : ec ≤ 9223372036854775807) :
    Calls Tryz.prog 6 #[.agg #[.int .i64 c.l, .int .i64 c.s, .int .i64 c.w, .int .i64 c.q, .slice lo M mc, .int .i64 m, .slice bo bn bc, .slice ho hl hcp, .slice eo en ec], .slice mo mn mcp] w fun e w' => e = .returned (.bool true) ∧ Fr [] w w' := by
  obtain ⟨wa, hwa⟩ : ∃ wa, wa = w.alloc (.cells #[.int .i64 c.l, .int .i64 c.s, .int .i64 c.w, .int .i64 c.q, .slice lo M mc, .int .i64 m, .slice bo bn bc, .slice ho hl hcp, .slice eo en ec] 31) := ⟨_, rfl⟩
  have f1 : Fr [] w wa := by rw [hwa]; exact Fr.alloc _ _ _
  have r5 : wa.heap[w.heap.size]? = some (.cells #[.int .i64 c.l, .int .i64 c.s, .int .i64 c.w, .int .i64 c.q, .slice lo M mc, .int .i64 m, .slice bo bn bc, .slice ho hl hcp, .slice eo en ec] 31 (0, 0)) := by rw [hwa]; exact heap_alloc_new _ _
  have HW : Hid (w.alloc (.cells #[.int .i64 c.l, .int .i64 c.s, .int .i64 c.w, .int .i64 c.q, .slice lo M mc, .int .i64 m, .slice bo bn bc, .slice ho hl hcp, .slice eo en ec] 31) = wa) := by show _ = _; rw [hwa]
  have HFa : Hid (Fr [] w wa) := f1
  have HK : Hid (∀ W o k kc l, Fr [] w W → ERs W o l → k = l.length → k ≤ kc → l.length ≤ 4194304 → Calls Tryz.prog 10 #[.agg #[.int .i64 c.l, .int .i64 c.s, .int .i64 c.w, .int .i64 c.q], .slice lo M mc, .agg #[.int .i64 m, .slice bo bn bc, .slice ho hl hcp], .slice o k kc] W fun e w' => e = .returned (.tuple #[.int .i64 ((tkN c ts m xs l : Nat) : Int), .int .i64 (tkC c ts m xs l)]) ∧ Fr [] W w') := fun W o k kc l hf hl1 hl2 hl3 hl4 => tk_any c lo M mc ts m bo bn bc xs ho hl hcp o k kc l W (hN.keep hf (by simp)) (hT.keep hf) hM hMc (hX.keep hf) hbn hbc hl1 hl2 hl3 hl4
  have HLi : Hid (∀ W, Fr [] w W → Calls _ _ _ W _) := fun W hf => lives_any W (hN.keep hf (by simp))
  have HB : Hid (∀ W, Fr [] wa W → W.heap[w.heap.size]? = some (.cells #[.int .i64 c.l, .int .i64 c.s, .int .i64 c.w, .int .i64 c.q, .slice lo M mc, .int .i64 m, .slice bo bn bc, .slice ho hl hcp, .slice eo en ec] 31 (0, 0))) := fun W hf => hf.keep r5 (by simp)
  have HE : Hid (ERs w eo es ∧ en = es.length ∧ ERs w mo ms ∧ mn = ms.length) := ⟨hE, hen, hX2, hmn⟩
  have hkk : en + mn ≤ 4194304 := by omega
  have HKK : Hid (es.length + ms.length ≤ 4194304) := hk
  clear hwa f1 r5 hT hM hMc hX hbn hbc hE hen hX2 hmn hN hk
  obtain ⟨nb, hnb⟩ : ∃ nb, nb = w.heap.size := ⟨_, rfl⟩
  have HNb : Hid (w.heap.size = nb) := hnb.symm
  rw [← hnb] at HB
  clear hnb
  have HC : Hid (∀ W, Fr [] wa W → W.cell? ⟨nb, 0, none⟩ = some (.int .i64 c.l) ∧ W.cell? ⟨nb, 1, none⟩ = some (.int .i64 c.s) ∧ W.cell? ⟨nb, 2, none⟩ = some (.int .i64 c.w) ∧ W.cell? ⟨nb, 3, none⟩ = some (.int .i64 c.q) ∧ W.cell? ⟨nb, 4, none⟩ = some (.slice lo M mc) ∧ W.cell? ⟨nb, 5, none⟩ = some (.int .i64 m) ∧ W.cell? ⟨nb, 6, none⟩ = some (.slice bo bn bc) ∧ W.cell? ⟨nb, 7, none⟩ = some (.slice ho hl hcp) ∧ W.cell? ⟨nb, 8, none⟩ = some (.slice eo en ec)) := fun W hf => by
    have h := HB.out W hf
    exact ⟨by rw [cell_of_row _ _ _ _ _ _ h]; rfl, by rw [cell_of_row _ _ _ _ _ _ h]; rfl, by rw [cell_of_row _ _ _ _ _ _ h]; rfl, by rw [cell_of_row _ _ _ _ _ _ h]; rfl, by rw [cell_of_row _ _ _ _ _ _ h]; rfl, by rw [cell_of_row _ _ _ _ _ _ h]; rfl, by rw [cell_of_row _ _ _ _ _ _ h]; rfl, by rw [cell_of_row _ _ _ _ _ _ h]; rfl, by rw [cell_of_row _ _ _ _ _ _ h]; rfl⟩
  clear HB
  go_enter Tryz.func6, Tryz.ntmps6
  go_upto_region 1 with fail
  rw [HW.out, HNb.out]
  obtain ⟨k0, k1, k2, k3, k4, k5, k6, k7, k8⟩ := HC.out wa (Fr.refl _ _)
  go_wp2_with fail
  refine Calls.mono (HK.out wa eo en ec es HFa.out (HE.out.1.keep HFa.out) HE.out.2.1 hec (by have := HKK.out; omega)) ?_
  rintro e w1 ⟨rfl, hf1⟩
  have HF1 : Hid (Fr [] wa w1) := hf1
  clear hf1 k0 k1 k2 k3 k4 k5 k6 k7 k8 HW
  obtain ⟨k0, k1, k2, k3, k4, k5, k6, k7, k8⟩ := HC.out w1 HF1.out
  have HWays : Hid (_ ∨ _ ∨ _) := tkC_ways c ts m xs es
  have HL1 : Hid (Calls _ _ _ _ _) := HLi.out w1 (HFa.out.then HF1.out)
  obtain ⟨n1, hn1⟩ : ∃ n1, n1 = tkN c ts m xs es := ⟨_, rfl⟩
  obtain ⟨c1, hc1⟩ : ∃ c1, c1 = tkC c ts m xs es := ⟨_, rfl⟩
  have HN1 : Hid (n1 = tkN c ts m xs es) := hn1
  rw [← hn1, ← hc1] at HWays ⊢
  rw [← HE.out.2.1] at HWays
  clear hn1 hc1
  rcases HWays.out with ⟨rfl, rfl⟩ | ⟨rfl, hlt, hmay, hbeg⟩ | ⟨h71, rfl⟩
  · clear HWays
    go_wp2_with fail
    refine Calls.mono HL1.out ?_
    rintro e w2 ⟨rfl, hf2⟩
    have HF2 : Hid (Fr [] w w2) := (HFa.out.then HF1.out).then hf2
    clear hf2
    go_wp2_with fail
    go_ret
    exact ⟨rfl, HF2.out⟩
  rotate_left
  · clear HWays
    rcases h71 with rfl | rfl
    · go_wp2_with fail
      refine Calls.mono HL1.out ?_
      rintro e w2 ⟨rfl, hf2⟩
      have HF2 : Hid (Fr [] w w2) := (HFa.out.then HF1.out).then hf2
      clear hf2
      go_wp2_with fail
      go_ret
      exact ⟨rfl, HF2.out⟩
    · go_wp2_with fail
      refine Calls.mono HL1.out ?_
      rintro e w2 ⟨rfl, hf2⟩
      have HF2 : Hid (Fr [] w w2) := (HFa.out.then HF1.out).then hf2
      clear hf2
      go_wp2_with fail
      go_ret
      exact ⟨rfl, HF2.out⟩
  have HSt : Hid (_ ∧ _ ∧ _) := tk_stop hmay hbeg (by rw [← HN1.out, ← HE.out.2.1]; exact hlt) ms
  rw [← HN1.out] at HSt
  clear HWays hmay hbeg
  have hlt1 : (n1 : Int) < (en : Int) := by omega
  have hlt2 : ¬ (n1 : Int) < 0 := by omega
  obtain ⟨ea, rfl⟩ : ∃ ea, eo = some ea := by
    obtain ⟨b, off, e, _⟩ := HE.out.1.lies (by rw [← HE.out.2.1]; omega)
    exact ⟨_, e⟩
  obtain ⟨eb, eoff, esp⟩ := ea
  obtain rfl : esp = none := by
    obtain ⟨b, off, e, _⟩ := HE.out.1.lies (by rw [← HE.out.2.1]; omega)
    cases e
    rfl
  have hnc : n1 ≤ ec := by omega
  have hnc1 : n1 + 1 ≤ ec := by omega
  have HKa : Hid (∀ W, Fr [] w1 W → Calls Tryz.prog 10 #[.agg #[.int .i64 c.l, .int .i64 c.s, .int .i64 c.w, .int .i64 c.q], .slice lo M mc, .agg #[.int .i64 m, .slice bo bn bc, .slice ho hl hcp], .slice (some ⟨eb, eoff, none⟩) n1 ec] W fun e w' => e = .returned (.tuple #[.int .i64 (n1 : Int), .int .i64 0]) ∧ Fr [] W w') := fun W hf => by
    have h := HK.out W (some ⟨eb, eoff, none⟩) n1 ec (es.take n1) ((HFa.out.then HF1.out).then hf) ((HE.out.1.keep ((HFa.out.then HF1.out).then hf)).take n1) (by rw [List.length_take, ← HE.out.2.1]; omega) hnc (by rw [List.length_take, ← HE.out.2.1]; omega)
    rw [HSt.out.1.1, HSt.out.1.2] at h
    exact h
  have HKb : Hid (∀ W, Fr [] w1 W → Calls Tryz.prog 10 #[.agg #[.int .i64 c.l, .int .i64 c.s, .int .i64 c.w, .int .i64 c.q], .slice lo M mc, .agg #[.int .i64 m, .slice bo bn bc, .slice ho hl hcp], .slice (some ⟨eb, eoff, none⟩) (n1 + 1) ec] W fun e w' => e = .returned (.tuple #[.int .i64 (n1 : Int), .int .i64 14]) ∧ Fr [] W w') := fun W hf => by
    have h := HK.out W (some ⟨eb, eoff, none⟩) (n1 + 1) ec (es.take (n1 + 1)) ((HFa.out.then HF1.out).then hf) ((HE.out.1.keep ((HFa.out.then HF1.out).then hf)).take (n1 + 1)) (by rw [List.length_take, ← HE.out.2.1]; omega) hnc1 (by rw [List.length_take, ← HE.out.2.1]; omega)
    rw [HSt.out.2.1.1, HSt.out.2.1.2] at h
    exact h
  go_upto_region 6 with fail
  clear k0 k1 k2 k3 k4 k5 k6 k7 k8
  have f0 : ∀ y : Wd13 w1, y.W.cell? ⟨nb, 0, none⟩ = some (.int .i64 c.l) := fun y => (HC.out _ (HF1.out.then y.h)).1
  have f1 : ∀ y : Wd13 w1, y.W.cell? ⟨nb, 1, none⟩ = some (.int .i64 c.s) := fun y => (HC.out _ (HF1.out.then y.h)).2.1
  have f2 : ∀ y : Wd13 w1, y.W.cell? ⟨nb, 2, none⟩ = some (.int .i64 c.w) := fun y => (HC.out _ (HF1.out.then y.h)).2.2.1
  have f3 : ∀ y : Wd13 w1, y.W.cell? ⟨nb, 3, none⟩ = some (.int .i64 c.q) := fun y => (HC.out _ (HF1.out.then y.h)).2.2.2.1
  have f4 : ∀ y : Wd13 w1, y.W.cell? ⟨nb, 4, none⟩ = some (.slice lo M mc) := fun y => (HC.out _ (HF1.out.then y.h)).2.2.2.2.1
  have f5 : ∀ y : Wd13 w1, y.W.cell? ⟨nb, 5, none⟩ = some (.int .i64 m) := fun y => (HC.out _ (HF1.out.then y.h)).2.2.2.2.2.1
  have f6 : ∀ y : Wd13 w1, y.W.cell? ⟨nb, 6, none⟩ = some (.slice bo bn bc) := fun y => (HC.out _ (HF1.out.then y.h)).2.2.2.2.2.2.1
  have f7 : ∀ y : Wd13 w1, y.W.cell? ⟨nb, 7, none⟩ = some (.slice ho hl hcp) := fun y => (HC.out _ (HF1.out.then y.h)).2.2.2.2.2.2.2.1
  have f8 : ∀ y : Wd13 w1, y.W.cell? ⟨nb, 8, none⟩ = some (.slice (some ⟨eb, eoff, none⟩) en ec) := fun y => (HC.out _ (HF1.out.then y.h)).2.2.2.2.2.2.2.2
  refine wp_region_wd13 (w1 := w1) (by kernel_rfl) (by kernel_rfl) (Fr.refl _ _) ?_
  repeat (go_big_quiet_step ((go_at_call 10; with_reducible refine (HKa.out _ (Wd13.h _)).mono ?_; exact fun e w3 hh => ⟨hh.1, ⟨_, Fr.then (Wd13.h _) hh.2⟩, rfl⟩)))
  refine wpQuiet_nil ?_
  rintro _ ⟨y, rfl⟩
  obtain ⟨w2, hw2⟩ : ∃ w2, w2 = y.W := ⟨_, rfl⟩
  have HF2 : Hid (Fr [] w1 w2) := by show Fr _ _ _; rw [hw2]; exact y.h
  rw [← hw2]
  clear hw2 f0 f1 f2 f3 f4 f5 f6 f7 f8 HKa
  go_upto_region 7 with fail
  have HF12 : Hid (Fr [] wa w2) := HF1.out.then HF2.out
  have f0 : ∀ y : Wd13 w2, y.W.cell? ⟨nb, 0, none⟩ = some (.int .i64 c.l) := fun y => (HC.out _ (HF12.out.then y.h)).1
  have f1 : ∀ y : Wd13 w2, y.W.cell? ⟨nb, 1, none⟩ = some (.int .i64 c.s) := fun y => (HC.out _ (HF12.out.then y.h)).2.1
  have f2 : ∀ y : Wd13 w2, y.W.cell? ⟨nb, 2, none⟩ = some (.int .i64 c.w) := fun y => (HC.out _ (HF12.out.then y.h)).2.2.1
  have f3 : ∀ y : Wd13 w2, y.W.cell? ⟨nb, 3, none⟩ = some (.int .i64 c.q) := fun y => (HC.out _ (HF12.out.then y.h)).2.2.2.1
  have f4 : ∀ y : Wd13 w2, y.W.cell? ⟨nb, 4, none⟩ = some (.slice lo M mc) := fun y => (HC.out _ (HF12.out.then y.h)).2.2.2.2.1
  have f5 : ∀ y : Wd13 w2, y.W.cell? ⟨nb, 5, none⟩ = some (.int .i64 m) := fun y => (HC.out _ (HF12.out.then y.h)).2.2.2.2.2.1
  have f6 : ∀ y : Wd13 w2, y.W.cell? ⟨nb, 6, none⟩ = some (.slice bo bn bc) := fun y => (HC.out _ (HF12.out.then y.h)).2.2.2.2.2.2.1
  have f7 : ∀ y : Wd13 w2, y.W.cell? ⟨nb, 7, none⟩ = some (.slice ho hl hcp) := fun y => (HC.out _ (HF12.out.then y.h)).2.2.2.2.2.2.2.1
  have f8 : ∀ y : Wd13 w2, y.W.cell? ⟨nb, 8, none⟩ = some (.slice (some ⟨eb, eoff, none⟩) en ec) := fun y => (HC.out _ (HF12.out.then y.h)).2.2.2.2.2.2.2.2
  have hwr : IntKind.i64.wrap ((n1 : Int) + 1) = (n1 : Int) + 1 := by rw [IntKind.wrap_i64]; omega
  have hto : ((n1 : Int) + 1).toNat = n1 + 1 := by omega
  refine wp_region_wd13 (w1 := w2) (by kernel_rfl) (by kernel_rfl) (Fr.refl _ _) ?_
  repeat (go_big_quiet_step ((go_at_call 10; with_reducible refine (HKb.out _ (Fr.then HF2.out (Wd13.h _))).mono ?_; exact fun e w3 hh => ⟨hh.1, ⟨_, Fr.then (Wd13.h _) hh.2⟩, rfl⟩)))
  refine wpQuiet_nil ?_
  rintro _ ⟨y, rfl⟩
  obtain ⟨w3, hw3⟩ : ∃ w3, w3 = y.W := ⟨_, rfl⟩
  have HF3 : Hid (Fr [] wa w3) := by show Fr _ _ _; rw [hw3]; exact HF12.out.then y.h
  rw [← hw3]
  clear hw3 f0 f1 f2 f3 f4 f5 f6 f7 f8 HKb HF12
  obtain ⟨k0, k1, k2, k3, k4, k5, k6, k7, k8⟩ := HC.out w3 HF3.out
  have hE3 : Hid (ERs w3 (some ⟨eb, eoff, none⟩) (es.take (n1 + 1))) := (HE.out.1.keep (HFa.out.then HF3.out)).take _
  have hlen : Hid (n1 + 1 = (es.take (n1 + 1)).length) := by show _ = _; rw [List.length_take, ← HE.out.2.1]; omega
  have HM3 : Hid (∀ W, Fr [] w3 W → ERs W mo ms ∧ mn = ms.length) := fun W hf => ⟨HE.out.2.2.1.keep ((HFa.out.then HF3.out).then hf), HE.out.2.2.2⟩
  clear k0 k1 k2 k3 k4 k5 k6 k7
  go_upto_region 10 with (first
    | (refine wpList_ev2 w3 w4 rfl _ _ rfl bo4 (n1 + 1) cap4 (es.take (n1 + 1)) rfl HO4.out.1 hlen.out HO4.out.2 mo mn mcp ms rfl (HM3.out _ HO4.out.2).1 (HM3.out _ HO4.out.2).2 (by omega) ?_; intro bo5 cap5 w5 HO5)
    | (refine wpList_ev1 w3 rfl _ _ rfl rfl (some ⟨eb, eoff, none⟩) (n1 + 1) ec (es.take (n1 + 1)) rfl hE3.out hlen.out (by omega) ?_; intro bo4 cap4 w4 HO4)
    | fail)
  clear k8
  have HF5 : Hid (Fr [] wa w5) := HF3.out.then HO5.out.2
  have hl5 : Hid (n1 + 1 + mn = (es.take (n1 + 1) ++ ms).length) := by show _ = _; rw [List.length_append, ← hlen.out, ← HE.out.2.2.2]
  have HKc : Hid (∃ r, Calls Tryz.prog 10 #[.agg #[.int .i64 c.l, .int .i64 c.s, .int .i64 c.w, .int .i64 c.q], .slice lo M mc, .agg #[.int .i64 m, .slice bo bn bc, .slice ho hl hcp], .slice bo5 (n1 + 1 + mn) cap5] w5 fun e w' => e = .returned (.tuple #[.int .i64 (n1 : Int), .int .i64 14]) ∧ Fr [] w5 w' ∧ r = 0) := by
    have hcap : n1 + 1 + mn ≤ cap5 := by
      rcases HO5.out.1.2 with ⟨hv, h1⟩ | ⟨g, cap, cur, hv, _, _, h1, _⟩
      · omega
      · cases hv; exact h1
    have h := HK.out w5 bo5 (n1 + 1 + mn) cap5 (es.take (n1 + 1) ++ ms) (HFa.out.then HF5.out) (ERs.of_own HO5.out.1 hl5.out (by rw [← hl5.out]; omega) (fun x hx => by
      rcases List.mem_append.1 hx with h1 | h1
      · exact HE.out.1.each x (List.mem_of_mem_take h1)
      · exact HE.out.2.2.1.each x h1)) hl5.out hcap (by rw [← hl5.out]; omega)
    rw [HSt.out.2.2.1, HSt.out.2.2.2] at h
    exact ⟨0, h.mono (fun e w' hh => ⟨hh.1, hh.2, rfl⟩)⟩
  obtain ⟨r0, HKd⟩ : ∃ r0, Hid _ := HKc
  obtain ⟨k0, k1, k2, k3, k4, k5, k6, k7, k8⟩ := HC.out w5 HF5.out
  go_wp2_with fail
  refine Calls.mono HKd.out ?_
  rintro e w6 ⟨rfl, hf6, _⟩
  have HF6 : Hid (Fr [] w w6) := (HFa.out.then HF5.out).then hf6
  clear hf6 k0 k1 k2 k3 k4 k5 k6 k7 k8
  have HL6 : Hid (Calls _ _ _ _ _) := HLi.out w6 HF6.out
  go_wp2_with fail
  refine Calls.mono HL6.out ?_
  rintro e w7 ⟨rfl, hf7⟩
  have HF7 : Hid (Fr [] w w7) := HF6.out.then hf7
  clear hf7
  go_wp2_with fail
  go_ret
  exact ⟨rfl, HF7.out⟩
end Go.Proofs.YtaaghcimfcjehaaGreatDoor
/- Transactions that came in: how they lie in memory. Conditions as each lemma names them. -/
namespace Go.Proofs.YtaaghcimfcjehaaGreatDoor
open Go.ChangeShapes Go.WideShapes Go.ChangeAt Go.RowKit Go.Lib
set_option linter.unusedVariables false
section
variable {H : Type} {enc : TypeId × Value → H}
theorem Tryz.undTs' : Tryz.prog.underlying 24 = some (.slice 66) := by kernel_rfl
set_option maxRecDepth 100000 in
theorem ts_open {w : World} {fuel : Nat} {v : Value} {d : DataW H} {ps : List MemPlace} (h : DataW.trod enc Tryz.prog w 0 (fun _ => true) true fuel 24 [v] = some (d, ps)) (hsz : ∀ n ∈ d.weights Tryz.prog 24, n ≤ reachBytes) :
    ∃ ao L cap ts, v = .slice ao L cap ∧ TRs w ao ts ∧ L = ts.length ∧ L ≤ cap := by
  rcases Go.Deep.open_slice Tryz.undTs' h with ⟨hcs, _⟩ | ⟨a, len, cap, m, n, D, Pl, hcs, hb, hl, hm, hmm, hx, hE⟩
  · simp only [List.cons.injEq, and_true] at hcs
    exact ⟨none, 0, 0, [], hcs, TRs.nil _ _, rfl, Nat.le_refl _⟩
  · simp only [List.cons.injEq, and_true] at hcs
    simp only [if_true] at hmm
    subst hmm
    rw [Tryz.cellsT] at hE hx
    have hd : d = .slice ((List.range len).map D) ((List.range (m - len)).map fun j => D (len + j)) := by have := congrArg Prod.fst hx; simpa using this
    have hr := reachBytes_lt
    have hW : ∀ i, i < len → ∀ q ∈ (D i).weights Tryz.prog 66, q ≤ reachBytes := by
      intro i hi q hq
      apply hsz
      rw [hd]
      simp only [DataW.weights, Tryz.undTs']
      refine List.mem_cons_of_mem _ (List.mem_append_left _ ?_)
      exact weightsAll_mem (List.mem_map.2 ⟨i, by simpa using hi, rfl⟩) _ hq
    have hO : ∀ i, i < len → ∃ t : Tm, (w.cells? 0 (a.add (i * 2)) 2 = some [.int .i64 t.n, .slice t.ao t.L t.cap]) ∧ t.at w := by
      intro i hi
      obtain ⟨cs', h1, h2⟩ := hE i (by omega)
      obtain ⟨n, ao, L, cap, ws, rfl, hT⟩ := tx_open h2 (hW i hi)
      exact ⟨⟨n, ao, L, cap, ws⟩, h1, hT⟩
    haveI : Inhabited Tm := ⟨Tm.zero⟩
    obtain ⟨F, hF⟩ := Go.Deep.choose_lt hO
    have hlen : len ≤ 140737488355328 := by
      have hw : len * Tryz.prog.bytesOf 66 ≤ reachBytes := by
        refine Nat.le_trans (Nat.mul_le_mul_right _ hl) (hsz _ ?_)
        rw [hd]
        simp only [DataW.weights, Tryz.undTs', List.length_map, List.length_range]
        rw [show len + (m - len) = m by omega]
        exact List.mem_cons_self
      have hb40 : 1 ≤ Tryz.prog.bytesOf 66 := by
        rw [show Tryz.prog.bytesOf 66 = 32 from by kernel_rfl]
        decide
      have := Nat.le_mul_of_pos_right len hb40
      omega
    refine ⟨some a, len, m, (List.range len).map F, hcs, ⟨fun h0 => ?_, by simpa using hlen, ?_⟩, by simp, hl⟩
    · simp only [List.length_map, List.length_range] at h0 ⊢
      have hc0 := (World.cells?_some (hF 0 (by omega)).1).2.2
      obtain ⟨b, off, spot⟩ := a
      have hspot : spot = none := by
        have := hc0 0 (by omega)
        simp at this
        simpa [Addr.add] using World.cell?_spot this
      subst hspot
      have hcell : ∀ i, i < len → ∀ j, j < 2 → w.cell? ⟨b, off + i * 2 + j, none⟩ = [Value.int .i64 (F i).n, .slice (F i).ao (F i).L (F i).cap][j]? := by
        intro i hi j hj
        have := (World.cells?_some (hF i (by omega)).1).2.2 j hj
        rw [show ((⟨b, off, none⟩ : Addr).add (i * 2)).add j = ⟨b, off + i * 2 + j, none⟩ from by rw [Addr.add_lit, Addr.add_lit]] at this
        exact this
      refine ⟨b, off, rfl, World.block_lt_of_cell? w ⟨b, off + 0 * 2 + 0, none⟩ (by rw [hcell 0 (by omega) 0 (by omega)]; rfl), fun i hi => ?_⟩
      have e : ((List.range len).map F).getD i Tm.zero = F i := by simp [List.getD, hi]
      rw [e]
      exact ⟨hcell i hi 0 (by omega), hcell i hi 1 (by omega)⟩
    · intro t ht
      obtain ⟨i, hi, rfl⟩ := List.mem_map.1 ht
      exact (hF i (by simpa using hi)).2
end
end Go.Proofs.YtaaghcimfcjehaaGreatDoor

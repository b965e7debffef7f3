/- Texts of this claim laid together, one behind the other: contracts and plain lemmas; conditions as each names them. -/
import Derived.Test.YtdojhkgnnbdfkaaGreatGp22
import Derived.Test.YtdojhkgnnbdfkaaGreatGp24
import Derived.Test.YtdojhkgnnbdfkaaGreatGp15
import Derived.Test.YtdojhkgnnbdfkaaGreatGp16
import Derived.Deep.RegionHeld3
/- What the statements' helpers TwinSaved and LeftSaved answer; the twin as a Book sees it. Conditions: fewer than 2^21 keys, of fewer than 2^21 versions each. -/
namespace Go.Proofs.YtdojhkgnnbdfkaaGreat
open BigFrame Go.ChangeShapes Go.WideShapes Go.ChangeAt Go.RowKit Go.Lib Go.Maps
set_option linter.unusedVariables false
set_option linter.unusedSimpArgs false

structure TwS (w0 w : World) (bs : List Int) (hs : List Hd) (bb bh : Nat) (ks : List Nat) : Prop where
  nb : w0.heap.size ≤ bb
  nh : w0.heap.size ≤ bh
  rb : w.heap[bb]? = some (.cells (intsT (bs ++ [7777])).toArray 3 (0, 0))
  rh : w.heap[bh]? = some (.cells (hdsC (twTs hs ks ++ [spT])).toArray 58 (0, 0))
  tw : Twd w0 w hs ks
theorem TwS.keep {w0 w w' : World} {bs : List Int} {hs : List Hd} {bb bh : Nat} {ks : List Nat} (h : TwS w0 w bs hs bb bh ks) (hf : Fr [] w w') : TwS w0 w' bs hs bb bh ks := ⟨h.nb, h.nh, hf.keep h.rb (by simp), hf.keep h.rh (by simp), h.tw.keep hf (by simp)⟩
theorem sv_cells {W : World} {b : Nat} {v0 v1 v2 : Value} {ty : TypeId} (h : W.heap[b]? = some (.cells #[v0, v1, v2] ty (0, 0))) : W.cell? ⟨b, 0, none⟩ = some v0 ∧ W.cell? ⟨b, 1, none⟩ = some v1 ∧ W.cell? ⟨b, 2, none⟩ = some v2 := by
  refine ⟨?_, ?_, ?_⟩ <;> (rw [cell_of_row _ _ _ _ _ _ h]; rfl)
set_option maxHeartbeats 4000000 in
set_option maxRecDepth 100000 in
theorem leftSv_any {w0 w : World} (m : Int) (bo ho : Option Addr) (Lb cb Lh ch : Nat) (bs : List Int) (hs : List Hd) (bb bh : Nat) (ks : List Nat) (hI : IRs w bo bs) (hLb : Lb = bs.length) (hH : HRs w ho hs) (hLh : Lh = hs.length) (hL : Lh < 2^21) (hfew : Few hs) (hT : TwS w0 w bs hs bb bh ks) :
    Calls Tryz.prog 7 #[.agg #[.int .i64 m, .slice (some ⟨bb, 0, none⟩) Lb (Lb + 1), .slice (some ⟨bh, 0, none⟩) Lh (Lh + 1)], .agg #[.int .i64 m, .slice bo Lb cb, .slice ho Lh ch]] w fun e w' => e = .returned (.bool true) ∧ Fr [] w w' := by
  have HE : Hid (∀ W, Fr [] w W → Calls Tryz.prog 20 #[.slice (some ⟨bb, 0, none⟩) Lb (Lb + 1), .slice bo Lb cb] W fun e w' => e = .returned (.bool true) ∧ Fr [] W w') := fun W hW => leftIs_any bb bo Lb cb bs W (hI.keep hW) hLb (by have := hI.few; omega) (hT.keep hW).rb
  have HH : Hid (∀ W, Fr [] w W → Calls Tryz.prog 21 #[.slice (some ⟨bh, 0, none⟩) Lh (Lh + 1), .slice ho Lh ch] W fun e w' => e = .returned (.bool true) ∧ Fr [] W w') := fun W hW => leftHs_any bh ks w0 ho Lh ch hs W (hH.keep hW) hLh hL hfew (hT.keep hW).tw (hT.keep hW).rh
  clear hI hH hT hLb hLh hfew
  obtain ⟨W0, HW0⟩ : ∃ W0, Hid (((w.alloc (.cells #[.int .i64 m, .slice (some ⟨bb, 0, none⟩) Lb (Lb + 1), .slice (some ⟨bh, 0, none⟩) Lh (Lh + 1)] 27)).alloc (.cells #[.int .i64 m, .slice bo Lb cb, .slice ho Lh ch] 27)) = W0) := ⟨_, rfl⟩
  have h1 : W0.heap[w.heap.size]? = some (.cells #[.int .i64 m, .slice (some ⟨bb, 0, none⟩) Lb (Lb + 1), .slice (some ⟨bh, 0, none⟩) Lh (Lh + 1)] 27 (0, 0)) := by
    rw [← HW0.out]; exact (Fr.alloc [] _ _).keep (heap_alloc_new w _) (by simp)
  have h2 : W0.heap[w.heap.size + 1]? = some (.cells #[.int .i64 m, .slice bo Lb cb, .slice ho Lh ch] 27 (0, 0)) := by
    rw [← HW0.out]
    have := heap_alloc_new (w.alloc (.cells #[.int .i64 m, .slice (some ⟨bb, 0, none⟩) Lb (Lb + 1), .slice (some ⟨bh, 0, none⟩) Lh (Lh + 1)] 27)) (.cells #[.int .i64 m, .slice bo Lb cb, .slice ho Lh ch] 27)
    simpa using this
  have HC : Hid (∀ W, Fr [] W0 W → W.heap[w.heap.size]? = some (.cells #[.int .i64 m, .slice (some ⟨bb, 0, none⟩) Lb (Lb + 1), .slice (some ⟨bh, 0, none⟩) Lh (Lh + 1)] 27 (0, 0)) ∧ W.heap[w.heap.size + 1]? = some (.cells #[.int .i64 m, .slice bo Lb cb, .slice ho Lh ch] 27 (0, 0))) := fun W hW => ⟨hW.keep h1 (by simp), hW.keep h2 (by simp)⟩
  have HF0 : Hid (Fr [] w W0) := by rw [← HW0.out]; exact (Fr.alloc [] w _).then (Fr.alloc [] _ _)
  clear h1 h2
  go_enter Tryz.func7, Tryz.ntmps7
  go_upto_region 1 with fail
  rw [HW0.out]
  obtain ⟨q1, q2⟩ := HC.out W0 (Fr.refl _ _)
  obtain ⟨a0, a1, a2⟩ := sv_cells q1
  obtain ⟨b0, b1, b2⟩ := sv_cells q2
  clear q1 q2 HW0
  go_wp2_with fail
  refine (HE.out _ HF0.out).mono ?_
  rintro e' w1 ⟨rfl, hf1⟩
  have HF1 : Hid (Fr [] W0 w1) := hf1
  obtain ⟨q1, q2⟩ := HC.out w1 hf1
  clear a0 a1 a2 b0 b1 b2 hf1
  obtain ⟨a0, a1, a2⟩ := sv_cells q1
  obtain ⟨b0, b1, b2⟩ := sv_cells q2
  clear q1 q2
  go_wp2_with fail
  refine (HH.out _ (HF0.out.then HF1.out)).mono ?_
  rintro e' w2 ⟨rfl, hf2⟩
  have HF2 : Hid (Fr [] W0 w2) := HF1.out.then hf2
  clear a0 a1 a2 b0 b1 b2 hf2
  go_wp2
  go_ret
  exact ⟨by simp, HF0.out.then HF2.out⟩
set_option maxHeartbeats 4000000 in
set_option maxRecDepth 100000 in
theorem twinSv_any {w : World} (m : Int) (bo ho : Option Addr) (Lb cb Lh ch : Nat) (bs : List Int) (hs : List Hd) (hI : IRs w bo bs) (hLb : Lb = bs.length) (hH : HRs w ho hs) (hLh : Lh = hs.length) (hL : Lh < 2^21) (hfew : Few hs) :
    Calls Tryz.prog 4 #[.agg #[.int .i64 m, .slice bo Lb cb, .slice ho Lh ch]] w fun e w' => ∃ bb bh ks, e = .returned (.agg #[.int .i64 m, .slice (some ⟨bb, 0, none⟩) Lb (Lb + 1), .slice (some ⟨bh, 0, none⟩) Lh (Lh + 1)]) ∧ TwS w w' bs hs bb bh ks ∧ Fr [] w w' := by
  have hE : ∀ W, Fr [] w W → Calls Tryz.prog 9 #[.slice bo Lb cb] W fun e w' => ∃ b, e = .returned (.slice (some ⟨b, 0, none⟩) Lb (Lb + 1)) ∧ W.heap.size ≤ b ∧ w'.heap[b]? = some (.cells (intsT (bs ++ [7777])).toArray 3 (0, 0)) ∧ Fr [] W w' := fun W hW => twinIs_any bo Lb cb bs W (hI.keep hW) hLb (by have := hI.few; omega)
  have hHh : ∀ W, Fr [] w W → Calls Tryz.prog 10 #[.slice ho Lh ch] W fun e w' => ∃ b ks, e = .returned (.slice (some ⟨b, 0, none⟩) Lh (Lh + 1)) ∧ W.heap.size ≤ b ∧ w'.heap[b]? = some (.cells (hdsC (twTs hs ks ++ [spT])).toArray 58 (0, 0)) ∧ Twd W w' hs ks ∧ Fr [] W w' := fun W hW => twinHs_any ho Lh ch hs W (hH.keep hW) hLh hL hfew
  clear hI hH hLb hLh hfew
  obtain ⟨w0, HW0⟩ : ∃ w0, Hid ((w.alloc (.cells #[.int .i64 m, .slice bo Lb cb, .slice ho Lh ch] 27)).alloc (.cells #[.int .i64 0, .slice none 0 0, .slice none 0 0] 27) = w0) := ⟨_, rfl⟩
  have hF0 : Fr [] w w0 := by rw [← HW0.out]; exact (Fr.alloc [] w _).then (Fr.alloc [] _ _)
  have hb0 : w0.heap[w.heap.size]? = some (.cells #[.int .i64 m, .slice bo Lb cb, .slice ho Lh ch] 27 (0, 0)) := by rw [← HW0.out]; exact (Fr.alloc [] _ _).keep (heap_alloc_new w _) (by simp)
  have hb1 : w0.heap[w.heap.size + 1]? = some (.cells #[.int .i64 0, .slice none 0 0, .slice none 0 0] 27 (0, 0)) := by
    rw [← HW0.out]
    have := heap_alloc_new (w.alloc (.cells #[.int .i64 m, .slice bo Lb cb, .slice ho Lh ch] 27)) (.cells #[.int .i64 0, .slice none 0 0, .slice none 0 0] 27)
    simpa using this
  have hs0 : w0.heap.size = w.heap.size + 2 := by rw [← HW0.out]; simp
  have hcell : ∀ W, Fr [] w0 W → W.cell? ⟨w.heap.size, 0, none⟩ = some (.int .i64 m) ∧ W.cell? ⟨w.heap.size, 1, none⟩ = some (.slice bo Lb cb) ∧ W.cell? ⟨w.heap.size, 2, none⟩ = some (.slice ho Lh ch) ∧ W.cell? ⟨w.heap.size + 1, 0, none⟩ = some (.int .i64 0) ∧ W.cell? ⟨w.heap.size + 1, 1, none⟩ = some (.slice none 0 0) ∧ W.cell? ⟨w.heap.size + 1, 2, none⟩ = some (.slice none 0 0) ∧ W.frozen? ⟨w.heap.size + 1, 0, none⟩ = false ∧ W.frozen? ⟨w.heap.size + 1, 1, none⟩ = false ∧ W.frozen? ⟨w.heap.size + 1, 2, none⟩ = false := by
    intro W hf
    have q1 := hf.keep hb0 (by simp)
    have q2 := hf.keep hb1 (by simp)
    obtain ⟨x0, x1, x2⟩ := sv_cells q1
    obtain ⟨y0, y1, y2⟩ := sv_cells q2
    exact ⟨x0, x1, x2, y0, y1, y2, by simp [World.frozen?, q2], by simp [World.frozen?, q2], by simp [World.frozen?, q2]⟩
  have HE : Hid (∀ W, Fr [] w0 W → Calls Tryz.prog 9 #[.slice bo Lb cb] W fun e' w' => ∃ bb, e' = .returned (.slice (some ⟨bb, 0, none⟩) Lb (Lb + 1)) ∧ Hid (W.heap.size ≤ bb ∧ w'.heap[bb]? = some (.cells (intsT (bs ++ [7777])).toArray 3 (0, 0))) ∧ Fr [] w0 w' ∧ w'.cell? ⟨w.heap.size, 0, none⟩ = some (.int .i64 m) ∧ w'.cell? ⟨w.heap.size, 1, none⟩ = some (.slice bo Lb cb) ∧ w'.cell? ⟨w.heap.size, 2, none⟩ = some (.slice ho Lh ch) ∧ w'.cell? ⟨w.heap.size + 1, 0, none⟩ = some (.int .i64 0) ∧ w'.cell? ⟨w.heap.size + 1, 1, none⟩ = some (.slice none 0 0) ∧ w'.cell? ⟨w.heap.size + 1, 2, none⟩ = some (.slice none 0 0) ∧ w'.frozen? ⟨w.heap.size + 1, 0, none⟩ = false ∧ w'.frozen? ⟨w.heap.size + 1, 1, none⟩ = false ∧ w'.frozen? ⟨w.heap.size + 1, 2, none⟩ = false) := fun W hW => (hE W (hF0.then hW)).mono (by
    rintro e' w' ⟨b', h1, h2, h3, h4⟩
    exact ⟨b', h1, ⟨h2, h3⟩, hW.then h4, hcell _ (hW.then h4)⟩)
  have HH : Hid (∀ W, Fr [] w0 W → Calls Tryz.prog 10 #[.slice ho Lh ch] W fun e' w' => ∃ bh ks, e' = .returned (.slice (some ⟨bh, 0, none⟩) Lh (Lh + 1)) ∧ Hid (W.heap.size ≤ bh ∧ w'.heap[bh]? = some (.cells (hdsC (twTs hs ks ++ [spT])).toArray 58 (0, 0)) ∧ Twd W w' hs ks ∧ Fr [] W w') ∧ w'.cell? ⟨w.heap.size, 0, none⟩ = some (.int .i64 m) ∧ w'.cell? ⟨w.heap.size, 1, none⟩ = some (.slice bo Lb cb) ∧ w'.cell? ⟨w.heap.size, 2, none⟩ = some (.slice ho Lh ch) ∧ w'.cell? ⟨w.heap.size + 1, 0, none⟩ = some (.int .i64 0) ∧ w'.cell? ⟨w.heap.size + 1, 1, none⟩ = some (.slice none 0 0) ∧ w'.cell? ⟨w.heap.size + 1, 2, none⟩ = some (.slice none 0 0) ∧ w'.frozen? ⟨w.heap.size + 1, 0, none⟩ = false ∧ w'.frozen? ⟨w.heap.size + 1, 1, none⟩ = false ∧ w'.frozen? ⟨w.heap.size + 1, 2, none⟩ = false) := fun W hW => (hHh W (hF0.then hW)).mono (by
    rintro e' w' ⟨b', ks, h1, h2, h3, h4, h5⟩
    exact ⟨b', ks, h1, ⟨h2, h3, h4, h5⟩, hcell _ (hW.then h5)⟩)
  obtain ⟨k0, k1, k2, k3, k4, k5, k6, k7, k8⟩ := hcell _ (Fr.drew [] w0)
  have HD : Hid (Fr [] w0 w0.drew) := Fr.drew [] w0
  have HFw : Hid (Fr [] w w0 ∧ w0.heap.size = w.heap.size + 2) := ⟨hF0, hs0⟩
  clear hcell hb0 hb1 hE hHh hF0 hs0
  go_enter Tryz.func4, Tryz.ntmps4
  go_upto_region 1 with fail
  rw [HW0.out]
  clear HW0
  go_loud (go_region_held3 (fun W => W.cell? ⟨w.heap.size, 0, none⟩ = some (.int .i64 m) ∧ W.cell? ⟨w.heap.size, 1, none⟩ = some (.slice bo Lb cb) ∧ W.cell? ⟨w.heap.size, 2, none⟩ = some (.slice ho Lh ch)) (go_keep)
    (first
    | (go_at_call 9; with_reducible refine (HE.out _ HD.out).mono ?_; rintro e1 w1 ⟨bb, rfl, HB1, hF1, l0, l1, l2, l3, l4, l5, l6, l7, l8⟩)
    | (go_at_call 10; with_reducible refine (HH.out _ hF1).mono ?_; rintro e2 w2 ⟨bh, ks, rfl, HB2, m0, m1, m2, m3, m4, m5, m6, m7, m8⟩)))
  have hFs : Fr [w.heap.size + 1] w2 (((w2.setCell ⟨w.heap.size + 1, 0, none⟩ (.int .i64 m)).setCell ⟨w.heap.size + 1, 1, none⟩ (.slice (some ⟨bb, 0, none⟩) Lb (Lb + 1))).setCell ⟨w.heap.size + 1, 2, none⟩ (.slice (some ⟨bh, 0, none⟩) Lh (Lh + 1))) := ((Fr.set w2 ⟨w.heap.size + 1, 0, none⟩ _ (by simp)).then (Fr.set _ ⟨w.heap.size + 1, 1, none⟩ _ (by simp))).then (Fr.set _ ⟨w.heap.size + 1, 2, none⟩ _ (by simp))
  have HR : Hid (TwS w (((w2.setCell ⟨w.heap.size + 1, 0, none⟩ (.int .i64 m)).setCell ⟨w.heap.size + 1, 1, none⟩ (.slice (some ⟨bb, 0, none⟩) Lb (Lb + 1))).setCell ⟨w.heap.size + 1, 2, none⟩ (.slice (some ⟨bh, 0, none⟩) Lh (Lh + 1))) bs hs bb bh ks ∧ Fr [] w (((w2.setCell ⟨w.heap.size + 1, 0, none⟩ (.int .i64 m)).setCell ⟨w.heap.size + 1, 1, none⟩ (.slice (some ⟨bb, 0, none⟩) Lb (Lb + 1))).setCell ⟨w.heap.size + 1, 2, none⟩ (.slice (some ⟨bh, 0, none⟩) Lh (Lh + 1)))) := by
    obtain ⟨g1, g2⟩ := HB1.out
    obtain ⟨g3, g4, g5, g6⟩ := HB2.out
    obtain ⟨g7, g8⟩ := HFw.out
    have g9 : w0.drew.heap.size = w0.heap.size := rfl
    have g10 : bb < w1.heap.size := lt_of_block g2
    have g11 : w0.heap.size ≤ w1.heap.size := hF1.size
    have g12 := g6.keep g2 (by simp)
    refine ⟨⟨by omega, by omega, hFs.keep g12 (by simp; omega), hFs.keep g4 (by simp; omega), ?_⟩, (g7.then (hF1.then g6)).on hFs (by intro x hx; simp at hx; omega)⟩
    refine ⟨g5.len, fun k hk => by have := g5.new k hk; omega, fun i' t' k' ht' hk' => ?_, g5.apart⟩
    have := g5.new k' (List.mem_of_getElem? hk')
    exact hFs.keep (g5.row i' t' k' ht' hk') (by simp; omega)
  clear hFs HB1 HB2 hF1 HE HH HD HFw
  go_wp2
  refine bodyPost_ret (v := (.agg #[.int .i64 m, .slice (some ⟨bb, 0, none⟩) Lb (Lb + 1), .slice (some ⟨bh, 0, none⟩) Lh (Lh + 1)])) (by rw [Bq.res_c1 rfl]; go_simp) rfl ⟨bb, bh, ks, rfl, HR.out.1, HR.out.2⟩
theorem own_blk9 {ao : Option Addr} {L c k : Nat} (h : (Value.slice ao L c).ownBlock = some k) : ∃ p, ao = some p ∧ p.block = k := by
  cases ao with
  | none => simp [Value.ownBlock] at h
  | some p => simp [Value.ownBlock] at h; exact ⟨p, rfl, h⟩
section
variable {wS w0 w w' : World} {s r : Option Addr} {n L b : Nat} {ts : List Hd} {ks : List Nat}
theorem twinVs_own {k : Nat} {vs : List Vn} {M : Nat} (h : w.heap[k]? = some (.cells (vnsC (vs ++ [spV])).toArray 74 (0, 0))) (hM : M = vs.length) (hm : M < 2097152) : w.ownsRow 0 74 3 (.slice (some ⟨k, 0, none⟩) M (M + 1)) M (vnsC vs) := by
  refine ⟨by rw [vnsC_length, hM], .inr ⟨k, M + 1, (vnsC (vs ++ [spV])).toArray, rfl, Nat.zero_le _, h, by omega, by simp only [maxLen]; omega, by simp [vnsC_length]; omega, ?_⟩⟩
  simp only [vnsC_append]
  rw [List.take_append_of_le_length (by rw [vnsC_length]; omega), List.take_of_length_le (by rw [vnsC_length]; omega)]
theorem twins_own (hb : w.heap[b]? = some (.cells (hdsC (twTs ts ks ++ [spT])).toArray 58 (0, 0))) (hT : Twd w0 w ts ks) (hL : L = ts.length) (hm : L < 2097152) : w.ownsRow 0 58 2 (.slice (some ⟨b, 0, none⟩) L (L + 1)) L (hdsC (twTs ts ks)) := by
  have hl := twTs_length ts ks hT.len
  refine ⟨by rw [hdsC_length, hl, hL], .inr ⟨b, L + 1, (hdsC (twTs ts ks ++ [spT])).toArray, rfl, Nat.zero_le _, hb, by omega, by simp only [maxLen]; omega, by simp [hdsC_length, hl]; omega, ?_⟩⟩
  simp only [hdsC_append]
  rw [List.take_append_of_le_length (by rw [hdsC_length, hl]; omega), List.take_of_length_le (by rw [hdsC_length, hl]; omega)]
/-- The twins read as what they were made of. -/
theorem twins_hrs {ao : Option Addr} (h : HRs w' ao ts) (hT : Twd w0 w ts ks) (hb : w.heap[b]? = some (.cells (hdsC (twTs ts ks ++ [spT])).toArray 58 (0, 0))) : HRs w (some ⟨b, 0, none⟩) (twTs ts ks) := by
  have hl := twTs_length ts ks hT.len
  refine ⟨fun h0 => ⟨b, 0, rfl, lt_of_block hb, fun i hi => ?_⟩, by rw [hl]; exact h.few, fun x hx => ?_⟩
  · obtain ⟨e1, e2⟩ := hdsC_get (twTs ts ks ++ [spT]) i (by simp; omega)
    have e3 : (twTs ts ks ++ [spT]).getD i Hd.zero = (twTs ts ks).getD i Hd.zero := by simp [List.getD, List.getElem?_append_left hi]
    rw [e3] at e1 e2
    rw [cell_of_row _ _ _ _ _ _ hb, cell_of_row _ _ _ _ _ _ hb, Nat.zero_add]
    exact ⟨by simpa using e1, by simpa using e2⟩
  · obtain ⟨i, hi⟩ := List.getElem?_of_mem hx
    obtain ⟨t, k, ht, hk, rfl⟩ := twTs_get hi
    have he := h.each t (List.mem_of_getElem? ht)
    refine ⟨he.k, he.len, by simp [twT], ?_⟩
    have hr := hT.row i t k ht hk
    refine VRs.of_cells (fun _ => lt_of_block hr) (fun j u hj => ?_) he.rs.few he.rs.each
    rw [Nat.zero_add, cell_of_row _ _ _ _ _ _ hr]
    have hj : (vnsC t.vs)[j]? = some u := hj
    have hj' : j < (vnsC t.vs).length := (List.getElem?_eq_some_iff.1 hj).1
    rw [vnsC_append]
    simpa [List.getElem?_append_left hj'] using hj
theorem twins_kv (hT : Twd w0 w ts ks) : (twTs ts ks).map Hd.kv = ts.map Hd.kv := by
  apply List.ext_getElem?
  intro i
  rw [List.getElem?_map, List.getElem?_map]
  by_cases hi : i < ts.length
  · have h1 : i < (twTs ts ks).length := by rw [twTs_length ts ks hT.len]; exact hi
    obtain ⟨u, hu⟩ : ∃ u, (twTs ts ks)[i]? = some u := ⟨_, List.getElem?_eq_getElem h1⟩
    obtain ⟨t, k, ht, hk, rfl⟩ := twTs_get hu
    rw [hu, ht]
    rfl
  · rw [List.getElem?_eq_none (by rw [twTs_length ts ks hT.len]; omega), List.getElem?_eq_none (by omega)]
end
end Go.Proofs.YtdojhkgnnbdfkaaGreat
/- The document's May of a mark with numbers beyond it, and its among. Conditions: numbers as they lie. -/
namespace Go.Proofs.YtdojhkgnnbdfkaaGreat
open Go.ChangeShapes Go.WideShapes Go.ChangeAt Go.RowKit Go.Lib Go.Maps
set_option linter.unusedVariables false
set_option linter.unusedSimpArgs false

def GokB (m : Int) (xs : List Int) : Prop := 0 ≤ m ∧ m ≤ 65536 ∧ BeyOk m xs
set_option maxHeartbeats 8000000 in
set_option maxRecDepth 100000 in
theorem omay18_any (m : Int) (ao : Option Addr) (L cap : Nat) (xs : List Int) (b : Bool) (w : World) (hX : IRs w ao xs) (hL : L = xs.length) (hb : b = true ↔ GokB m xs) :
    Calls Tryz.prog 32 #[.int .i64 m, .slice ao L cap] w fun e w' => e = .returned (.bool b) ∧ Fr [] w w' := by
  have hbf : ¬ GokB m xs → b = false := fun h => by
    cases hbb : b with
    | false => rfl
    | true => exact absurd (hb.1 hbb) h
  by_cases h0 : m < 0
  · have hb0 := hbf (fun h => by have := h.1; omega)
    subst hb0
    clear hb hbf
    go_enter Tryz.func32, Tryz.ntmps32
    go_wp2
    go_ret
    exact ⟨rfl, Fr.refl _ _⟩
  by_cases h1 : 65536 < m
  · have hb0 := hbf (fun h => by have := h.2.1; omega)
    subst hb0
    clear hb hbf
    go_enter Tryz.func32, Tryz.ntmps32
    go_wp2
    go_ret
    exact ⟨rfl, Fr.refl _ _⟩
  have HL : Hid (L = xs.length) := hL
  have hLL : L ≤ 17592186044416 := by rw [hL]; exact hX.few
  have HX : Hid (∀ W, Fr [] w W → IRs W ao xs) := fun W hf => hX.keep hf
  have HB : Hid ((b = true ↔ GokB m xs) ∧ (¬ GokB m xs → b = false)) := ⟨hb, hbf⟩
  clear hX hL hb hbf
  go_enter Tryz.func32, Tryz.ntmps32
  go_wp2_with fail
  go_loopw [5] (fun ii wr => ∃ i : Nat, ii = .int .i64 i ∧ i ≤ L ∧ Hid (GokB m (xs.take i)) ∧ Hid (Fr [] w wr)) (fun ii _ => L - (RowKit.intOf ii).toNat)
  case atStart => exact ⟨0, rfl, Nat.zero_le _, ⟨by omega, by omega, BeyOk.nil _⟩, Fr.refl _ _⟩
  case round =>
    obtain ⟨i, rfl, hi1, HG, HF⟩ := hrel
    by_cases hi : i < L
    · have hix : i < xs.length := by rw [← HL.out]; exact hi
      obtain ⟨bb, off, rfl, _, hc⟩ := (HX.out _ HF.out).lies (by omega)
      have hci := hc i hix
      have HSt : Hid (BeyOk m (xs.take (i + 1)) ↔ lastB m xs i ≤ xs.getD i 0 ∧ xs.getD i 0 ≤ 65536) := BeyOk.step HG.out.2.2 hix
      have hmem : xs.getD i 0 ∈ xs := by simp [List.getD, hix]
      have hil : (i : Int) < (L : Int) := by omega
      cases i with
      | zero =>
        obtain ⟨x, hx⟩ : ∃ x, x = xs.getD 0 0 := ⟨_, rfl⟩
        rw [← hx] at hci HSt hmem
        clear hx hc
        rw [Nat.add_zero] at hci
        by_cases h2 : x < m + 2
        · have hb0 : b = false := HB.out.2 (fun hG => by
            have := hG.2.2.low x hmem
            omega)
          subst hb0
          have d1 : decide (x < m + 2) = true := by simpa using h2
          clear hmem HSt HB
          go_wp2_with fail
          go_quiet (fail)
          go_wp2
          go_ret
          exact ⟨rfl, HF.out.then (Fr.drewN _ _ _)⟩
        have d1 : decide (x < m + 2) = false := by simpa using h2
        by_cases h3 : 65536 < x
        · have hb0 : b = false := HB.out.2 (fun hG => by
            have := hG.2.2.high x hmem
            omega)
          subst hb0
          have d2 : decide (65536 < x) = true := by simpa using h3
          clear hmem HSt HB
          go_wp2_with fail
          go_quiet (fail)
          go_wp2
          go_ret
          exact ⟨rfl, HF.out.then (Fr.drewN _ _ _)⟩
        have d2 : decide (65536 < x) = false := by simpa using h3
        have HG2 : Hid (GokB m (xs.take (0 + 1))) := by
          exact ⟨by omega, by omega, HSt.out.2 ⟨by show m + 2 ≤ x; omega, by omega⟩⟩
        clear hmem HSt
        go_wp2_with fail
        go_quiet (fail)
        have HF2 : Hid (Fr [] w (wr.drewN nq)) := HF.out.then (Fr.drewN _ _ _)
        go_wp2
        go_roundw
        case rel => exact ⟨1, by simp, by omega, HG2, HF2⟩
        case measure => simp [RowKit.intOf]; omega
      | succ i =>
        have hcp := hc i (by omega)
        have hpr : xs.Pairwise (· < ·) → xs.getD i 0 < xs.getD (i + 1) 0 := fun hr => by
          have := List.pairwise_iff_getElem.1 hr i (i + 1) (by omega) hix (by omega)
          have h3 : i < xs.length := by omega
          simpa [List.getD, h3, hix] using this
        obtain ⟨x, hx⟩ : ∃ x, x = xs.getD (i + 1) 0 := ⟨_, rfl⟩
        obtain ⟨y, hy⟩ : ∃ y, y = xs.getD i 0 := ⟨_, rfl⟩
        rw [← hx] at hci HSt hmem hpr
        have HY : Hid (y = xs.getD i 0) := hy
        rw [← hy] at hcp hpr
        clear hx hy hc
        have hiw : IntKind.i64.wrap ((i : Int)) = (i : Int) := by rw [IntKind.wrap_i64]; omega
        have d0 : decide ((0 : Int) < ((i + 1 : Nat) : Int)) = true := by simp
        by_cases h2 : x < m + 2
        · have hb0 : b = false := HB.out.2 (fun hG => by
            have := hG.2.2.low x hmem
            omega)
          subst hb0
          have d1 : decide (x < m + 2) = true := by simpa using h2
          clear hmem HSt HB hpr HY
          go_wp2_with fail
          go_quiet (fail)
          go_wp2
          go_ret
          exact ⟨rfl, HF.out.then (Fr.drewN _ _ _)⟩
        have d1 : decide (x < m + 2) = false := by simpa using h2
        by_cases h3 : 65536 < x
        · have hb0 : b = false := HB.out.2 (fun hG => by
            have := hG.2.2.high x hmem
            omega)
          subst hb0
          have d2 : decide (65536 < x) = true := by simpa using h3
          clear hmem HSt HB hpr HY
          go_wp2_with fail
          go_quiet (fail)
          go_wp2
          go_ret
          exact ⟨rfl, HF.out.then (Fr.drewN _ _ _)⟩
        have d2 : decide (65536 < x) = false := by simpa using h3
        by_cases h4 : x ≤ y
        · have hb0 : b = false := HB.out.2 (fun hG => by
            have := hpr hG.2.2.rise
            omega)
          subst hb0
          have d3 : decide (x ≤ y) = true := by simpa using h4
          clear hmem HSt HB hpr HY
          go_wp2_with fail
          go_quiet (fail)
          go_wp2
          go_ret
          exact ⟨rfl, HF.out.then (Fr.drewN _ _ _)⟩
        have d3 : decide (x ≤ y) = false := by simpa using h4
        have HG2 : Hid (GokB m (xs.take (i + 1 + 1))) := by
          exact ⟨by omega, by omega, HSt.out.2 ⟨by rw [lastB_succ]; rw [← HY.out]; omega, by omega⟩⟩
        clear hmem HSt hpr HY
        go_wp2_with fail
        go_quiet (fail)
        have HF2 : Hid (Fr [] w (wr.drewN nq)) := HF.out.then (Fr.drewN _ _ _)
        go_wp2
        go_roundw
        case rel => exact ⟨i + 1 + 1, by simp, by omega, HG2, HF2⟩
        case measure => simp [RowKit.intOf]; omega
    · have hb1 : b = true := HB.out.1.2 (by
        have := HG.out
        rwa [List.take_of_length_le (by rw [← HL.out]; omega)] at this)
      subst hb1
      go_wp2
      go_ret
      exact ⟨rfl, HF.out⟩
set_option maxHeartbeats 4000000 in
set_option maxRecDepth 100000 in
theorem ywamong_any (ao : Option Addr) (L cap : Nat) (xs : List Int) (n : Int) (T : Bool) (w : World) (hX : IRs w ao xs) (hL : L = xs.length) (hT : T = true ↔ n ∈ xs) :
    Calls Tryz.prog 34 #[.slice ao L cap, .int .i64 n] w fun e w' => e = .returned (.bool T) ∧ w = w' := by
  have HL : Hid (L = xs.length) := hL
  have hLL : L ≤ 17592186044416 := by rw [hL]; exact hX.few
  have HX : Hid (IRs w ao xs) := hX
  have HT : Hid (T = true ↔ n ∈ xs) := hT
  clear hX hL hT
  go_enter Tryz.func34, Tryz.ntmps34
  go_wp2_with fail
  go_loopw [5] (fun ii wr => ∃ i : Nat, ii = .int .i64 i ∧ i ≤ L ∧ Hid (n ∉ xs.take i) ∧ w = wr) (fun ii _ => L - (RowKit.intOf ii).toNat)
  case atStart => exact ⟨0, rfl, Nat.zero_le _, by simp [Hid], rfl⟩
  case round =>
    obtain ⟨i, rfl, hi1, HI, rfl⟩ := hrel
    by_cases hi : i < L
    · have hix : i < xs.length := by rw [← HL.out]; exact hi
      obtain ⟨bb, off, rfl, _, hc⟩ := HX.out.lies (by omega)
      have hci := hc i hix
      have hmem : xs.getD i 0 ∈ xs := by simp [List.getD, hix]
      have HS := itake_snoc xs i hix
      have hil : (i : Int) < (L : Int) := by omega
      obtain ⟨x, hx⟩ : ∃ x, x = xs.getD i 0 := ⟨_, rfl⟩
      rw [← hx] at hci hmem HS
      clear hx hc
      by_cases h2 : x = n
      · have ht : T = true := HT.out.2 (h2 ▸ hmem)
        subst ht
        subst h2
        clear HT HS hmem HI
        go_wp2
        go_ret
        exact ⟨rfl, rfl⟩
      · have HI2 : Hid (n ∉ xs.take (i + 1)) := by
          show n ∉ _
          rw [HS]
          intro h
          rcases List.mem_append.1 h with h3 | h3
          · exact HI.out h3
          · rw [List.mem_singleton] at h3; exact h2 h3.symm
        have d1 : decide (x = n) = false := by simpa using h2
        clear HS hmem HI
        go_wp2_with fail
        go_roundw
        case rel => exact ⟨i + 1, by simp, by omega, HI2, trivial⟩
        case measure => simp [RowKit.intOf]; omega
    · have ht : T = false := by
        cases hq : T with
        | false => rfl
        | true => exact absurd (HT.out.1 hq) (by have := HI.out; rwa [List.take_of_length_le (by rw [← HL.out]; omega)] at this)
      subst ht
      have hil : ¬ (i : Int) < (L : Int) := by omega
      clear HT HI
      go_wp2
      go_ret
      exact ⟨rfl, rfl⟩
end Go.Proofs.YtdojhkgnnbdfkaaGreat

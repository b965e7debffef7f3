/- Texts of this claim laid together, one behind the other: contracts and plain lemmas; conditions as each names them. -/
import Derived.Test.YtembflnhhfliaaaGreatDoorGp18
import Derived.Test.YtembflnhhfliaaaGreatDoorGp19
import Derived.Test.YtembflnhhfliaaaGreatDoorGp26
import Derived.Test.YtembflnhhfliaaaGreatDoorGp12
import Derived.Deep.RegionHeld3
import Derived.Test.YtembflnhhfliaaaGreatDoorGp6
import Derived.BigQuiet
import Derived.Deep.RegionLaw
import Derived.Deep.RegionWith
import Derived.Deep.CutRange
/- What the statements' helpers TwinSaved and LeftSaved answer; the twin as a Book sees it. Conditions: fewer than 2^21 keys, of fewer than 2^21 versions each. -/
namespace Go.Proofs.YtembflnhhfliaaaGreatDoor
open BigFrame Go.ChangeShapes Go.WideShapes Go.ChangeAt Go.RowKit Go.Lib Go.Maps
set_option linter.unusedVariables false
set_option linter.unusedSimpArgs false

structure TwS (w0 w : World) (bs : List Int) (hs : List Hd) (bb bh : Nat) (ks : List Nat) : Prop where
  nb : w0.heap.size ≤ bb
  nh : w0.heap.size ≤ bh
  rb : w.heap[bb]? = some (.cells (intsT (bs ++ [7777])).toArray 3 (0, 0))
  rh : w.heap[bh]? = some (.cells (hdsC (twTs hs ks ++ [spT])).toArray 147 (0, 0))
  tw : Twd w0 w hs ks
theorem TwS.keep {w0 w w' : World} {bs : List Int} {hs : List Hd} {bb bh : Nat} {ks : List Nat} (h : TwS w0 w bs hs bb bh ks) (hf : Fr [] w w') : TwS w0 w' bs hs bb bh ks := ⟨h.nb, h.nh, hf.keep h.rb (by simp), hf.keep h.rh (by simp), h.tw.keep hf (by simp)⟩
theorem sv_cells {W : World} {b : Nat} {v0 v1 v2 : Value} {ty : TypeId} (h : W.heap[b]? = some (.cells #[v0, v1, v2] ty (0, 0))) : W.cell? ⟨b, 0, none⟩ = some v0 ∧ W.cell? ⟨b, 1, none⟩ = some v1 ∧ W.cell? ⟨b, 2, none⟩ = some v2 := by
  refine ⟨?_, ?_, ?_⟩ <;> (rw [cell_of_row _ _ _ _ _ _ h]; rfl)
set_option maxHeartbeats 4000000 in
set_option maxRecDepth 100000 in
theorem leftSv_any {w0 w : World} (m : Int) (bo ho : Option Addr) (Lb cb Lh ch : Nat) (bs : List Int) (hs : List Hd) (bb bh : Nat) (ks : List Nat) (hI : IRs w bo bs) (hLb : Lb = bs.length) (hH : HRs w ho hs) (hLh : Lh = hs.length) (hL : Lh < 2^21) (hfew : Few hs) (hT : TwS w0 w bs hs bb bh ks) :
    Calls Tryz.prog 17 #[.agg #[.int .i64 m, .slice (some ⟨bb, 0, none⟩) Lb (Lb + 1), .slice (some ⟨bh, 0, none⟩) Lh (Lh + 1)], .agg #[.int .i64 m, .slice bo Lb cb, .slice ho Lh ch]] w fun e w' => e = .returned (.bool true) ∧ Fr [] w w' := by
  have HE : Hid (∀ W, Fr [] w W → Calls Tryz.prog 84 #[.slice (some ⟨bb, 0, none⟩) Lb (Lb + 1), .slice bo Lb cb] W fun e w' => e = .returned (.bool true) ∧ Fr [] W w') := fun W hW => leftIs_any bb bo Lb cb bs W (hI.keep hW) hLb (by have := hI.few; omega) (hT.keep hW).rb
  have HH : Hid (∀ W, Fr [] w W → Calls Tryz.prog 85 #[.slice (some ⟨bh, 0, none⟩) Lh (Lh + 1), .slice ho Lh ch] W fun e w' => e = .returned (.bool true) ∧ Fr [] W w') := fun W hW => leftHs_any bh ks w0 ho Lh ch hs W (hH.keep hW) hLh hL hfew (hT.keep hW).tw (hT.keep hW).rh
  clear hI hH hT hLb hLh hfew
  obtain ⟨W0, HW0⟩ : ∃ W0, Hid (((w.alloc (.cells #[.int .i64 m, .slice (some ⟨bb, 0, none⟩) Lb (Lb + 1), .slice (some ⟨bh, 0, none⟩) Lh (Lh + 1)] 57)).alloc (.cells #[.int .i64 m, .slice bo Lb cb, .slice ho Lh ch] 57)) = W0) := ⟨_, rfl⟩
  have h1 : W0.heap[w.heap.size]? = some (.cells #[.int .i64 m, .slice (some ⟨bb, 0, none⟩) Lb (Lb + 1), .slice (some ⟨bh, 0, none⟩) Lh (Lh + 1)] 57 (0, 0)) := by
    rw [← HW0.out]; exact (Fr.alloc [] _ _).keep (heap_alloc_new w _) (by simp)
  have h2 : W0.heap[w.heap.size + 1]? = some (.cells #[.int .i64 m, .slice bo Lb cb, .slice ho Lh ch] 57 (0, 0)) := by
    rw [← HW0.out]
    have := heap_alloc_new (w.alloc (.cells #[.int .i64 m, .slice (some ⟨bb, 0, none⟩) Lb (Lb + 1), .slice (some ⟨bh, 0, none⟩) Lh (Lh + 1)] 57)) (.cells #[.int .i64 m, .slice bo Lb cb, .slice ho Lh ch] 57)
    simpa using this
  have HC : Hid (∀ W, Fr [] W0 W → W.heap[w.heap.size]? = some (.cells #[.int .i64 m, .slice (some ⟨bb, 0, none⟩) Lb (Lb + 1), .slice (some ⟨bh, 0, none⟩) Lh (Lh + 1)] 57 (0, 0)) ∧ W.heap[w.heap.size + 1]? = some (.cells #[.int .i64 m, .slice bo Lb cb, .slice ho Lh ch] 57 (0, 0))) := fun W hW => ⟨hW.keep h1 (by simp), hW.keep h2 (by simp)⟩
  have HF0 : Hid (Fr [] w W0) := by rw [← HW0.out]; exact (Fr.alloc [] w _).then (Fr.alloc [] _ _)
  clear h1 h2
  go_enter Tryz.func17, Tryz.ntmps17
  go_upto_region 1 with fail
  rw [HW0.out]
  obtain ⟨q1, q2⟩ := HC.out W0 (Fr.refl _ _)
  obtain ⟨a0, a1, a2⟩ := sv_cells q1
  obtain ⟨b0, b1, b2⟩ := sv_cells q2
  clear q1 q2 HW0
  go_wp2_with fail
  refine (HE.out _ HF0.out).mono ?_
  rintro e' w1 ⟨rfl, hf1⟩
  have HF1 : Hid (Fr [] W0 w1) := hf1
  obtain ⟨q1, q2⟩ := HC.out w1 hf1
  clear a0 a1 a2 b0 b1 b2 hf1
  obtain ⟨a0, a1, a2⟩ := sv_cells q1
  obtain ⟨b0, b1, b2⟩ := sv_cells q2
  clear q1 q2
  go_wp2_with fail
  refine (HH.out _ (HF0.out.then HF1.out)).mono ?_
  rintro e' w2 ⟨rfl, hf2⟩
  have HF2 : Hid (Fr [] W0 w2) := HF1.out.then hf2
  clear a0 a1 a2 b0 b1 b2 hf2
  go_wp2
  go_ret
  exact ⟨by simp, HF0.out.then HF2.out⟩
set_option maxHeartbeats 4000000 in
set_option maxRecDepth 100000 in
theorem twinSv_any {w : World} (m : Int) (bo ho : Option Addr) (Lb cb Lh ch : Nat) (bs : List Int) (hs : List Hd) (hI : IRs w bo bs) (hLb : Lb = bs.length) (hH : HRs w ho hs) (hLh : Lh = hs.length) (hL : Lh < 2^21) (hfew : Few hs) :
    Calls Tryz.prog 14 #[.agg #[.int .i64 m, .slice bo Lb cb, .slice ho Lh ch]] w fun e w' => ∃ bb bh ks, e = .returned (.agg #[.int .i64 m, .slice (some ⟨bb, 0, none⟩) Lb (Lb + 1), .slice (some ⟨bh, 0, none⟩) Lh (Lh + 1)]) ∧ TwS w w' bs hs bb bh ks ∧ Fr [] w w' := by
  have hE : ∀ W, Fr [] w W → Calls Tryz.prog 74 #[.slice bo Lb cb] W fun e w' => ∃ b, e = .returned (.slice (some ⟨b, 0, none⟩) Lb (Lb + 1)) ∧ W.heap.size ≤ b ∧ w'.heap[b]? = some (.cells (intsT (bs ++ [7777])).toArray 3 (0, 0)) ∧ Fr [] W w' := fun W hW => twinIs_any bo Lb cb bs W (hI.keep hW) hLb (by have := hI.few; omega)
  have hHh : ∀ W, Fr [] w W → Calls Tryz.prog 75 #[.slice ho Lh ch] W fun e w' => ∃ b ks, e = .returned (.slice (some ⟨b, 0, none⟩) Lh (Lh + 1)) ∧ W.heap.size ≤ b ∧ w'.heap[b]? = some (.cells (hdsC (twTs hs ks ++ [spT])).toArray 147 (0, 0)) ∧ Twd W w' hs ks ∧ Fr [] W w' := fun W hW => twinHs_any ho Lh ch hs W (hH.keep hW) hLh hL hfew
  clear hI hH hLb hLh hfew
  obtain ⟨w0, HW0⟩ : ∃ w0, Hid ((w.alloc (.cells #[.int .i64 m, .slice bo Lb cb, .slice ho Lh ch] 57)).alloc (.cells #[.int .i64 0, .slice none 0 0, .slice none 0 0] 57) = w0) := ⟨_, rfl⟩
  have hF0 : Fr [] w w0 := by rw [← HW0.out]; exact (Fr.alloc [] w _).then (Fr.alloc [] _ _)
  have hb0 : w0.heap[w.heap.size]? = some (.cells #[.int .i64 m, .slice bo Lb cb, .slice ho Lh ch] 57 (0, 0)) := by rw [← HW0.out]; exact (Fr.alloc [] _ _).keep (heap_alloc_new w _) (by simp)
  have hb1 : w0.heap[w.heap.size + 1]? = some (.cells #[.int .i64 0, .slice none 0 0, .slice none 0 0] 57 (0, 0)) := by
    rw [← HW0.out]
    have := heap_alloc_new (w.alloc (.cells #[.int .i64 m, .slice bo Lb cb, .slice ho Lh ch] 57)) (.cells #[.int .i64 0, .slice none 0 0, .slice none 0 0] 57)
    simpa using this
  have hs0 : w0.heap.size = w.heap.size + 2 := by rw [← HW0.out]; simp
  have hcell : ∀ W, Fr [] w0 W → W.cell? ⟨w.heap.size, 0, none⟩ = some (.int .i64 m) ∧ W.cell? ⟨w.heap.size, 1, none⟩ = some (.slice bo Lb cb) ∧ W.cell? ⟨w.heap.size, 2, none⟩ = some (.slice ho Lh ch) ∧ W.cell? ⟨w.heap.size + 1, 0, none⟩ = some (.int .i64 0) ∧ W.cell? ⟨w.heap.size + 1, 1, none⟩ = some (.slice none 0 0) ∧ W.cell? ⟨w.heap.size + 1, 2, none⟩ = some (.slice none 0 0) ∧ W.frozen? ⟨w.heap.size + 1, 0, none⟩ = false ∧ W.frozen? ⟨w.heap.size + 1, 1, none⟩ = false ∧ W.frozen? ⟨w.heap.size + 1, 2, none⟩ = false := by
    intro W hf
    have q1 := hf.keep hb0 (by simp)
    have q2 := hf.keep hb1 (by simp)
    obtain ⟨x0, x1, x2⟩ := sv_cells q1
    obtain ⟨y0, y1, y2⟩ := sv_cells q2
    exact ⟨x0, x1, x2, y0, y1, y2, by simp [World.frozen?, q2], by simp [World.frozen?, q2], by simp [World.frozen?, q2]⟩
  have HE : Hid (∀ W, Fr [] w0 W → Calls Tryz.prog 74 #[.slice bo Lb cb] W fun e' w' => ∃ bb, e' = .returned (.slice (some ⟨bb, 0, none⟩) Lb (Lb + 1)) ∧ Hid (W.heap.size ≤ bb ∧ w'.heap[bb]? = some (.cells (intsT (bs ++ [7777])).toArray 3 (0, 0))) ∧ Fr [] w0 w' ∧ w'.cell? ⟨w.heap.size, 0, none⟩ = some (.int .i64 m) ∧ w'.cell? ⟨w.heap.size, 1, none⟩ = some (.slice bo Lb cb) ∧ w'.cell? ⟨w.heap.size, 2, none⟩ = some (.slice ho Lh ch) ∧ w'.cell? ⟨w.heap.size + 1, 0, none⟩ = some (.int .i64 0) ∧ w'.cell? ⟨w.heap.size + 1, 1, none⟩ = some (.slice none 0 0) ∧ w'.cell? ⟨w.heap.size + 1, 2, none⟩ = some (.slice none 0 0) ∧ w'.frozen? ⟨w.heap.size + 1, 0, none⟩ = false ∧ w'.frozen? ⟨w.heap.size + 1, 1, none⟩ = false ∧ w'.frozen? ⟨w.heap.size + 1, 2, none⟩ = false) := fun W hW => (hE W (hF0.then hW)).mono (by
    rintro e' w' ⟨b', h1, h2, h3, h4⟩
    exact ⟨b', h1, ⟨h2, h3⟩, hW.then h4, hcell _ (hW.then h4)⟩)
  have HH : Hid (∀ W, Fr [] w0 W → Calls Tryz.prog 75 #[.slice ho Lh ch] W fun e' w' => ∃ bh ks, e' = .returned (.slice (some ⟨bh, 0, none⟩) Lh (Lh + 1)) ∧ Hid (W.heap.size ≤ bh ∧ w'.heap[bh]? = some (.cells (hdsC (twTs hs ks ++ [spT])).toArray 147 (0, 0)) ∧ Twd W w' hs ks ∧ Fr [] W w') ∧ w'.cell? ⟨w.heap.size, 0, none⟩ = some (.int .i64 m) ∧ w'.cell? ⟨w.heap.size, 1, none⟩ = some (.slice bo Lb cb) ∧ w'.cell? ⟨w.heap.size, 2, none⟩ = some (.slice ho Lh ch) ∧ w'.cell? ⟨w.heap.size + 1, 0, none⟩ = some (.int .i64 0) ∧ w'.cell? ⟨w.heap.size + 1, 1, none⟩ = some (.slice none 0 0) ∧ w'.cell? ⟨w.heap.size + 1, 2, none⟩ = some (.slice none 0 0) ∧ w'.frozen? ⟨w.heap.size + 1, 0, none⟩ = false ∧ w'.frozen? ⟨w.heap.size + 1, 1, none⟩ = false ∧ w'.frozen? ⟨w.heap.size + 1, 2, none⟩ = false) := fun W hW => (hHh W (hF0.then hW)).mono (by
    rintro e' w' ⟨b', ks, h1, h2, h3, h4, h5⟩
    exact ⟨b', ks, h1, ⟨h2, h3, h4, h5⟩, hcell _ (hW.then h5)⟩)
  obtain ⟨k0, k1, k2, k3, k4, k5, k6, k7, k8⟩ := hcell _ (Fr.drew [] w0)
  have HD : Hid (Fr [] w0 w0.drew) := Fr.drew [] w0
  have HFw : Hid (Fr [] w w0 ∧ w0.heap.size = w.heap.size + 2) := ⟨hF0, hs0⟩
  clear hcell hb0 hb1 hE hHh hF0 hs0
  go_enter Tryz.func14, Tryz.ntmps14
  go_upto_region 1 with fail
  rw [HW0.out]
  clear HW0
  go_loud (go_region_held3 (fun W => W.cell? ⟨w.heap.size, 0, none⟩ = some (.int .i64 m) ∧ W.cell? ⟨w.heap.size, 1, none⟩ = some (.slice bo Lb cb) ∧ W.cell? ⟨w.heap.size, 2, none⟩ = some (.slice ho Lh ch)) (go_keep)
    (first
    | (go_at_call 74; with_reducible refine (HE.out _ HD.out).mono ?_; rintro e1 w1 ⟨bb, rfl, HB1, hF1, l0, l1, l2, l3, l4, l5, l6, l7, l8⟩)
    | (go_at_call 75; with_reducible refine (HH.out _ hF1).mono ?_; rintro e2 w2 ⟨bh, ks, rfl, HB2, m0, m1, m2, m3, m4, m5, m6, m7, m8⟩)))
  have hFs : Fr [w.heap.size + 1] w2 (((w2.setCell ⟨w.heap.size + 1, 0, none⟩ (.int .i64 m)).setCell ⟨w.heap.size + 1, 1, none⟩ (.slice (some ⟨bb, 0, none⟩) Lb (Lb + 1))).setCell ⟨w.heap.size + 1, 2, none⟩ (.slice (some ⟨bh, 0, none⟩) Lh (Lh + 1))) := ((Fr.set w2 ⟨w.heap.size + 1, 0, none⟩ _ (by simp)).then (Fr.set _ ⟨w.heap.size + 1, 1, none⟩ _ (by simp))).then (Fr.set _ ⟨w.heap.size + 1, 2, none⟩ _ (by simp))
  have HR : Hid (TwS w (((w2.setCell ⟨w.heap.size + 1, 0, none⟩ (.int .i64 m)).setCell ⟨w.heap.size + 1, 1, none⟩ (.slice (some ⟨bb, 0, none⟩) Lb (Lb + 1))).setCell ⟨w.heap.size + 1, 2, none⟩ (.slice (some ⟨bh, 0, none⟩) Lh (Lh + 1))) bs hs bb bh ks ∧ Fr [] w (((w2.setCell ⟨w.heap.size + 1, 0, none⟩ (.int .i64 m)).setCell ⟨w.heap.size + 1, 1, none⟩ (.slice (some ⟨bb, 0, none⟩) Lb (Lb + 1))).setCell ⟨w.heap.size + 1, 2, none⟩ (.slice (some ⟨bh, 0, none⟩) Lh (Lh + 1)))) := by
    obtain ⟨g1, g2⟩ := HB1.out
    obtain ⟨g3, g4, g5, g6⟩ := HB2.out
    obtain ⟨g7, g8⟩ := HFw.out
    have g9 : w0.drew.heap.size = w0.heap.size := rfl
    have g10 : bb < w1.heap.size := lt_of_block g2
    have g11 : w0.heap.size ≤ w1.heap.size := hF1.size
    have g12 := g6.keep g2 (by simp)
    refine ⟨⟨by omega, by omega, hFs.keep g12 (by simp; omega), hFs.keep g4 (by simp; omega), ?_⟩, (g7.then (hF1.then g6)).on hFs (by intro x hx; simp at hx; omega)⟩
    refine ⟨g5.len, fun k hk => by have := g5.new k hk; omega, fun i' t' k' ht' hk' => ?_, g5.apart⟩
    have := g5.new k' (List.mem_of_getElem? hk')
    exact hFs.keep (g5.row i' t' k' ht' hk') (by simp; omega)
  clear hFs HB1 HB2 hF1 HE HH HD HFw
  go_wp2
  refine bodyPost_ret (v := (.agg #[.int .i64 m, .slice (some ⟨bb, 0, none⟩) Lb (Lb + 1), .slice (some ⟨bh, 0, none⟩) Lh (Lh + 1)])) (by rw [Bq.res_c1 rfl]; go_simp) rfl ⟨bb, bh, ks, rfl, HR.out.1, HR.out.2⟩
def dsOf (hs : List Hd) : List Bq.Dt := hs.map fun h => (h.key, .slice h.vo h.L h.cap)
theorem dsOf_C (hs : List Hd) : Bq.dtC (dsOf hs) = hdsC hs := by unfold dsOf Bq.dtC hdsC; rw [List.flatMap_map]; rfl
theorem dsOf_get {hs : List Hd} {i : Nat} {d : Bq.Dt} (h : (dsOf hs)[i]? = some d) : ∃ x, hs[i]? = some x ∧ d = (x.key, .slice x.vo x.L x.cap) := by
  unfold dsOf at h
  rw [List.getElem?_map] at h
  cases hx : hs[i]? with
  | none => rw [hx] at h; simp at h
  | some x => rw [hx] at h; simp at h; exact ⟨x, rfl, h.symm⟩
theorem own_blk9 {ao : Option Addr} {L c k : Nat} (h : (Value.slice ao L c).ownBlock = some k) : ∃ p, ao = some p ∧ p.block = k := by
  cases ao with
  | none => simp [Value.ownBlock] at h
  | some p => simp [Value.ownBlock] at h; exact ⟨p, rfl, h⟩
section
variable {wS w0 w w' : World} {s r : Option Addr} {n L b : Nat} {ts : List Hd} {ks : List Nat}
theorem twinVs_own {k : Nat} {vs : List Vn} {M : Nat} (h : w.heap[k]? = some (.cells (vnsC (vs ++ [spV])).toArray 136 (0, 0))) (hM : M = vs.length) (hm : M < 2097152) : w.ownsRow 0 136 3 (.slice (some ⟨k, 0, none⟩) M (M + 1)) M (vnsC vs) := by
  refine ⟨by rw [vnsC_length, hM], .inr ⟨k, M + 1, (vnsC (vs ++ [spV])).toArray, rfl, Nat.zero_le _, h, by omega, by simp only [maxLen]; omega, by simp [vnsC_length]; omega, ?_⟩⟩
  simp only [vnsC_append]
  rw [List.take_append_of_le_length (by rw [vnsC_length]; omega), List.take_of_length_le (by rw [vnsC_length]; omega)]
theorem twins_own (hb : w.heap[b]? = some (.cells (hdsC (twTs ts ks ++ [spT])).toArray 147 (0, 0))) (hT : Twd w0 w ts ks) (hL : L = ts.length) (hm : L < 2097152) : w.ownsRow 0 147 2 (.slice (some ⟨b, 0, none⟩) L (L + 1)) L (hdsC (twTs ts ks)) := by
  have hl := twTs_length ts ks hT.len
  refine ⟨by rw [hdsC_length, hl, hL], .inr ⟨b, L + 1, (hdsC (twTs ts ks ++ [spT])).toArray, rfl, Nat.zero_le _, hb, by omega, by simp only [maxLen]; omega, by simp [hdsC_length, hl]; omega, ?_⟩⟩
  simp only [hdsC_append]
  rw [List.take_append_of_le_length (by rw [hdsC_length, hl]; omega), List.take_of_length_le (by rw [hdsC_length, hl]; omega)]
/-- The twins read as what they were made of. -/
theorem twins_hrs {ao : Option Addr} (h : HRs w' ao ts) (hT : Twd w0 w ts ks) (hb : w.heap[b]? = some (.cells (hdsC (twTs ts ks ++ [spT])).toArray 147 (0, 0))) : HRs w (some ⟨b, 0, none⟩) (twTs ts ks) := by
  have hl := twTs_length ts ks hT.len
  refine ⟨fun h0 => ⟨b, 0, rfl, lt_of_block hb, fun i hi => ?_⟩, by rw [hl]; exact h.few, fun x hx => ?_⟩
  · obtain ⟨e1, e2⟩ := hdsC_get (twTs ts ks ++ [spT]) i (by simp; omega)
    have e3 : (twTs ts ks ++ [spT]).getD i Hd.zero = (twTs ts ks).getD i Hd.zero := by simp [List.getD, List.getElem?_append_left hi]
    rw [e3] at e1 e2
    rw [cell_of_row _ _ _ _ _ _ hb, cell_of_row _ _ _ _ _ _ hb, Nat.zero_add]
    exact ⟨by simpa using e1, by simpa using e2⟩
  · obtain ⟨i, hi⟩ := List.getElem?_of_mem hx
    obtain ⟨t, k, ht, hk, rfl⟩ := twTs_get hi
    have he := h.each t (List.mem_of_getElem? ht)
    refine ⟨he.k, he.len, by simp [twT], ?_⟩
    have hr := hT.row i t k ht hk
    refine VRs.of_cells (fun _ => lt_of_block hr) (fun j u hj => ?_) he.rs.few he.rs.each
    rw [Nat.zero_add, cell_of_row _ _ _ _ _ _ hr]
    have hj : (vnsC t.vs)[j]? = some u := hj
    have hj' : j < (vnsC t.vs).length := (List.getElem?_eq_some_iff.1 hj).1
    rw [vnsC_append]
    simpa [List.getElem?_append_left hj'] using hj
theorem twins_kv (hT : Twd w0 w ts ks) : (twTs ts ks).map Hd.kv = ts.map Hd.kv := by
  apply List.ext_getElem?
  intro i
  rw [List.getElem?_map, List.getElem?_map]
  by_cases hi : i < ts.length
  · have h1 : i < (twTs ts ks).length := by rw [twTs_length ts ks hT.len]; exact hi
    obtain ⟨u, hu⟩ : ∃ u, (twTs ts ks)[i]? = some u := ⟨_, List.getElem?_eq_getElem h1⟩
    obtain ⟨t, k, ht, hk, rfl⟩ := twTs_get hu
    rw [hu, ht]
    rfl
  · rw [List.getElem?_eq_none (by rw [twTs_length ts ks hT.len]; omega), List.getElem?_eq_none (by omega)]
theorem twins_dts (hb : w.heap[b]? = some (.cells (hdsC (twTs ts ks ++ [spT])).toArray 147 (0, 0))) (hT : Twd w0 w ts ks) (hL : L = ts.length) (hm : L < 2097152) (hF : Few ts) (he : ∀ t ∈ ts, t.L = t.vs.length) : Bq.Dts w (some ⟨b, 0, none⟩) L (L + 1) (dsOf (twTs ts ks)) := by
  refine ⟨by rw [dsOf_C]; exact twins_own hb hT hL (by omega), by simp [dsOf, twTs_length ts ks hT.len, hL], hm, fun i d hd => ?_, fun i j a c ha hc hij k hka hkc => ?_⟩
  · obtain ⟨x, hx, rfl⟩ := dsOf_get hd
    obtain ⟨t, k, ht, hk, rfl⟩ := twTs_get hx
    have hf := hF t (List.mem_of_getElem? ht)
    exact ⟨t.L, vnsC t.vs, Bq.Cut.of (twinVs_own (hT.row i t k ht hk) (he t (List.mem_of_getElem? ht)) (by show t.L < _; omega)), by omega⟩
  · obtain ⟨x, hx, rfl⟩ := dsOf_get ha
    obtain ⟨y, hy, rfl⟩ := dsOf_get hc
    obtain ⟨t, p, ht, hp, rfl⟩ := twTs_get hx
    obtain ⟨u, q, hu, hq, rfl⟩ := twTs_get hy
    simp [twT, Value.ownBlock] at hka hkc
    have h1 := (List.getElem?_eq_some_iff.1 hp)
    have h2 := (List.getElem?_eq_some_iff.1 hq)
    obtain ⟨l1, e1⟩ := h1
    obtain ⟨l2, e2⟩ := h2
    have hP := List.pairwise_iff_getElem.1 hT.apart
    rcases Nat.lt_or_gt_of_ne hij with hlt | hlt
    · exact hP i j l1 l2 hlt (by rw [e1, e2, hka, hkc])
    · exact hP j i l2 l1 hlt (by rw [e1, e2, hka, hkc])
end
end Go.Proofs.YtembflnhhfliaaaGreatDoor
/- The document's May of a mark with numbers beyond it, and its among. Conditions: numbers as they lie. -/
namespace Go.Proofs.YtembflnhhfliaaaGreatDoor
open Go.ChangeShapes Go.WideShapes Go.ChangeAt Go.RowKit Go.Lib Go.Maps
set_option linter.unusedVariables false
set_option linter.unusedSimpArgs false

def GokB (m : Int) (xs : List Int) : Prop := 0 ≤ m ∧ m ≤ 65536 ∧ BeyOk m xs
set_option maxHeartbeats 8000000 in
set_option maxRecDepth 100000 in
theorem omay18_any (m : Int) (ao : Option Addr) (L cap : Nat) (xs : List Int) (b : Bool) (w : World) (hX : IRs w ao xs) (hL : L = xs.length) (hb : b = true ↔ GokB m xs) :
    Calls Tryz.prog 158 #[.int .i64 m, .slice ao L cap] w fun e w' => e = .returned (.bool b) ∧ Fr [] w w' := by
  have hbf : ¬ GokB m xs → b = false := fun h => by
    cases hbb : b with
    | false => rfl
    | true => exact absurd (hb.1 hbb) h
  by_cases h0 : m < 0
  · have hb0 := hbf (fun h => by have := h.1; omega)
    subst hb0
    clear hb hbf
    go_enter Tryz.func158, Tryz.ntmps158
    go_wp2
    go_ret
    exact ⟨rfl, Fr.refl _ _⟩
  by_cases h1 : 65536 < m
  · have hb0 := hbf (fun h => by have := h.2.1; omega)
    subst hb0
    clear hb hbf
    go_enter Tryz.func158, Tryz.ntmps158
    go_wp2
    go_ret
    exact ⟨rfl, Fr.refl _ _⟩
  have HL : Hid (L = xs.length) := hL
  have hLL : L ≤ 17592186044416 := by rw [hL]; exact hX.few
  have HX : Hid (∀ W, Fr [] w W → IRs W ao xs) := fun W hf => hX.keep hf
  have HB : Hid ((b = true ↔ GokB m xs) ∧ (¬ GokB m xs → b = false)) := ⟨hb, hbf⟩
  clear hX hL hb hbf
  go_enter Tryz.func158, Tryz.ntmps158
  go_wp2_with fail
  go_loopw [5] (fun ii wr => ∃ i : Nat, ii = .int .i64 i ∧ i ≤ L ∧ Hid (GokB m (xs.take i)) ∧ Hid (Fr [] w wr)) (fun ii _ => L - (RowKit.intOf ii).toNat)
  case atStart => exact ⟨0, rfl, Nat.zero_le _, ⟨by omega, by omega, BeyOk.nil _⟩, Fr.refl _ _⟩
  case round =>
    obtain ⟨i, rfl, hi1, HG, HF⟩ := hrel
    by_cases hi : i < L
    · have hix : i < xs.length := by rw [← HL.out]; exact hi
      obtain ⟨bb, off, rfl, _, hc⟩ := (HX.out _ HF.out).lies (by omega)
      have hci := hc i hix
      have HSt : Hid (BeyOk m (xs.take (i + 1)) ↔ lastB m xs i ≤ xs.getD i 0 ∧ xs.getD i 0 ≤ 65536) := BeyOk.step HG.out.2.2 hix
      have hmem : xs.getD i 0 ∈ xs := by simp [List.getD, hix]
      have hil : (i : Int) < (L : Int) := by omega
      cases i with
      | zero =>
        obtain ⟨x, hx⟩ : ∃ x, x = xs.getD 0 0 := ⟨_, rfl⟩
        rw [← hx] at hci HSt hmem
        clear hx hc
        rw [Nat.add_zero] at hci
        by_cases h2 : x < m + 2
        · have hb0 : b = false := HB.out.2 (fun hG => by
            have := hG.2.2.low x hmem
            omega)
          subst hb0
          have d1 : decide (x < m + 2) = true := by simpa using h2
          clear hmem HSt HB
          go_wp2_with fail
          go_quiet (fail)
          go_wp2
          go_ret
          exact ⟨rfl, HF.out.then (Fr.drewN _ _ _)⟩
        have d1 : decide (x < m + 2) = false := by simpa using h2
        by_cases h3 : 65536 < x
        · have hb0 : b = false := HB.out.2 (fun hG => by
            have := hG.2.2.high x hmem
            omega)
          subst hb0
          have d2 : decide (65536 < x) = true := by simpa using h3
          clear hmem HSt HB
          go_wp2_with fail
          go_quiet (fail)
          go_wp2
          go_ret
          exact ⟨rfl, HF.out.then (Fr.drewN _ _ _)⟩
        have d2 : decide (65536 < x) = false := by simpa using h3
        have HG2 : Hid (GokB m (xs.take (0 + 1))) := by
          exact ⟨by omega, by omega, HSt.out.2 ⟨by show m + 2 ≤ x; omega, by omega⟩⟩
        clear hmem HSt
        go_wp2_with fail
        go_quiet (fail)
        have HF2 : Hid (Fr [] w (wr.drewN nq)) := HF.out.then (Fr.drewN _ _ _)
        go_wp2
        go_roundw
        case rel => exact ⟨1, by simp, by omega, HG2, HF2⟩
        case measure => simp [RowKit.intOf]; omega
      | succ i =>
        have hcp := hc i (by omega)
        have hpr : xs.Pairwise (· < ·) → xs.getD i 0 < xs.getD (i + 1) 0 := fun hr => by
          have := List.pairwise_iff_getElem.1 hr i (i + 1) (by omega) hix (by omega)
          have h3 : i < xs.length := by omega
          simpa [List.getD, h3, hix] using this
        obtain ⟨x, hx⟩ : ∃ x, x = xs.getD (i + 1) 0 := ⟨_, rfl⟩
        obtain ⟨y, hy⟩ : ∃ y, y = xs.getD i 0 := ⟨_, rfl⟩
        rw [← hx] at hci HSt hmem hpr
        have HY : Hid (y = xs.getD i 0) := hy
        rw [← hy] at hcp hpr
        clear hx hy hc
        have hiw : IntKind.i64.wrap ((i : Int)) = (i : Int) := by rw [IntKind.wrap_i64]; omega
        have d0 : decide ((0 : Int) < ((i + 1 : Nat) : Int)) = true := by simp
        by_cases h2 : x < m + 2
        · have hb0 : b = false := HB.out.2 (fun hG => by
            have := hG.2.2.low x hmem
            omega)
          subst hb0
          have d1 : decide (x < m + 2) = true := by simpa using h2
          clear hmem HSt HB hpr HY
          go_wp2_with fail
          go_quiet (fail)
          go_wp2
          go_ret
          exact ⟨rfl, HF.out.then (Fr.drewN _ _ _)⟩
        have d1 : decide (x < m + 2) = false := by simpa using h2
        by_cases h3 : 65536 < x
        · have hb0 : b = false := HB.out.2 (fun hG => by
            have := hG.2.2.high x hmem
            omega)
          subst hb0
          have d2 : decide (65536 < x) = true := by simpa using h3
          clear hmem HSt HB hpr HY
          go_wp2_with fail
          go_quiet (fail)
          go_wp2
          go_ret
          exact ⟨rfl, HF.out.then (Fr.drewN _ _ _)⟩
        have d2 : decide (65536 < x) = false := by simpa using h3
        by_cases h4 : x ≤ y
        · have hb0 : b = false := HB.out.2 (fun hG => by
            have := hpr hG.2.2.rise
            omega)
          subst hb0
          have d3 : decide (x ≤ y) = true := by simpa using h4
          clear hmem HSt HB hpr HY
          go_wp2_with fail
          go_quiet (fail)
          go_wp2
          go_ret
          exact ⟨rfl, HF.out.then (Fr.drewN _ _ _)⟩
        have d3 : decide (x ≤ y) = false := by simpa using h4
        have HG2 : Hid (GokB m (xs.take (i + 1 + 1))) := by
          exact ⟨by omega, by omega, HSt.out.2 ⟨by rw [lastB_succ]; rw [← HY.out]; omega, by omega⟩⟩
        clear hmem HSt hpr HY
        go_wp2_with fail
        go_quiet (fail)
        have HF2 : Hid (Fr [] w (wr.drewN nq)) := HF.out.then (Fr.drewN _ _ _)
        go_wp2
        go_roundw
        case rel => exact ⟨i + 1 + 1, by simp, by omega, HG2, HF2⟩
        case measure => simp [RowKit.intOf]; omega
    · have hb1 : b = true := HB.out.1.2 (by
        have := HG.out
        rwa [List.take_of_length_le (by rw [← HL.out]; omega)] at this)
      subst hb1
      go_wp2
      go_ret
      exact ⟨rfl, HF.out⟩
set_option maxHeartbeats 4000000 in
set_option maxRecDepth 100000 in
theorem ywamong_any (ao : Option Addr) (L cap : Nat) (xs : List Int) (n : Int) (T : Bool) (w : World) (hX : IRs w ao xs) (hL : L = xs.length) (hT : T = true ↔ n ∈ xs) :
    Calls Tryz.prog 160 #[.slice ao L cap, .int .i64 n] w fun e w' => e = .returned (.bool T) ∧ w = w' := by
  have HL : Hid (L = xs.length) := hL
  have hLL : L ≤ 17592186044416 := by rw [hL]; exact hX.few
  have HX : Hid (IRs w ao xs) := hX
  have HT : Hid (T = true ↔ n ∈ xs) := hT
  clear hX hL hT
  go_enter Tryz.func160, Tryz.ntmps160
  go_wp2_with fail
  go_loopw [5] (fun ii wr => ∃ i : Nat, ii = .int .i64 i ∧ i ≤ L ∧ Hid (n ∉ xs.take i) ∧ w = wr) (fun ii _ => L - (RowKit.intOf ii).toNat)
  case atStart => exact ⟨0, rfl, Nat.zero_le _, by simp [Hid], rfl⟩
  case round =>
    obtain ⟨i, rfl, hi1, HI, rfl⟩ := hrel
    by_cases hi : i < L
    · have hix : i < xs.length := by rw [← HL.out]; exact hi
      obtain ⟨bb, off, rfl, _, hc⟩ := HX.out.lies (by omega)
      have hci := hc i hix
      have hmem : xs.getD i 0 ∈ xs := by simp [List.getD, hix]
      have HS := itake_snoc xs i hix
      have hil : (i : Int) < (L : Int) := by omega
      obtain ⟨x, hx⟩ : ∃ x, x = xs.getD i 0 := ⟨_, rfl⟩
      rw [← hx] at hci hmem HS
      clear hx hc
      by_cases h2 : x = n
      · have ht : T = true := HT.out.2 (h2 ▸ hmem)
        subst ht
        subst h2
        clear HT HS hmem HI
        go_wp2
        go_ret
        exact ⟨rfl, rfl⟩
      · have HI2 : Hid (n ∉ xs.take (i + 1)) := by
          show n ∉ _
          rw [HS]
          intro h
          rcases List.mem_append.1 h with h3 | h3
          · exact HI.out h3
          · rw [List.mem_singleton] at h3; exact h2 h3.symm
        have d1 : decide (x = n) = false := by simpa using h2
        clear HS hmem HI
        go_wp2_with fail
        go_roundw
        case rel => exact ⟨i + 1, by simp, by omega, HI2, trivial⟩
        case measure => simp [RowKit.intOf]; omega
    · have ht : T = false := by
        cases hq : T with
        | false => rfl
        | true => exact absurd (HT.out.1 hq) (by have := HI.out; rwa [List.take_of_length_le (by rw [← HL.out]; omega)] at this)
      subst ht
      have hil : ¬ (i : Int) < (L : Int) := by omega
      clear HT HI
      go_wp2
      go_ret
      exact ⟨rfl, rfl⟩
end Go.Proofs.YtembflnhhfliaaaGreatDoor
/- What the document's May and Check of versions answer. Conditions as each names them. -/
namespace Go.Proofs.YtembflnhhfliaaaGreatDoor
open BigFrame Go.ChangeShapes Go.WideShapes Go.ChangeAt Go.RowKit Go.Lib
set_option linter.unusedVariables false
set_option linter.unusedSimpArgs false
/-- A row that a call answers: new, or in the block that it was handed; with its room. -/
def Nr9 (w w' : World) (ao ro : Option Addr) (N rc : Nat) : Prop := N ≤ rc ∧ ∀ a, ro = some a → (w.heap.size ≤ a.block ∧ ∃ cur, w'.heap[a.block]? = some (.cells cur 136 (0, 0))) ∨ ∃ c, ao = some c ∧ c.block = a.block
theorem Nr9.none (w w' : World) (ao : Option Addr) : Nr9 w w' ao none 0 0 := ⟨Nat.le_refl _, fun a h => by cases h⟩
theorem Nr9.same {w w' : World} {ao : Option Addr} {N rc : Nat} (h : N ≤ rc) : Nr9 w w' ao ao N rc := ⟨h, fun a e => Or.inr ⟨a, e, rfl⟩⟩
theorem Nr9.cut {w w' : World} {ao : Option Addr} {L cap d : Nat} (h : L ≤ cap) : Nr9 w w' ao (fromV ao cap d) (L - d) (cap - d) := by
  refine ⟨by omega, fun a e => Or.inr ?_⟩
  unfold fromV at e
  cases ao with
  | none => simp at e
  | some c =>
    refine ⟨c, rfl, ?_⟩
    split at e
    · simp at e
      rw [← e]
    · simp at e
      rw [← e]
      unfold Addr.add
      split <;> rfl

/-- A world that keeps all that w1 held. -/
structure Wd8 (w1 : World) where
  W : World
  h : Fr [] w1 W
instance (w1 : World) : Nonempty (Wd8 w1) := ⟨⟨w1, Fr.refl _ _⟩⟩
theorem wp_region_wd8 {P : Program} {w1 wr : World} {id : Nat} {Q : Exit → Act → World → Prop} {a : Act} {l : List Oper} (hm : P.follows .mixedOrders = true) (hB : Region.lexB .any l.toArray = true) (hf : Fr [] w1 wr)
    (h : wpQuiet P l.toArray (fun w' => ∃ x : Wd8 w1, w' = x.W) (fun a' => ∀ w', (∃ x : Wd8 w1, w' = x.W) → Q .normal a' w') l a) : (Code.region id l.toArray true).wp P Q a wr :=
  wp_region_quiet (C := fun w' => ∃ x : Wd8 w1, w' = x.W) hm hB ⟨⟨_, hf.then (Fr.drew [] wr)⟩, rfl⟩ (by simpa using h)
set_option maxHeartbeats 4000000 in
set_option maxRecDepth 100000 in
theorem umay_any (n : Int) (val : ByteArray) (drop : Bool) (B : Bool) (w : World) (hv : val.size ≤ 140737488355328) (hB : B = true ↔ okX ⟨n, val, drop⟩) :
    Calls Tryz.prog 200 #[.agg #[.int .i64 n, .string val, .bool drop]] w fun e w' => e = .returned (.bool B) ∧ Fr [] w w' := by
  have HB : Hid (B = true ↔ okX ⟨n, val, drop⟩) := hB
  clear hB
  have no : ¬ okX ⟨n, val, drop⟩ → B = false := fun h => by
    cases hb : B with
    | false => rfl
    | true => exact absurd (HB.out.1 hb) h
  by_cases h1 : 1 ≤ n
  · by_cases h2 : n ≤ 65536
    · by_cases h3 : val.size ≤ 1024
      · have h3' : (val.size : Int) ≤ 1024 := by omega
        cases drop with
        | false =>
          have hB : B = true := HB.out.2 ⟨h1, h2, h3, fun h => by cases h⟩
          subst hB
          clear no h3
          go_enter Tryz.func200, Tryz.ntmps200
          go_wp2
          go_ret
          exact ⟨rfl, Fr.alloc _ _ _⟩
        | true =>
          by_cases h4 : val.size = 0
          · have hB : B = true := HB.out.2 ⟨h1, h2, h3, fun _ => (noS_iff _).1 h4⟩
            subst hB
            have h4' : ((val.size : Int) == 0) = true := by simp [h4]
            clear no h3 h4
            go_enter Tryz.func200, Tryz.ntmps200
            go_wp2
            go_ret
            exact ⟨rfl, Fr.alloc _ _ _⟩
          · have hB : B = false := no (fun h => h4 ((noS_iff _).2 (h.2.2.2 rfl)))
            subst hB
            have h4' : ((val.size : Int) == 0) = false := by rw [beq_eq_false_iff_ne]; omega
            clear no h3 h4
            go_enter Tryz.func200, Tryz.ntmps200
            go_wp2
            go_ret
            exact ⟨rfl, Fr.alloc _ _ _⟩
      · have hB : B = false := no (fun h => h3 h.2.2.1)
        subst hB
        have h3' : ¬ (val.size : Int) ≤ 1024 := by omega
        clear no h3
        go_enter Tryz.func200, Tryz.ntmps200
        go_wp2
        go_ret
        exact ⟨rfl, Fr.alloc _ _ _⟩
    · have hB : B = false := no (fun h => h2 h.2.1)
      subst hB
      clear no
      go_enter Tryz.func200, Tryz.ntmps200
      go_wp2
      go_ret
      exact ⟨rfl, Fr.alloc _ _ _⟩
  · have hB : B = false := no (fun h => h1 h.1)
    subst hB
    clear no
    go_enter Tryz.func200, Tryz.ntmps200
    go_wp2
    go_ret
    exact ⟨rfl, Fr.alloc _ _ _⟩
/-- One version more. -/
theorem okV_next {vs : List Vn} {i : Nat} (h : okV (vs.take i)) (hi : i < vs.length) : okV (vs.take (i + 1)) ↔ okX (vs.getD i Vn.zero) ∧ (0 < i → (vs.getD (i - 1) Vn.zero).num < (vs.getD i Vn.zero).num) := by
  rw [vtake_snoc vs i hi, okV_snoc]
  constructor
  · rintro ⟨_, h2, h3⟩
    refine ⟨h2, fun h0 => h3 _ ?_⟩
    have hl : i - 1 < (vs.take i).length := by rw [List.length_take]; omega
    have e : vs.getD (i - 1) Vn.zero = (vs.take i).getD (i - 1) Vn.zero := by simp [List.getD, List.getElem?_take, show i - 1 < i by omega]
    rw [e]
    exact vgetD_mem _ _ hl
  · rintro ⟨h2, h3⟩
    refine ⟨h, h2, fun y hy => ?_⟩
    obtain ⟨j, hj, rfl⟩ := List.getElem_of_mem hy
    rw [List.length_take] at hj
    have h0 := h3 (by omega)
    have hl : i - 1 < (vs.take i).length := by rw [List.length_take]; omega
    have e : ∀ k, k < i → (vs.take i).getD k Vn.zero = vs.getD k Vn.zero := fun k hk => by simp [List.getD, List.getElem?_take, hk]
    have hjl : j < vs.length := by omega
    rw [List.getElem_take, show vs[j] = vs.getD j Vn.zero by simp [List.getD, hjl]]
    by_cases hji : j = i - 1
    · subst hji; exact h0
    · have := ris_get h.2 (show j < i - 1 by omega) hl
      rw [e j (by omega), e (i - 1) (by omega)] at this
      omega
set_option maxHeartbeats 8000000 in
set_option maxRecDepth 100000 in
theorem ucheck_any (ao : Option Addr) (L cap c : Nat) (vs : List Vn) (w : World) (hV : VRs w ao vs) (hL : L = vs.length) (hc : CkT vs c) :
    Calls Tryz.prog 187 #[.slice ao L cap] w fun e w' => e = .returned (.int .i64 (c : Int)) ∧ Fr [] w w' := by
  have HL : Hid (L = vs.length) := hL
  have HC : Hid (CkT vs c) := hc
  have HV : Hid (∀ W, Fr [] w W → VRs W ao vs) := fun W hf => hV.keep hf
  have hLL : L ≤ 4398046511104 := by have := hV.few; omega
  clear hV hL hc
  go_enter Tryz.func187, Tryz.ntmps187
  go_wp2_with fail
  go_loopw [3] (fun ii wr => ∃ (i : Nat), ii = .int .i64 i ∧ i ≤ L ∧ Hid (okV (vs.take i)) ∧ Fr [] w wr) (fun ii _ => L - (RowKit.intOf ii).toNat)
  case atStart => exact ⟨0, rfl, Nat.zero_le _, okV_sub okV_nil (by simp), Fr.refl _ _⟩
  case round =>
    obtain ⟨i, rfl, hiL, HI, hF⟩ := hrel
    by_cases hi : i < L
    · have hi' : i < vs.length := by rw [← HL.out]; exact hi
      have hst := okV_next HI.out hi'
      have hE := (HV.out _ (Fr.refl _ _)).each _ (vgetD_mem vs i hi')
      obtain ⟨b, off, eao, hbl, hat⟩ := (HV.out _ hF).lies (by omega)
      have hx := hat i hi'
      obtain ⟨⟨n, val, drop⟩, hxx⟩ : ∃ x, x = vs.getD i Vn.zero := ⟨_, rfl⟩
      rw [← hxx] at hst hE hx
      obtain ⟨m, hm⟩ : ∃ m, m = (vs.getD (i - 1) Vn.zero).num := ⟨_, rfl⟩
      rw [← hm] at hst
      have hvz : val.size ≤ 140737488355328 := hE.v
      have HS : Hid (okV (vs.take (i + 1)) ↔ okX ⟨n, val, drop⟩ ∧ (0 < i → m < n)) := hst
      have hp : 0 < i → wr.cell? ⟨b, off + (i - 1) * 3, none⟩ = some (.int .i64 m) := fun h0 => by rw [hm]; exact (hat (i - 1) (by omega)).c0
      clear hst hE hxx hm hat
      obtain ⟨c0, c1, c2⟩ := hx
      simp only at c0 c1 c2
      obtain ⟨B, HB⟩ : ∃ B : Bool, Hid (B = true ↔ okX ⟨n, val, drop⟩) := by classical exact ⟨decide (okX ⟨n, val, drop⟩), by show _ ↔ _; simp⟩
      have g0 : ∀ x : Wd8 wr, x.W.cell? ⟨b, off + i * 3, none⟩ = some (.int .i64 n) := fun x => (World.cell?_of_block (x.h.block b hbl (by simp))).trans c0
      have g1 : ∀ x : Wd8 wr, x.W.cell? ⟨b, off + i * 3 + 1, none⟩ = some (.string val) := fun x => (World.cell?_of_block (x.h.block b hbl (by simp))).trans c1
      have g2 : ∀ x : Wd8 wr, x.W.cell? ⟨b, off + i * 3 + 2, none⟩ = some (.bool drop) := fun x => (World.cell?_of_block (x.h.block b hbl (by simp))).trans c2
      have HM : Hid (∀ W, Fr [] wr W → Calls Tryz.prog 200 #[.agg #[.int .i64 n, .string val, .bool drop]] W fun e w' => e = .returned (.bool B) ∧ Fr [] W w') := fun W _ => umay_any n val drop B W hvz HB.out
      subst eao
      cases B with
      | false =>
        obtain rfl : c = 1 := HC.out.bad (i := i) (fun h => by have := HB.out.2 (HS.out.1 h).1; cases this)
        clear c0 c1 c2 hp
        go_upto_region 4 with fail
        refine wp_region_wd8 (w1 := wr) (by kernel_rfl) (by kernel_rfl) (Fr.refl _ _) ?_
        repeat (go_big_quiet_step (exact (HM.out _ (Wd8.h _)).mono fun e w3 hh => ⟨hh.1, ⟨_, Fr.then (Wd8.h _) hh.2⟩, rfl⟩))
        refine wpQuiet_nil ?_
        rintro _ ⟨x, rfl⟩
        go_wp2
        go_ret
        exact ⟨rfl, hF.then x.h⟩
      | true =>
        by_cases hi0 : 0 < i
        · obtain ⟨i', rfl⟩ : ∃ i', i = i' + 1 := ⟨i - 1, by omega⟩
          have p0 := hp (by omega)
          rw [Nat.add_sub_cancel] at p0
          have g3 : ∀ x : Wd8 wr, x.W.cell? ⟨b, off + i' * 3, none⟩ = some (.int .i64 m) := fun x => (World.cell?_of_block (x.h.block b hbl (by simp))).trans p0
          have hd : decide ((0 : Int) < ((i' + 1 : Nat) : Int)) = true := by simp <;> omega
          have hd2 : ((i' + 1 : Nat) : Int) - 1 = (i' : Int) := by omega
          clear c0 c1 c2 hp p0
          by_cases hmn : m < n
          · have HN : Hid (okV (vs.take (i' + 1 + 1))) := HS.out.2 ⟨HB.out.1 rfl, fun _ => hmn⟩
            have hmn' : ¬ n ≤ m := by omega
            go_upto_region 4 with fail
            refine wp_region_wd8 (w1 := wr) (by kernel_rfl) (by kernel_rfl) (Fr.refl _ _) ?_
            repeat (go_big_quiet_step (exact (HM.out _ (Wd8.h _)).mono fun e w3 hh => ⟨hh.1, ⟨_, Fr.then (Wd8.h _) hh.2⟩, rfl⟩))
            refine wpQuiet_nil ?_
            rintro _ ⟨x, rfl⟩
            have hFx := hF.then x.h
            go_wp2
            exact ⟨⟨i' + 1 + 1, by simp, by omega, HN, hFx⟩, by simp [RowKit.intOf]; omega⟩
          · obtain rfl : c = 1 := HC.out.bad (i := i' + 1) (fun h => hmn ((HS.out.1 h).2 (by omega)))
            have hmn' : n ≤ m := by omega
            go_upto_region 4 with fail
            refine wp_region_wd8 (w1 := wr) (by kernel_rfl) (by kernel_rfl) (Fr.refl _ _) ?_
            repeat (go_big_quiet_step (exact (HM.out _ (Wd8.h _)).mono fun e w3 hh => ⟨hh.1, ⟨_, Fr.then (Wd8.h _) hh.2⟩, rfl⟩))
            refine wpQuiet_nil ?_
            rintro _ ⟨x, rfl⟩
            go_wp2
            go_ret
            exact ⟨rfl, hF.then x.h⟩
        · obtain rfl : i = 0 := by omega
          simp only [Nat.zero_mul, Nat.add_zero] at g0 g1 g2
          have HN : Hid (okV (vs.take (0 + 1))) := HS.out.2 ⟨HB.out.1 rfl, fun h => by omega⟩
          clear c0 c1 c2 hp
          go_upto_region 4 with fail
          refine wp_region_wd8 (w1 := wr) (by kernel_rfl) (by kernel_rfl) (Fr.refl _ _) ?_
          repeat (go_big_quiet_step (exact (HM.out _ (Wd8.h _)).mono fun e w3 hh => ⟨hh.1, ⟨_, Fr.then (Wd8.h _) hh.2⟩, rfl⟩))
          refine wpQuiet_nil ?_
          rintro _ ⟨x, rfl⟩
          have hFx := hF.then x.h
          go_wp2
          exact ⟨⟨1, by simp, by omega, HN, hFx⟩, by simp [RowKit.intOf]; omega⟩
    · obtain rfl : c = 0 := by
        have hok := HI.out
        rw [List.take_of_length_le (by have := HL.out; omega)] at hok
        exact (HC.out.one (CkT.of hok))
      go_wp2
      go_ret
      exact ⟨rfl, hF⟩
end Go.Proofs.YtembflnhhfliaaaGreatDoor

/- Texts of this claim laid together, one behind the other: contracts and plain lemmas; conditions as each names them. -/
import Derived.Test.YtibgdfjfhjckoaaGreatDoorGp35
import Derived.Test.YtibgdfjfhjckoaaGreatDoorGp38
import Derived.Test.YtibgdfjfhjckoaaGreatDoorGp39
/- The log T of the document, and that the statements' own check of some fixed answers (the function lives) is true. No conditions. -/
namespace Go.Proofs.YtibgdfjfhjckoaaGreatDoor
open Go.ChangeShapes Go.WideShapes Go.ChangeAt Go.RowKit Go.Lib Go.Maps
set_option linter.unusedVariables false
set_option linter.unusedSimpArgs false

def tA : List Wt := [⟨⟨#[97]⟩, ⟨#[49]⟩, false⟩]
def tBw : List Wt := [⟨⟨#[98]⟩, ⟨#[50]⟩, false⟩]
def tC : List Wt := [⟨⟨#[97]⟩, ⟨#[51]⟩, false⟩, ⟨⟨#[98]⟩, ⟨#[]⟩, true⟩]
def tT3 (S : Nat) : List Tm := [⟨1, some ⟨S, 0, none⟩, 1, 1, tA⟩, ⟨2, some ⟨S + 2, 0, none⟩, 1, 1, tBw⟩, ⟨3, some ⟨S + 4, 0, none⟩, 2, 2, tC⟩]
def tX3 : List Tx := [⟨1, tA⟩, ⟨2, tBw⟩, ⟨3, tC⟩]
theorem tX3_ok : okL 1 tX3 := by
  refine ⟨⟨by decide, by decide, by decide, ?_⟩, rfl, ⟨by decide, by decide, by decide, ?_⟩, rfl, ⟨by decide, by decide, by decide, ?_⟩, rfl, trivial⟩
  · intro x hx
    simp only [tA, List.mem_cons, List.not_mem_nil, or_false] at hx
    subst hx
    exact ⟨by decide, by decide, by decide, fun h => by simp at h⟩
  · intro x hx
    simp only [tBw, List.mem_cons, List.not_mem_nil, or_false] at hx
    subst hx
    exact ⟨by decide, by decide, by decide, fun h => by simp at h⟩
  · intro x hx
    simp only [tC, List.mem_cons, List.not_mem_nil, or_false] at hx
    rcases hx with rfl | rfl
    · exact ⟨by decide, by decide, by decide, fun h => by simp at h⟩
    · exact ⟨by decide, by decide, by decide, fun h => by decide⟩
theorem tT3_ok (S : Nat) : okL 1 (txs (tT3 S)) := tX3_ok
theorem heap_at {W : World} {cs : Array Value} {t : TypeId} {k : Nat} (h : W.heap.size = k) : (W.alloc (.cells cs t)).heap[k]? = some (.cells cs t (0, 0)) := h ▸ heap_alloc_new _ _
def wl3 (w : World) : World :=
  ((((((w.alloc (.cells #[.string ⟨#[97]⟩, .string ⟨#[49]⟩, .bool false] 81)).alloc (.cells #[.int .i64 1, .slice (some ⟨w.heap.size, 0, none⟩) 1 1] 49)).alloc (.cells #[.string ⟨#[98]⟩, .string ⟨#[50]⟩, .bool false] 81)).alloc (.cells #[.int .i64 2, .slice (some ⟨w.heap.size + 2, 0, none⟩) 1 1] 49)).alloc
    (.cells #[.string ⟨#[97]⟩, .string ⟨#[51]⟩, .bool false, .string ⟨#[98]⟩, .string ⟨#[]⟩, .bool true] 81)).alloc (.cells #[.int .i64 3, .slice (some ⟨w.heap.size + 4, 0, none⟩) 2 2] 49)).alloc
    (.cells #[.int .i64 1, .slice (some ⟨w.heap.size, 0, none⟩) 1 1, .int .i64 2, .slice (some ⟨w.heap.size + 2, 0, none⟩) 1 1, .int .i64 3, .slice (some ⟨w.heap.size + 4, 0, none⟩) 2 2] 49)
theorem wl3_fr (w : World) : Fr [] w (wl3 w) := by
  unfold wl3
  exact (((((((Fr.alloc [] w _).then (Fr.alloc [] _ _)).then (Fr.alloc [] _ _)).then (Fr.alloc [] _ _)).then (Fr.alloc [] _ _)).then (Fr.alloc [] _ _)).then (Fr.alloc [] _ _))
theorem wl3_rows (w : World) : (wl3 w).heap[w.heap.size]? = some (.cells (wtsC tA).toArray 81 (0, 0)) ∧ (wl3 w).heap[w.heap.size + 2]? = some (.cells (wtsC tBw).toArray 81 (0, 0)) ∧ (wl3 w).heap[w.heap.size + 4]? = some (.cells (wtsC tC).toArray 81 (0, 0)) ∧ (wl3 w).heap[w.heap.size + 6]? = some (.cells (tmsC (tT3 w.heap.size)).toArray 49 (0, 0)) := by
  unfold wl3
  refine ⟨?_, ?_, ?_, ?_⟩
  · rw [Below.heap_alloc _ _ _ (by simp only [World.size_alloc]; omega), Below.heap_alloc _ _ _ (by simp only [World.size_alloc]; omega), Below.heap_alloc _ _ _ (by simp only [World.size_alloc]; omega), Below.heap_alloc _ _ _ (by simp only [World.size_alloc]; omega), Below.heap_alloc _ _ _ (by simp only [World.size_alloc]; omega), Below.heap_alloc _ _ _ (by simp only [World.size_alloc]; omega), heap_at rfl]
    rfl
  · rw [Below.heap_alloc _ _ _ (by simp only [World.size_alloc]; omega), Below.heap_alloc _ _ _ (by simp only [World.size_alloc]; omega), Below.heap_alloc _ _ _ (by simp only [World.size_alloc]; omega), Below.heap_alloc _ _ _ (by simp only [World.size_alloc]; omega), heap_at (by simp only [World.size_alloc])]
    rfl
  · rw [Below.heap_alloc _ _ _ (by simp only [World.size_alloc]; omega), Below.heap_alloc _ _ _ (by simp only [World.size_alloc]; omega), heap_at (by simp only [World.size_alloc])]
    rfl
  · rw [heap_at (by simp only [World.size_alloc])]
    rfl
theorem wl3_rs (w : World) : TRs (wl3 w) (some ⟨w.heap.size + 6, 0, none⟩) (tT3 w.heap.size) := by
  obtain ⟨r1, r2, r3, r4⟩ := wl3_rows w
  refine TRs.of_row (rest := []) (t := 49) (f := (0, 0)) (by rw [List.append_nil]; exact r4) (by simp [tT3]) ?_
  have ho := tT3_ok w.heap.size
  intro t ht
  have hok := okL_mem ho t.tx (List.mem_map.2 ⟨t, ht, rfl⟩)
  have hn : -9223372036854775808 ≤ t.n ∧ t.n ≤ 9223372036854775807 := ⟨Int.le_trans (by decide) hok.1, Int.le_trans hok.2.1 (by decide)⟩
  simp only [tT3, List.mem_cons, List.not_mem_nil, or_false] at ht
  rcases ht with rfl | rfl | rfl
  · exact ⟨WRs.of_ok hok r1, rfl, hn.1, hn.2⟩
  · exact ⟨WRs.of_ok hok r2, rfl, hn.1, hn.2⟩
  · exact ⟨WRs.of_ok hok r3, rfl, hn.1, hn.2⟩
set_option maxHeartbeats 4000000 in
set_option maxRecDepth 100000 in
theorem three_any (w : World) : Calls Tryz.prog 20 #[] w fun e w' => e = .returned (.slice (some ⟨w.heap.size + 6, 0, none⟩) 3 3) ∧ w' = wl3 w := by
  go_enter Tryz.func20, Tryz.ntmps20
  go_wp2
  go_ret
  exact ⟨rfl, rfl⟩
set_option maxHeartbeats 8000000 in
set_option maxRecDepth 100000 in
theorem lives16_any (w : World) : Calls Tryz.prog 6 #[] w fun e w' => e = .returned (.bool true) ∧ Fr [] w w' := by
  have HT : Hid (Calls _ _ _ _ _) := three_any w
  have HF0 : Hid (Fr [] w (wl3 w)) := wl3_fr w
  have HR0 : Hid (TRs (wl3 w) (some ⟨w.heap.size + 6, 0, none⟩) (tT3 w.heap.size)) := wl3_rs w
  have HOK : Hid (okL 1 (txs (tT3 w.heap.size))) := tT3_ok _
  have HN : Hid (Calls _ _ _ _ _) := new_ok (some ⟨w.heap.size + 6, 0, none⟩) 3 3 (tT3 w.heap.size) (wl3 w) HR0.out rfl HOK.out
  go_enter Tryz.func6, Tryz.ntmps6
  go_wp2_with fail
  refine Calls.mono HT.out ?_
  rintro e w1 ⟨rfl, rfl⟩
  go_wp2_with fail
  refine Calls.mono HN.out ?_
  rintro e w2 ⟨g, lb, ds, rfl, hS2, hds, hF2⟩
  have hok2 : okL 1 (txs ds) := by rw [hds]; exact HOK.out
  have hnew := fNew_ok 0 none 0 0 [] 1 hS2 hok2 ⟨fun h => by simp at h, by simp⟩ rfl (by simp) ⟨by omega, by omega⟩ (by
    have hm : MayB 0 [] := ⟨fun j hj => by simp at hj, fun h => by simp at h⟩
    simp [newC, hm, grB])
  have HFn : Hid (Calls _ _ _ _ _) := hnew
  have HG2 : Hid (Fr [] w w2) := HF0.out.then hF2
  have HW2 : Hid (w.heap.size ≤ (wl3 w).heap.size) := HF0.out.size
  obtain ⟨W0, HW0⟩ : ∃ W0, Hid (wl3 w = W0) := ⟨_, rfl⟩
  rw [HW0.out] at HFn HW2
  clear hS2 hF2 hds hnew hok2 HF0 HR0 HT HN HOK HW0
  go_wp2_with fail
  refine Calls.mono HFn.out ?_
  rintro e w3 ⟨f, mb, rfl, hD3, hF3⟩
  have HG3 : Hid (Fr [] w w3) := HG2.out.then hF3
  have HD3 : Hid (FdM W0 w3 f g lb 3 ds (.slice none 0 0) [] mb [] ⟨0, 0, 1, false, false⟩ (.slice none 0 0)) := hD3
  clear HFn HG2 hF3 hD3
  have HC : Hid (Calls _ _ _ _ _) := fMore_any HD3.out 2
  go_wp2_with fail
  refine Calls.mono HC.out ?_
  rintro e w4 ⟨rfl, hD4, hF4⟩
  have HD4 : Hid (FdM W0 w4 f g lb 3 ds (.slice none 0 0) [] mb [] ⟨0, 2, 1, false, false⟩ (.slice none 0 0)) := hD4
  have HG4 : Hid (Fr [] w w4) := HG3.out.on hF4 (by intro x hx; simp at hx; subst hx; have := HD3.out.fn; have := HW2.out; omega)
  have e4 : Fe.moreC ⟨0, 0, 1, false, false⟩ 3 2 = 0 := by decide
  rw [e4]
  clear HC HG3 HD3 hD4 hF4 e4
  have HC : Hid (Calls _ _ _ _ _) := fCan_any HD4.out 0
  go_wp2_with fail
  refine Calls.mono HC.out ?_
  rintro e w5 ⟨rfl, hF5⟩
  have HD5 : Hid (FdM W0 w5 f g lb 3 ds (.slice none 0 0) [] mb [] ⟨0, 2, 1, false, false⟩ (.slice none 0 0)) := HD4.out.keep hF5
  have HG5 : Hid (Fr [] w w5) := HG4.out.then hF5
  have e5 : Fe.can ⟨0, 2, 1, false, false⟩ [] 0 = 1 := by decide
  rw [e5]
  clear HC HG4 HD4 hF5 e5
  have HC : Hid (Calls _ _ _ _ _) := fRead_any HD5.out (by simp)
  go_wp2_with fail
  refine Calls.mono HC.out ?_
  rintro e w6 ⟨rfl, hr⟩
  rcases hr with ⟨h0, _⟩ | ⟨_, v6, hw6, hD6, hF6, hM6⟩
  · exact absurd (show Fe.readC ⟨0, 2, 1, false, false⟩ = 0 from by decide) h0
  have HD6 : Hid (FdM W0 w6 f g lb 3 ds v6 [1] mb [] ⟨1, 2, 1, true, false⟩ hw6) := hD6
  have HG6 : Hid (Fr [] w w6) := HG5.out.on hF6 (by
    intro x hx
    simp only [Src.own, List.mem_cons, Value.ownBlock] at hx
    have := HW2.out
    rcases hx with rfl | rfl | hx
    · have := HD5.out.fn; omega
    · have := HD5.out.src.gn; omega
    · simp at hx)
  have e6 : Fe.readN ⟨0, 2, 1, false, false⟩ = 1 := by decide
  have e6' : Fe.readC ⟨0, 2, 1, false, false⟩ = 0 := by decide
  rw [e6, e6']
  clear HC HG5 HD5 hF6 e6 e6' hM6 hD6
  obtain ⟨o6, n6, c6, hs6⟩ := HD6.out.slot
  subst hs6
  have HC : Hid (Calls _ _ _ _ _) := fDis_any HD6.out 0
  go_wp2_with fail
  refine Calls.mono HC.out ?_
  rintro e w7 ⟨rfl, hD7, hF7⟩
  have HD7 : Hid (FdM W0 w7 f g lb 3 ds v6 [1] mb [] ⟨1, 2, 1, false, false⟩ (.slice none 0 0)) := hD7
  have HG7 : Hid (Fr [] w w7) := HG6.out.on hF7 (by intro x hx; simp at hx; subst hx; have := HD6.out.fn; have := HW2.out; omega)
  have e7 : Fe.disC ⟨1, 2, 1, true, false⟩ [] 0 = 0 := by decide
  have e7' : disV ⟨1, 2, 1, true, false⟩ [] 0 (.slice o6 n6 c6) = .agg #[.int .i64 1, .slice o6 n6 c6] := by simp [disV, e7]
  rw [e7', e7]
  clear HC HG6 HD6 hF7 e7 e7' hD7
  have hF8 : Fr [] w7 (w7.alloc (.cells #[.int .i64 1, .slice o6 n6 c6] 49)) := Fr.alloc _ _ _
  have hB8 : B2 (w7.alloc (.cells #[.int .i64 1, .slice o6 n6 c6] 49)) w7.heap.size (.int .i64 1) (.slice o6 n6 c6) := ⟨heap_alloc_new _ _⟩
  obtain ⟨B, HB⟩ : ∃ B, Hid (w7.heap.size = B) := ⟨_, rfl⟩
  obtain ⟨w8, HW8⟩ : ∃ w8, Hid (w7.alloc (.cells #[.int .i64 1, .slice o6 n6 c6] 49) = w8) := ⟨_, rfl⟩
  rw [HW8.out] at hF8 hB8
  rw [HB.out] at hB8
  have HD8 : Hid (FdM W0 w8 f g lb 3 ds v6 [1] mb [] ⟨1, 2, 1, false, false⟩ (.slice none 0 0)) := HD7.out.keep hF8
  have HG8 : Hid (Fr [] w w8) := HG7.out.then hF8
  have HB8 : Hid (B2 w8 B (.int .i64 1) (.slice o6 n6 c6)) := hB8
  have HBf : Hid (f ≠ B ∧ g ≠ B) := ⟨by have := HD7.out.lt; rw [← HB.out]; omega, by have := HD7.out.src.lt; rw [← HB.out]; omega⟩
  clear hF8 hB8 HD7 HG7
  go_upto_region 9 with fail
  rw [HW8.out, HB.out]
  clear HW8 HB
  have HC : Hid (Calls _ _ _ _ _) := fRead_any HD8.out (by simp)
  go_wp2_with fail
  refine Calls.mono HC.out ?_
  rintro e w9 ⟨rfl, hr⟩
  rcases hr with ⟨h0, _⟩ | ⟨_, v9, hw9, hD9, hF9, hM9⟩
  · exact absurd (show Fe.readC ⟨1, 2, 1, false, false⟩ = 0 from by decide) h0
  have HD9 : Hid (FdM W0 w9 f g lb 3 ds v9 [1, 2] mb [] ⟨2, 2, 1, true, false⟩ hw9) := hD9
  have HB9 : Hid (B2 w9 B (.int .i64 1) (.slice o6 n6 c6)) := HB8.out.keepS hF9 (fun hx => by
    simp only [Src.own, List.mem_cons, Option.mem_toList] at hx
    rcases hx with hx | hx | hx
    · exact HBf.out.1 hx.symm
    · exact HBf.out.2 hx.symm
    · exact HD8.out.src.apart HB8.out.box (by decide) hx)
  have HG9 : Hid (Fr [] w w9) := HG8.out.on hF9 (by
    intro x hx
    simp only [Src.own, List.mem_cons, Option.mem_toList] at hx
    have := HW2.out
    rcases hx with rfl | rfl | hx
    · have := HD8.out.fn; omega
    · have := HD8.out.src.gn; omega
    · have := HD8.out.src.rn x hx; omega)
  have e9 : Fe.readN ⟨1, 2, 1, false, false⟩ = 2 := by decide
  have e9' : Fe.readC ⟨1, 2, 1, false, false⟩ = 0 := by decide
  rw [e9, e9']
  clear HC HG8 HD8 HB8 hF9 e9 e9' hM9 hD9
  have HC : Hid (Calls _ _ _ _ _) := fDis_any HD9.out 0
  go_wp2_with fail
  refine Calls.mono HC.out ?_
  rintro e w10 ⟨rfl, hD10, hF10⟩
  have ed : Fe.disC ⟨2, 2, 1, true, false⟩ [] 0 = 6 := by decide
  have ed' : disV ⟨2, 2, 1, true, false⟩ [] 0 hw9 = .agg #[.int .i64 0, .slice none 0 0] := by simp [disV, ed]
  have ed2 : disH ⟨2, 2, 1, true, false⟩ [] 0 hw9 = hw9 := by simp [disH, ed]
  rw [ed2] at hD10
  have HD10 : Hid (FdM W0 w10 f g lb 3 ds v9 [1, 2] mb [] ⟨2, 2, 1, true, false⟩ hw9) := hD10
  have HG10 : Hid (Fr [] w w10) := HG9.out.on hF10 (by intro x hx; simp at hx; subst hx; have := HD9.out.fn; have := HW2.out; omega)
  have HB10 : Hid (B2 w10 B (.int .i64 1) (.slice o6 n6 c6)) := HB9.out.keepS hF10 (by simp; exact fun e => HBf.out.1 e.symm)
  rw [ed', ed]
  clear HC HG9 HD9 hF10 ed ed' ed2 hD10 HB9
  have hF11 : Fr [] w10 (w10.alloc (.cells #[.int .i64 0, .slice none 0 0] 49)) := Fr.alloc _ _ _
  obtain ⟨w11, HW11⟩ : ∃ w11, Hid (w10.alloc (.cells #[.int .i64 0, .slice none 0 0] 49) = w11) := ⟨_, rfl⟩
  rw [HW11.out] at hF11
  have HD11 : Hid (FdM W0 w11 f g lb 3 ds v9 [1, 2] mb [] ⟨2, 2, 1, true, false⟩ hw9) := HD10.out.keep hF11
  have HG11 : Hid (Fr [] w w11) := HG10.out.then hF11
  have b0 := (HB10.out.keep hF11).c0
  clear hF11 HD10 HG10 HB10
  go_upto_region 11 with fail
  rw [HW11.out]
  clear HW11
  have HC : Hid (Calls _ _ _ _ _) := fCan_any HD11.out 1
  go_wp2_with fail
  refine Calls.mono HC.out ?_
  rintro e w12 ⟨rfl, hF12⟩
  have e5 : Fe.can ⟨2, 2, 1, true, false⟩ [] 1 = 3 := by decide
  rw [e5]
  have HG12 : Hid (Fr [] w w12) := HG11.out.then hF12
  clear HC hF12 HD11
  go_wp2
  go_ret
  exact ⟨rfl, HG12.out⟩
end Go.Proofs.YtibgdfjfhjckoaaGreatDoor

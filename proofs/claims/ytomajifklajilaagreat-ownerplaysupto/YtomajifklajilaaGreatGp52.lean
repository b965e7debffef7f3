/- Texts of this claim laid together, one behind the other: contracts and plain lemmas; conditions as each names them. -/
import Derived.Test.YtomajifklajilaaGreatGp51
import Derived.Test.YtomajifklajilaaGreatGp37
import Derived.Test.YtomajifklajilaaGreatGp32
import Derived.Test.YtomajifklajilaaGreatGp35
import Derived.Test.YtomajifklajilaaGreatGp39
/- The law's helper asks, of a request: true, by what both owners answer. Conditions as each names them. -/
namespace Go.Proofs.YtomajifklajilaaGreat
open Go.ChangeShapes Go.WideShapes Go.ChangeAt Go.RowKit Go.Lib
set_option linter.unusedVariables false
set_option linter.unusedSimpArgs false
/-- What is new since w stays. -/
def Nf (w W w1 : World) : Prop := W.heap.size ≤ w1.heap.size ∧ ∀ j, w.heap.size ≤ j → j < W.heap.size → w1.heap[j]? = W.heap[j]?
theorem Nf.of {w W w1 : World} (h : Fr [] W w1) : Nf w W w1 := ⟨h.size, fun j _ hj => h.block j hj (by simp)⟩
theorem Nf.keep {w W w1 : World} (h : Nf w W w1) {j : Nat} {o : Array Value} {t : TypeId} {fr : Nat × Nat} (hj : W.heap[j]? = some (.cells o t fr)) (hw : w.heap.size ≤ j) : w1.heap[j]? = some (.cells o t fr) := (h.2 j hw (lt_of_block hj)).trans hj
theorem Nf.then {w W w1 w2 : World} (h : Nf w W w1) (k : Nf w w1 w2) : Nf w W w2 := ⟨Nat.le_trans h.1 k.1, fun j h1 h2 => (k.2 j h1 (Nat.lt_of_lt_of_le h2 h.1)).trans (h.2 j h1 h2)⟩
set_option maxHeartbeats 8000000 in
set_option maxRecDepth 100000 in
theorem asks_ask (p r : Option Addr) (x : Rv) (ns : List Int) (w : World) (hR : RqB w x ns) (P : World → World → Prop)
    (hA : ∀ W tb, Fr [] w W → w.heap.size ≤ tb → RqB W (x.tw tb) ns → Calls Tryz.prog 17 #[.pointer p, (x.tw tb).v] W fun e w1 => ∃ (ok : Bool) (c : Int), e = .returned (.tuple #[.bool ok, .int .i64 c]) ∧ Nf w W w1 ∧
      Calls Tryz.prog 18 #[.pointer r, x.v] w1 fun e w2 => e = .returned (.tuple #[.bool ok, .int .i64 c]) ∧ Nf w w1 w2 ∧ RqB w2 x ns ∧ P W w2) :
    Calls Tryz.prog 6 #[.pointer p, .pointer r, .agg #[.bool false, .int .u8 x.k, .int .i64 x.f, .int .i64 x.n, .string x.wk, .string x.wv, .bool x.wd, .string x.key, .string x.en, .slice x.bo x.bl x.bc]] w fun e w' => e = .returned (.bool true) ∧ ∃ W w2 T, Fr [] w W ∧ P W w2 ∧ Fr T w2 w' ∧ ∀ j ∈ T, w.heap.size ≤ j ∧ (j < W.heap.size ∨ w2.heap.size ≤ j) := by
  obtain ⟨xk, xf, xn, xa, xb, xd, xc, xe, xo, xl, xm⟩ := x
  simp only at hA ⊢
  obtain ⟨wz, HWz⟩ : ∃ wz, Hid (w.alloc (.cells #[.bool false, .int .u8 xk, .int .i64 xf, .int .i64 xn, .string xa, .string xb, .bool xd, .string xc, .string xe, .slice xo xl xm] 38) = wz) := ⟨_, rfl⟩
  have hF0 : Fr [] w wz := by rw [← HWz.out]; exact Fr.alloc [] w _
  have hr5 : wz.heap[w.heap.size]? = some (.cells #[.bool false, .int .u8 xk, .int .i64 xf, .int .i64 xn, .string xa, .string xb, .bool xd, .string xc, .string xe, .slice xo xl xm] 38 (0, 0)) := by rw [← HWz.out]; exact heap_alloc_new w _
  obtain ⟨Z5, HZ5⟩ : ∃ Z, Hid (w.heap.size = Z) := ⟨_, rfl⟩
  rw [HZ5.out] at hr5
  have HT : Hid (Calls _ _ _ _ _) := twinReq_any ⟨xk, xf, xn, xa, xb, xd, xc, xe, xo, xl, xm⟩ ns wz (hR.keep hF0)
  have HF0 : Hid (Fr [] w wz) := hF0
  have HR5 := (show Hid _ from hr5)
  have HZw : Hid (w.heap.size ≤ Z5) := by show _ ≤ _; rw [HZ5.out]; omega
  have HA := (show Hid _ from hA)
  have HRq : Hid (∀ W, Fr [] w W → RqB W ⟨xk, xf, xn, xa, xb, xd, xc, xe, xo, xl, xm⟩ ns) := fun W hf => hR.keep hf
  have hxl : xl ≤ 17592186044416 := by have := hR.is.few; have := hR.len; simp only at this; omega
  have HB := (show Hid (RqB w ⟨xk, xf, xn, xa, xb, xd, xc, xe, xo, xl, xm⟩ ns) from hR)
  have c0 : wz.cell? ⟨Z5, 0, none⟩ = some (.bool false) := by rw [cell_of_row _ _ _ _ _ _ hr5]; rfl
  have a1 : wz.cell? ⟨Z5, 1, none⟩ = some (.int .u8 xk) := by rw [cell_of_row _ _ _ _ _ _ hr5]; rfl
  have a2 : wz.cell? ⟨Z5, 2, none⟩ = some (.int .i64 xf) := by rw [cell_of_row _ _ _ _ _ _ hr5]; rfl
  have a3 : wz.cell? ⟨Z5, 3, none⟩ = some (.int .i64 xn) := by rw [cell_of_row _ _ _ _ _ _ hr5]; rfl
  have a4 : wz.cell? ⟨Z5, 4, none⟩ = some (.string xa) := by rw [cell_of_row _ _ _ _ _ _ hr5]; rfl
  have a5 : wz.cell? ⟨Z5, 5, none⟩ = some (.string xb) := by rw [cell_of_row _ _ _ _ _ _ hr5]; rfl
  have a6 : wz.cell? ⟨Z5, 6, none⟩ = some (.bool xd) := by rw [cell_of_row _ _ _ _ _ _ hr5]; rfl
  have a7 : wz.cell? ⟨Z5, 7, none⟩ = some (.string xc) := by rw [cell_of_row _ _ _ _ _ _ hr5]; rfl
  have a8 : wz.cell? ⟨Z5, 8, none⟩ = some (.string xe) := by rw [cell_of_row _ _ _ _ _ _ hr5]; rfl
  have a9 : wz.cell? ⟨Z5, 9, none⟩ = some (.slice xo xl xm) := by rw [cell_of_row _ _ _ _ _ _ hr5]; rfl
  clear hR hF0 hr5 hA
  simp only [Rv.v, Rv.tw] at HT
  go_enter Tryz.func6, Tryz.ntmps6
  go_upto_region 1 with fail
  rw [HWz.out, HZ5.out]
  clear HWz HZ5
  go_wp2_with fail
  refine Calls.mono HT.out ?_
  rintro e w1 ⟨tb, rfl, htb, hrt, hF1⟩
  clear c0 a1 a2 a3 a4 a5 a6 a7 a8 a9 HT
  obtain ⟨w2, HW2⟩ : ∃ w2, Hid (w1.alloc (.cells #[.int .u8 xk, .int .i64 xf, .int .i64 xn, .string xa, .string xb, .bool xd, .string xc, .string xe, .slice (some ⟨tb, 0, none⟩) xl (xl + 1)] 36) = w2) := ⟨_, rfl⟩
  have hG2 : Fr [] w1 w2 := by rw [← HW2.out]; exact Fr.alloc [] w1 _
  have HR11 : Hid (w2.heap[w1.heap.size]? = some (.cells #[.int .u8 xk, .int .i64 xf, .int .i64 xn, .string xa, .string xb, .bool xd, .string xc, .string xe, .slice (some ⟨tb, 0, none⟩) xl (xl + 1)] 36 (0, 0))) := by show _ = _; rw [← HW2.out]; exact heap_alloc_new w1 _
  go_upto_region 6 with fail
  rw [HW2.out]
  clear HW2
  have HG2 : Hid (Fr [] w w2) := (HF0.out.then hF1).then hG2
  have HRt : Hid (w2.heap[tb]? = some (.cells (intsT (ns ++ [7777])).toArray 3 (0, 0))) := hG2.keep hrt (by simp)
  have HR52 := (show Hid _ from (hF1.then hG2).keep HR5.out (by simp))
  obtain ⟨Z11, HZ11⟩ : ∃ Z, Hid (w1.heap.size = Z) := ⟨_, rfl⟩
  rw [HZ11.out] at HR11
  have HZb : Hid (wz.heap.size ≤ tb ∧ wz.heap.size ≤ Z11 ∧ Z5 < wz.heap.size) := ⟨htb, by rw [← HZ11.out]; exact hF1.size, lt_of_block HR5.out⟩
  have HC1 : Hid (Calls _ _ _ _ _) := HA.out w2 tb HG2.out (by have := HZb.out; have := HF0.out.size; omega) ⟨HB.out.k, HB.out.f, HB.out.n, HB.out.wk, HB.out.wv, HB.out.key, HB.out.en, ⟨fun h0 => ⟨tb, 0, rfl, lt_of_block HRt.out, fun i hi => by
      rw [cell_of_row _ _ _ _ _ _ HRt.out, List.getElem?_toArray, Nat.zero_add, intsT_get _ _ (by simp; omega)]
      congr 2
      simp [List.getD, List.getElem?_append_left hi]⟩, HB.out.is.few⟩, HB.out.len, by simp only [Rv.tw]; omega⟩
  have HNe : Hid (Z11 ≠ tb ∧ Z11 < w2.heap.size) := ⟨by rw [← HZ11.out]; have := lt_of_block hrt; omega, lt_of_block HR11.out⟩
  clear hrt hF1 hG2 htb
  rw [HZ11.out]
  clear HZ11
  have hr11 := HR11.out
  have t0 : w2.cell? ⟨Z11, 0, none⟩ = some (.int .u8 xk) := by rw [cell_of_row _ _ _ _ _ _ hr11]; rfl
  have t1 : w2.cell? ⟨Z11, 1, none⟩ = some (.int .i64 xf) := by rw [cell_of_row _ _ _ _ _ _ hr11]; rfl
  have t2 : w2.cell? ⟨Z11, 2, none⟩ = some (.int .i64 xn) := by rw [cell_of_row _ _ _ _ _ _ hr11]; rfl
  have t3 : w2.cell? ⟨Z11, 3, none⟩ = some (.string xa) := by rw [cell_of_row _ _ _ _ _ _ hr11]; rfl
  have t4 : w2.cell? ⟨Z11, 4, none⟩ = some (.string xb) := by rw [cell_of_row _ _ _ _ _ _ hr11]; rfl
  have t5 : w2.cell? ⟨Z11, 5, none⟩ = some (.bool xd) := by rw [cell_of_row _ _ _ _ _ _ hr11]; rfl
  have t6 : w2.cell? ⟨Z11, 6, none⟩ = some (.string xc) := by rw [cell_of_row _ _ _ _ _ _ hr11]; rfl
  have t7 : w2.cell? ⟨Z11, 7, none⟩ = some (.string xe) := by rw [cell_of_row _ _ _ _ _ _ hr11]; rfl
  have t8 : w2.cell? ⟨Z11, 8, none⟩ = some (.slice (some ⟨tb, 0, none⟩) xl (xl + 1)) := by rw [cell_of_row _ _ _ _ _ _ hr11]; rfl
  simp only [Rv.v, Rv.tw] at HC1
  clear hr11
  go_wp2_with fail
  refine Calls.mono HC1.out ?_
  rintro e w3 ⟨ok, c, rfl, hN3, hC2⟩
  have HN3 : Hid (Nf w w2 w3) := hN3
  have HC2 := (show Hid _ from hC2)
  have hr5 := hN3.keep HR52.out HZw.out
  have a1 : w3.cell? ⟨Z5, 1, none⟩ = some (.int .u8 xk) := by rw [cell_of_row _ _ _ _ _ _ hr5]; rfl
  have a2 : w3.cell? ⟨Z5, 2, none⟩ = some (.int .i64 xf) := by rw [cell_of_row _ _ _ _ _ _ hr5]; rfl
  have a3 : w3.cell? ⟨Z5, 3, none⟩ = some (.int .i64 xn) := by rw [cell_of_row _ _ _ _ _ _ hr5]; rfl
  have a4 : w3.cell? ⟨Z5, 4, none⟩ = some (.string xa) := by rw [cell_of_row _ _ _ _ _ _ hr5]; rfl
  have a5 : w3.cell? ⟨Z5, 5, none⟩ = some (.string xb) := by rw [cell_of_row _ _ _ _ _ _ hr5]; rfl
  have a6 : w3.cell? ⟨Z5, 6, none⟩ = some (.bool xd) := by rw [cell_of_row _ _ _ _ _ _ hr5]; rfl
  have a7 : w3.cell? ⟨Z5, 7, none⟩ = some (.string xc) := by rw [cell_of_row _ _ _ _ _ _ hr5]; rfl
  have a8 : w3.cell? ⟨Z5, 8, none⟩ = some (.string xe) := by rw [cell_of_row _ _ _ _ _ _ hr5]; rfl
  have a9 : w3.cell? ⟨Z5, 9, none⟩ = some (.slice xo xl xm) := by rw [cell_of_row _ _ _ _ _ _ hr5]; rfl
  clear t0 t1 t2 t3 t4 t5 t6 t7 t8 HC1 hN3 hC2 hr5
  go_wp2_with fail
  refine Calls.mono HC2.out ?_
  rintro e w4 ⟨rfl, hN4, hR4, hP4⟩
  have HN4 : Hid (Nf w w2 w4 ∧ P w2 w4) := ⟨HN3.out.then hN4, hP4⟩
  have hr5 := HN4.out.1.keep HR52.out HZw.out
  have hr11 := HN4.out.1.keep HR11.out (by have := HZb.out; have := HF0.out.size; omega)
  have hrt := HN4.out.1.keep HRt.out (by have := HZb.out; have := HF0.out.size; omega)
  have HL : Hid (Calls _ _ _ _ _) := leftReq_any ⟨xk, xf, xn, xa, xb, xd, xc, xe, xo, xl, xm⟩ ns tb w4 hR4 hrt
  have HRows := (show Hid _ from And.intro hr11 hrt)
  clear a1 a2 a3 a4 a5 a6 a7 a8 a9 HC2 hN4 hP4 hR4
  have a1 : w4.cell? ⟨Z5, 1, none⟩ = some (.int .u8 xk) := by rw [cell_of_row _ _ _ _ _ _ hr5]; rfl
  have a2 : w4.cell? ⟨Z5, 2, none⟩ = some (.int .i64 xf) := by rw [cell_of_row _ _ _ _ _ _ hr5]; rfl
  have a3 : w4.cell? ⟨Z5, 3, none⟩ = some (.int .i64 xn) := by rw [cell_of_row _ _ _ _ _ _ hr5]; rfl
  have a4 : w4.cell? ⟨Z5, 4, none⟩ = some (.string xa) := by rw [cell_of_row _ _ _ _ _ _ hr5]; rfl
  have a5 : w4.cell? ⟨Z5, 5, none⟩ = some (.string xb) := by rw [cell_of_row _ _ _ _ _ _ hr5]; rfl
  have a6 : w4.cell? ⟨Z5, 6, none⟩ = some (.bool xd) := by rw [cell_of_row _ _ _ _ _ _ hr5]; rfl
  have a7 : w4.cell? ⟨Z5, 7, none⟩ = some (.string xc) := by rw [cell_of_row _ _ _ _ _ _ hr5]; rfl
  have a8 : w4.cell? ⟨Z5, 8, none⟩ = some (.string xe) := by rw [cell_of_row _ _ _ _ _ _ hr5]; rfl
  have a9 : w4.cell? ⟨Z5, 9, none⟩ = some (.slice xo xl xm) := by rw [cell_of_row _ _ _ _ _ _ hr5]; rfl
  have t0 : w4.cell? ⟨Z11, 0, none⟩ = some (.int .u8 xk) := by rw [cell_of_row _ _ _ _ _ _ hr11]; rfl
  have t1 : w4.cell? ⟨Z11, 1, none⟩ = some (.int .i64 xf) := by rw [cell_of_row _ _ _ _ _ _ hr11]; rfl
  have t2 : w4.cell? ⟨Z11, 2, none⟩ = some (.int .i64 xn) := by rw [cell_of_row _ _ _ _ _ _ hr11]; rfl
  have t3 : w4.cell? ⟨Z11, 3, none⟩ = some (.string xa) := by rw [cell_of_row _ _ _ _ _ _ hr11]; rfl
  have t4 : w4.cell? ⟨Z11, 4, none⟩ = some (.string xb) := by rw [cell_of_row _ _ _ _ _ _ hr11]; rfl
  have t5 : w4.cell? ⟨Z11, 5, none⟩ = some (.bool xd) := by rw [cell_of_row _ _ _ _ _ _ hr11]; rfl
  have t6 : w4.cell? ⟨Z11, 6, none⟩ = some (.string xc) := by rw [cell_of_row _ _ _ _ _ _ hr11]; rfl
  have t7 : w4.cell? ⟨Z11, 7, none⟩ = some (.string xe) := by rw [cell_of_row _ _ _ _ _ _ hr11]; rfl
  have t8 : w4.cell? ⟨Z11, 8, none⟩ = some (.slice (some ⟨tb, 0, none⟩) xl (xl + 1)) := by rw [cell_of_row _ _ _ _ _ _ hr11]; rfl
  simp only [Rv.v, Rv.tw] at HL
  clear hr5 hr11 hrt
  have bo : (ok != ok) = false := by simp
  go_wp2_with fail
  refine Calls.mono HL.out ?_
  rintro e w5 ⟨rfl, hF5⟩
  have HR6 : Hid (w5.heap[Z11]? = some (.cells #[.int .u8 xk, .int .i64 xf, .int .i64 xn, .string xa, .string xb, .bool xd, .string xc, .string xe, .slice (some ⟨tb, 0, none⟩) xl (xl + 1)] 36 (0, 0)) ∧ ∃ cur, w5.heap[tb]? = some (.cells cur 3 (0, 0)) ∧ cur.size = xl + 1) := ⟨hF5.keep HRows.out.1 (by simp), _, hF5.keep HRows.out.2 (by simp), by
    have := HB.out.len
    simp only at this
    simp [intsT_length, this]⟩
  have HF5 : Hid (Fr [tb] w4 w5) := hF5.mono (by simp)
  clear a1 a2 a3 a4 a5 a6 a7 a8 a9 t0 t1 t2 t3 t4 t5 t6 t7 t8 HL hF5
  go_wp2_with fail
  go_loopw [16] (fun ii wr => ∃ (i : Nat), ii = .int .i64 i ∧ i ≤ xl ∧ Hid ((wr.heap[Z11]? = some (.cells #[.int .u8 xk, .int .i64 xf, .int .i64 xn, .string xa, .string xb, .bool xd, .string xc, .string xe, .slice (some ⟨tb, 0, none⟩) xl (xl + 1)] 36 (0, 0)) ∧ ∃ cur, wr.heap[tb]? = some (.cells cur 3 (0, 0)) ∧ cur.size = xl + 1) ∧ Fr [tb] w4 wr)) (fun ii _ => xl - (RowKit.intOf ii).toNat)
  case atStart => exact ⟨0, rfl, Nat.zero_le _, HR6.out, HF5.out⟩
  case round =>
    obtain ⟨i, rfl, hil, HI⟩ := hrel
    obtain ⟨⟨k11, cur, kt, hcs⟩, hf⟩ := HI.out
    have t8 : wr.cell? ⟨Z11, 8, none⟩ = some (.slice (some ⟨tb, 0, none⟩) xl (xl + 1)) := by rw [cell_of_row _ _ _ _ _ _ k11]; rfl
    by_cases hi : i < xl
    · have ci : wr.cell? ⟨tb, i, none⟩ = some cur[i] := by rw [cell_of_row _ _ _ _ _ _ kt]; simp
      have zi : wr.frozen? ⟨tb, i, none⟩ = false := by simp [World.frozen?, kt]
      have hS : Fr [tb] wr (wr.setCell ⟨tb, i, none⟩ (.int .i64 (-77))) := Fr.set _ _ _ (by simp)
      have HN : Hid (((wr.setCell ⟨tb, i, none⟩ (.int .i64 (-77))).heap[Z11]? = some (.cells #[.int .u8 xk, .int .i64 xf, .int .i64 xn, .string xa, .string xb, .bool xd, .string xc, .string xe, .slice (some ⟨tb, 0, none⟩) xl (xl + 1)] 36 (0, 0)) ∧ ∃ cur, (wr.setCell ⟨tb, i, none⟩ (.int .i64 (-77))).heap[tb]? = some (.cells cur 3 (0, 0)) ∧ cur.size = xl + 1) ∧ Fr [tb] w4 (wr.setCell ⟨tb, i, none⟩ (.int .i64 (-77)))) := ⟨⟨hS.keep k11 (by simp; exact HNe.out.1), _, vrow_setCell _ kt, by simpa using hcs⟩, hf.then hS⟩
      generalize cur[i] = old at ci
      clear HI k11 kt hf hS
      go_wp2_with fail
      go_roundw
      case rel => exact ⟨i + 1, by simp, by omega, HN⟩
      case measure => simp [RowKit.intOf]; omega
    · clear k11 kt
      go_wp2
      go_ret
      exact ⟨rfl, w2, w4, [tb], HG2.out, HN4.out.2, hf, by intro j hj; simp at hj; subst hj; exact ⟨by have := HZb.out; have := HF0.out.size; omega, Or.inl (lt_of_block HRt.out)⟩⟩
end Go.Proofs.YtomajifklajilaaGreat
/- The law's helper lives: true. No conditions. -/
namespace Go.Proofs.YtomajifklajilaaGreat
open Go.ChangeShapes Go.WideShapes Go.ChangeAt Go.RowKit Go.Lib Go.Maps
set_option linter.unusedVariables false
set_option linter.unusedSimpArgs false
theorem hrs_nil (w : World) : HRs w none [] := ⟨fun h => by simp at h, by simp, by simp⟩
theorem lo_nil : LoOk [] := ⟨List.Pairwise.nil, by simp⟩
def lv1 : Rv := ⟨1, 1, 1, ⟨#[97]⟩, ⟨#[49]⟩, false, ⟨#[]⟩, ⟨#[]⟩, none, 0, 0⟩
def lv2 : Rv := ⟨2, -1, 1, ⟨#[]⟩, ⟨#[]⟩, false, ⟨#[97]⟩, ⟨#[]⟩, none, 0, 0⟩
theorem lv1_b (w : World) : RqB w lv1 [] := ⟨by decide, by decide, by decide, by decide, by decide, by decide, by decide, ⟨fun h => by simp at h, by simp⟩, rfl, Nat.le_refl _⟩
theorem lv2_b (w : World) : RqB w lv2 [] := ⟨by decide, by decide, by decide, by decide, by decide, by decide, by decide, ⟨fun h => by simp at h, by simp⟩, rfl, Nat.le_refl _⟩
theorem lv1_ok : okR (lv1.q []) := ⟨by decide, by decide, by decide, Or.inl ⟨rfl, ⟨rfl, rfl⟩, rfl, by decide, by decide, by decide⟩⟩
theorem lv2_ok : okR (lv2.q []) := ⟨by decide, by decide, by decide, Or.inr (Or.inl ⟨rfl, by decide, rfl, by decide, rfl⟩)⟩
theorem lv_put {M' : ByteArray → List Vn} {ok : Bool} {cc : Nat} (h : InTold (fun _ => []) ⟨1, ⟨#[97]⟩, ⟨#[49]⟩, false⟩ M' ok cc) : ok = true ∧ valAt (M' ⟨#[97]⟩) 1 = some ⟨#[49]⟩ := by
  have okp : okP ⟨1, ⟨#[97]⟩, ⟨#[49]⟩, false⟩ := ⟨by decide, by decide, by decide, by decide, by decide⟩
  rcases h with ⟨_, _, h, _⟩ | ⟨_, _, ⟨_, _, y, hy, _⟩ | ⟨rfl, _, us, rfl, h1, h2⟩⟩
  · exact absurd okp h
  · simp at hy
  · refine ⟨rfl, ?_⟩
    have e : us = [⟨1, ⟨#[49]⟩, false⟩] := ris_unique _ _ h1.2 (by simp [Ris]) (fun v => by rw [h2 v]; simp [Pt.v])
    rw [e]
    simp [updM, valAt, vAt, valOf]
set_option maxHeartbeats 8000000 in
set_option maxRecDepth 100000 in
theorem lives_any (w : World) : Calls Tryz.prog 8 #[] w fun e w' => e = .returned (.bool true) ∧ Fr [] w w' := by
  have HN : Hid (Calls _ _ _ _ _) := onew_any 0 2 none 0 0 [] w ⟨by decide, by decide, by decide, by decide⟩ (hrs_nil w) rfl
  go_enter Tryz.func8, Tryz.ntmps8
  go_wp2_with fail
  refine Calls.mono HN.out ?_
  rintro e w1 (⟨h, _⟩ | ⟨_, ob, sb, b, g, rfl, hO⟩)
  · exact absurd lo_nil h
  have HO : Hid (OwS w (fun _ => False) w1 ob sb b 0 g none 2 (fun _ => []) []) := hO
  have HA : Hid (Calls Tryz.prog 17 #[.pointer (some ⟨ob, 0, none⟩), .agg #[.int .u8 1, .int .i64 1, .int .i64 1, .string ⟨#[97]⟩, .string ⟨#[49]⟩, .bool false, .string ⟨#[]⟩, .string ⟨#[]⟩, .slice none 0 0]] w1 fun e w' => e = .returned (.tuple #[.bool true, .int .i64 0]) ∧ ∃ pb, OwS w (fun _ => False) w' ob sb b 0 g pb 2 (fun _ => []) [lv1.q []]) := by
    refine (os_ask hO (by simp) lv1 [] (lv1_b w1)).mono ?_
    rintro e w' (⟨h, _⟩ | ⟨_, h, _⟩ | ⟨_, _, rfl, pb, h, _⟩)
    · exact absurd lv1_ok h
    · simp at h
    · exact ⟨rfl, pb, h⟩
  clear hO HN HO
  go_wp2_with fail
  refine Calls.mono HA.out ?_
  rintro e w2 ⟨rfl, pb, hO⟩
  have HA2 : Hid (Calls Tryz.prog 17 #[.pointer (some ⟨ob, 0, none⟩), .agg #[.int .u8 2, .int .i64 (-1), .int .i64 1, .string ⟨#[]⟩, .string ⟨#[]⟩, .bool false, .string ⟨#[97]⟩, .string ⟨#[]⟩, .slice none 0 0]] w2 fun e w' => e = .returned (.tuple #[.bool true, .int .i64 0]) ∧ ∃ pb, OwS w (fun _ => False) w' ob sb b 0 g pb 2 (fun _ => []) [lv1.q [], lv2.q []]) := by
    refine (os_ask hO (by simp) lv2 [] (lv2_b w2)).mono ?_
    rintro e w' (⟨h, _⟩ | ⟨_, h, _⟩ | ⟨_, _, rfl, pb, h, _⟩)
    · exact absurd lv2_ok h
    · simp at h
    · exact ⟨rfl, pb, h⟩
  clear hO HA
  go_wp2_with fail
  refine Calls.mono HA2.out ?_
  rintro e w3 ⟨rfl, pb2, hO⟩
  have HA3 : Hid (Calls Tryz.prog 17 #[.pointer (some ⟨ob, 0, none⟩), .agg #[.int .u8 2, .int .i64 (-1), .int .i64 1, .string ⟨#[]⟩, .string ⟨#[]⟩, .bool false, .string ⟨#[97]⟩, .string ⟨#[]⟩, .slice none 0 0]] w3 fun e w' => e = .returned (.tuple #[.bool false, .int .i64 0]) ∧ OwS w (fun _ => False) w' ob sb b 0 g pb2 2 (fun _ => []) [lv1.q [], lv2.q []]) := by
    refine (os_ask hO (by simp) lv2 [] (lv2_b w3)).mono ?_
    rintro e w' (⟨h, _⟩ | ⟨_, _, rfl, h, _⟩ | ⟨_, h, _⟩)
    · exact absurd lv2_ok h
    · exact ⟨rfl, h⟩
    · simp at h
  clear hO HA2
  go_wp2_with fail
  refine Calls.mono HA3.out ?_
  rintro e w4 ⟨rfl, hO⟩
  have HS : Hid (Calls Tryz.prog 13 #[.pointer (some ⟨ob, 0, none⟩)] w4 fun e w' => e = .returned (.tuple #[.agg #[.int .i64 1, .bool true, .slice none 0 0, .slice none 0 0, .int .i64 0], .int .i64 0]) ∧ ∃ M', OwS w (fun _ => False) w' ob sb b 1 g pb2 2 M' [lv2.q []] ∧ valAt (M' ⟨#[97]⟩) 1 = some ⟨#[49]⟩) := by
    refine (os_serve hO (by omega)).mono ?_
    rintro e w' ⟨ok, eo, el, ec, ho, hl, hc, c, M', rfl, h1, _, h2⟩
    rcases h2 with ⟨_, ⟨rfl, rfl, rfl⟩, ⟨rfl, rfl, rfl⟩, rfl, cc, hI⟩ | ⟨h, _⟩ | ⟨h, _⟩ | ⟨h, _⟩ | ⟨h, _⟩
    · obtain ⟨rfl, hv⟩ := lv_put hI
      exact ⟨rfl, M', h1, hv⟩
    · simp [lv1, Rv.q] at h
    · simp [lv1, Rv.q] at h
    · simp [lv1, Rv.q] at h
    · simp [lv1, Rv.q] at h
  clear hO HA3
  go_wp2_with fail
  refine Calls.mono HS.out ?_
  rintro e w5 ⟨rfl, M', hO, hv⟩
  obtain ⟨w6, HW6⟩ : ∃ w6, Hid (w5.alloc (.cells #[.int .i64 1, .bool true, .slice none 0 0, .slice none 0 0, .int .i64 0] 56) = w6) := ⟨_, rfl⟩
  have hF6 : Fr [] w5 w6 := by rw [← HW6.out]; exact Fr.alloc _ _ _
  have hr6 : w6.heap[w5.heap.size]? = some (.cells #[.int .i64 1, .bool true, .slice none 0 0, .slice none 0 0, .int .i64 0] 56 (0, 0)) := by rw [← HW6.out]; exact heap_alloc_new _ _
  obtain ⟨Z8, HZ8⟩ : ∃ Z8, Hid (w5.heap.size = Z8) := ⟨_, rfl⟩
  rw [HZ8.out] at hr6
  have HS2 : Hid (Calls Tryz.prog 13 #[.pointer (some ⟨ob, 0, none⟩)] w6 fun e w' => ∃ E ec, e = .returned (.tuple #[.agg #[.int .i64 (-1), .bool true, .slice (some ⟨E, 0, none⟩) 1 ec, .slice none 0 0, .int .i64 0], .int .i64 0]) ∧ OwS w (fun _ => False) w' ob sb b 2 g pb2 2 M' [] ∧ w'.heap[Z8]? = some (.cells #[.int .i64 1, .bool true, .slice none 0 0, .slice none 0 0, .int .i64 0] 56 (0, 0)) ∧ ∃ cur, w'.heap[E]? = some (.cells cur 67 (0, 0)) ∧ cur.toList.take 2 = [.string ⟨#[97]⟩, .string ⟨#[49]⟩]) := by
    have h6 := hO.same hF6
    refine (os_serve h6 (by omega)).mono ?_
    rintro e w' ⟨ok, eo, el, ec, ho, hl, hc, c, M2, rfl, h1, hf, h2⟩
    obtain ⟨xs6, hq6, _⟩ := h6.q
    have hZ := hf.keep hq6.rg h6.sh.mb hr6 (by decide) (by decide) (by decide)
    rcases h2 with ⟨h, _⟩ | ⟨_, ⟨rfl, rfl, rfl⟩, rfl, rfl, h2⟩ | ⟨h, _⟩ | ⟨h, _⟩ | ⟨h, _⟩
    · simp [lv2, Rv.q] at h
    · rcases h2 with ⟨_, h, _⟩ | ⟨rfl, v, h, rfl, hE⟩
      · simp only [lv2, Rv.q] at h
        rw [hv] at h
        cases h
      · simp only [lv2, Rv.q] at h hE
        rw [hv] at h
        cases h
        rcases hE.row.2 with ⟨_, h⟩ | ⟨E, cap, cur, hv, _, hb, _, _, _, ht⟩
        · omega
        · cases hv
          exact ⟨E, _, rfl, h1, hZ, cur, hb, ht⟩
    · simp [lv2, Rv.q] at h
    · simp [lv2, Rv.q] at h
    · simp [lv2, Rv.q] at h
  clear hO HS hr6 hF6 hv
  go_upto_region 10 with fail
  rw [HW6.out, HZ8.out]
  clear HW6 HZ8
  go_wp2_with fail
  refine Calls.mono HS2.out ?_
  rintro e w7 ⟨E, ec, rfl, hO, hr8, cur, hEr, hEc⟩
  obtain ⟨w8, HW8⟩ : ∃ w8, Hid (w7.alloc (.cells #[.int .i64 (-1), .bool true, .slice (some ⟨E, 0, none⟩) 1 ec, .slice none 0 0, .int .i64 0] 56) = w8) := ⟨_, rfl⟩
  have hF8 : Fr [] w7 w8 := by rw [← HW8.out]; exact Fr.alloc _ _ _
  have hr9 : w8.heap[w7.heap.size]? = some (.cells #[.int .i64 (-1), .bool true, .slice (some ⟨E, 0, none⟩) 1 ec, .slice none 0 0, .int .i64 0] 56 (0, 0)) := by rw [← HW8.out]; exact heap_alloc_new _ _
  obtain ⟨Z9, HZ9⟩ : ∃ Z9, Hid (w7.heap.size = Z9) := ⟨_, rfl⟩
  rw [HZ9.out] at hr9
  have HS3 : Hid (Calls Tryz.prog 13 #[.pointer (some ⟨ob, 0, none⟩)] w8 fun e w' => e = .returned (.tuple #[.agg #[.int .i64 0, .bool false, .slice none 0 0, .slice none 0 0, .int .i64 0], .int .i64 9]) ∧ Fr [] w w' ∧ w'.cell? ⟨Z8, 0, none⟩ = some (.int .i64 1) ∧ w'.cell? ⟨Z8, 1, none⟩ = some (.bool true) ∧ w'.cell? ⟨Z9, 0, none⟩ = some (.int .i64 (-1)) ∧ w'.cell? ⟨Z9, 2, none⟩ = some (.slice (some ⟨E, 0, none⟩) 1 ec) ∧ w'.cell? ⟨E, 0, none⟩ = some (.string ⟨#[97]⟩) ∧ w'.cell? ⟨E, 1, none⟩ = some (.string ⟨#[49]⟩)) := by
    refine (os_idle (hO.same hF8)).mono ?_
    rintro e w' ⟨rfl, h, hF⟩
    have k8 := (hF8.then hF).keep hr8 (by simp)
    have k9 := hF.keep hr9 (by simp)
    have kE := (hF8.then hF).keep hEr (by simp)
    have hc0 : cur[0]? = some (.string ⟨#[97]⟩) := by
      have := congrArg (fun l => l[0]?) hEc
      simpa using this
    have hc1 : cur[1]? = some (.string ⟨#[49]⟩) := by
      have := congrArg (fun l => l[1]?) hEc
      simpa [List.getElem?_take] using this
    refine ⟨rfl, h.fr, ?_, ?_, ?_, ?_, ?_, ?_⟩
    · rw [cell_of_row _ _ _ _ _ _ k8]; rfl
    · rw [cell_of_row _ _ _ _ _ _ k8]; rfl
    · rw [cell_of_row _ _ _ _ _ _ k9]; rfl
    · rw [cell_of_row _ _ _ _ _ _ k9]; rfl
    · rw [cell_of_row _ _ _ _ _ _ kE]; exact hc0
    · rw [cell_of_row _ _ _ _ _ _ kE]; exact hc1
  clear hO HS2 hr8 hEr hEc hF8 hr9
  go_upto_region 11 with fail
  rw [HW8.out, HZ9.out]
  clear HW8 HZ9
  go_wp2_with fail
  refine Calls.mono HS3.out ?_
  rintro e w9 ⟨rfl, hF, c0, c1, c2, c3, c4, c5⟩
  have HF : Hid (Fr [] w w9) := hF
  clear HS3 hF
  have hq : ∀ W, (binOp .eql 67 (.agg #[.string ⟨#[97]⟩, .string ⟨#[49]⟩]) (.agg #[.string ⟨#[97]⟩, .string ⟨#[49]⟩])).run Tryz.prog W = .ok (.bool true) W := fun W => by kernel_rfl
  go_wp2
  go_ret
  exact ⟨rfl, HF.out⟩
end Go.Proofs.YtomajifklajilaaGreat
/- The statements' helper SameResp. Conditions as each names them. -/
namespace Go.Proofs.YtomajifklajilaaGreat
open Go.ChangeShapes Go.WideShapes Go.ChangeAt Go.RowKit Go.Lib
set_option linter.unusedVariables false
set_option linter.unusedSimpArgs false
set_option maxHeartbeats 4000000 in
set_option maxRecDepth 100000 in
theorem sameResp_any (t : Int) (ok : Bool) (eo eo' ho ho' : Option Addr) (el ec ec' hl hc hc' : Nat) (c : Int) (ps : List Pr) (hs hs' : List Hd) (w : World) (h1 : ERs w eo ps) (h2 : ERs w eo' ps) (h3 : el = ps.length) (h4 : HRs w ho hs) (h5 : HRs w ho' hs') (h6 : hl = hs.length) (h7 : hs.map hkv = hs'.map hkv) :
    Calls Tryz.prog 15 #[.agg #[.int .i64 t, .bool ok, .slice eo el ec, .slice ho hl hc, .int .i64 c], .agg #[.int .i64 t, .bool ok, .slice eo' el ec', .slice ho' hl hc', .int .i64 c]] w fun e w' => e = .returned (.bool true) ∧ Fr [] w w' := by
  have hF0 : Fr [] w ((w.alloc (.cells #[.int .i64 t, .bool ok, .slice eo el ec, .slice ho hl hc, .int .i64 c] 56)).alloc (.cells #[.int .i64 t, .bool ok, .slice eo' el ec', .slice ho' hl hc', .int .i64 c] 56)) := (Fr.alloc [] w _).then (Fr.alloc [] _ _)
  have HE : Hid (∀ W, Fr [] w W → Calls _ _ _ _ _) := fun W hf => sameEntries_any eo eo' el ec ec' ps W (h1.keep hf) (h2.keep hf) h3
  have HH : Hid (∀ W, Fr [] w W → Calls _ _ _ _ _) := fun W hf => sameHelds_any ho ho' hl hc hc' hs hs' W (h4.keep hf) (h5.keep hf) h6 h7
  have hr1 := (Fr.alloc [] (w.alloc (.cells #[.int .i64 t, .bool ok, .slice eo el ec, .slice ho hl hc, .int .i64 c] 56)) (.cells #[.int .i64 t, .bool ok, .slice eo' el ec', .slice ho' hl hc', .int .i64 c] 56)).keep (heap_alloc_new w (.cells #[.int .i64 t, .bool ok, .slice eo el ec, .slice ho hl hc, .int .i64 c] 56)) (by simp)
  have hr2 := heap_alloc_new (w.alloc (.cells #[.int .i64 t, .bool ok, .slice eo el ec, .slice ho hl hc, .int .i64 c] 56)) (.cells #[.int .i64 t, .bool ok, .slice eo' el ec', .slice ho' hl hc', .int .i64 c] 56)
  obtain ⟨wz, HWz⟩ : ∃ wz, Hid ((w.alloc (.cells #[.int .i64 t, .bool ok, .slice eo el ec, .slice ho hl hc, .int .i64 c] 56)).alloc (.cells #[.int .i64 t, .bool ok, .slice eo' el ec', .slice ho' hl hc', .int .i64 c] 56) = wz) := ⟨_, rfl⟩
  obtain ⟨Z1, HZ1⟩ : ∃ Z, Hid (w.heap.size = Z) := ⟨_, rfl⟩
  obtain ⟨Z2, HZ2⟩ : ∃ Z, Hid (w.heap.size + 1 = Z) := ⟨_, rfl⟩
  rw [show (w.alloc (.cells #[.int .i64 t, .bool ok, .slice eo el ec, .slice ho hl hc, .int .i64 c] 56)).heap.size = w.heap.size + 1 by simp, HWz.out, HZ2.out] at hr2
  rw [HWz.out, HZ1.out] at hr1
  rw [HWz.out] at hF0
  have HF0 : Hid (Fr [] w wz) := hF0
  have HC : Hid (∀ W, Fr [] wz W → (W.cell? ⟨Z1, 3, none⟩ = some (.slice ho hl hc) ∧ W.cell? ⟨Z1, 4, none⟩ = some (.int .i64 c)) ∧ (W.cell? ⟨Z2, 3, none⟩ = some (.slice ho' hl hc') ∧ W.cell? ⟨Z2, 4, none⟩ = some (.int .i64 c))) := fun W hf => by
    have k1 := hf.keep hr1 (by simp)
    have k2 := hf.keep hr2 (by simp)
    exact ⟨⟨by rw [cell_of_row _ _ _ _ _ _ k1]; rfl, by rw [cell_of_row _ _ _ _ _ _ k1]; rfl⟩, by rw [cell_of_row _ _ _ _ _ _ k2]; rfl, by rw [cell_of_row _ _ _ _ _ _ k2]; rfl⟩
  have bo : (ok == ok) = true := by simp
  clear h1 h2 h3 h4 h5 h6 h7 hF0 hr1 hr2
  go_enter Tryz.func15, Tryz.ntmps15
  go_wp2_with fail
  rw [HWz.out]
  refine Calls.mono (HE.out _ HF0.out) ?_
  rintro e w1 ⟨rfl, hF1⟩
  obtain ⟨⟨c1, c2⟩, c3, c4⟩ := HC.out _ hF1
  clear HWz
  rw [HZ2.out, HZ1.out]
  go_wp2_with fail
  refine Calls.mono (HH.out _ (HF0.out.then hF1)) ?_
  rintro e w2 ⟨rfl, hF2⟩
  obtain ⟨⟨d1, d2⟩, d3, d4⟩ := HC.out _ (hF1.then hF2)
  clear c1 c2 c3 c4
  go_wp2
  go_ret
  exact ⟨rfl, HF0.out.then (hF1.then hF2)⟩
end Go.Proofs.YtomajifklajilaaGreat
/- Both owners: what each Serve answers is the same; the law's helper asks, of a Serve. Conditions as each names them. -/
namespace Go.Proofs.YtomajifklajilaaGreat
open Go.ChangeShapes Go.WideShapes Go.ChangeAt Go.RowKit Go.Lib Go.Maps
set_option linter.unusedVariables false
set_option linter.unusedSimpArgs false
theorem ers_nil9 (w : World) : ERs w none [] := ⟨by simp, fun h => by simp at h⟩
theorem pk_lo {hs hh : List Hd} {f : ByteArray → List Vn} (hl : LoOk hs) (hP : PkT (mOf hs) f hh) (hf : ∀ k, okV (f k)) : LoOk hh :=
  hP.ok (fun k hk => (hl.2 _ (mOf_ne hk).choose_spec.1).1 |> fun q => by rw [(mOf_ne hk).choose_spec.2] at q; exact q) hf
/-- Two replies that read the same. -/
def Agr (el hl : Nat) (eo eo' ho ho' : Option Addr) (W : World) : Prop := ∃ ps hs hs', ERs W eo ps ∧ ERs W eo' ps ∧ el = ps.length ∧ HRs W ho hs ∧ HRs W ho' hs' ∧ hl = hs.length ∧ hs.map hkv = hs'.map hkv
theorem Agr.keep {el hl : Nat} {eo eo' ho ho' : Option Addr} {W W' : World} (h : Agr el hl eo eo' ho ho' W) (hf : Fr [] W W') : Agr el hl eo eo' ho ho' W' := by
  obtain ⟨ps, hs, hs', h1, h2, h3, h4, h5, h6, h7⟩ := h
  exact ⟨ps, hs, hs', h1.keep hf, h2.keep hf, h3, h4.keep hf, h5.keep hf, h6, h7⟩
theorem agr_nil (W : World) : Agr 0 0 none none none none W := ⟨[], [], [], ers_nil9 W, ers_nil9 W, rfl, hrs_nil W, hrs_nil W, rfl, rfl⟩
theorem rep_both {b n : Nat} {hs gs : List Hd} {r : Rq} {M' : ByteArray → List Vn} {ok ok' : Bool} {eo eo' ho ho' : Option Addr} {el el' ec ec' hl hl' hc hc' : Nat} {c c' : Int} {w w' W1 w2 : World} (hn : n < 3518437208882) (hl0 : LoOk hs) (h : Rep b (mOf hs) r M' n ok eo el ec ho hl hc c w w') (k : RepY hs r gs ok' eo' el' ec' ho' hl' hc' c' W1 w2) (hk : ∀ j, w.heap.size ≤ j → j < w'.heap.size → w2.heap[j]? = w'.heap[j]?) :
    M' = mOf gs ∧ ok = ok' ∧ c = c' ∧ el = el' ∧ hl = hl' ∧ Agr el hl eo eo' ho ho' w2 := by
  rcases h with ⟨h1, ⟨rfl, rfl, rfl⟩, ⟨rfl, rfl, rfl⟩, rfl, cc, hI⟩ | ⟨h1, ⟨rfl, rfl, rfl⟩, rfl, rfl, h5⟩ | ⟨h1, rfl, ⟨rfl, rfl, rfl⟩, rfl, rfl, h6, ps, h7, h8⟩ | ⟨h1, rfl, ⟨rfl, rfl, rfl⟩, ⟨rfl, rfl, rfl⟩, rfl, S, rfl, h6⟩ | ⟨h1, rfl, ⟨rfl, rfl, rfl⟩, rfl, rfl, h6, h7, hh, h8, h9⟩ <;>
  rcases k with ⟨k1, ⟨rfl, rfl, rfl⟩, ⟨rfl, rfl, rfl⟩, rfl, dd, kI⟩ | ⟨k1, ⟨rfl, rfl, rfl⟩, rfl, rfl, k5⟩ | ⟨k1, rfl, ⟨rfl, rfl, rfl⟩, rfl, rfl, qs, k7, k8⟩ | ⟨k1, rfl, ⟨rfl, rfl, rfl⟩, ⟨rfl, rfl, rfl⟩, k5, S', rfl, k6⟩ | ⟨k1, rfl, ⟨rfl, rfl, rfl⟩, rfl, rfl, kk, k8, k9⟩ <;> first | (exfalso; omega) | skip
  · obtain ⟨e1, e2, e3⟩ := hI.one kI
    exact ⟨e1, e2, rfl, rfl, rfl, agr_nil _⟩
  · rcases h5 with ⟨rfl, a2, rfl, rfl, rfl⟩ | ⟨rfl, v, a2, rfl, a4⟩ <;> rcases k5 with ⟨rfl, b2, rfl, rfl, rfl⟩ | ⟨rfl, u, b2, rfl, b4⟩
    · exact ⟨rfl, rfl, rfl, rfl, rfl, agr_nil _⟩
    · rw [a2] at b2; cases b2
    · rw [a2] at b2; cases b2
    · rw [a2] at b2; cases b2
      have z := a4.move hk (Nat.le_refl _)
      exact ⟨rfl, rfl, rfl, rfl, rfl, [(r.key, v)], [], [], ers_of z.row z.len (by simp), ers_of b4.row b4.len (by simp), rfl, hrs_nil _, hrs_nil _, rfl, rfl⟩
  · have e := h8.unique k8
    subst e
    have z := h7.move hk (Nat.le_refl _)
    have hp : ps.length < 3518437208883 := by have := h7.len; omega
    exact ⟨rfl, rfl, rfl, h7.len.trans k7.len.symm, rfl, ps, [], [], ers_of z.row z.len hp, ers_of k7.row k7.len hp, h7.len, hrs_nil _, hrs_nil _, rfl, rfl⟩
  · exact ⟨k5.symm, rfl, by rw [h6.one k6], rfl, rfl, agr_nil _⟩
  · have z := h8.move hk (Nat.le_refl _)
    have e := h9.one k9
    have e2 : hh.length = kk.length := by have := congrArg List.length e; simpa using this
    have hlo : LoOk hh := pk_lo hl0 h9 (fun q => okV_sub (mOf_ok hl0 q) (dmp_sub (mOf_ok hl0 q) _ _))
    have e3 : hl = hl' := by rw [h8.len, k8.len, e2]
    exact ⟨rfl, rfl, rfl, rfl, e3, [], hh, kk, ers_nil9 _, ers_nil9 _, rfl, z.rs hlo (by omega), k8.rs (by omega), h8.len, e⟩
set_option maxHeartbeats 4000000 in
set_option maxRecDepth 100000 in
theorem asks_serve (p r : Option Addr) (x : Rv) (w : World) (P : World → Prop)
    (hS : ∀ W, Fr [] w W → Calls Tryz.prog 13 #[.pointer p] W fun e w1 => ∃ (f : Int) (ok : Bool) (eo : Option Addr) (el ec : Nat) (ho : Option Addr) (hl hc : Nat) (c er : Int), e = .returned (.tuple #[.agg #[.int .i64 f, .bool ok, .slice eo el ec, .slice ho hl hc, .int .i64 c], .int .i64 er]) ∧
      ∀ W1, Fr [] w1 W1 → w1.heap.size < W1.heap.size → Calls Tryz.prog 14 #[.pointer r] W1 fun e w2 => ∃ (eo' : Option Addr) (ec' : Nat) (ho' : Option Addr) (hc' : Nat), e = .returned (.tuple #[.agg #[.int .i64 f, .bool ok, .slice eo' el ec', .slice ho' hl hc', .int .i64 c], .int .i64 er]) ∧ w2.heap[w1.heap.size]? = W1.heap[w1.heap.size]? ∧ Agr el hl eo eo' ho ho' w2 ∧ P w2) :
    Calls Tryz.prog 6 #[.pointer p, .pointer r, .agg #[.bool true, .int .u8 x.k, .int .i64 x.f, .int .i64 x.n, .string x.wk, .string x.wv, .bool x.wd, .string x.key, .string x.en, .slice x.bo x.bl x.bc]] w fun e w' => e = .returned (.bool true) ∧ ∃ w2, P w2 ∧ Fr [] w2 w' := by
  obtain ⟨xk, xf, xn, xa, xb, xd, xc, xe, xo, xl, xm⟩ := x
  simp only
  have hF0 := Fr.alloc [] w (.cells #[.bool true, .int .u8 xk, .int .i64 xf, .int .i64 xn, .string xa, .string xb, .bool xd, .string xc, .string xe, .slice xo xl xm] 38)
  have HS : Hid (Calls _ _ _ _ _) := hS _ hF0
  clear hS hF0
  go_enter Tryz.func6, Tryz.ntmps6
  go_wp2_with fail
  refine Calls.mono HS.out ?_
  rintro e w1 ⟨f, ok, eo, el, ec, ho, hl, hc, c, er, rfl, hY⟩
  have h7 := heap_alloc_new w1 (.cells #[.int .i64 f, .bool ok, .slice eo el ec, .slice ho hl hc, .int .i64 c] 56)
  have HY : Hid (Calls _ _ _ _ _) := hY (w1.alloc (.cells #[.int .i64 f, .bool ok, .slice eo el ec, .slice ho hl hc, .int .i64 c] 56)) (Fr.alloc _ _ _) (by simp)
  have H7 := (show Hid _ from h7)
  clear hY h7 HS
  go_wp2_with fail
  refine Calls.mono HY.out ?_
  rintro e w2 ⟨eo', ec', ho', hc', rfl, hB, hA, hP⟩
  have hG := Fr.alloc [] w2 (.cells #[.int .i64 f, .bool ok, .slice eo' el ec', .slice ho' hl hc', .int .i64 c] 56)
  have h72 := hG.keep (hB.trans H7.out) (by simp)
  have h9 := heap_alloc_new w2 (.cells #[.int .i64 f, .bool ok, .slice eo' el ec', .slice ho' hl hc', .int .i64 c] 56)
  have HE := (show Hid _ from And.intro hP (And.intro hG (hA.keep hG)))
  obtain ⟨z1, HZ1⟩ : ∃ z, Hid (w1.heap.size = z) := ⟨_, rfl⟩
  obtain ⟨z2, HZ2⟩ : ∃ z, Hid (w2.heap.size = z) := ⟨_, rfl⟩
  obtain ⟨w3, HW3⟩ : ∃ w3, Hid (w2.alloc (.cells #[.int .i64 f, .bool ok, .slice eo' el ec', .slice ho' hl hc', .int .i64 c] 56) = w3) := ⟨_, rfl⟩
  rw [HZ1.out, HW3.out] at h72
  rw [HZ2.out, HW3.out] at h9
  rw [HW3.out] at HE
  have c0 : w3.cell? ⟨z1, 0, none⟩ = some (.int .i64 f) := by rw [cell_of_row _ _ _ _ _ _ h72]; rfl
  have c1 : w3.cell? ⟨z1, 1, none⟩ = some (.bool ok) := by rw [cell_of_row _ _ _ _ _ _ h72]; rfl
  have c2 : w3.cell? ⟨z1, 2, none⟩ = some (.slice eo el ec) := by rw [cell_of_row _ _ _ _ _ _ h72]; rfl
  have c3 : w3.cell? ⟨z1, 3, none⟩ = some (.slice ho hl hc) := by rw [cell_of_row _ _ _ _ _ _ h72]; rfl
  have c4 : w3.cell? ⟨z1, 4, none⟩ = some (.int .i64 c) := by rw [cell_of_row _ _ _ _ _ _ h72]; rfl
  have d0 : w3.cell? ⟨z2, 0, none⟩ = some (.int .i64 f) := by rw [cell_of_row _ _ _ _ _ _ h9]; rfl
  have d1 : w3.cell? ⟨z2, 1, none⟩ = some (.bool ok) := by rw [cell_of_row _ _ _ _ _ _ h9]; rfl
  have d2 : w3.cell? ⟨z2, 2, none⟩ = some (.slice eo' el ec') := by rw [cell_of_row _ _ _ _ _ _ h9]; rfl
  have d3 : w3.cell? ⟨z2, 3, none⟩ = some (.slice ho' hl hc') := by rw [cell_of_row _ _ _ _ _ _ h9]; rfl
  have d4 : w3.cell? ⟨z2, 4, none⟩ = some (.int .i64 c) := by rw [cell_of_row _ _ _ _ _ _ h9]; rfl
  clear hB hA hP hG h72 h9 H7 HY
  go_upto_region 4 with fail
  rw [HZ1.out, HZ2.out, HW3.out]
  clear HZ1 HZ2 HW3
  obtain ⟨ps, hs, hs', q1, q2, q3, q4, q5, q6, q7⟩ := HE.out.2.2
  have HC : Hid (Calls _ _ _ _ _) := sameResp_any f ok eo eo' ho ho' el ec ec' hl hc hc' c ps hs hs' w3 q1 q2 q3 q4 q5 q6 q7
  clear q1 q2 q3 q4 q5 q6 q7
  go_wp2_with fail
  refine Calls.mono HC.out ?_
  rintro e w4 ⟨rfl, hF3⟩
  go_wp2
  go_ret
  exact ⟨rfl, w2, HE.out.1, HE.out.2.1.then hF3⟩
end Go.Proofs.YtomajifklajilaaGreat
/- Both owners side by side through the law's helpers asks, stands. Conditions as each names them. -/
namespace Go.Proofs.YtomajifklajilaaGreat
open Go.ChangeShapes Go.WideShapes Go.ChangeAt Go.RowKit Go.Lib Go.Maps
set_option linter.unusedVariables false
set_option linter.unusedSimpArgs false
section
variable {wl w0 w1 w w' : World} {t : Nat → Prop} {ob sb b n g : Nat} {pb : Option Nat} {C : Nat} {M : ByteArray → List Vn} {rs rs' : List Rq} {yb yg : Nat} {qo : Option Addr} {qn qc : Nat} {xs : List Rv} {N lc : Nat} {lo : Option Addr} {hs : List Hd}
theorem OwS.mono {n' : Nat} (h : OwS w0 t w ob sb b n g pb C M rs) (hn : n ≤ n') : OwS w0 t w ob sb b n' g pb C M rs := ⟨h.q, h.sh.mono hn, h.fr, h.gn, h.on, h.pn⟩
theorem OwnA.back {S : List Nat} {j : Nat} (h : OwnA ob sb b g pb w' j) (hf : Fr S w w') (hb : b ∉ S) (hl : b < w.heap.size) : OwnA ob sb b g pb w j := by
  rcases h with e | e | e | e | e | e
  · exact Or.inl e
  · exact Or.inr (Or.inl e)
  · exact Or.inr (Or.inr (Or.inl e))
  · exact Or.inr (Or.inr (Or.inr (Or.inl e)))
  · exact Or.inr (Or.inr (Or.inr (Or.inr (Or.inl e))))
  · exact Or.inr (Or.inr (Or.inr (Or.inr (Or.inr (e.back hf hb hl)))))
theorem OwnA.backF {pb' : Option Nat} {j : Nat} (h : OwnA ob sb b g pb' w' j) (hF : OwF b g pb w w') (hl : b < w.heap.size) (hp : ∀ k, pb' = some k → pb = some k ∨ w.heap.size ≤ k) : OwnA ob sb b g pb w j ∨ w.heap.size ≤ j := by
  obtain ⟨S, hS, hm⟩ := hF
  rcases h with e | e | e | e | e | e
  · exact Or.inl (Or.inl e)
  · exact Or.inl (Or.inr (Or.inl e))
  · exact Or.inl (Or.inr (Or.inr (Or.inl e)))
  · exact Or.inl (Or.inr (Or.inr (Or.inr (Or.inl e))))
  · rcases hp j e with q | q
    · exact Or.inl (Or.inr (Or.inr (Or.inr (Or.inr (Or.inl q)))))
    · exact Or.inr q
  · rcases (hm hl).2 j e with q | q
    · exact Or.inl (Or.inr (Or.inr (Or.inr (Or.inr (Or.inr q)))))
    · exact Or.inr q
/-- Behind a change of what is neither's. -/
theorem Dq.far {S0 : List Nat} (h : Dq wl w0 w1 w ob sb b g pb C rs yb yg qo qn qc xs N lc lo hs) (ho : OwS w0 t w ob sb b n g pb C M rs') (hf0 : Fr S0 w w') (hS0 : ∀ j ∈ S0, j < w.heap.size → w0.heap.size ≤ j ∧ ¬ OwnA ob sb b g pb w j ∧ ¬ DocB yb qo yg lo N lc hs j ∧ t j) :
    OwS w0 t w' ob sb b n g pb C M rs' ∧ Dq wl w0 w1 w' ob sb b g pb C rs yb yg qo qn qc xs N lc lo hs := by
  classical
  obtain ⟨S, hf, hS⟩ : ∃ S, Fr S w w' ∧ ∀ j ∈ S, w0.heap.size ≤ j ∧ ¬ OwnA ob sb b g pb w j ∧ ¬ DocB yb qo yg lo N lc hs j ∧ t j := by
    refine ⟨S0.filter fun j => decide (j < w.heap.size), hf0.mono (fun x hx hl => List.mem_filter.2 ⟨hx, by simpa using hl⟩), fun j hj => ?_⟩
    obtain ⟨a, b⟩ := List.mem_filter.1 hj
    exact hS0 j a (by simpa using b)
  have hO := ho.far hf (fun j hj _ => ⟨(hS j hj).1, (hS j hj).2.1, Or.inl (hS j hj).2.2.2⟩)
  have hbS : b ∉ S := fun hm => (hS b hm).2.1 (Or.inr (Or.inr (Or.inl rfl)))
  have nS : ∀ j, DocB yb qo yg lo N lc hs j → j ∉ S := fun j hj hm => (hS j hm).2.2.1 hj
  refine ⟨hO, h.y.keep hf (nS yb (Or.inl rfl)) (fun k e => nS k (Or.inr (Or.inl e))), h.k.keepS hf (fun j hj hd => nS j (Or.inr (Or.inr hd)) hj), h.wt.old (fun j hj => hf.block j ?_ (fun hm => ?_)) hf.size, fun j hj hd => h.ap j (hj.back hf hbS ho.sh.bl) hd, h.dn, h.yy, h.qq, h.lw, Nat.le_trans h.l1 hf.size⟩
  · have := h.lw
    have := ho.fr.size
    omega
  · have := h.lw
    have := (hS j hm).1
    omega
end
/-- Both owners, there, and alike: rs wait at both. -/
def Bo (wl w0 w1 w : World) (ob sb b g C yb yg n : Nat) (rs : List Rq) : Prop := ∃ pb qo qn qc xs N lc lo hs, OwS w0 (fun _ => False) w ob sb b n g pb C (mOf hs) rs ∧ Dq wl w0 w1 w ob sb b g pb C rs yb yg qo qn qc xs N lc lo hs ∧ N ≤ n
section
variable {wl w0 w1 w w' : World} {ob sb b g C yb yg n : Nat} {rs : List Rq}
theorem Bo.same (h : Bo wl w0 w1 w ob sb b g C yb yg n rs) (hf : Fr [] w w') : Bo wl w0 w1 w' ob sb b g C yb yg n rs := by
  obtain ⟨pb, qo, qn, qc, xs, N, lc, lo, hs, h1, h2, h3⟩ := h
  exact ⟨pb, qo, qn, qc, xs, N, lc, lo, hs, h1.same hf, h2.same h1 hf, h3⟩
theorem Bo.mono {n' : Nat} (h : Bo wl w0 w1 w ob sb b g C yb yg n rs) (hn : n ≤ n') : Bo wl w0 w1 w ob sb b g C yb yg n' rs := by
  obtain ⟨pb, qo, qn, qc, xs, N, lc, lo, hs, h1, h2, h3⟩ := h
  exact ⟨pb, qo, qn, qc, xs, N, lc, lo, hs, h1.mono hn, h2, Nat.le_trans h3 hn⟩
theorem Bo.fr (h : Bo wl w0 w1 w ob sb b g C yb yg n rs) : Fr [] w0 w := by
  obtain ⟨pb, qo, qn, qc, xs, N, lc, lo, hs, h1, h2, h3⟩ := h
  exact h1.fr
set_option maxHeartbeats 1000000 in
theorem bo_serve (h : Bo wl w0 w1 w ob sb b g C yb yg n rs) (hn : n < 3518437208800) (x : Rv) : Calls Tryz.prog 6 #[.pointer (some ⟨ob, 0, none⟩), .pointer (some ⟨yb, 0, none⟩), .agg #[.bool true, .int .u8 x.k, .int .i64 x.f, .int .i64 x.n, .string x.wk, .string x.wv, .bool x.wd, .string x.key, .string x.en, .slice x.bo x.bl x.bc]] w fun e w' => e = .returned (.bool true) ∧ ∃ rs', Bo wl w0 w1 w' ob sb b g C yb yg (n + 1) rs' := by
  obtain ⟨pb, qo, qn, qc, xs, N, lc, lo, hs, ho, hd, hN⟩ := h
  refine (asks_serve (some ⟨ob, 0, none⟩) (some ⟨yb, 0, none⟩) x w (fun w2 => ∃ rs', Bo wl w0 w1 w2 ob sb b g C yb yg (n + 1) rs') (fun W hW => ?_)).mono ?_
  · have hoW := ho.same hW
    have hdW := hd.same ho hW
    clear ho hd hW
    cases rs with
    | nil =>
      refine (os_idle hoW).mono ?_
      rintro e v1 ⟨rfl, hO, hF⟩
      refine ⟨0, false, none, 0, 0, none, 0, 0, 0, 9, rfl, fun W1 hf hl => ?_⟩
      have hd1 := (hdW.same hoW hF).same hO hf
      have hO1 := hO.same hf
      have hwt := hd1.wt
      cases hwt
      refine (yoserve_idle hd1.y).mono ?_
      rintro e w2 ⟨rfl, hF2⟩
      exact ⟨none, 0, none, 0, rfl, hF2.block _ hl (by simp), agr_nil _, [], pb, qo, qn, qc, [], N, lc, lo, hs, (hO1.same hF2).mono (Nat.le_succ n), hd1.same hO1 hF2, Nat.le_succ_of_le hN⟩
    | cons r rs =>
      have hok : okR r := by
        obtain ⟨ys, _, hw⟩ := hoW.q
        cases hw with
        | cons a _ => exact a.ok
      refine (os_serve hoW (by omega)).mono ?_
      rintro e v1 ⟨ok, eo, el, ec, ho, hl, hc, c, M', rfl, hO, hF, hR⟩
      refine ⟨r.f, ok, eo, el, ec, ho, hl, hc, c, 0, rfl, fun W1 hf hlt => ?_⟩
      have hdv := hdW.pro hoW hO hF (fun k e => Or.inl e)
      have hd1 := hdv.same hO hf
      have hO1 := hO.same hf
      have hwt := hd1.wt
      cases xs with
      | nil => cases hwt
      | cons x xs =>
        cases hwt with
        | cons hx hxs =>
          have ylt : wl.heap.size ≤ yb := Nat.le_trans hd1.lw (hd1.dn yb (Or.inl rfl))
          refine (ysv hd1.y hd1.k hd1.l1 (by omega) hd1.yy hd1.qq hok hx.is hx.len hx.row (fun h0 a e q => by have := hx.old h0 a e; omega)).mono ?_
          rintro e w2 ⟨ok', eo', el', ec', ho', hl', hc', c', qo', N', lc', lo', gs, S, rfl, hY, hq, hK, hN', hF2, hS, hnew, hRY⟩
          have hDoc : ∀ j ∈ yb :: S, DocB yb qo yg lo N lc hs j := fun j hj => by
            rcases List.mem_cons.1 hj with e | e
            · exact Or.inl e
            · exact Or.inr (Or.inr (hS j e))
          have hlow : ∀ j ∈ yb :: S, j < W.heap.size := fun j hj => hdW.lt (hDoc j hj)
          have s1 := hF.size
          obtain ⟨q1, q2, q3, q4, q5, q6⟩ := rep_both (by omega) hd1.k.ok hR hRY (fun j h1 h2 => by
            rw [hF2.block j (by have := hf.size; omega) (fun hm => by have := hlow j hm; omega), hf.block j h2 (by simp)])
          subst q1 q2 q3 q4 q5
          have ybl := hd1.lt (Or.inl rfl : DocB yb qo yg lo N lc hs yb)
          obtain ⟨z1, z2⟩ := hd1.doc hO1 hF2 (fun j hj _ => hDoc j hj) hY hK (fun he => hxs.old he hF2.size) (fun j hj => by
              rcases hj with e | e | e
              · exact Or.inl (Or.inl e)
              · rw [hq] at e
                exact Or.inl (Or.inr (Or.inl e))
              · rcases hnew j e with q | q
                · exact Or.inl (Or.inr (Or.inr q))
                · exact Or.inr q) (fun hm => by
              rcases hnew yb hm with q | q
              · exact hd1.yy q
              · omega) (fun k e hm => by
              rw [hq] at e
              have hk := hd1.lt (Or.inr (Or.inl e) : DocB yb qo yg lo N lc hs k)
              rcases hnew k hm with q | q
              · exact hd1.qq k e q
              · omega)
          exact ⟨eo', ec', ho', hc', rfl, hF2.block _ hlt (fun hm => by have := hlow _ hm; omega), q6, rs, pb, qo', _, _, xs, N', lc', lo', gs, z1, z2, by omega⟩
  · rintro e w' ⟨rfl, w2, ⟨rs', h⟩, hF⟩
    exact ⟨rfl, rs', h.same hF⟩
end
end Go.Proofs.YtomajifklajilaaGreat

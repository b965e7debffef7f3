/- Texts of this claim laid together, one behind the other: contracts and plain lemmas; conditions as each names them. -/
import Derived.Test.YtomajifklajilaaGreatGp30
/- The law's helper asks, of a request: true, by what both owners answer. Conditions as each names them. -/
namespace Go.Proofs.YtomajifklajilaaGreat
open Go.ChangeShapes Go.WideShapes Go.ChangeAt Go.RowKit Go.Lib
set_option linter.unusedVariables false
set_option linter.unusedSimpArgs false
/-- What is new since w stays. -/
def Nf (w W w1 : World) : Prop := W.heap.size ≤ w1.heap.size ∧ ∀ j, w.heap.size ≤ j → j < W.heap.size → w1.heap[j]? = W.heap[j]?
theorem Nf.of {w W w1 : World} (h : Fr [] W w1) : Nf w W w1 := ⟨h.size, fun j _ hj => h.block j hj (by simp)⟩
theorem Nf.keep {w W w1 : World} (h : Nf w W w1) {j : Nat} {o : Array Value} {t : TypeId} {fr : Nat × Nat} (hj : W.heap[j]? = some (.cells o t fr)) (hw : w.heap.size ≤ j) : w1.heap[j]? = some (.cells o t fr) := (h.2 j hw (lt_of_block hj)).trans hj
theorem Nf.then {w W w1 w2 : World} (h : Nf w W w1) (k : Nf w w1 w2) : Nf w W w2 := ⟨Nat.le_trans h.1 k.1, fun j h1 h2 => (k.2 j h1 (Nat.lt_of_lt_of_le h2 h.1)).trans (h.2 j h1 h2)⟩
set_option maxHeartbeats 8000000 in
set_option maxRecDepth 100000 in
theorem asks_ask (p r : Option Addr) (x : Rv) (ns : List Int) (w : World) (hR : RqB w x ns) (P : World → World → Prop)
    (hA : ∀ W tb, Fr [] w W → w.heap.size ≤ tb → RqB W (x.tw tb) ns → Calls Tryz.prog 17 #[.pointer p, (x.tw tb).v] W fun e w1 => ∃ (ok : Bool) (c : Int), e = .returned (.tuple #[.bool ok, .int .i64 c]) ∧ Nf w W w1 ∧
      Calls Tryz.prog 18 #[.pointer r, x.v] w1 fun e w2 => e = .returned (.tuple #[.bool ok, .int .i64 c]) ∧ Nf w w1 w2 ∧ RqB w2 x ns ∧ P W w2) :
    Calls Tryz.prog 6 #[.pointer p, .pointer r, .agg #[.bool false, .int .u8 x.k, .int .i64 x.f, .int .i64 x.n, .string x.wk, .string x.wv, .bool x.wd, .string x.key, .string x.en, .slice x.bo x.bl x.bc]] w fun e w' => e = .returned (.bool true) ∧ ∃ W w2 T, Fr [] w W ∧ P W w2 ∧ Fr T w2 w' ∧ ∀ j ∈ T, w.heap.size ≤ j ∧ (j < W.heap.size ∨ w2.heap.size ≤ j) := by
  obtain ⟨xk, xf, xn, xa, xb, xd, xc, xe, xo, xl, xm⟩ := x
  simp only at hA ⊢
  obtain ⟨wz, HWz⟩ : ∃ wz, Hid (w.alloc (.cells #[.bool false, .int .u8 xk, .int .i64 xf, .int .i64 xn, .string xa, .string xb, .bool xd, .string xc, .string xe, .slice xo xl xm] 38) = wz) := ⟨_, rfl⟩
  have hF0 : Fr [] w wz := by rw [← HWz.out]; exact Fr.alloc [] w _
  have hr5 : wz.heap[w.heap.size]? = some (.cells #[.bool false, .int .u8 xk, .int .i64 xf, .int .i64 xn, .string xa, .string xb, .bool xd, .string xc, .string xe, .slice xo xl xm] 38 (0, 0)) := by rw [← HWz.out]; exact heap_alloc_new w _
  obtain ⟨Z5, HZ5⟩ : ∃ Z, Hid (w.heap.size = Z) := ⟨_, rfl⟩
  rw [HZ5.out] at hr5
  have HT : Hid (Calls _ _ _ _ _) := twinReq_any ⟨xk, xf, xn, xa, xb, xd, xc, xe, xo, xl, xm⟩ ns wz (hR.keep hF0)
  have HF0 : Hid (Fr [] w wz) := hF0
  have HR5 := (show Hid _ from hr5)
  have HZw : Hid (w.heap.size ≤ Z5) := by show _ ≤ _; rw [HZ5.out]; omega
  have HA := (show Hid _ from hA)
  have HRq : Hid (∀ W, Fr [] w W → RqB W ⟨xk, xf, xn, xa, xb, xd, xc, xe, xo, xl, xm⟩ ns) := fun W hf => hR.keep hf
  have hxl : xl ≤ 17592186044416 := by have := hR.is.few; have := hR.len; simp only at this; omega
  have HB := (show Hid (RqB w ⟨xk, xf, xn, xa, xb, xd, xc, xe, xo, xl, xm⟩ ns) from hR)
  have c0 : wz.cell? ⟨Z5, 0, none⟩ = some (.bool false) := by rw [cell_of_row _ _ _ _ _ _ hr5]; rfl
  have a1 : wz.cell? ⟨Z5, 1, none⟩ = some (.int .u8 xk) := by rw [cell_of_row _ _ _ _ _ _ hr5]; rfl
  have a2 : wz.cell? ⟨Z5, 2, none⟩ = some (.int .i64 xf) := by rw [cell_of_row _ _ _ _ _ _ hr5]; rfl
  have a3 : wz.cell? ⟨Z5, 3, none⟩ = some (.int .i64 xn) := by rw [cell_of_row _ _ _ _ _ _ hr5]; rfl
  have a4 : wz.cell? ⟨Z5, 4, none⟩ = some (.string xa) := by rw [cell_of_row _ _ _ _ _ _ hr5]; rfl
  have a5 : wz.cell? ⟨Z5, 5, none⟩ = some (.string xb) := by rw [cell_of_row _ _ _ _ _ _ hr5]; rfl
  have a6 : wz.cell? ⟨Z5, 6, none⟩ = some (.bool xd) := by rw [cell_of_row _ _ _ _ _ _ hr5]; rfl
  have a7 : wz.cell? ⟨Z5, 7, none⟩ = some (.string xc) := by rw [cell_of_row _ _ _ _ _ _ hr5]; rfl
  have a8 : wz.cell? ⟨Z5, 8, none⟩ = some (.string xe) := by rw [cell_of_row _ _ _ _ _ _ hr5]; rfl
  have a9 : wz.cell? ⟨Z5, 9, none⟩ = some (.slice xo xl xm) := by rw [cell_of_row _ _ _ _ _ _ hr5]; rfl
  clear hR hF0 hr5 hA
  simp only [Rv.v, Rv.tw] at HT
  go_enter Tryz.func6, Tryz.ntmps6
  go_upto_region 1 with fail
  rw [HWz.out, HZ5.out]
  clear HWz HZ5
  go_wp2_with fail
  refine Calls.mono HT.out ?_
  rintro e w1 ⟨tb, rfl, htb, hrt, hF1⟩
  clear c0 a1 a2 a3 a4 a5 a6 a7 a8 a9 HT
  obtain ⟨w2, HW2⟩ : ∃ w2, Hid (w1.alloc (.cells #[.int .u8 xk, .int .i64 xf, .int .i64 xn, .string xa, .string xb, .bool xd, .string xc, .string xe, .slice (some ⟨tb, 0, none⟩) xl (xl + 1)] 36) = w2) := ⟨_, rfl⟩
  have hG2 : Fr [] w1 w2 := by rw [← HW2.out]; exact Fr.alloc [] w1 _
  have HR11 : Hid (w2.heap[w1.heap.size]? = some (.cells #[.int .u8 xk, .int .i64 xf, .int .i64 xn, .string xa, .string xb, .bool xd, .string xc, .string xe, .slice (some ⟨tb, 0, none⟩) xl (xl + 1)] 36 (0, 0))) := by show _ = _; rw [← HW2.out]; exact heap_alloc_new w1 _
  go_upto_region 6 with fail
  rw [HW2.out]
  clear HW2
  have HG2 : Hid (Fr [] w w2) := (HF0.out.then hF1).then hG2
  have HRt : Hid (w2.heap[tb]? = some (.cells (intsT (ns ++ [7777])).toArray 3 (0, 0))) := hG2.keep hrt (by simp)
  have HR52 := (show Hid _ from (hF1.then hG2).keep HR5.out (by simp))
  obtain ⟨Z11, HZ11⟩ : ∃ Z, Hid (w1.heap.size = Z) := ⟨_, rfl⟩
  rw [HZ11.out] at HR11
  have HZb : Hid (wz.heap.size ≤ tb ∧ wz.heap.size ≤ Z11 ∧ Z5 < wz.heap.size) := ⟨htb, by rw [← HZ11.out]; exact hF1.size, lt_of_block HR5.out⟩
  have HC1 : Hid (Calls _ _ _ _ _) := HA.out w2 tb HG2.out (by have := HZb.out; have := HF0.out.size; omega) ⟨HB.out.k, HB.out.f, HB.out.n, HB.out.wk, HB.out.wv, HB.out.key, HB.out.en, ⟨fun h0 => ⟨tb, 0, rfl, lt_of_block HRt.out, fun i hi => by
      rw [cell_of_row _ _ _ _ _ _ HRt.out, List.getElem?_toArray, Nat.zero_add, intsT_get _ _ (by simp; omega)]
      congr 2
      simp [List.getD, List.getElem?_append_left hi]⟩, HB.out.is.few⟩, HB.out.len, by simp only [Rv.tw]; omega⟩
  have HNe : Hid (Z11 ≠ tb ∧ Z11 < w2.heap.size) := ⟨by rw [← HZ11.out]; have := lt_of_block hrt; omega, lt_of_block HR11.out⟩
  clear hrt hF1 hG2 htb
  rw [HZ11.out]
  clear HZ11
  have hr11 := HR11.out
  have t0 : w2.cell? ⟨Z11, 0, none⟩ = some (.int .u8 xk) := by rw [cell_of_row _ _ _ _ _ _ hr11]; rfl
  have t1 : w2.cell? ⟨Z11, 1, none⟩ = some (.int .i64 xf) := by rw [cell_of_row _ _ _ _ _ _ hr11]; rfl
  have t2 : w2.cell? ⟨Z11, 2, none⟩ = some (.int .i64 xn) := by rw [cell_of_row _ _ _ _ _ _ hr11]; rfl
  have t3 : w2.cell? ⟨Z11, 3, none⟩ = some (.string xa) := by rw [cell_of_row _ _ _ _ _ _ hr11]; rfl
  have t4 : w2.cell? ⟨Z11, 4, none⟩ = some (.string xb) := by rw [cell_of_row _ _ _ _ _ _ hr11]; rfl
  have t5 : w2.cell? ⟨Z11, 5, none⟩ = some (.bool xd) := by rw [cell_of_row _ _ _ _ _ _ hr11]; rfl
  have t6 : w2.cell? ⟨Z11, 6, none⟩ = some (.string xc) := by rw [cell_of_row _ _ _ _ _ _ hr11]; rfl
  have t7 : w2.cell? ⟨Z11, 7, none⟩ = some (.string xe) := by rw [cell_of_row _ _ _ _ _ _ hr11]; rfl
  have t8 : w2.cell? ⟨Z11, 8, none⟩ = some (.slice (some ⟨tb, 0, none⟩) xl (xl + 1)) := by rw [cell_of_row _ _ _ _ _ _ hr11]; rfl
  simp only [Rv.v, Rv.tw] at HC1
  clear hr11
  go_wp2_with fail
  refine Calls.mono HC1.out ?_
  rintro e w3 ⟨ok, c, rfl, hN3, hC2⟩
  have HN3 : Hid (Nf w w2 w3) := hN3
  have HC2 := (show Hid _ from hC2)
  have hr5 := hN3.keep HR52.out HZw.out
  have a1 : w3.cell? ⟨Z5, 1, none⟩ = some (.int .u8 xk) := by rw [cell_of_row _ _ _ _ _ _ hr5]; rfl
  have a2 : w3.cell? ⟨Z5, 2, none⟩ = some (.int .i64 xf) := by rw [cell_of_row _ _ _ _ _ _ hr5]; rfl
  have a3 : w3.cell? ⟨Z5, 3, none⟩ = some (.int .i64 xn) := by rw [cell_of_row _ _ _ _ _ _ hr5]; rfl
  have a4 : w3.cell? ⟨Z5, 4, none⟩ = some (.string xa) := by rw [cell_of_row _ _ _ _ _ _ hr5]; rfl
  have a5 : w3.cell? ⟨Z5, 5, none⟩ = some (.string xb) := by rw [cell_of_row _ _ _ _ _ _ hr5]; rfl
  have a6 : w3.cell? ⟨Z5, 6, none⟩ = some (.bool xd) := by rw [cell_of_row _ _ _ _ _ _ hr5]; rfl
  have a7 : w3.cell? ⟨Z5, 7, none⟩ = some (.string xc) := by rw [cell_of_row _ _ _ _ _ _ hr5]; rfl
  have a8 : w3.cell? ⟨Z5, 8, none⟩ = some (.string xe) := by rw [cell_of_row _ _ _ _ _ _ hr5]; rfl
  have a9 : w3.cell? ⟨Z5, 9, none⟩ = some (.slice xo xl xm) := by rw [cell_of_row _ _ _ _ _ _ hr5]; rfl
  clear t0 t1 t2 t3 t4 t5 t6 t7 t8 HC1 hN3 hC2 hr5
  go_wp2_with fail
  refine Calls.mono HC2.out ?_
  rintro e w4 ⟨rfl, hN4, hR4, hP4⟩
  have HN4 : Hid (Nf w w2 w4 ∧ P w2 w4) := ⟨HN3.out.then hN4, hP4⟩
  have hr5 := HN4.out.1.keep HR52.out HZw.out
  have hr11 := HN4.out.1.keep HR11.out (by have := HZb.out; have := HF0.out.size; omega)
  have hrt := HN4.out.1.keep HRt.out (by have := HZb.out; have := HF0.out.size; omega)
  have HL : Hid (Calls _ _ _ _ _) := leftReq_any ⟨xk, xf, xn, xa, xb, xd, xc, xe, xo, xl, xm⟩ ns tb w4 hR4 hrt
  have HRows := (show Hid _ from And.intro hr11 hrt)
  clear a1 a2 a3 a4 a5 a6 a7 a8 a9 HC2 hN4 hP4 hR4
  have a1 : w4.cell? ⟨Z5, 1, none⟩ = some (.int .u8 xk) := by rw [cell_of_row _ _ _ _ _ _ hr5]; rfl
  have a2 : w4.cell? ⟨Z5, 2, none⟩ = some (.int .i64 xf) := by rw [cell_of_row _ _ _ _ _ _ hr5]; rfl
  have a3 : w4.cell? ⟨Z5, 3, none⟩ = some (.int .i64 xn) := by rw [cell_of_row _ _ _ _ _ _ hr5]; rfl
  have a4 : w4.cell? ⟨Z5, 4, none⟩ = some (.string xa) := by rw [cell_of_row _ _ _ _ _ _ hr5]; rfl
  have a5 : w4.cell? ⟨Z5, 5, none⟩ = some (.string xb) := by rw [cell_of_row _ _ _ _ _ _ hr5]; rfl
  have a6 : w4.cell? ⟨Z5, 6, none⟩ = some (.bool xd) := by rw [cell_of_row _ _ _ _ _ _ hr5]; rfl
  have a7 : w4.cell? ⟨Z5, 7, none⟩ = some (.string xc) := by rw [cell_of_row _ _ _ _ _ _ hr5]; rfl
  have a8 : w4.cell? ⟨Z5, 8, none⟩ = some (.string xe) := by rw [cell_of_row _ _ _ _ _ _ hr5]; rfl
  have a9 : w4.cell? ⟨Z5, 9, none⟩ = some (.slice xo xl xm) := by rw [cell_of_row _ _ _ _ _ _ hr5]; rfl
  have t0 : w4.cell? ⟨Z11, 0, none⟩ = some (.int .u8 xk) := by rw [cell_of_row _ _ _ _ _ _ hr11]; rfl
  have t1 : w4.cell? ⟨Z11, 1, none⟩ = some (.int .i64 xf) := by rw [cell_of_row _ _ _ _ _ _ hr11]; rfl
  have t2 : w4.cell? ⟨Z11, 2, none⟩ = some (.int .i64 xn) := by rw [cell_of_row _ _ _ _ _ _ hr11]; rfl
  have t3 : w4.cell? ⟨Z11, 3, none⟩ = some (.string xa) := by rw [cell_of_row _ _ _ _ _ _ hr11]; rfl
  have t4 : w4.cell? ⟨Z11, 4, none⟩ = some (.string xb) := by rw [cell_of_row _ _ _ _ _ _ hr11]; rfl
  have t5 : w4.cell? ⟨Z11, 5, none⟩ = some (.bool xd) := by rw [cell_of_row _ _ _ _ _ _ hr11]; rfl
  have t6 : w4.cell? ⟨Z11, 6, none⟩ = some (.string xc) := by rw [cell_of_row _ _ _ _ _ _ hr11]; rfl
  have t7 : w4.cell? ⟨Z11, 7, none⟩ = some (.string xe) := by rw [cell_of_row _ _ _ _ _ _ hr11]; rfl
  have t8 : w4.cell? ⟨Z11, 8, none⟩ = some (.slice (some ⟨tb, 0, none⟩) xl (xl + 1)) := by rw [cell_of_row _ _ _ _ _ _ hr11]; rfl
  simp only [Rv.v, Rv.tw] at HL
  clear hr5 hr11 hrt
  have bo : (ok != ok) = false := by simp
  go_wp2_with fail
  refine Calls.mono HL.out ?_
  rintro e w5 ⟨rfl, hF5⟩
  have HR6 : Hid (w5.heap[Z11]? = some (.cells #[.int .u8 xk, .int .i64 xf, .int .i64 xn, .string xa, .string xb, .bool xd, .string xc, .string xe, .slice (some ⟨tb, 0, none⟩) xl (xl + 1)] 36 (0, 0)) ∧ ∃ cur, w5.heap[tb]? = some (.cells cur 3 (0, 0)) ∧ cur.size = xl + 1) := ⟨hF5.keep HRows.out.1 (by simp), _, hF5.keep HRows.out.2 (by simp), by
    have := HB.out.len
    simp only at this
    simp [intsT_length, this]⟩
  have HF5 : Hid (Fr [tb] w4 w5) := hF5.mono (by simp)
  clear a1 a2 a3 a4 a5 a6 a7 a8 a9 t0 t1 t2 t3 t4 t5 t6 t7 t8 HL hF5
  go_wp2_with fail
  go_loopw [16] (fun ii wr => ∃ (i : Nat), ii = .int .i64 i ∧ i ≤ xl ∧ Hid ((wr.heap[Z11]? = some (.cells #[.int .u8 xk, .int .i64 xf, .int .i64 xn, .string xa, .string xb, .bool xd, .string xc, .string xe, .slice (some ⟨tb, 0, none⟩) xl (xl + 1)] 36 (0, 0)) ∧ ∃ cur, wr.heap[tb]? = some (.cells cur 3 (0, 0)) ∧ cur.size = xl + 1) ∧ Fr [tb] w4 wr)) (fun ii _ => xl - (RowKit.intOf ii).toNat)
  case atStart => exact ⟨0, rfl, Nat.zero_le _, HR6.out, HF5.out⟩
  case round =>
    obtain ⟨i, rfl, hil, HI⟩ := hrel
    obtain ⟨⟨k11, cur, kt, hcs⟩, hf⟩ := HI.out
    have t8 : wr.cell? ⟨Z11, 8, none⟩ = some (.slice (some ⟨tb, 0, none⟩) xl (xl + 1)) := by rw [cell_of_row _ _ _ _ _ _ k11]; rfl
    by_cases hi : i < xl
    · have ci : wr.cell? ⟨tb, i, none⟩ = some cur[i] := by rw [cell_of_row _ _ _ _ _ _ kt]; simp
      have zi : wr.frozen? ⟨tb, i, none⟩ = false := by simp [World.frozen?, kt]
      have hS : Fr [tb] wr (wr.setCell ⟨tb, i, none⟩ (.int .i64 (-77))) := Fr.set _ _ _ (by simp)
      have HN : Hid (((wr.setCell ⟨tb, i, none⟩ (.int .i64 (-77))).heap[Z11]? = some (.cells #[.int .u8 xk, .int .i64 xf, .int .i64 xn, .string xa, .string xb, .bool xd, .string xc, .string xe, .slice (some ⟨tb, 0, none⟩) xl (xl + 1)] 36 (0, 0)) ∧ ∃ cur, (wr.setCell ⟨tb, i, none⟩ (.int .i64 (-77))).heap[tb]? = some (.cells cur 3 (0, 0)) ∧ cur.size = xl + 1) ∧ Fr [tb] w4 (wr.setCell ⟨tb, i, none⟩ (.int .i64 (-77)))) := ⟨⟨hS.keep k11 (by simp; exact HNe.out.1), _, vrow_setCell _ kt, by simpa using hcs⟩, hf.then hS⟩
      generalize cur[i] = old at ci
      clear HI k11 kt hf hS
      go_wp2_with fail
      go_roundw
      case rel => exact ⟨i + 1, by simp, by omega, HN⟩
      case measure => simp [RowKit.intOf]; omega
    · clear k11 kt
      go_wp2
      go_ret
      exact ⟨rfl, w2, w4, [tb], HG2.out, HN4.out.2, hf, by intro j hj; simp at hj; subst hj; exact ⟨by have := HZb.out; have := HF0.out.size; omega, Or.inl (lt_of_block HRt.out)⟩⟩
end Go.Proofs.YtomajifklajilaaGreat

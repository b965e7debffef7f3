/- Texts of this claim laid together, one behind the other: contracts and plain lemmas; conditions as each names them. -/
import Derived.Test.YtomajifklajilaaGreatGp27
import Derived.Test.YtomajifklajilaaGreatGp29
/- The statements' helpers TwinReq, LeftReq. Conditions as each names them. -/
namespace Go.Proofs.YtomajifklajilaaGreat
open Go.ChangeShapes Go.WideShapes Go.ChangeAt Go.RowKit Go.Lib
set_option linter.unusedVariables false
set_option linter.unusedSimpArgs false
theorem sets9_rowz {W : World} {b : Nat} {t : TypeId} {u0 u1 u2 u3 u4 u5 u6 u7 u8 : Value} (v0 v1 v2 v3 v4 v5 v6 v7 v8 : Value) (h : W.heap[b]? = some (.cells #[u0, u1, u2, u3, u4, u5, u6, u7, u8] t (0, 0))) : (sets9z W b v0 v1 v2 v3 v4 v5 v6 v7 v8).heap[b]? = some (.cells #[v0, v1, v2, v3, v4, v5, v6, v7, v8] t (0, 0)) ∧ Fr [b] W (sets9z W b v0 v1 v2 v3 v4 v5 v6 v7 v8) := by
  rw [sets9z_is]
  obtain ⟨h1, h2⟩ := setCells_row [v0, v1, v2, v3, v4, v5, v6, v7, v8] 0 W _ h (by simp)
  exact ⟨h1.trans (by simp [splice]), h2⟩
/-- A request's twin. -/
def Rv.tw (x : Rv) (tb : Nat) : Rv := ⟨x.k, x.f, x.n, x.wk, x.wv, x.wd, x.key, x.en, some ⟨tb, 0, none⟩, x.bl, x.bl + 1⟩
set_option maxHeartbeats 1000000 in
set_option maxRecDepth 100000 in
theorem twinReq_any (x : Rv) (ns : List Int) (w : World) (hR : RqB w x ns) : Calls Tryz.prog 16 #[x.v] w fun e w' => ∃ tb, e = .returned (x.tw tb).v ∧ w.heap.size ≤ tb ∧ w'.heap[tb]? = some (.cells (intsT (ns ++ [7777])).toArray 3 (0, 0)) ∧ Fr [] w w' := by
  obtain ⟨xk, xf, xn, xa, xb, xd, xc, xe, xo, xl, xm⟩ := x
  obtain ⟨wz, HWz⟩ : ∃ wz, Hid ((w.alloc (.cells #[.int .u8 xk, .int .i64 xf, .int .i64 xn, .string xa, .string xb, .bool xd, .string xc, .string xe, .slice xo xl xm] 36)).alloc (.cells #[.int .u8 0, .int .i64 0, .int .i64 0, .string ⟨#[]⟩, .string ⟨#[]⟩, .bool false, .string ⟨#[]⟩, .string ⟨#[]⟩, .slice none 0 0] 36) = wz) := ⟨_, rfl⟩
  have hF0 : Fr [] w wz := by rw [← HWz.out]; exact (Fr.alloc [] w _).then (Fr.alloc [] _ _)
  have hr1 : wz.heap[w.heap.size]? = some (.cells #[.int .u8 xk, .int .i64 xf, .int .i64 xn, .string xa, .string xb, .bool xd, .string xc, .string xe, .slice xo xl xm] 36 (0, 0)) := by rw [← HWz.out]; exact (Fr.alloc [] _ _).keep (heap_alloc_new w _) (by simp)
  have hr2 : wz.heap[w.heap.size + 1]? = some (.cells #[.int .u8 0, .int .i64 0, .int .i64 0, .string ⟨#[]⟩, .string ⟨#[]⟩, .bool false, .string ⟨#[]⟩, .string ⟨#[]⟩, .slice none 0 0] 36 (0, 0)) := by
    rw [← HWz.out, show w.heap.size + 1 = (w.alloc (.cells #[.int .u8 xk, .int .i64 xf, .int .i64 xn, .string xa, .string xb, .bool xd, .string xc, .string xe, .slice xo xl xm] 36)).heap.size by simp]
    exact heap_alloc_new _ _
  obtain ⟨Z1, HZ1⟩ : ∃ Z, Hid (w.heap.size = Z) := ⟨_, rfl⟩
  obtain ⟨Z2, HZ2⟩ : ∃ Z, Hid (w.heap.size + 1 = Z) := ⟨_, rfl⟩
  rw [HZ1.out] at hr1
  rw [HZ2.out] at hr2
  have h12 : Z1 ≠ Z2 := by rw [← HZ1.out, ← HZ2.out]; omega
  have h21 : Z2 ≠ Z1 := fun e => h12 e.symm
  have HC : Hid (∀ W, Fr [] wz W → Calls _ _ _ _ _) := fun W hf => twinIs_any xo xl xm ns W (hR.is.keep (hF0.then hf)) hR.len (by have := hR.is.few; have := hR.len; simp only at this; omega)
  have HS : Hid (∀ W, Fr [] wz W → (W.cell? ⟨Z1, 0, none⟩ = some (.int .u8 xk) ∧ W.cell? ⟨Z1, 1, none⟩ = some (.int .i64 xf) ∧ W.cell? ⟨Z1, 2, none⟩ = some (.int .i64 xn) ∧ W.cell? ⟨Z1, 3, none⟩ = some (.string xa) ∧ W.cell? ⟨Z1, 4, none⟩ = some (.string xb) ∧ W.cell? ⟨Z1, 5, none⟩ = some (.bool xd) ∧ W.cell? ⟨Z1, 6, none⟩ = some (.string xc) ∧ W.cell? ⟨Z1, 7, none⟩ = some (.string xe) ∧ W.cell? ⟨Z1, 8, none⟩ = some (.slice xo xl xm)) ∧ RvAt W Z2 0 Rv.zero ∧ ∀ j, W.frozen? ⟨Z2, j, none⟩ = false) := fun W hf => by
    have hz := RvAt.ofRow (x := ⟨xk, xf, xn, xa, xb, xd, xc, xe, xo, xl, xm⟩) (hf.keep hr1 (by simp))
    have k2 := hf.keep hr2 (by simp)
    exact ⟨⟨hz.c0, hz.c1, hz.c2, hz.c3, hz.c4, hz.c5, hz.c6, hz.c7, hz.c8⟩, RvAt.ofRow (x := Rv.zero) k2, fun j => by simp [World.frozen?, k2]⟩
  have HK : Hid (∀ W tb, Fr [] wz W → (sets9z W Z2 (.int .u8 xk) (.int .i64 xf) (.int .i64 xn) (.string xa) (.string xb) (.bool xd) (.string xc) (.string xe) (.slice (some ⟨tb, 0, none⟩) xl (xl + 1))).heap[Z2]? = some (.cells #[.int .u8 xk, .int .i64 xf, .int .i64 xn, .string xa, .string xb, .bool xd, .string xc, .string xe, .slice (some ⟨tb, 0, none⟩) xl (xl + 1)] 36 (0, 0)) ∧ Fr [Z2] W (sets9z W Z2 (.int .u8 xk) (.int .i64 xf) (.int .i64 xn) (.string xa) (.string xb) (.bool xd) (.string xc) (.string xe) (.slice (some ⟨tb, 0, none⟩) xl (xl + 1)))) := fun W tb hf => sets9_rowz _ _ _ _ _ _ _ _ _ (hf.keep hr2 (by simp))
  have HZw : Hid (w.heap.size < Z2) := by show _ < _; rw [← HZ2.out]; omega
  have HF0 : Hid (Fr [] w wz) := hF0
  have HZl : Hid (Z2 < wz.heap.size) := lt_of_block hr2
  clear hR hF0 hr1 hr2
  simp only [Rv.v, Rv.tw]
  go_enter Tryz.func16, Tryz.ntmps16
  go_upto_region 1 with fail
  rw [HWz.out, HZ2.out, HZ1.out]
  clear HWz HZ1 HZ2
  obtain ⟨⟨e0, e1, e2, e3, e4, e5, e6, e7, e8⟩, _⟩ := HS.out _ (Fr.refl _ _)
  go_region_held3 (fun W => W.cell? ⟨Z1, 0, none⟩ = some (.int .u8 xk) ∧ W.cell? ⟨Z1, 1, none⟩ = some (.int .i64 xf) ∧ W.cell? ⟨Z1, 2, none⟩ = some (.int .i64 xn) ∧ W.cell? ⟨Z1, 3, none⟩ = some (.string xa) ∧ W.cell? ⟨Z1, 4, none⟩ = some (.string xb) ∧ W.cell? ⟨Z1, 5, none⟩ = some (.bool xd) ∧ W.cell? ⟨Z1, 6, none⟩ = some (.string xc) ∧ W.cell? ⟨Z1, 7, none⟩ = some (.string xe) ∧ W.cell? ⟨Z1, 8, none⟩ = some (.slice xo xl xm)) (go_keep)
    (first
      | (with_reducible refine Calls.mono (HC.out _ (Fr.drew _ _)) ?_; rintro e w3 ⟨tb, rfl, htb, hrt, hF3⟩; have hF3' := (Fr.drew [] wz).then hF3; obtain ⟨⟨z0, z1, z2, z3, z4, z5, z6, z7, z8⟩, ⟨o0, o1, o2, o3, o4, o5, o6, o7, o8⟩, y5⟩ := HS.out _ hF3'; simp only [Nat.zero_add] at o1 o2 o3 o4 o5 o6 o7 o8))
  all_goals (
    obtain ⟨k1, k2⟩ := HK.out w3 tb hF3'
    unfold sets9z at k1 k2
    go_wp2_with fail
    refine bodyPost_ret (results_c_row rfl _ _ _ _ _ rfl (load_req ⟨xk, xf, xn, xa, xb, xd, xc, xe, some ⟨tb, 0, none⟩, xl, xl + 1⟩ k1)) rfl ?_
    have s0 := HF0.out.size
    have s1 : wz.heap.size ≤ tb := htb
    have s2 := HZl.out
    exact ⟨tb, rfl, by omega, k2.keep hrt (by simp; omega), (HF0.out.then hF3').on k2 (by intro y hy; simp at hy; have := HZw.out; omega)⟩)
set_option maxHeartbeats 4000000 in
set_option maxRecDepth 100000 in
theorem leftReq_any (x : Rv) (ns : List Int) (tb : Nat) (w : World) (hR : RqB w x ns) (hrow : w.heap[tb]? = some (.cells (intsT (ns ++ [7777])).toArray 3 (0, 0))) : Calls Tryz.prog 19 #[(x.tw tb).v, x.v] w fun e w' => e = .returned (.bool true) ∧ Fr [] w w' := by
  obtain ⟨xk, xf, xn, xa, xb, xd, xc, xe, xo, xl, xm⟩ := x
  have HC : Hid (∀ W, Fr [] w W → Calls _ _ _ _ _) := fun W hf => leftIs_any tb xo xl xm ns W (hR.is.keep hf) hR.len (by have := hR.is.few; have := hR.len; simp only at this; omega) (hf.keep hrow (by simp))
  have hF0 : Fr [] w ((w.alloc (.cells #[.int .u8 xk, .int .i64 xf, .int .i64 xn, .string xa, .string xb, .bool xd, .string xc, .string xe, .slice (some ⟨tb, 0, none⟩) xl (xl + 1)] 36)).alloc (.cells #[.int .u8 xk, .int .i64 xf, .int .i64 xn, .string xa, .string xb, .bool xd, .string xc, .string xe, .slice xo xl xm] 36)) := (Fr.alloc [] w _).then (Fr.alloc [] _ _)
  have HF0 : Hid (Fr _ _ _) := hF0
  have hq : ∀ W, (binOp .eql 33 (.agg #[.string xa, .string xb, .bool xd]) (.agg #[.string xa, .string xb, .bool xd])).run Tryz.prog W = .ok (.bool true) W := fun W => by rw [wt_eql15]; simp
  have b1 : (xc.toList == xc.toList) = true := by simp
  have b2 : (xe.toList == xe.toList) = true := by simp
  clear hR hrow hF0
  simp only [Rv.v, Rv.tw]
  go_enter Tryz.func19, Tryz.ntmps19
  go_wp2_with fail
  refine Calls.mono (HC.out _ HF0.out) ?_
  rintro e w1 ⟨rfl, hF1⟩
  go_wp2
  go_ret
  exact ⟨rfl, HF0.out.then hF1⟩
end Go.Proofs.YtomajifklajilaaGreat

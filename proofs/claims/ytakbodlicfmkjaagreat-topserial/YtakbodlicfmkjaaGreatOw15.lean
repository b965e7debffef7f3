/- An owner's queue in memory; there, Len, Room, Ask, Serve, by what the shard's call does. Conditions as each names them. -/
import Derived.Test.YtakbodlicfmkjaaGreatMc15
import Derived.Test.YtakbodlicfmkjaaGreatDd15
namespace Go.Proofs.YtakbodlicfmkjaaGreat.O
open Go.ChangeShapes Go.WideShapes Go.ChangeAt Go.RowKit Go.Lib
set_option linter.unusedVariables false
set_option linter.unusedSimpArgs false
/-- An owner: its struct lies in block ob, its ring's in block g; the requests xs wait. -/
structure OwQ (w : World) (ob g : Nat) (s : Addr) (pb : Option Nat) (C : Nat) (xs : List Rv) : Prop where
  box : w.heap[ob]? = some (.cells #[.pointer (some s), .pointer (some ⟨g, 0, none⟩)] 187 (0, 0))
  rg : Rg w g pb C xs false
section
variable {w w' : World} {ob g C : Nat} {s : Addr} {pb : Option Nat} {xs : List Rv}
theorem OwQ.keep {S : List Nat} (h : OwQ w ob g s pb C xs) (hf : Fr S w w') (h1 : ob ∉ S) (h2 : g ∉ S) (h3 : ∀ b, pb = some b → b ∉ S) : OwQ w' ob g s pb C xs := ⟨hf.keep h.box h1, h.rg.keep hf h2 h3⟩
theorem OwQ.same (h : OwQ w ob g s pb C xs) (hf : Fr [] w w') : OwQ w' ob g s pb C xs := h.keep hf (by simp) (by simp) (by simp)
theorem OwQ.c0 (h : OwQ w ob g s pb C xs) : w.cell? ⟨ob, 0, none⟩ = some (.pointer (some s)) := by rw [cell_of_row _ _ _ _ _ _ h.box]; rfl
theorem OwQ.c1 (h : OwQ w ob g s pb C xs) : w.cell? ⟨ob, 1, none⟩ = some (.pointer (some ⟨g, 0, none⟩)) := by rw [cell_of_row _ _ _ _ _ _ h.box]; rfl
theorem OwQ.lt (h : OwQ w ob g s pb C xs) : ob < w.heap.size := lt_of_block h.box
theorem OwQ.ng (h : OwQ w ob g s pb C xs) : ob ≠ g := by
  rintro rfl
  obtain ⟨N, F, K, ps, hR⟩ := h.rg
  have := hR.box
  rw [h.box] at this
  simp at this
theorem OwQ.nb (h : OwQ w ob g s pb C xs) : pb ≠ some ob := by
  intro e
  obtain ⟨N, F, K, ps, hR⟩ := h.rg
  have := hR.row ob e
  rw [h.box] at this
  simp at this
theorem OwQ.no (h : OwQ w ob g s pb C xs) : ob ∉ Rg.own g pb := by
  simp only [Rg.own, List.mem_cons, Option.mem_toList, not_or]
  exact ⟨h.ng, h.nb⟩
theorem othere_any (h : OwQ w ob g s pb C xs) : Calls Tryz.prog 81 #[.pointer (some ⟨ob, 0, none⟩)] w fun e w' => e = .returned (.bool true) ∧ w = w' := by
  have c0 := h.c0
  clear h
  go_enter Tryz.func81, Tryz.ntmps81
  go_wp2
  go_ret
  exact ⟨rfl, rfl⟩
theorem olen_any (h : OwQ w ob g s pb C xs) (K : Nat) (hK : xs.length = K) : Calls Tryz.prog 243 #[.pointer (some ⟨ob, 0, none⟩)] w fun e w' => e = .returned (.int .i64 (K : Int)) ∧ w = w' := by
  have HT : Hid (Calls _ _ _ _ _) := othere_any h
  have c1 := h.c1
  obtain ⟨N, F, K', ps, hR⟩ := h.rg
  obtain rfl : K = K' := hK.symm.trans hR.pl.cnt
  have HL : Hid (Calls _ _ _ _ _) := glen_any w hR
  clear h hR
  go_enter Tryz.func243, Tryz.ntmps243
  go_wp2_with fail
  refine Calls.mono HT.out ?_
  rintro e w1 ⟨rfl, rfl⟩
  go_wp2_with fail
  refine Calls.mono HL.out ?_
  rintro e w1 ⟨rfl, rfl⟩
  go_wp2
  go_ret
  exact ⟨rfl, rfl⟩
theorem oroom_any (h : OwQ w ob g s pb C xs) (K : Nat) (hK : C - xs.length = K) : Calls Tryz.prog 273 #[.pointer (some ⟨ob, 0, none⟩)] w fun e w' => e = .returned (.int .i64 (K : Int)) ∧ Fr [] w w' := by
  have HT : Hid (Calls _ _ _ _ _) := othere_any h
  have c1 := h.c1
  obtain ⟨N, F, K', ps, hR⟩ := h.rg
  have HL : Hid (Calls _ _ _ _ _) := groom_any w hR K (by rw [← hK, hR.pl.cnt]; rfl)
  clear h hR
  go_enter Tryz.func273, Tryz.ntmps273
  go_wp2_with fail
  refine Calls.mono HT.out ?_
  rintro e w1 ⟨rfl, rfl⟩
  go_wp2_with fail
  refine Calls.mono HL.out ?_
  rintro e w1 ⟨rfl, hF⟩
  go_wp2
  go_ret
  exact ⟨rfl, hF⟩
set_option maxHeartbeats 2000000 in
set_option maxRecDepth 100000 in
theorem oask_no (h : OwQ w ob g s pb C xs) (x : Rv) (ns : List Int) (hR : RqB w x ns) (hB : ¬ okR (x.q ns)) : Calls Tryz.prog 278 #[.pointer (some ⟨ob, 0, none⟩), x.v] w fun e w' => e = .returned (.tuple #[.bool false, .int .i64 1]) ∧ Fr [] w w' := by
  have hF0 : Fr [] w (w.alloc (.cells #[.int .u8 x.k, .int .i64 x.f, .int .i64 x.n, .string x.wk, .string x.wv, .bool x.wd, .string x.key, .string x.en, .slice x.bo x.bl x.bc] 278)) := Fr.alloc _ _ _
  have HT : Hid (Calls _ _ _ _ _) := othere_any (h.same hF0)
  have HM : Hid (Calls _ _ _ _ _) := omay_any x ns false _ (hR.keep hF0) ⟨fun e => (by cases e), fun e => absurd e hB⟩
  have HF0 : Hid (Fr _ _ _) := hF0
  clear h hR hB hF0
  obtain ⟨xk, xf, xn, xa, xb, xd, xc, xe, xo, xl, xm⟩ := x
  simp only [Rv.v] at HT HM HF0 ⊢
  go_enter Tryz.func278, Tryz.ntmps278
  go_wp2_with fail
  refine Calls.mono HT.out ?_
  rintro e w1 ⟨rfl, rfl⟩
  go_wp2_with fail
  refine Calls.mono HM.out ?_
  rintro e w1 ⟨rfl, hF1⟩
  go_wp2
  go_ret2
  exact ⟨rfl, HF0.out.then hF1⟩
theorem Ab.few : ∀ (ns : List Int) (a : Int), 0 ≤ a → Ab a ns → (ns.length : Int) ≤ 65536 - a ∨ ns = []
  | [], _, _, _ => Or.inr rfl
  | n :: ns, a, h0, h => by
    obtain ⟨h1, h2, h3⟩ := h
    rcases Ab.few ns n (by omega) h3 with h4 | h4
    · exact Or.inl (by simp only [List.length_cons]; omega)
    · subst h4; exact Or.inl (by simp; omega)
theorem okR.few {r : Rq} (h : okR r) : r.bs.length ≤ 65536 := by
  obtain ⟨_, h2, _, h4⟩ := h
  rcases h4 with ⟨_, _, h, _⟩ | ⟨_, _, h, _⟩ | ⟨_, _, h, _⟩ | ⟨_, _, _, h⟩ | ⟨_, _, _, h⟩
  · rw [h]; simp
  · rw [h]; simp
  · rw [h]; simp
  · rw [h]; simp
  · rcases Ab.few _ _ h2 h with h5 | h5
    · omega
    · rw [h5]; simp
/-- What is of another type is none of a ring's blocks. -/
theorem ring_not {w : World} {g C : Nat} {pb : Option Nat} {xs : List Rv} {cl : Bool} (h : Rg w g pb C xs cl) {j : Nat} {cur : Array Value} {t : TypeId} {fr : Nat × Nat} (hj : w.heap[j]? = some (.cells cur t fr)) (h1 : t ≠ 309) (h2 : t ≠ 278) : j ∉ Rg.own g pb := by
  obtain ⟨N, F, K, ps, hR⟩ := h
  simp only [Rg.own, List.mem_cons, Option.mem_toList, not_or]
  refine ⟨fun e => ?_, fun e => ?_⟩
  · subst e
    have := hR.box
    rw [hj] at this
    simp only [Option.some.injEq, Obj.cells.injEq] at this
    exact h1 this.2.1
  · have := hR.row j e
    rw [hj] at this
    simp only [Option.some.injEq, Obj.cells.injEq] at this
    exact h2 this.2.1
/-- The numbers of a request that waits lie in a row of their own. -/
def Nb (w : World) (n : Nat) (ro : Option Addr) : Prop := ∀ a, ro = some a → n ≤ a.block ∧ ∃ cur, w.heap[a.block]? = some (.cells cur 3 (0, 0))
set_option maxHeartbeats 4000000 in
set_option maxRecDepth 100000 in
theorem oask_any (h : OwQ w ob g s pb C xs) (x : Rv) (ns : List Int) (hR : RqB w x ns) (hB : okR (x.q ns)) : Calls Tryz.prog 278 #[.pointer (some ⟨ob, 0, none⟩), x.v] w fun e w' =>
    (xs.length = C ∧ e = .returned (.tuple #[.bool false, .int .i64 0]) ∧ Fr [] w w') ∨
    (xs.length < C ∧ e = .returned (.tuple #[.bool true, .int .i64 0]) ∧ ∃ ro rc pb', OwQ w' ob g s pb' C (xs ++ [⟨x.k, x.f, x.n, x.wk, x.wv, x.wd, x.key, x.en, ro, x.bl, rc⟩]) ∧ IRs w' ro ns ∧ Nb w' w.heap.size ro ∧ Fr (Rg.own g pb) w w' ∧ Mv w.heap.size pb pb') := by
  have hfew : x.bl ≤ 131072 := by have := hB.few; have := hR.len; simp only [Rv.q] at *; omega
  obtain ⟨xk, xf, xn, xa, xb, xd, xc, xe, xo, xl, xm⟩ := x
  simp only [Rv.v] at hfew ⊢
  obtain ⟨wz, HWz⟩ : ∃ wz, Hid (w.alloc (.cells #[.int .u8 xk, .int .i64 xf, .int .i64 xn, .string xa, .string xb, .bool xd, .string xc, .string xe, .slice xo xl xm] 278) = wz) := ⟨_, rfl⟩
  have hF0 : Fr [] w wz := by rw [← HWz.out]; exact Fr.alloc [] w _
  have hrow : wz.heap[w.heap.size]? = some (.cells #[.int .u8 xk, .int .i64 xf, .int .i64 xn, .string xa, .string xb, .bool xd, .string xc, .string xe, .slice xo xl xm] 278 (0, 0)) := by rw [← HWz.out]; exact heap_alloc_new w _
  obtain ⟨Z, HZ⟩ : ∃ Z, Hid (w.heap.size = Z) := ⟨_, rfl⟩
  rw [HZ.out] at hrow
  have HT : Hid (Calls _ _ _ _ _) := othere_any (h.same hF0)
  have HM : Hid (Calls Tryz.prog 286 #[.agg #[.int .u8 xk, .int .i64 xf, .int .i64 xn, .string xa, .string xb, .bool xd, .string xc, .string xe, .slice xo xl xm]] wz fun e w' => e = .returned (.bool true) ∧ Fr [] wz w') := omay_any ⟨xk, xf, xn, xa, xb, xd, xc, xe, xo, xl, xm⟩ ns true _ (hR.keep hF0) ⟨fun _ => hB, fun _ => rfl⟩
  have HC : Hid (∀ W, Fr [] wz W → Calls Tryz.prog 287 #[.slice xo xl xm] W fun e w' => ∃ ro rc, e = .returned (.slice ro xl rc) ∧ IRs w' ro ns ∧ (∀ a, ro = some a → W.heap.size ≤ a.block ∧ ∃ cur, w'.heap[a.block]? = some (.cells cur 3 (0, 0))) ∧ Fr [] W w') := fun W hf => cloneI_any xo xl xm ns W (hR.is.keep (hF0.then hf)) hR.len hfew
  have HQ : Hid (OwQ wz ob g s pb C xs) := h.same hF0
  have HF0 : Hid (Fr [] w wz) := hF0
  have HR0 : Hid (wz.heap[Z]? = _) := hrow
  have HZw : Hid (w.heap.size = Z) := HZ.out
  have hoz : ob ≠ Z := by have := h.lt; rw [← HZ.out]; omega
  have hzo : Z ≠ ob := fun e => hoz e.symm
  have HGz : Hid (g ≠ Z ∧ ∀ b, pb = some b → b ≠ Z) := ⟨by have := h.rg.lt; rw [← HZ.out]; omega, fun b e => by have := h.rg.plt e; rw [← HZ.out]; omega⟩
  have HZs : Hid (Z < wz.heap.size) := lt_of_block hrow
  clear h hR hB hF0 hrow
  go_enter Tryz.func278, Tryz.ntmps278
  go_wp2_with fail
  rw [HWz.out]
  refine Calls.mono HT.out ?_
  rintro e w1 ⟨rfl, rfl⟩
  go_upto_region 3 with fail
  rw [HZ.out]
  have zz := RvAt.ofRow (x := ⟨xk, xf, xn, xa, xb, xd, xc, xe, xo, xl, xm⟩) HR0.out
  obtain ⟨z0, z1, z2, z3, z4, z5, z6, z7, z8⟩ := zz
  simp only [Nat.zero_add] at z0 z1 z2 z3 z4 z5 z6 z7 z8
  go_wp2_with fail
  refine Calls.mono HM.out ?_
  rintro e w1 ⟨rfl, hF1⟩
  clear z0 z1 z2 z3 z4 z5 z6 z7 z8 HM HT
  have hr1 := hF1.keep HR0.out (by simp)
  have zz := RvAt.ofRow (x := ⟨xk, xf, xn, xa, xb, xd, xc, xe, xo, xl, xm⟩) hr1
  have z8 := zz.c8
  simp only [Nat.zero_add] at z8
  go_wp2_with fail
  refine Calls.mono (HC.out _ hF1) ?_
  rintro e w2 ⟨ro, rc, rfl, hI2, hn2, hF2⟩
  have hr2 := hF2.keep hr1 (by simp)
  have y8 : w2.cell? ⟨Z, 8, none⟩ = some (.slice xo xl xm) := by rw [cell_of_row _ _ _ _ _ _ hr2]; rfl
  have f8 : w2.frozen? ⟨Z, 8, none⟩ = false := by simp [World.frozen?, hr2]
  have hr3 : (w2.setCell ⟨Z, 8, none⟩ (.slice ro xl rc)).heap[Z]? = some (.cells #[.int .u8 xk, .int .i64 xf, .int .i64 xn, .string xa, .string xb, .bool xd, .string xc, .string xe, .slice ro xl rc] 278 (0, 0)) := by rw [vrow_setCell _ hr2]; rfl
  have hf3 : Fr [Z] w2 (w2.setCell ⟨Z, 8, none⟩ (.slice ro xl rc)) := Fr.set _ _ _ (by simp)
  have HR3 := (show Hid _ from And.intro hr3 hf3)
  have HSz : Hid (wz.heap.size ≤ w1.heap.size) := hF1.size
  have HI2 : Hid (IRs w2 ro ns ∧ Nb w2 w1.heap.size ro ∧ Fr [] wz w2) := ⟨hI2, hn2, hF1.then hF2⟩
  clear hr1 zz z8 hr2 hr3 hf3 hI2 hn2 HC hF2 hF1
  go_upto_region 6 with fail
  generalize World.setCell _ _ _ = w3 at HR3 ⊢
  have hQ3 : OwQ w3 ob g s pb C xs := (HQ.out.same HI2.out.2.2).keep HR3.out.2 (by simp; exact hoz) (by simp; exact HGz.out.1) (by intro b e; simp; exact HGz.out.2 b e)
  have HQ3 := (show Hid _ from hQ3)
  have HI3 : Hid (IRs w3 ro ns ∧ Nb w3 w.heap.size ro ∧ Fr [] w w3) := by
    obtain ⟨i1, i2, i3⟩ := HI2.out
    have hnz : ∀ a, ro = some a → a.block ≠ Z := fun a e => by have := (i2 a e).1; have := HZs.out; have := HSz.out; omega
    refine ⟨i1.keepS HR3.out.2 (fun _ a e => by simp; exact hnz a e), fun a e => ?_, (HF0.out.then i3).on HR3.out.2 (by intro y hy; simp at hy; have := HZw.out; omega)⟩
    obtain ⟨j1, cur, j2⟩ := i2 a e
    exact ⟨by have := HF0.out.size; have := HSz.out; omega, cur, HR3.out.2.keep j2 (by simp; exact hnz a e)⟩
  have HS : Hid (∀ S W, Fr S w3 W → ob ∉ S → Z ∉ S → (W.cell? ⟨ob, 1, none⟩ = some (.pointer (some ⟨g, 0, none⟩)) ∧ W.cell? ⟨Z, 0, none⟩ = some (.int .u8 xk) ∧ W.cell? ⟨Z, 1, none⟩ = some (.int .i64 xf) ∧ W.cell? ⟨Z, 2, none⟩ = some (.int .i64 xn) ∧ W.cell? ⟨Z, 3, none⟩ = some (.string xa) ∧ W.cell? ⟨Z, 4, none⟩ = some (.string xb) ∧ W.cell? ⟨Z, 5, none⟩ = some (.bool xd) ∧ W.cell? ⟨Z, 6, none⟩ = some (.string xc) ∧ W.cell? ⟨Z, 7, none⟩ = some (.string xe) ∧ W.cell? ⟨Z, 8, none⟩ = some (.slice ro xl rc))) := fun S W hf ho hz => by
    have h1 := hf.keep hQ3.box ho
    have hz := RvAt.ofRow (x := ⟨xk, xf, xn, xa, xb, xd, xc, xe, ro, xl, rc⟩) (hf.keep HR3.out.1 hz)
    exact ⟨by rw [cell_of_row _ _ _ _ _ _ h1]; rfl, hz.c0, hz.c1, hz.c2, hz.c3, hz.c4, hz.c5, hz.c6, hz.c7, hz.c8⟩
  obtain ⟨c1, z0, z1, z2, z3, z4, z5, z6, z7, z8⟩ := HS.out [] w3 (Fr.refl _ _) (by simp) (by simp)
  clear hQ3 HQ HI2 HR0
  by_cases hful : xs.length = C
  · have HP : Hid (∀ W, Fr [] w3 W → Calls Tryz.prog 288 #[.pointer (some ⟨g, 0, none⟩), .agg #[.int .u8 xk, .int .i64 xf, .int .i64 xn, .string xa, .string xb, .bool xd, .string xc, .string xe, .slice ro xl rc]] W fun e w' => e = .returned (.bool false) ∧ Fr [] W w') := fun W hf => by
      obtain ⟨N, F, K, ps, hRg⟩ := (HQ3.out.same hf).rg
      exact gput_full ⟨xk, xf, xn, xa, xb, xd, xc, xe, ro, xl, rc⟩ W hRg (Or.inr (by rw [← hRg.pl.cnt]; exact hful))
    go_region_held3 (fun W => W.cell? ⟨ob, 1, none⟩ = some (.pointer (some ⟨g, 0, none⟩)) ∧ W.cell? ⟨Z, 0, none⟩ = some (.int .u8 xk) ∧ W.cell? ⟨Z, 1, none⟩ = some (.int .i64 xf) ∧ W.cell? ⟨Z, 2, none⟩ = some (.int .i64 xn) ∧ W.cell? ⟨Z, 3, none⟩ = some (.string xa) ∧ W.cell? ⟨Z, 4, none⟩ = some (.string xb) ∧ W.cell? ⟨Z, 5, none⟩ = some (.bool xd) ∧ W.cell? ⟨Z, 6, none⟩ = some (.string xc) ∧ W.cell? ⟨Z, 7, none⟩ = some (.string xe) ∧ W.cell? ⟨Z, 8, none⟩ = some (.slice ro xl rc)) (go_keep)
      (first
        | (with_reducible refine Calls.mono (HP.out _ (Fr.drew _ _)) ?_; rintro e w4 ⟨rfl, hF4⟩; have hF4' := (Fr.drew [] w3).then hF4; obtain ⟨d1, y0, y1, y2, y3, y4, y5, y6, y7, y8⟩ := HS.out [] w4 hF4' (by simp) (by simp)))
    go_wp2
    go_ret2
    exact Or.inl ⟨hful, rfl, HI3.out.2.2.then hF4'⟩
  · have hlt : xs.length < C := by have := HQ3.out.rg.few; omega
    have HP : Hid (∀ W, Fr [] w3 W → Calls Tryz.prog 288 #[.pointer (some ⟨g, 0, none⟩), .agg #[.int .u8 xk, .int .i64 xf, .int .i64 xn, .string xa, .string xb, .bool xd, .string xc, .string xe, .slice ro xl rc]] W fun e w' => e = .returned (.bool true) ∧ ∃ pb', Rg w' g pb' C (xs ++ [⟨xk, xf, xn, xa, xb, xd, xc, xe, ro, xl, rc⟩]) false ∧ Fr (Rg.own g pb) W w' ∧ Mv W.heap.size pb pb') := fun W hf => gput_any ⟨xk, xf, xn, xa, xb, xd, xc, xe, ro, xl, rc⟩ W (HQ3.out.same hf).rg hlt
    have HNz : Hid (Z ∉ Rg.own g pb ∧ ob ∉ Rg.own g pb) := by
      refine ⟨?_, HQ3.out.no⟩
      simp only [Rg.own, List.mem_cons, Option.mem_toList, not_or]
      exact ⟨fun e => HGz.out.1 e.symm, fun e => HGz.out.2 Z e rfl⟩
    go_region_held3 (fun W => W.cell? ⟨ob, 1, none⟩ = some (.pointer (some ⟨g, 0, none⟩)) ∧ W.cell? ⟨Z, 0, none⟩ = some (.int .u8 xk) ∧ W.cell? ⟨Z, 1, none⟩ = some (.int .i64 xf) ∧ W.cell? ⟨Z, 2, none⟩ = some (.int .i64 xn) ∧ W.cell? ⟨Z, 3, none⟩ = some (.string xa) ∧ W.cell? ⟨Z, 4, none⟩ = some (.string xb) ∧ W.cell? ⟨Z, 5, none⟩ = some (.bool xd) ∧ W.cell? ⟨Z, 6, none⟩ = some (.string xc) ∧ W.cell? ⟨Z, 7, none⟩ = some (.string xe) ∧ W.cell? ⟨Z, 8, none⟩ = some (.slice ro xl rc)) (go_keep)
      (first
        | (with_reducible refine Calls.mono (HP.out _ (Fr.drew _ _)) ?_; rintro e w4 ⟨rfl, pb', hR4, hF4, hM4⟩; have hF4' := ((Fr.drew [] w3).mono (by simp)).then hF4; obtain ⟨d1, y0, y1, y2, y3, y4, y5, y6, y7, y8⟩ := HS.out _ w4 hF4' HNz.out.2 HNz.out.1))
    go_wp2
    go_ret2
    refine Or.inr ⟨hlt, rfl, ro, rc, pb', ⟨hF4'.keep HQ3.out.box HNz.out.2, hR4⟩, ?_, ?_, ?_, ?_⟩
    · refine HI3.out.1.keepS hF4' (fun _ a e hm => ?_)
      obtain ⟨_, cur, hcur⟩ := HI3.out.2.1 a e
      exact ring_not HQ3.out.rg hcur (by decide) (by decide) hm
    · intro a e
      obtain ⟨j1, cur, hcur⟩ := HI3.out.2.1 a e
      exact ⟨j1, cur, hF4'.keep hcur (ring_not HQ3.out.rg hcur (by decide) (by decide))⟩
    · exact (HI3.out.2.2.mono (by simp)).then hF4'
    · rcases hM4 with rfl | ⟨k, rfl, hk⟩
      · exact Or.inl rfl
      · exact Or.inr ⟨k, rfl, by have := HI3.out.2.2.size; have : w3.heap.size ≤ k := hk; omega⟩
end
end Go.Proofs.YtakbodlicfmkjaaGreat.O

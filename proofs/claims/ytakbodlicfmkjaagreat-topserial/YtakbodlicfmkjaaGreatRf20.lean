/- Results in cells; contracts of a ring's First. Conditions as each names them. -/
import Derived.Test.YtakbodlicfmkjaaGreatRp20
import Derived.Test.YtakbodlicfmkjaaGreatCp20
namespace Go.Proofs.YtakbodlicfmkjaaGreat.GT
open Go.ChangeShapes Go.WideShapes Go.ChangeAt Go.RowKit Go.Lib
set_option linter.unusedVariables false
set_option linter.unusedSimpArgs false

theorem results_ct_row {fn : Func} {p u : Tmp} {ty : TypeId} (h : fn.results = #[.cell p ty, .tmp u]) (tmps : Array Value) (P : Program) (w : World) (g : Nat) (v : Value) (hp : tmps.getD p undef = .pointer (some ⟨g, 0, none⟩)) (hld : (loadVar ty ⟨g, 0, none⟩).run P w = .ok v w) :
    (results fn tmps).run P w = .ok (.tuple #[v, tmps.getD u undef]) w := by
  simp only [results, h]
  simp [Sem.run_bind, Result.andThen, ← Array.getD_eq_getD_getElem?, hp, asAddr, hld]
theorem results_c_row {fn : Func} {p : Tmp} {ty : TypeId} (h : fn.results = #[.cell p ty]) (tmps : Array Value) (P : Program) (w : World) (g : Nat) (v : Value) (hp : tmps.getD p undef = .pointer (some ⟨g, 0, none⟩)) (hld : (loadVar ty ⟨g, 0, none⟩).run P w = .ok v w) :
    (results fn tmps).run P w = .ok v w := by
  simp only [results, h]
  simp [Sem.run_bind, Result.andThen, ← Array.getD_eq_getD_getElem?, hp, asAddr, hld]
theorem rv_one (r : Rv) : (#[Value.int .i64 r.n, .slice r.bo r.bl r.bc] : Array Value).all (·.oneCell') = true := by simp [Value.oneCell']
theorem load_req {w : World} {g : Nat} (x : Rv) (h : w.heap[g]? = some (.cells #[.int .i64 x.n, .slice x.bo x.bl x.bc] 59 (0, 0))) : (loadVar 59 ⟨g, 0, none⟩).run Tryz.prog w = .ok x.v w :=
  run_loadVar_row (P := Tryz.prog) _ g _ 59 _ _ (.struct (Tryz.prog.fieldsOf 59)) h (by kernel_rfl) rfl (by kernel_rfl)
theorem wpList_storeRow {w : World} {ops : Array Oper} {rest : List Oper} {o : Oper} {a : Act} {Q : Exit → Act → World → Prop} (hgd : o.guard = none) (ty : TypeId) (x y : Operand) (ho : o.op = .store ty x y)
    (g : Nat) (cells : Array Value) (hx : a.eval x = .pointer (some ⟨g, 0, none⟩)) (hy : a.eval y = .agg cells)
    (t : TypeId) (old : Array Value) (hg : w.heap[g]? = some (.cells old t (0, 0))) (hi : (Tryz.prog.info? ty).map (·.size) = some cells.size)
    (hold : old.size = cells.size) (h1 : cells.all (·.oneCell') = true)
    (h : ∀ w', Hid (w'.heap[g]? = some (.cells cells t (0, 0))) → Fr [g] w w' → wpList Tryz.prog ops Q rest (a.put o.dst undef) w') : wpList Tryz.prog ops Q (o :: rest) a w :=
  wpList_store_row hgd ty x y ho g cells hx hy t old hg hi hold h1 (h _ (setRow_heap w g _ _ t _ hg) (Fr.setRow _ _ _))
/-- Nine cells of a block, one behind the other, from o on. -/
def sets9 (W : World) (b o : Nat) (v0 v1 : Value) : World := (W.setCell ⟨b, o, none⟩ v0).setCell ⟨b, o + 1, none⟩ v1
theorem sets9_is (W : World) (b o : Nat) (v0 v1 : Value) : sets9 W b o v0 v1 = W.setCells b o [v0, v1] := rfl
theorem sets9_row {W : World} {b o : Nat} {t : TypeId} {cur : Array Value} (v0 v1 : Value) (h : W.heap[b]? = some (.cells cur t (0, 0))) (hl : o + 2 ≤ cur.size) : (sets9 W b o v0 v1).heap[b]? = some (.cells (splice cur.toList o [v0, v1]).toArray t (0, 0)) ∧ Fr [b] W (sets9 W b o v0 v1) := by
  rw [sets9_is]
  exact setCells_row _ o W cur h (by simpa using hl)
theorem drew_heap (w : World) (b : Nat) : w.drew.heap[b]? = w.heap[b]? := rfl
def sets9z (W : World) (b : Nat) (v0 v1 : Value) : World := (W.setCell ⟨b, 0, none⟩ v0).setCell ⟨b, 1, none⟩ v1
theorem sets9z_is (W : World) (b : Nat) (v0 v1 : Value) : sets9z W b v0 v1 = W.setCells b 0 [v0, v1] := rfl
theorem sets9_row0 {W : World} {b : Nat} {t : TypeId} {u0 u1 : Value} (v0 v1 : Value) (h : W.heap[b]? = some (.cells #[u0, u1] t (0, 0))) : (sets9z W b v0 v1).drew.heap[b]? = some (.cells #[v0, v1] t (0, 0)) ∧ Fr [b] W (sets9z W b v0 v1).drew := by
  rw [sets9z_is]
  obtain ⟨h1, h2⟩ := setCells_row [v0, v1] 0 W _ h (by simp)
  refine ⟨?_, h2.then (Fr.drew _ _)⟩
  rw [drew_heap, h1]
  simp [splice]
theorem fr_drew {S : List Nat} {w w' : World} (h : Fr S w w') : Fr S w w'.drew := h.then (Fr.drew _ _)
/-- A request lies at o in block b. -/
structure RvAt (w : World) (b o : Nat) (x : Rv) : Prop where
  c0 : w.cell? ⟨b, o, none⟩ = some (.int .i64 x.n)
  c1 : w.cell? ⟨b, o + 1, none⟩ = some (.slice x.bo x.bl x.bc)
theorem RvAt.of {w : World} {b o : Nat} {x : Rv} (h : w.rangeAt b o x.cs) : RvAt w b o x := ⟨h 0 _ rfl, h 1 _ rfl⟩
theorem RvAt.drop {S : List Nat} {w w' : World} {b o : Nat} {x : Rv} (h : RvAt w b o x) (hf : Fr S w w') (hb : b < w.heap.size) (hn : b ∉ S) : RvAt w' b o x := by
  have hk : ∀ o, w'.cell? ⟨b, o, none⟩ = w.cell? ⟨b, o, none⟩ := fun o => World.cell?_of_block (hf.block b hb hn)
  exact ⟨(hk _).trans h.c0, (hk _).trans h.c1⟩
theorem RvAt.ofRow {w : World} {g : Nat} {x : Rv} {t : TypeId} (h : w.heap[g]? = some (.cells #[.int .i64 x.n, .slice x.bo x.bl x.bc] t (0, 0))) : RvAt w g 0 x := by
  refine ⟨?_, ?_⟩ <;> (rw [cell_of_row _ _ _ _ _ _ h]; rfl)
section
variable {g C N F K : Nat} {pb : Option Nat} {ps xs : List Rv} {cl : Bool}
theorem gfirst_nil (w : World) (h : RgM w g pb C N F 0 ps xs cl) : Calls Tryz.prog 284 #[.pointer (some ⟨g, 0, none⟩)] w fun e w' => e = .returned (.tuple #[Rv.zero.v, .bool false]) ∧ Fr [] w w' := by
  have hF0 := Fr.alloc [] w (.cells #[.int .i64 0, .slice none 0 0] 59)
  have hrow := heap_alloc_new w (.cells #[.int .i64 0, .slice none 0 0] 59)
  have HT : Hid (Calls _ _ _ _ _) := glen_any _ (h.keep hF0 (by simp) (by simp))
  have hself := setRow_self _ _ _ _ _ hrow
  have hld := load_req Rv.zero hrow
  have HF : Hid (Fr _ _ _) := hF0
  clear h hF0
  go_enter Tryz.func284, Tryz.ntmps284
  go_wp2_with fail
  refine Calls.mono HT.out ?_
  rintro e w1 ⟨rfl, rfl⟩
  go_wp2_with (first
    | (refine wpList_store_row rfl 59 _ _ rfl w.heap.size #[.int .i64 0, .slice none 0 0] rfl rfl _ _ hrow (by kernel_rfl) rfl (rv_one Rv.zero) ?_; rw [hself]; go_frame)
    | fail)
  refine bodyPost_ret (results_ct_row rfl _ _ _ _ _ rfl hld) rfl ?_
  exact ⟨rfl, HF.out⟩
set_option maxHeartbeats 1000000 in
set_option maxRecDepth 100000 in
theorem gfirst_any (w : World) {x : Rv} (h : RgM w g pb C N F (K + 1) ps (x :: xs) cl) : Calls Tryz.prog 284 #[.pointer (some ⟨g, 0, none⟩)] w fun e w' => e = .returned (.tuple #[x.v, .bool true]) ∧ Fr [] w w' := by
  obtain ⟨wz, HWz⟩ : ∃ wz, Hid (w.alloc (.cells #[.int .i64 0, .slice none 0 0] 59) = wz) := ⟨_, rfl⟩
  have hF0 : Fr [] w wz := by rw [← HWz.out]; exact Fr.alloc [] w _
  have hrow : wz.heap[w.heap.size]? = some (.cells #[.int .i64 0, .slice none 0 0] 59 (0, 0)) := by rw [← HWz.out]; exact heap_alloc_new w _
  have h0 := h.keep hF0 (by simp) (by simp)
  have HT : Hid (Calls _ _ _ _ _) := glen_any _ h0
  have hN : 0 < N := by have := h.pl.fit; omega
  have hF := h.pl.f1 hN
  obtain ⟨b, rfl⟩ := h.some_ hN
  have c1 := h0.c1
  have c2 := h0.c2
  have c5 : RvAt wz b (F * 2) x := by
    have := h0.pc rfl hF
    rw [h.pl.take.1] at this
    refine RvAt.of (fun j v hj => ?_)
    rw [Nat.mul_comm]
    exact this j v hj
  simp only [Option.map_some] at c1
  obtain ⟨Z, HZ⟩ : ∃ Z, Hid (w.heap.size = Z) := ⟨_, rfl⟩
  rw [HZ.out] at hrow
  have HF0 : Hid (Fr [] w wz) := hF0
  have HR : Hid (wz.heap[Z]? = _) := hrow
  have HZw : Hid (w.heap.size ≤ Z) := by show _ ≤ _; rw [HZ.out]; omega
  have HC : Hid (∀ W, Fr [] wz W → W.heap[Z]? = some (.cells #[.int .i64 0, .slice none 0 0] 59 (0, 0))) := fun W hf => hf.keep hrow (by simp)
  obtain ⟨n, bo, bl, bc⟩ := x
  obtain ⟨e0, e1⟩ := c5
  simp only at e0 e1
  have hgz : g ≠ Z := by have := h.lt; rw [← HZ.out]; omega
  have hbz : b ≠ Z := by have := h.plt rfl; rw [← HZ.out]; omega
  have hzg : Z ≠ g := fun e => hgz e.symm
  have hzb : Z ≠ b := fun e => hbz e.symm
  clear h h0 hF0 hrow
  go_enter Tryz.func284, Tryz.ntmps284
  go_wp2_with fail
  rw [HWz.out]
  refine Calls.mono HT.out ?_
  rintro e w1 ⟨rfl, rfl⟩
  go_wp2_with fail
  rw [HZ.out]
  have hrow := HR.out
  have zf : ∀ j, wz.frozen? ⟨Z, j, none⟩ = false := fun j => by simp [World.frozen?, hrow]
  have hrowd : wz.drew.heap[Z]? = some (.cells #[.int .i64 0, .slice none 0 0] 59 (0, 0)) := (drew_heap _ _).trans hrow
  have zd : ∀ j, wz.drew.frozen? ⟨Z, j, none⟩ = false := fun j => by simp [World.frozen?, hrowd]
  obtain ⟨q0, q1⟩ := RvAt.ofRow (x := Rv.zero) hrow
  obtain ⟨r0, r1⟩ := RvAt.ofRow (w := wz.drew) (x := Rv.zero) hrowd
  simp only [Nat.zero_add, Rv.zero] at q0 q1 r0 r1
  obtain ⟨k1, k2⟩ := sets9_row0 (.int .i64 n) (.slice bo bl bc) hrow
  unfold sets9z at k1 k2
  have HK2 := (show Hid _ from HF0.out.on k2 (by intro y hy; simp at hy; have := HZw.out; omega))
  have HK1 := (show Hid _ from k1)
  clear k1 k2
  clear hrow hrowd
  go_region_held3 (fun W => W.cell? ⟨g, 1, none⟩ = some (.slice (some ⟨b, 0, none⟩) N N) ∧ W.cell? ⟨g, 2, none⟩ = some (.int .i64 (F : Int)) ∧ W.cell? ⟨b, F * 2, none⟩ = some (.int .i64 n) ∧ W.cell? ⟨b, F * 2 + 1, none⟩ = some (.slice bo bl bc)) (go_keep)
(fail)
  have hld := load_req ⟨n, bo, bl, bc⟩ HK1.out
  go_wp2
  refine bodyPost_ret (results_ct_row rfl _ _ _ _ _ rfl hld) rfl ?_
  exact ⟨rfl, HK2.out⟩
end
end Go.Proofs.YtakbodlicfmkjaaGreat.GT

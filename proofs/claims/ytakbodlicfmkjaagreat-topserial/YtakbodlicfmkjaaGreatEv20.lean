/- A step's end: the event's box. Conditions as each names them. -/
import Derived.Test.YtakbodlicfmkjaaGreatMu20
import Derived.Test.YtakbodlicfmkjaaGreatWg20
namespace Go.Proofs.YtakbodlicfmkjaaGreat
open Go.ChangeShapes Go.WideShapes Go.ChangeAt Go.RowKit Go.Lib Go.Maps
set_option linter.unusedVariables false
set_option linter.unusedSimpArgs false

/-- An event's cells, as a task's step tells it: its kind and its mark come later. -/
def evC (t k n sh ct m : Int) : List Value := [.int .i64 t, .int .u8 k, .int .i64 n, .int .i64 sh, .int .i64 ct, .int .i64 m]
def evV (t k n sh ct m : Int) : Value := .agg #[.int .i64 t, .int .u8 k, .int .i64 n, .int .i64 sh, .int .i64 ct, .int .i64 m]
theorem ev_one (t k n sh ct m : Int) : (#[Value.int .i64 t, .int .u8 k, .int .i64 n, .int .i64 sh, .int .i64 ct, .int .i64 m] : Array Value).all (·.oneCell') = true := by simp [Value.oneCell']
theorem load_ev {w : World} {g : Nat} {t k n sh ct m : Int} (h : w.heap[g]? = some (.cells #[.int .i64 t, .int .u8 k, .int .i64 n, .int .i64 sh, .int .i64 ct, .int .i64 m] 35 (0, 0))) : (loadVar 35 ⟨g, 0, none⟩).run Tryz.prog w = .ok (evV t k n sh ct m) w :=
  run_loadVar_row (P := Tryz.prog) _ g _ 35 _ _ (.struct (Tryz.prog.fieldsOf 35)) h (by kernel_rfl) rfl (by kernel_rfl)
theorem results_c_row20 {fn : Func} {p : Tmp} {ty : TypeId} (h : fn.results = #[.cell p ty]) (tmps : Array Value) (P : Program) (w : World) (g : Nat) (v : Value) (hp : tmps.getD p undef = .pointer (some ⟨g, 0, none⟩)) (hld : (loadVar ty ⟨g, 0, none⟩).run P w = .ok v w) :
    (results fn tmps).run P w = .ok v w := by
  simp only [results, h]
  simp [Sem.run_bind, Result.andThen, ← Array.getD_eq_getD_getElem?, hp, asAddr, hld]
/-- A whole event is stored. -/
theorem wpList_storeEv20 {w : World} {ops : Array Oper} {rest : List Oper} {o : Oper} {a : Act} {Q : Exit → Act → World → Prop} (hgd : o.guard = none) (x y : Operand) (ho : o.op = .store 35 x y)
    (g : Nat) (t k n sh ct m : Int) (hx : a.eval x = .pointer (some ⟨g, 0, none⟩)) (hy : a.eval y = .agg #[.int .i64 t, .int .u8 k, .int .i64 n, .int .i64 sh, .int .i64 ct, .int .i64 m])
    (t0 k0 n0 sh0 ct0 m0 : Int) (hg : w.heap[g]? = some (.cells #[.int .i64 t0, .int .u8 k0, .int .i64 n0, .int .i64 sh0, .int .i64 ct0, .int .i64 m0] 35 (0, 0)))
    (h : ∀ w', Hid (w'.heap[g]? = some (.cells #[.int .i64 t, .int .u8 k, .int .i64 n, .int .i64 sh, .int .i64 ct, .int .i64 m] 35 (0, 0))) → Fr [g] w w' → wpList Tryz.prog ops Q rest (a.put o.dst undef) w') : wpList Tryz.prog ops Q (o :: rest) a w :=
  wpList_store_row hgd 35 x y ho g _ hx hy 35 _ hg (by kernel_rfl) rfl (ev_one t k n sh ct m) (h _ (setRow_heap w g _ _ _ _ hg) (Fr.setRow _ _ _))
section
variable {w0 w w' : World} {c : Cf} {T : List Tx} {Z : Lay} {s : Ms}
/-- A box of one's own, apart from the machine: what holds of it behind what was done to the machine. -/
structure Bx (w0 : World) (c : Cf) (T : List Tx) (w1 : World) (Z : Lay) (s : Ms) (A : Nat) : Prop where
  box : w1.heap[A]? = some (.cells #[.int .i64 0, .int .u8 0, .int .i64 0, .int .i64 0, .int .i64 0, .int .i64 0] 35 (0, 0))
  off : MaM.off w0 w1 c T Z s A
theorem Bx.new (h : MaM w0 w c T Z s) : Bx w0 c T (w.alloc (.cells #[.int .i64 0, .int .u8 0, .int .i64 0, .int .i64 0, .int .i64 0, .int .i64 0] 35)) Z s w.heap.size :=
  ⟨heap_alloc_new _ _, h.otherO (S := []) (Fr.alloc [] _ _) (by simp) (h.offNew (Nat.le_refl _))⟩
theorem Bx.then {A : Nat} {Z' : Lay} {s' : Ms} (h : Bx w0 c T w Z s A) (k : Dn w0 c T w Z s w' Z' s') : Bx w0 c T w' Z' s' A := ⟨k.keep h.box h.off, k.off (lt_of_block h.box) h.off⟩
/-- What a step answers and leaves. -/
def StP (w0 : World) (c : Cf) (T : List Tx) (w : World) (Z : Lay) (s : Ms) (n sh ct : Int) (s' : Ms) (e : Ending) (w' : World) : Prop := e = .returned (evV 0 0 n sh ct 0) ∧ ∃ Z', Dn w0 c T w Z s w' Z' s' ∧ Z'.nr = s'.d
theorem Dn.steps {Z' : Lay} {s' : Ms} (h : Dn w0 c T w Z s w' Z' s') {k : Nat} (hk : s'.k ≤ k) : Dn w0 c T w Z s w' Z' { s' with k := k } := by
  have e : mP w0 c T Z' { s' with k := k } = mP w0 c T Z' s' := by funext i; cases i <;> rfl
  exact ⟨h.m.steps hk, by rw [e]; exact h.x, h.z, h.y⟩
theorem Dn.offNew {Z' : Lay} {s' : Ms} {W : World} (h : Dn w0 c T w Z s w' Z' s') (hf : Fr [] w' W) {b : Nat} (hb : w'.heap.size ≤ b) : MaM.off w0 W c T Z' s' b := h.m.otherO (S := []) hf (by simp) (h.m.offNew hb)
/-- A cell of the machine's struct, of a lane's task, behind what was done. -/
theorem Dn.mc {Z' : Lay} {s' : Ms} (h : Dn w0 c T w Z s w' Z' s') {j : Nat} {v : Value} (hv : (mC c Z.z)[j]? = some v) : w'.cell? ⟨Z.z.mb, j, none⟩ = some v := by
  have := h.m.mc (j := j) (v := v) (by rw [h.z]; exact hv)
  rw [h.z] at this
  exact this
theorem Dn.kwc {Z' : Lay} {s' : Ms} (h : Dn w0 c T w Z s w' Z' s') {i : Nat} (hi : i < c.l.toNat) : w'.cell? ⟨Z.z.kw i, 0, none⟩ = some (.pointer (some ⟨Z.z.mb, 0, none⟩)) ∧ w'.cell? ⟨Z.z.kw i, 2, none⟩ = some (.pointer (some ⟨Z.z.la i, 0, none⟩)) := by
  have := h.m.kwc hi
  rw [h.z] at this
  exact ⟨this.1, this.2.2⟩
/-- Behind the store of the event. -/
theorem Dn.fin {w1 w9 : World} {A : Nat} {Z' : Lay} {s' : Ms} (k : Dn w0 c T w1 Z s w9 Z' s') (h : MaM w0 w c T Z s) (h1 : Fr [] w w1) (hA : w.heap.size ≤ A) (hB : Bx w0 c T w1 Z s A) (hf : Fr [A] w9 w') : Dn w0 c T w Z s w' Z' s' := by
  have hb9 := hB.then k
  have h0 : w0.heap.size ≤ A := Nat.le_trans h.fr.size hA
  have hS : ∀ b ∈ [A], w0.heap.size ≤ b ∧ MaM.off w0 w9 c T Z' s' b := fun b hb => by rw [List.mem_singleton.1 hb]; exact ⟨h0, hb9.off⟩
  have back : ∀ i b, (mP w0 c T Z s i).O w1 b → (mP w0 c T Z s i).O w b := fun i b hb => ((h.m.ok i).keep [] w w1 (h.m.m i) h.m.fr h1 (by simp)).2 b hb
  have hx := k.x.from h1 fun i b hb => Or.inl (back i b hb)
  refine ⟨k.m.other hf hS, ⟨?_, fun i b hb => ?_⟩, k.z, k.y⟩
  · obtain ⟨S, sf, sS⟩ := hx.fr
    refine ⟨S, sf.trans hf (fun x hx _ => hx) (fun x hx hl => ?_), sS⟩
    rw [List.mem_singleton.1 hx] at hl
    omega
  · have hk := ((k.m.m.ok i).keep [A] w9 w' (k.m.m.m i) k.m.m.fr hf fun b hb hl => ⟨(hS b hb).1, (hS b hb).2 i⟩).2 b hb
    exact hx.sub i b hk
/-- Distinct numbers above a mark, within a window, are no more than the window. -/
theorem near_few {l : List Int} {a q : Int} (hn : l.Nodup) (h : ∀ x ∈ l, a < x ∧ x ≤ a + q) : l.length ≤ q.toNat := by
  have := nd_len22 l ((List.range q.toNat).map fun (i : Nat) => a + 1 + (i : Int)) hn (fun x hx => by
    have := h x hx
    refine List.mem_map.2 ⟨(x - a - 1).toNat, List.mem_range.2 (by omega), by omega⟩)
  simpa using this
end
end Go.Proofs.YtakbodlicfmkjaaGreat

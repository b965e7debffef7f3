/- What a task's step answers, in a box of its own; the story behind it. Conditions as each names them. -/
import Derived.Test.YtaaghcimfcjehaaGreatDoorSa21
namespace Go.Proofs.YtaaghcimfcjehaaGreatDoor
open Go.ChangeShapes Go.WideShapes Go.ChangeAt Go.RowKit Go.Lib Go.Maps
set_option linter.unusedVariables false
set_option linter.unusedSimpArgs false

theorem results_c_row {fn : Func} {p : Tmp} {ty : TypeId} (h : fn.results = #[.cell p ty]) (tmps : Array Value) (P : Program) (w : World) (g : Nat) (v : Value) (hp : tmps.getD p undef = .pointer (some ⟨g, 0, none⟩)) (hld : (loadVar ty ⟨g, 0, none⟩).run P w = .ok v w) :
    (results fn tmps).run P w = .ok v w := by
  simp only [results, h]
  simp [Sem.run_bind, Result.andThen, ← Array.getD_eq_getD_getElem?, hp, asAddr, hld]
/-- An event's cells. -/
def evA (t k n s c m : Int) : Array Value := #[.int .i64 t, .int .u8 k, .int .i64 n, .int .i64 s, .int .i64 c, .int .i64 m]
theorem load_evt {w : World} {g : Nat} {t k n s c m : Int} (h : w.heap[g]? = some (.cells (evA t k n s c m) 62 (0, 0))) : (loadVar 62 ⟨g, 0, none⟩).run Tryz.prog w = .ok (.agg (evA t k n s c m)) w :=
  run_loadVar_row (P := Tryz.prog) _ g _ 62 _ _ (.struct (Tryz.prog.fieldsOf 62)) h (by kernel_rfl) rfl (by kernel_rfl)
theorem wpList_storeRow {w : World} {ops : Array Oper} {rest : List Oper} {o : Oper} {a : Act} {Q : Exit → Act → World → Prop} (hgd : o.guard = none) (ty : TypeId) (x y : Operand) (ho : o.op = .store ty x y)
    (g : Nat) (cells : Array Value) (hx : a.eval x = .pointer (some ⟨g, 0, none⟩)) (hy : a.eval y = .agg cells)
    (t : TypeId) (old : Array Value) (hg : w.heap[g]? = some (.cells old t (0, 0))) (hi : (Tryz.prog.info? ty).map (·.size) = some cells.size)
    (hold : old.size = cells.size) (h1 : cells.all (·.oneCell') = true)
    (h : ∀ w', Hid (w'.heap[g]? = some (.cells cells t (0, 0))) → Fr [g] w w' → wpList Tryz.prog ops Q rest (a.put o.dst undef) w') : wpList Tryz.prog ops Q (o :: rest) a w :=
  wpList_store_row hgd ty x y ho g cells hx hy t old hg hi hold h1 (h _ (setRow_heap w g _ _ t _ hg) (Fr.setRow _ _ _))
theorem wpList_storeEv {w : World} {ops : Array Oper} {rest : List Oper} {o : Oper} {a : Act} {Q : Exit → Act → World → Prop} (hgd : o.guard = none) (x y : Operand) (ho : o.op = .store 62 x y)
    (g : Nat) (t k n s c m : Int) (hx : a.eval x = .pointer (some ⟨g, 0, none⟩)) (hy : a.eval y = .agg #[.int .i64 t, .int .u8 k, .int .i64 n, .int .i64 s, .int .i64 c, .int .i64 m])
    (t' k' n' s' c' m' : Int) (hg : w.heap[g]? = some (.cells (evA t' k' n' s' c' m') 62 (0, 0)))
    (h : ∀ w', Hid (w'.heap[g]? = some (.cells (evA t k n s c m) 62 (0, 0))) → Fr [g] w w' → wpList Tryz.prog ops Q rest (a.put o.dst undef) w') : wpList Tryz.prog ops Q (o :: rest) a w :=
  wpList_storeRow hgd 62 x y ho g (evA t k n s c m) hx hy 62 _ hg (by kernel_rfl) rfl (by simp [evA, Value.oneCell']) h
/-- What a step tells, as it is answered. -/
def Te.v (a : Te) : Value := .agg (evA 0 a.k a.n a.s a.c 0)
/-- A task's step: what it tells, and where the story stands behind it. -/
def TaskP (w : World) (Z : Zs) (c : Cf) (k : Nat) (r : Te × Sy) (e : Ending) (w' : World) : Prop :=
  ∃ Z', e = .returned r.1.v ∧ SyM w' Z' c r.2 (k + 1) ∧ Mv w Z w' Z' ∧ Z'.sb = Z.sb
/-- The box of the answer lies apart from the story. -/
theorem Mv.fin {w w0 W W' : World} {Z Z' : Zs} {c : Cf} {s : Sy} {k rb : Nat} (hM : Mv w0 Z W Z') (h0 : Fr [] w w0) (h1 : w.heap.size ≤ rb) (h2 : rb < w0.heap.size) (hlt : ∀ x ∈ Z.own, x < w.heap.size) (hf : Fr [rb] W W') (hS : SyM W Z' c s k) : SyM W' Z' c s k ∧ Mv w Z W' Z' := by
  have hn : rb ∉ Z'.own := fun h => by
    rcases hM.sub rb h with h3 | h3
    · have := hlt rb h3; omega
    · omega
  refine ⟨hS.keep hf (fun x hx hh => by simp at hh; exact hn (hh ▸ hx)), ⟨?_, fun x hx => ?_, hM.at_, hM.log⟩⟩
  · exact ((h0.mono (by simp)).then hM.fr).trans hf (fun x hx _ => hx) (fun x hx hl => by simp at hx; omega)
  · rcases hM.sub x hx with h3 | h3
    · exact Or.inl h3
    · exact Or.inr (Nat.le_trans h0.size h3)
/-- The box of the answer stays as it was. -/
theorem Mv.box {w w0 W : World} {Z Z' : Zs} (hM : Mv w0 Z W Z') {rb : Nat} {o : Obj} (h1 : w.heap.size ≤ rb) (hlt : ∀ x ∈ Z.own, x < w.heap.size) (hb : w0.heap[rb]? = some o) : W.heap[rb]? = some o :=
  hM.fr.keep hb (fun h => by have := hlt rb h; omega)
end Go.Proofs.YtaaghcimfcjehaaGreatDoor

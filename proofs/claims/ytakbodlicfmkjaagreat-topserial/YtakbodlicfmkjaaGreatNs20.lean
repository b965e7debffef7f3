/- The next seat. Conditions as each names them. -/
import Derived.Test.YtakbodlicfmkjaaGreatAp20
import Derived.Deep.Cut
import Derived.Deep.CutRange
import Derived.Deep.LoopGhost
import Derived.OwnWalk
namespace Go.Proofs.YtakbodlicfmkjaaGreat
open Go.ChangeShapes Go.WideShapes Go.ChangeAt Go.RowKit Go.Lib
set_option linter.unusedVariables false
set_option linter.unusedSimpArgs false
theorem results_cs20 {fn : Func} {p : Tmp} {ty : TypeId} (h : fn.results = #[.cell p ty]) (tmps : Array Value) (P : Program) (w : World) (g : Nat) (v : Value) (hp : tmps.getD p undef = .pointer (some ⟨g, 0, none⟩)) (hld : (loadVar ty ⟨g, 0, none⟩).run P w = .ok v w) :
    (results fn tmps).run P w = .ok v w := by
  simp only [results, h]
  simp [Sem.run_bind, Result.andThen, ← Array.getD_eq_getD_getElem?, hp, asAddr, hld]
theorem load_seatR {w : World} {g mb : Nat} {n : Int} (h : w.heap[g]? = some (.cells #[.pointer (some ⟨mb, 0, none⟩), .int .i64 n] 217 (0, 0))) : (loadVar 217 ⟨g, 0, none⟩).run Tryz.prog w = .ok (.agg #[.pointer (some ⟨mb, 0, none⟩), .int .i64 n]) w :=
  run_loadVar_row (P := Tryz.prog) _ g _ 217 _ _ (.struct (Tryz.prog.fieldsOf 217)) h (by kernel_rfl) rfl (by kernel_rfl)
theorem nextSeat_any {w : World} {mb n k : Nat} {o : Option Addr} (c13 : w.cell? ⟨mb, 13, none⟩ = some (.slice o n k)) (hn : n ≤ 100) : Calls Tryz.prog 103 #[.pointer (some ⟨mb, 0, none⟩)] w fun e w' => e = .returned (.agg #[.pointer (some ⟨mb, 0, none⟩), .int .i64 (n : Int)]) ∧ Fr [] w w' := by
  obtain ⟨w1, HW1⟩ : ∃ w1, Hid (w.alloc (.cells #[.pointer (some ⟨mb, 0, none⟩), .int .i64 (n : Int)] 217) = w1) := ⟨_, rfl⟩
  have hb : w1.heap[w.heap.size]? = some (.cells #[.pointer (some ⟨mb, 0, none⟩), .int .i64 (n : Int)] 217 (0, 0)) := by rw [← HW1.out]; exact heap_alloc_new _ _
  have hf : Fr [] w w1 := by rw [← HW1.out]; exact Fr.alloc _ _ _
  have c13' : ∀ ob, (w.alloc ob).cell? ⟨mb, 13, none⟩ = some (.slice o n k) := fun ob => by
    have hlt : mb < w.heap.size := World.block_lt_of_cell? w _ (by rw [c13])
    exact (World.cell?_of_block ((Fr.alloc [] w ob).block mb hlt (by simp))).trans c13
  have HB : Hid (w1.heap[w.heap.size]? = _) := hb
  have HF : Hid (Fr [] w w1) := hf
  clear hb hf
  go_enter Tryz.func103, Tryz.ntmps103
  go_wp2_with fail
  rw [HW1.out]
  refine bodyPost_ret (results_cs20 rfl _ _ _ w.heap.size _ rfl (load_seatR HB.out)) rfl ?_
  exact ⟨rfl, HF.out⟩
end Go.Proofs.YtakbodlicfmkjaaGreat

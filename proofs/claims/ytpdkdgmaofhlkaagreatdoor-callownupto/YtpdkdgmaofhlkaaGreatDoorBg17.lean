/- What a task asks: request; Begin. Conditions as each names them. -/
import Derived.Test.YtpdkdgmaofhlkaaGreatDoorTk17
import Derived.Laws.Rows
import Derived.Laws.ResultCell
import Derived.Deep.RegionHeld3
import Derived.Deep.Cut
namespace Go.Proofs.YtpdkdgmaofhlkaaGreatDoor
open Go.ChangeShapes Go.WideShapes Go.ChangeAt Go.RowKit Go.Lib
set_option linter.unusedVariables false
set_option linter.unusedSimpArgs false

theorem results_c_row {fn : Func} {p : Tmp} {ty : TypeId} (h : fn.results = #[.cell p ty]) (tmps : Array Value) (P : Program) (w : World) (g : Nat) (v : Value) (hp : tmps.getD p undef = .pointer (some ⟨g, 0, none⟩)) (hld : (loadVar ty ⟨g, 0, none⟩).run P w = .ok v w) :
    (results fn tmps).run P w = .ok v w := by
  simp only [results, h]
  simp [Sem.run_bind, Result.andThen, ← Array.getD_eq_getD_getElem?, hp, asAddr, hld]
def Rv.a (x : Rv) : Array Value := #[.int .u8 x.k, .int .i64 x.f, .int .i64 x.n, .string ⟨#[]⟩, .string ⟨#[]⟩, .bool false, .string x.key, .string x.en, .slice x.bo x.bl x.bc]
theorem load_req {w : World} {g : Nat} (x : Rv) (h : w.heap[g]? = some (.cells x.a 64 (0, 0))) : (loadVar 64 ⟨g, 0, none⟩).run Tryz.prog w = .ok x.v w :=
  run_loadVar_row (P := Tryz.prog) _ g _ 64 _ _ (.struct (Tryz.prog.fieldsOf 64)) h (by kernel_rfl) rfl (by kernel_rfl)
theorem wpList_storeRow {w : World} {ops : Array Oper} {rest : List Oper} {o : Oper} {a : Act} {Q : Exit → Act → World → Prop} (hgd : o.guard = none) (ty : TypeId) (x y : Operand) (ho : o.op = .store ty x y)
    (g : Nat) (cells : Array Value) (hx : a.eval x = .pointer (some ⟨g, 0, none⟩)) (hy : a.eval y = .agg cells)
    (t : TypeId) (old : Array Value) (hg : w.heap[g]? = some (.cells old t (0, 0))) (hi : (Tryz.prog.info? ty).map (·.size) = some cells.size)
    (hold : old.size = cells.size) (h1 : cells.all (·.oneCell') = true)
    (h : ∀ w', Hid (w'.heap[g]? = some (.cells cells t (0, 0))) → Fr [g] w w' → wpList Tryz.prog ops Q rest (a.put o.dst undef) w') : wpList Tryz.prog ops Q (o :: rest) a w :=
  wpList_store_row hgd ty x y ho g cells hx hy t old hg hi hold h1 (h _ (setRow_heap w g _ _ t _ hg) (Fr.setRow _ _ _))
theorem heap_at1 (w : World) (o p : Obj) : ((w.alloc o).alloc p).heap[w.heap.size + 1]? = some p := by
  have := heap_alloc_new (w.alloc o) p
  rwa [World.size_alloc] at this
theorem heap_at2 (w : World) (o p q : Obj) : (((w.alloc o).alloc p).alloc q).heap[w.heap.size + 2]? = some q := by
  have := heap_alloc_new ((w.alloc o).alloc p) q
  rwa [World.size_alloc, World.size_alloc] at this
set_option maxHeartbeats 4000000 in
set_option maxRecDepth 100000 in
theorem qreq1 (n ma le : Int) (key en : ByteArray) (v : Value) (w : World) :
    Calls Tryz.prog 20 #[.int .i64 n, .agg #[.int .u8 1, .string key, .string en], .int .i64 ma, .int .i64 le, v] w fun e w' => e = .returned (Rv.v ⟨2, n, ma, key, en, none, 0, 0⟩) ∧ Fr [] w w' := by
  go_enter Tryz.func20, Tryz.ntmps20
  go_wp2
  refine bodyPost_ret (results_c_row rfl _ _ _ (w.heap.size + 1) _ rfl (load_req ⟨2, n, ma, key, en, none, 0, 0⟩ ?_)) rfl ?_
  · exact (Below.heap_alloc _ _ _ (by simp)).trans (heap_at1 _ _ _)
  · exact ⟨rfl, ((Fr.alloc [] _ _).then (Fr.alloc [] _ _)).then (Fr.alloc [] _ _)⟩
set_option maxHeartbeats 4000000 in
set_option maxRecDepth 100000 in
theorem qreq2 (n ma le : Int) (key en : ByteArray) (v : Value) (w : World) :
    Calls Tryz.prog 20 #[.int .i64 n, .agg #[.int .u8 2, .string key, .string en], .int .i64 ma, .int .i64 le, v] w fun e w' => e = .returned (Rv.v ⟨3, n, ma, key, en, none, 0, 0⟩) ∧ Fr [] w w' := by
  go_enter Tryz.func20, Tryz.ntmps20
  go_wp2
  refine bodyPost_ret (results_c_row rfl _ _ _ (w.heap.size + 1) _ rfl (load_req ⟨3, n, ma, key, en, none, 0, 0⟩ ?_)) rfl ?_
  · exact (Below.heap_alloc _ _ _ (by simp)).trans (heap_at1 _ _ _)
  · exact ⟨rfl, ((Fr.alloc [] _ _).then (Fr.alloc [] _ _)).then (Fr.alloc [] _ _)⟩
set_option maxHeartbeats 4000000 in
set_option maxRecDepth 100000 in
theorem qreq3 (n ma le : Int) (key en : ByteArray) (v : Value) (w : World) :
    Calls Tryz.prog 20 #[.int .i64 n, .agg #[.int .u8 3, .string key, .string en], .int .i64 ma, .int .i64 le, v] w fun e w' => e = .returned (Rv.v ⟨4, n, le, key, en, none, 0, 0⟩) ∧ Fr [] w w' := by
  go_enter Tryz.func20, Tryz.ntmps20
  go_wp2
  refine bodyPost_ret (results_c_row rfl _ _ _ (w.heap.size + 1) _ rfl (load_req ⟨4, n, le, key, en, none, 0, 0⟩ ?_)) rfl ?_
  · exact (Below.heap_alloc _ _ _ (by simp)).trans (heap_at1 _ _ _)
  · exact ⟨rfl, ((Fr.alloc [] _ _).then (Fr.alloc [] _ _)).then (Fr.alloc [] _ _)⟩
theorem owns_keep17 {S : List Nat} {w w' : World} {base : Nat} {e : TypeId} {size : Nat} {v : Value} {n : Nat} {xs : List Value} (h : w.ownsRow base e size v n xs) (hf : Fr S w w') (hn : ∀ k, v.ownBlock = some k → k ∉ S) : w'.ownsRow base e size v n xs := by
  refine ⟨h.1, ?_⟩
  rcases h.2 with hh | ⟨g, cap, cur, rfl, hb, hgg, rest⟩
  · exact .inl hh
  · exact .inr ⟨g, cap, cur, rfl, hb, hf.keep hgg (hn g rfl), rest⟩
theorem owns_cells17 {w : World} {base : Nat} {e : TypeId} {size n : Nat} {v : Value} {xs : List Value} (h : w.ownsRow base e size v n xs) {k : Nat} (hk : v.ownBlock = some k) : base ≤ k ∧ ∃ cur, w.heap[k]? = some (.cells cur e (0, 0)) := by
  rcases h.2 with ⟨rfl, _⟩ | ⟨g, cap, cur, rfl, hb, hg, hr⟩
  · simp [Value.ownBlock] at hk
  · simp [Value.ownBlock] at hk
    subst hk
    exact ⟨hb, cur, hg⟩
theorem owns_less17 {w : World} {base base' : Nat} {e : TypeId} {size n : Nat} {v : Value} {xs : List Value} (h : w.ownsRow base e size v n xs) (hb : base' ≤ base) : w.ownsRow base' e size v n xs := by
  refine ⟨h.1, ?_⟩
  rcases h.2 with hh | ⟨g, cap, cur, rfl, hb', hgg, rest⟩
  · exact .inl hh
  · exact .inr ⟨g, cap, cur, rfl, by omega, hgg, rest⟩
theorem irs_owns17 {w : World} {base L rc : Nat} {ro : Option Addr} {ns : List Int} (h : w.ownsRow base 3 1 (.slice ro L rc) L (intsC ns)) (hf : ns.length ≤ 17592186044416) : IRs w ro ns := by
  have hl := h.1
  rw [intsC_length] at hl
  rcases h.2 with ⟨hv, h0⟩ | ⟨g, cap', cur, hv, hbase, hg, h1, h2, h3, ht⟩
  · have : ns = [] := List.eq_nil_of_length_eq_zero (by omega)
    subst this
    exact ⟨fun h => by simp at h, by simp⟩
  · cases hv
    refine ⟨fun h0 => ⟨g, 0, rfl, lt_of_block hg, fun i hi => ?_⟩, hf⟩
    rw [cell_of_row _ _ _ _ _ _ hg, Nat.zero_add, ← Array.getElem?_toList, ← intsC_get ns i hi, ← ht, List.getElem?_take_of_lt (by omega)]
theorem rv_one (r : Rv) : r.a.all (·.oneCell') = true := by simp [Rv.a, Value.oneCell']
theorem row_put17 {w : World} {b j : Nat} {cs : Array Value} {t : TypeId} (x : Value) (h : w.heap[b]? = some (.cells cs t (0, 0))) : (w.setCell ⟨b, j, none⟩ x).heap[b]? = some (.cells (cs.setIfInBounds j x) t (0, 0)) := by
  obtain ⟨hlt, hk⟩ := Array.getElem?_eq_some_iff.1 h
  show (w.heap.modify b _)[b]? = _
  rw [Array.getElem?_modify, if_pos rfl, h]
  rfl
set_option maxHeartbeats 4000000 in
set_option maxRecDepth 100000 in
theorem qreq4 (n ma le : Int) (key en : ByteArray) (ao : Option Addr) (L cap : Nat) (ns : List Int) (w : World) (hI : IRs w ao ns) (hL : L = ns.length) (hc : L ≤ 131072) :
    Calls Tryz.prog 20 #[.int .i64 n, .agg #[.int .u8 4, .string key, .string en], .int .i64 ma, .int .i64 le, .slice ao L cap] w fun e w' => ∃ ro rc, e = .returned (Rv.v ⟨5, n, ma, key, en, ro, L, rc⟩) ∧ IRs w' ro ns ∧ w'.ownsRow w.heap.size 3 1 (.slice ro L rc) L (intsC ns) ∧ Fr [] w w' := by
  have HC : Hid (∀ W, Fr [] w W → Calls Tryz.prog 25 #[.slice ao L cap] W fun e w' => ∃ ro rc, e = .returned (.slice ro L rc) ∧ IRs w' ro ns ∧ w'.ownsRow W.heap.size 3 1 (.slice ro L rc) L (intsC ns) ∧ Fr [] W w') := fun W hW => cloneI_any ao L cap ns W (hI.keep hW) hL hc
  clear hI hL hc
  go_enter Tryz.func20, Tryz.ntmps20
  go_wp2_with fail
  refine (HC.out _ (((Fr.alloc [] _ _).then (Fr.alloc [] _ _)).then (Fr.alloc [] _ _))).mono ?_
  rintro e w1 ⟨ro, rc, rfl, hI1, hown, hf1⟩
  have HI1 : Hid (IRs w1 ro ns ∧ w1.ownsRow (w.heap.size + 3) 3 1 (.slice ro L rc) L (intsC ns)) := ⟨hI1, owns_less17 hown (by simp)⟩
  have HF1 : Hid (Fr [] w w1) := (((Fr.alloc [] _ _).then (Fr.alloc [] _ _)).then (Fr.alloc [] _ _)).then hf1
  have hr1 : w1.heap[w.heap.size + 1]? = some (.cells Rv.zero.a 64 (0, 0)) := hf1.keep ((Below.heap_alloc _ _ _ (by simp)).trans (heap_at1 _ _ _)) (by simp)
  have hr2 : w1.heap[w.heap.size + 2]? = some (.cells (Rv.a ⟨0, n, ma, key, en, none, 0, 0⟩) 64 (0, 0)) := hf1.keep (heap_at2 _ _ _ _) (by simp)
  have c0 : w1.cell? ⟨w.heap.size + 1 + 1, 0, none⟩ = some (.int .u8 0) := by rw [cell_of_row _ _ _ _ _ _ hr2]; rfl
  have c8 : w1.cell? ⟨w.heap.size + 1 + 1, 8, none⟩ = some (.slice none 0 0) := by rw [cell_of_row _ _ _ _ _ _ hr2]; rfl
  have hz : ∀ j, w1.frozen? ⟨w.heap.size + 1 + 1, j, none⟩ = false := fun j => by simp [World.frozen?, hr2]
  have z0 := hz 0
  have z8 := hz 8
  have hrow : ((w1.setCell ⟨w.heap.size + 1 + 1, 0, none⟩ (.int .u8 5)).setCell ⟨w.heap.size + 1 + 1, 8, none⟩ (.slice ro L rc)).heap[w.heap.size + 2]? = some (.cells (Rv.a ⟨5, n, ma, key, en, ro, L, rc⟩) 64 (0, 0)) := row_put17 _ (row_put17 _ hr2)
  have hfs : Fr [w.heap.size + 2] w1 ((w1.setCell ⟨w.heap.size + 1 + 1, 0, none⟩ (.int .u8 5)).setCell ⟨w.heap.size + 1 + 1, 8, none⟩ (.slice ro L rc)) := (Fr.set _ _ _ (by simp)).then (Fr.set _ _ _ (by simp))
  have hr1' := hfs.keep hr1 (by simp)
  clear hf1 hI1 hown hz hr1 hr2
  go_upto_region 11 with fail
  generalize ((w1.setCell ⟨w.heap.size + 1 + 1, 0, none⟩ (.int .u8 5)).setCell ⟨w.heap.size + 1 + 1, 8, none⟩ (.slice ro L rc)) = w2 at hrow hfs hr1' ⊢
  have HFS : Hid (Fr [w.heap.size + 2] w1 w2) := hfs
  have d0 : w2.cell? ⟨w.heap.size + 1 + 1, 0, none⟩ = some (.int .u8 5) := by rw [cell_of_row _ _ _ _ _ _ hrow]; rfl
  have d1 : w2.cell? ⟨w.heap.size + 1 + 1, 1, none⟩ = some (.int .i64 n) := by rw [cell_of_row _ _ _ _ _ _ hrow]; rfl
  have d2 : w2.cell? ⟨w.heap.size + 1 + 1, 2, none⟩ = some (.int .i64 ma) := by rw [cell_of_row _ _ _ _ _ _ hrow]; rfl
  have d3 : w2.cell? ⟨w.heap.size + 1 + 1, 3, none⟩ = some (.string ⟨#[]⟩) := by rw [cell_of_row _ _ _ _ _ _ hrow]; rfl
  have d4 : w2.cell? ⟨w.heap.size + 1 + 1, 4, none⟩ = some (.string ⟨#[]⟩) := by rw [cell_of_row _ _ _ _ _ _ hrow]; rfl
  have d5 : w2.cell? ⟨w.heap.size + 1 + 1, 5, none⟩ = some (.bool false) := by rw [cell_of_row _ _ _ _ _ _ hrow]; rfl
  have d6 : w2.cell? ⟨w.heap.size + 1 + 1, 6, none⟩ = some (.string key) := by rw [cell_of_row _ _ _ _ _ _ hrow]; rfl
  have d7 : w2.cell? ⟨w.heap.size + 1 + 1, 7, none⟩ = some (.string en) := by rw [cell_of_row _ _ _ _ _ _ hrow]; rfl
  have d8 : w2.cell? ⟨w.heap.size + 1 + 1, 8, none⟩ = some (.slice ro L rc) := by rw [cell_of_row _ _ _ _ _ _ hrow]; rfl
  have HR1 : Hid (w2.heap[w.heap.size + 1]? = some (.cells Rv.zero.a 64 (0, 0))) := hr1'
  clear hfs hr1' hrow c0 c8 z0 z8
  go_wp2_with (refine wpList_storeRow rfl 64 _ _ rfl (w.heap.size + 1) (Rv.a ⟨5, n, ma, key, en, ro, L, rc⟩) rfl rfl 64 _ HR1.out (by kernel_rfl) rfl (rv_one _) ?_; intro w3 hw3 hf3)
  refine bodyPost_ret (results_c_row rfl _ _ _ (w.heap.size + 1) _ rfl (load_req ⟨5, n, ma, key, en, ro, L, rc⟩ hw3.out)) rfl ?_
  have hF : Fr [w.heap.size + 1, w.heap.size + 2] w1 w3 := HFS.out.trans hf3 (fun x hx _ => by simp at hx; simp [hx]) (fun x hx _ => by simp at hx; simp [hx])
  have ho := HI1.out.2
  have hb : ∀ k, (Value.slice ro L rc).ownBlock = some k → k ∉ [w.heap.size + 1, w.heap.size + 2] := fun k hk hm => by
    have := (owns_cells17 ho hk).1
    simp at hm
    omega
  have ho3 := owns_less17 (owns_keep17 ho hF hb) (show w.heap.size ≤ w.heap.size + 3 by omega)
  have hF3 : Fr [] w w3 := HF1.out.on hF (fun x hx => by simp at hx; omega)
  exact ⟨ro, rc, rfl, irs_owns17 ho3 HI1.out.1.few, ho3, hF3⟩
end Go.Proofs.YtpdkdgmaofhlkaaGreatDoor

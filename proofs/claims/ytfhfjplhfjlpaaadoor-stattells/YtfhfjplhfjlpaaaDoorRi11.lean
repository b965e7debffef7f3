/- Rows of numbers of one's own: reading, one more behind, as a step of a walk. Conditions as each names them. -/
import Derived.Test.YtfhfjplhfjlpaaaDoorMem
import Derived.Maps.OwnOps
import Derived.Maps.AppendAt
namespace Go.Proofs.YtfhfjplhfjlpaaaDoor
open Go.ChangeShapes Go.WideShapes Go.ChangeAt Go.RowKit Go.Lib Go.Maps
set_option linter.unusedVariables false
set_option linter.unusedSimpArgs false

/-- Numbers as cells. -/
def ints (ns : List Int) : List Value := ns.map (Value.int .i64)
theorem ints_length (ns : List Int) : (ints ns).length = ns.length := by simp [ints]
theorem owns_keepI {S : List Nat} {w w' : World} {base : Nat} {e : TypeId} {size : Nat} {v : Value} {n : Nat} {xs : List Value} (h : w.ownsRow base e size v n xs) (hf : Fr S w w') (hn : ∀ k, v.ownBlock = some k → k ∉ S) : w'.ownsRow base e size v n xs := by
  refine ⟨h.1, ?_⟩
  rcases h.2 with hh | ⟨g, cap, cur, rfl, hb, hgg, rest⟩
  · exact .inl hh
  · exact .inr ⟨g, cap, cur, rfl, hb, hf.keep hgg (hn g rfl), rest⟩
/-- A row of numbers of one's own; its block is not below base. -/
structure IOw (base : Nat) (w : World) (o : Option Addr) (n c : Nat) (xs : List Int) : Prop where
  len : n = xs.length
  row : w.ownsRow base 3 1 (.slice o n c) n (ints xs)
section
variable {base : Nat} {w w' : World} {o : Option Addr} {n c : Nat} {xs : List Int}
theorem IOw.nil (base : Nat) (w : World) : IOw base w none 0 0 [] := ⟨rfl, rfl, .inl ⟨rfl, rfl⟩⟩
theorem IOw.keepS {S : List Nat} (h : IOw base w o n c xs) (hf : Fr S w w') (hn : ∀ k, (Value.slice o n c).ownBlock = some k → k ∉ S) : IOw base w' o n c xs := ⟨h.len, owns_keepI h.row hf hn⟩
theorem IOw.keep (h : IOw base w o n c xs) (hf : Fr [] w w') : IOw base w' o n c xs := h.keepS hf (by simp)
theorem IOw.blk (h : IOw base w o n c xs) {k : Nat} (hk : (Value.slice o n c).ownBlock = some k) : base ≤ k ∧ ∃ cur, w.heap[k]? = some (.cells cur 3 (0, 0)) := by
  rcases h.row.2 with ⟨hh, _⟩ | ⟨g, cap, cur, hh, hb, hgg, _⟩
  · rw [hh] at hk; simp [Value.ownBlock] at hk
  · rw [hh] at hk
    simp [Value.ownBlock] at hk
    subst hk
    exact ⟨hb, cur, hgg⟩
theorem IOw.low {b' : Nat} (h : IOw base w o n c xs) (hb : b' ≤ base) : IOw b' w o n c xs := by
  refine ⟨h.len, h.row.1, ?_⟩
  rcases h.row.2 with hh | ⟨g, cap, cur, hh, hb', rest⟩
  · exact .inl hh
  · exact .inr ⟨g, cap, cur, hh, Nat.le_trans hb hb', rest⟩
theorem IOw.cap (h : IOw base w o n c xs) : n ≤ c := by
  rcases h.row.2 with ⟨hh, h0⟩ | ⟨g, cap, cur, hh, hb', hg, hc, _⟩
  · omega
  · cases hh; exact hc
theorem IOw.at (h : IOw base w o n c xs) (i : Nat) (hi : i < xs.length) : ∃ g, o = some ⟨g, 0, none⟩ ∧ base ≤ g ∧ w.cell? ⟨g, i, none⟩ = some (.int .i64 (xs.getD i 0)) := by
  rcases h.row.2 with ⟨_, h0⟩ | ⟨g, cap, cur, hv, hb, hg, _, _, _, ht⟩
  · have := h.len; omega
  · cases hv
    refine ⟨g, rfl, hb, ?_⟩
    have hN := h.len
    rw [cell_of_row _ _ _ _ _ _ hg, ← Array.getElem?_toList]
    have h1 : (cur.toList.take (n * 1))[i]? = (ints xs)[i]? := by rw [ht]
    rw [List.getElem?_take_of_lt (by omega)] at h1
    rw [h1]
    simp [ints, List.getD, hi]
/-- Its cells, all. -/
theorem IOw.cells (h : IOw base w o n c xs) (h0 : 0 < n) : ∃ g, o = some ⟨g, 0, none⟩ ∧ base ≤ g ∧ g < w.heap.size ∧ ∀ i, i < n → w.cell? ⟨g, i, none⟩ = some (.int .i64 (xs.getD i 0)) := by
  obtain ⟨g, hg, hb, _⟩ := h.at 0 (by rw [← h.len]; exact h0)
  obtain ⟨_, cur, hc⟩ := h.blk (k := g) (by rw [hg]; rfl)
  refine ⟨g, hg, hb, lt_of_block hc, fun i hi => ?_⟩
  obtain ⟨g', hg', _, h2⟩ := h.at i (by rw [← h.len]; exact hi)
  rw [hg] at hg'
  cases hg'
  exact h2
end
theorem cell_new1 (w : World) (v : Value) (t : TypeId) : (w.alloc (.cells #[v] t)).cell? ⟨w.heap.size, 0, none⟩ = some v := by
  rw [cell_of_row _ _ _ _ _ _ (heap_alloc_new w (.cells #[v] t))]; rfl
theorem cell_new2 (w : World) (o : Obj) (v : Value) (t : TypeId) : ((w.alloc o).alloc (.cells #[v] t)).cell? ⟨w.heap.size + 1, 0, none⟩ = some v := by
  have h := cell_new1 (w.alloc o) v t
  rw [show (w.alloc o).heap.size = w.heap.size + 1 from by simp] at h
  exact h
theorem IOw.on {base : Nat} {w0 w W W' : World} {o : Option Addr} {n c : Nat} {xs : List Int} (h : IOw base w o n c xs) (hb : w0.heap.size ≤ base) (h0 : Fr [] w0 w) (h1 : Fr [] w W) (h2 : Fr (Value.slice o n c).ownBlock.toList W W') : Fr [] w0 W' :=
  (h0.then h1).on h2 (fun x hx => Nat.le_trans hb (h.blk (Option.mem_toList.1 hx)).1)
theorem Tryd.undIs11 : Tryd.prog.underlying 31 = some (.slice 3) := by kernel_rfl
theorem Tryd.infoI11 : (Tryd.prog.info? 3).map (fun i => (i.zero, i.size, i.bytes)) = some (some (.int .i64 0), 1, 8) := by kernel_rfl
theorem infoI_parts : ∃ i, Tryd.prog.info? 3 = some i ∧ i.zero = some (.int .i64 0) ∧ i.size = 1 ∧ i.bytes = 8 := by
  have h := Tryd.infoI11
  cases hi : Tryd.prog.info? 3 with
  | none => rw [hi] at h; cases h
  | some i =>
    rw [hi] at h
    simp only [Option.map_some, Option.some.injEq, Prod.mk.injEq] at h
    exact ⟨i, rfl, h.1, h.2.1, h.2.2⟩
/-- One more behind a row of one's own; and where it lies then. -/
theorem run_appI (base : Nat) (w : World) (ty : TypeId) (o : Option Addr) (n c : Nat) (xs : List Int) (hO : IOw base w o n c xs) (ad : Addr) (cc : Nat) (x : Int) (hx : w.cell? ad = some (.int .i64 x)) (hn : n < 1099511627776) (hb : base ≤ w.heap.size) :
    ∃ o' c' w', (Builtin.append_ #[31, 31] ty #[.slice o n c, .slice (some ad) 1 cc]).run Tryd.prog w = .ok (.slice o' (n + 1) c') w' ∧ IOw base w' o' (n + 1) c' (xs ++ [x]) ∧ Fr (Value.slice o n c).ownBlock.toList w w' ∧ (∀ g, (Value.slice o' (n + 1) c').ownBlock = some g → (Value.slice o n c).ownBlock = some g ∨ w.heap.size ≤ g) := by
  obtain ⟨i0, hi, hz0, hz1, hz2⟩ := infoI_parts
  have hmx : 2199023255552 ≤ maxLen := by unfold maxLen; omega
  have hnews : ∀ j u, ([Value.int .i64 x] : List Value)[j]? = some u → w.cell? (ad.add j) = some u := by
    intro j u hu
    match j, hu with
    | 0, hu => rw [show ad.add 0 = ad from by cases ad; simp [Addr.add], hx]; exact hu
    | (j + 1), hu => simp at hu
  obtain ⟨v', w', hr, h2, h3, h4, h5⟩ := run_append_own_at (P := Tryd.prog) w base 31 ty 3 i0 _ 1 8 Tryd.undIs11 hi hz0 hz1 hz2 rfl (by decide) (.slice o n c) n (ints xs) hO.row ad 1 cc [.int .i64 x] rfl hnews (by intro u hu; simp at hu; subst hu; rfl) (by omega) (by omega) hb
  obtain ⟨o', c', rfl⟩ : ∃ o' c', v' = .slice o' (n + 1) c' := by
    rcases h2.2 with ⟨_, h1⟩ | ⟨g, cap, _, rfl, _⟩
    · omega
    · exact ⟨_, cap, rfl⟩
  have hst : ints (xs ++ [x]) = ints xs ++ [.int .i64 x] := by simp [ints]
  refine ⟨o', c', w', hr, ⟨by rw [hO.len]; simp, by rw [hst]; exact h2⟩, Fr.grown h3 (fun y hy _ => Option.mem_toList.2 hy), fun g hg => ?_⟩
  rcases h5 with h5 | h5
  · rw [h5] at hg; exact Or.inl hg
  · rw [h5] at hg
    simp only [Option.some.injEq] at hg
    exact Or.inr (by omega)
theorem wpList_appI (base : Nat) (w : World) {ops : Array Oper} {rest : List Oper} {op : Oper} {a : Act} {Q : Exit → Act → World → Prop} (hgd : op.guard = none) (s x : Operand)
    (ho : op.op = .call { callee := .builtin .append, args := #[s, x], argTypes := #[31, 31] })
    (o : Option Addr) (n c : Nat) (xs : List Int) (hs : a.eval s = .slice o n c) (hO : IOw base w o n c xs) (ad : Addr) (cc : Nat) (y : Int) (hx : a.eval x = .slice (some ad) 1 cc) (hy : w.cell? ad = some (.int .i64 y)) (hn : n < 1099511627776) (hb : base ≤ w.heap.size)
    (h : ∀ o' c' w', IOw base w' o' (n + 1) c' (xs ++ [y]) → Fr (Value.slice o n c).ownBlock.toList w w' → (∀ g, (Value.slice o' (n + 1) c').ownBlock = some g → (Value.slice o n c).ownBlock = some g ∨ w.heap.size ≤ g) → wpList Tryd.prog ops Q rest (a.put op.dst (.slice o' (n + 1) c')) w') : wpList Tryd.prog ops Q (op :: rest) a w := by
  refine wpList_plain hgd fun K hK => ?_
  obtain ⟨o', c', w', hr, h2, h3, h4⟩ := run_appI base w op.type o n c xs hO ad cc y hy hn hb
  unfold Oper.wp execOp
  simp only [ho, resolve, invoke, builtin, Sem.run_bind, Sem.run_pure, Result.andThen_ok, List.map_toArray, List.map_cons, List.map_nil, hs, hx, hr]
  exact hK _ _ (h o' c' w' h2 h3 h4)
/-- The same as one step of a region that draws its order. -/
theorem step_appI (base : Nat) (w : World) {ops : Array Oper} {op : Oper} {a : Act} {K : Act → World → Prop} {Q : Exit → Act → World → Prop} {E : Prop} (hg : op.guard = none) (s x : Operand)
    (ho : op.op = .call { callee := .builtin .append, args := #[s, x], argTypes := #[31, 31] })
    (o : Option Addr) (n c : Nat) (xs : List Int) (hs : a.eval s = .slice o n c) (hO : IOw base w o n c xs) (ad : Addr) (cc : Nat) (y : Int) (hx : a.eval x = .slice (some ad) 1 cc) (hy : w.cell? ad = some (.int .i64 y)) (hn : n < 1099511627776) (hb : base ≤ w.heap.size)
    (h : ∀ o' c' w', IOw base w' o' (n + 1) c' (xs ++ [y]) → Fr (Value.slice o n c).ownBlock.toList w w' → (∀ g, (Value.slice o' (n + 1) c').ownBlock = some g → (Value.slice o n c).ownBlock = some g ∨ w.heap.size ≤ g) → K (a.put op.dst (.slice o' (n + 1) c')) w') :
    if Region.wanted op (yielded ops a.tmps) = true then Oper.wp Tryd.prog op a w K Q else E := by
  have hw : Region.wanted op (yielded ops a.tmps) = true := by simp [Region.wanted, hg]
  rw [if_pos hw]
  obtain ⟨o', c', w', hr, h2, h3, h4⟩ := run_appI base w op.type o n c xs hO ad cc y hy hn hb
  unfold Oper.wp execOp
  simp only [ho, resolve, invoke, builtin, Sem.run_bind, Sem.run_pure, Result.andThen_ok, List.map_toArray, List.map_cons, List.map_nil, hs, hx, hr]
  exact h o' c' w' h2 h3 h4
end Go.Proofs.YtfhfjplhfjlpaaaDoor

/- The document's ring in memory: a slice that is cut at its head and appended to; contracts of its calls. Conditions as each names them. -/
import Derived.Test.YtgdffhmbhknfcaaDoorArg
import Derived.Deep.AppendSrc
import Derived.Deep.RegionHeld3
import Derived.WalkSpells
import Derived.OwnWalk
namespace Go.Proofs.YtgdffhmbhknfcaaDoor
open Go.ChangeShapes Go.WideShapes Go.ChangeAt Go.RowKit Go.Lib
set_option linter.unusedVariables false
set_option linter.unusedSimpArgs false

/-- Numbers as cells. -/
def ints (ns : List Int) : List Value := ns.map fun n => Value.int .i64 n
theorem ints_length (xs : List Int) : (ints xs).length = xs.length := by simp [ints]
theorem ints_get (xs : List Int) (j : Nat) (h : j < xs.length) : (ints xs)[j]? = some (.int .i64 (xs.getD j 0)) := by simp [ints, List.getD, h]
theorem ints_one (xs : List Int) : ∀ u ∈ ints xs, u.oneCell' = true := by
  intro u hu
  obtain ⟨_, _, rfl⟩ := List.mem_map.1 hu
  rfl
/-- The slice reads as the numbers xs; its room lies in its block. -/
structure QR (w : World) (lo : Option Addr) (n c : Nat) (xs : List Int) : Prop where
  len : n = xs.length
  fit : n ≤ c
  row : (lo = none ∧ c = 0) ∨ ∃ b off cur, lo = some ⟨b, off, none⟩ ∧ w.heap[b]? = some (.cells cur 3 (0, 0)) ∧ off + c ≤ cur.size ∧ ∀ i, i < n → cur[off + i]? = some (.int .i64 (xs.getD i 0))
/-- Its block. -/
def qb (lo : Option Addr) : Option Nat := lo.map fun a => a.block
theorem QR.keep {S : List Nat} {w w' : World} {lo : Option Addr} {n c : Nat} {xs : List Int} (h : QR w lo n c xs) (hf : Fr S w w') (hn : ∀ b, qb lo = some b → b ∉ S) : QR w' lo n c xs := by
  refine ⟨h.len, h.fit, ?_⟩
  rcases h.row with h | ⟨b, off, cur, rfl, hb, h⟩
  · exact .inl h
  · exact .inr ⟨b, off, cur, rfl, hf.keep hb (hn b rfl), h⟩
theorem QR.at_ {w : World} {lo : Option Addr} {n c : Nat} {xs : List Int} (h : QR w lo n c xs) {i : Nat} (hi : i < n) : ∃ b off, lo = some ⟨b, off, none⟩ ∧ w.cell? ⟨b, off + i, none⟩ = some (.int .i64 (xs.getD i 0)) := by
  rcases h.row with ⟨_, h0⟩ | ⟨b, off, cur, rfl, hb, _, hc⟩
  · have := h.fit; omega
  · exact ⟨b, off, rfl, by rw [cell_of_row _ _ _ _ _ _ hb]; exact hc i hi⟩
theorem QR.lies {w : World} {lo : Option Addr} {n c : Nat} {xs : List Int} (h : QR w lo n c xs) (h0 : 0 < n) : ∃ b off, lo = some ⟨b, off, none⟩ ∧ ∀ i, i < n → w.cell? ⟨b, off + i, none⟩ = some (.int .i64 (xs.getD i 0)) := by
  obtain ⟨b, off, rfl, _⟩ := h.at_ h0
  refine ⟨b, off, rfl, fun i hi => ?_⟩
  obtain ⟨b', off', e, hc⟩ := h.at_ hi
  cases e
  exact hc
theorem Tryd.undIsQ : Tryd.prog.underlying 39 = some (.slice 3) := by kernel_rfl
theorem Tryd.infoIQ : (Tryd.prog.info? 3).map (fun i => (i.zero, i.size, i.bytes)) = some (some (.int .i64 0), 1, 8) := by kernel_rfl
theorem infoIQ_parts : ∃ i, Tryd.prog.info? 3 = some i ∧ i.zero = some (.int .i64 0) ∧ i.size = 1 ∧ i.bytes = 8 := by
  have h := Tryd.infoIQ
  cases hi : Tryd.prog.info? 3 with
  | none => rw [hi] at h; cases h
  | some i =>
    rw [hi] at h
    simp only [Option.map_some, Option.some.injEq, Prod.mk.injEq] at h
    exact ⟨i, rfl, h.1, h.2.1, h.2.2⟩
theorem qrow_setCell {w : World} {b j : Nat} {cs : Array Value} {t : TypeId} (x : Value) (h : w.heap[b]? = some (.cells cs t (0, 0))) : (w.setCell ⟨b, j, none⟩ x).heap[b]? = some (.cells (cs.setIfInBounds j x) t (0, 0)) := by
  have hlt := lt_of_block h
  have h' : w.heap[b] = .cells cs t (0, 0) := by simpa [Array.getElem?_eq_getElem hlt] using h
  show (w.heap.modify b _)[b]? = _
  rw [Array.getElem?_eq_getElem (by simpa using hlt), Array.getElem_modify_self, h']
  rfl
theorem qgetD_snoc (xs : List Int) (x : Int) (j : Nat) : (xs ++ [x]).getD j 0 = if j < xs.length then xs.getD j 0 else if j = xs.length then x else 0 := by
  simp only [List.getD]
  split
  · rw [List.getElem?_append_left (by assumption)]
  · rw [List.getElem?_append_right (by omega)]
    split
    · subst_vars; simp
    · rw [List.getElem?_eq_none (by simp; omega)]; rfl
/-- One more behind it. -/
theorem run_appQ (w : World) (ty : TypeId) (lo : Option Addr) (n c : Nat) (xs : List Int) (x : Int) (h : QR w lo n c xs) (hn : n ≤ 65536) :
    ∃ lo' c' w', (Builtin.append_ #[39, 39] ty #[.slice lo n c, .slice (some ⟨w.heap.size, 0, none⟩) 1 1]).run Tryd.prog (w.alloc (.cells #[.int .i64 x] 3)) = .ok (.slice lo' (n + 1) c') w' ∧ QR w' lo' (n + 1) c' (xs ++ [x]) ∧ Fr (qb lo).toList w w' ∧ (qb lo' = qb lo ∨ ∃ k, qb lo' = some k ∧ w.heap.size ≤ k) := by
  obtain ⟨i0, hi, hz0, hz1, hz2⟩ := infoIQ_parts
  have hl := h.len
  have hmx : 65537 ≤ maxLen := by unfold maxLen; omega
  obtain ⟨w1, hw1⟩ : ∃ w1, w1 = w.alloc (.cells #[.int .i64 x] 3) := ⟨_, rfl⟩
  have hs1 : w1.heap.size = w.heap.size + 1 := by rw [hw1]; simp
  have hF1 : Fr [] w w1 := by rw [hw1]; exact Fr.alloc _ _ _
  have hQ1 : QR w1 lo n c xs := h.keep hF1 (by simp)
  have hsrc : Src Tryd.prog i0.size 39 (.slice (some ⟨w.heap.size, 0, none⟩) 1 1) 1 [.int .i64 x] w1 := by
    refine Src.ofSlice w1 Tryd.undIsQ _ 1 1 _ (by rw [hz1]; rfl) ?_ (by intro u hu; simp at hu; subst hu; rfl)
    intro j u hu
    have hr := heap_alloc_new w (.cells #[.int .i64 x] 3)
    rw [hw1, Addr.add_lit, cell_of_row _ _ _ _ _ _ hr, Nat.zero_add]
    simpa using hu
  rw [← hw1]
  by_cases hroom : n + 1 ≤ c
  · rcases hQ1.row with ⟨_, h0⟩ | ⟨b, off, cur, rfl, hb, hoc, hc⟩
    · omega
    · have hr := run_append_room_src (P := Tryd.prog) w1 39 39 ty 3 i0 Tryd.undIsQ hi b off n c _ 1 _ hsrc hroom
        (by intro j hj; simp at hj; subst hj; rw [hz1, cell_of_row _ _ _ _ _ _ hb]; simp; omega)
        (by intro j hj; simp [World.frozen?, hb])
      rw [hz1, Nat.mul_one] at hr
      refine ⟨_, c, _, hr, ⟨by simp [hl], hroom, .inr ⟨b, off, cur.setIfInBounds (off + n) (.int .i64 x), rfl, ?_, by simpa using hoc, fun i hi => ?_⟩⟩, ?_, .inl rfl⟩
      · show (w1.setCell ⟨b, off + n, none⟩ (.int .i64 x)).heap[b]? = _
        exact qrow_setCell _ hb
      · rw [qgetD_snoc, ← hl]
        by_cases hin : i < n
        · rw [if_pos hin, Array.getElem?_setIfInBounds_ne (by omega)]
          exact hc i hin
        · obtain rfl : i = n := by omega
          rw [if_neg hin, if_pos rfl, Array.getElem?_setIfInBounds_self_of_lt (by omega)]
      · show Fr _ w (w1.setCell ⟨b, off + n, none⟩ (.int .i64 x))
        exact (hF1.mono (by simp)).then (Fr.set _ _ _ (by simp [qb]))
  · have hcn : c = n := by have := h.fit; omega
    have hold : (Builtin.firstCells i0.size n (.slice lo n c)).run Tryd.prog w1.drew = .ok (ints xs).toArray w1.drew := by
      rcases hQ1.row with ⟨rfl, h0⟩ | ⟨b, off, cur, rfl, hb, hoc, hc⟩
      · have : xs = [] := List.eq_nil_of_length_eq_zero (by omega)
        subst this
        exact run_firstCells_none (P := Tryd.prog) w1.drew i0.size n n c
      · refine run_firstCells_some (P := Tryd.prog) w1.drew i0.size n ⟨b, off, none⟩ n c (ints xs) (by rw [hz1, ints_length, hl]; omega) ?_
        intro j v hj
        have hjl : j < xs.length := by have := (List.getElem?_eq_some_iff.1 hj).1; rwa [ints_length] at this
        rw [ints_get xs j hjl] at hj
        rw [Addr.add_lit]
        show w1.cell? _ = _
        rw [cell_of_row _ _ _ _ _ _ hb, hc j (by omega)]
        exact hj
    have hr := run_append_grow_src (P := Tryd.prog) w1 39 39 ty 3 i0 _ Tryd.undIsQ hi hz0 lo n c (ints xs) hold _ 1 _ hsrc (by omega) (by omega) (by rw [hz2]; exact growslice_fits (by omega) (by omega))
    have hG := grownCap_ge w1 (n + 1) c 3
    refine ⟨_, _, _, hr, ⟨by simp [hl], hG, .inr ⟨w1.heap.size, 0, _, rfl, heap_alloc_new w1.drew _, ?_, fun i hi => ?_⟩⟩, ?_, .inr ⟨_, rfl, by show w.heap.size ≤ w1.heap.size; omega⟩⟩
    · simp only [Array.size_append, size_zeroCells, List.size_toArray, List.length_append, ints_length]
      simp [Value.cells]
      omega
    · rw [Nat.zero_add, Array.getElem?_append_left (by simp [ints_length]; omega), List.getElem?_toArray]
      have e : ints xs ++ [.int .i64 x] = ints (xs ++ [x]) := by simp [ints]
      rw [e]
      exact ints_get _ _ (by simp; omega)
    · exact (hF1.mono (by simp)).then ((Fr.drew _ w1).then (Fr.alloc _ w1.drew _))
theorem wpList_appQ {ops : Array Oper} {rest : List Oper} {o : Oper} {a : Act} {Q : Exit → Act → World → Prop} (w : World) (hgd : o.guard = none) (s x : Operand)
    (ho : o.op = .call { callee := .builtin .append, args := #[s, x], argTypes := #[39, 39] }) (lo : Option Addr) (n c : Nat) (xs : List Int) (k : Int) (hs : a.eval s = .slice lo n c) (h : QR w lo n c xs) (hn : n ≤ 65536)
    (hx : a.eval x = .slice (some ⟨w.heap.size, 0, none⟩) 1 1)
    (hK : ∀ lo' c' w', QR w' lo' (n + 1) c' (xs ++ [k]) → Fr (qb lo).toList w w' → (qb lo' = qb lo ∨ ∃ k, qb lo' = some k ∧ w.heap.size ≤ k) → wpList Tryd.prog ops Q rest (a.put o.dst (.slice lo' (n + 1) c')) w') :
    wpList Tryd.prog ops Q (o :: rest) a (w.alloc (.cells #[.int .i64 k] 3)) := by
  refine wpList_plain hgd fun K hK' => ?_
  obtain ⟨lo', c', w', hr, h2, h3, h4⟩ := run_appQ w o.type lo n c xs k h hn
  unfold Oper.wp execOp
  simp only [ho, resolve, invoke, builtin, Sem.run_bind, Sem.run_pure, Result.andThen_ok, List.map_toArray, List.map_cons, List.map_nil, hs, hx, hr]
  exact hK' _ _ (hK lo' c' w' h2 h3 h4)
/-- The document's ring: its struct lies in block q. -/
structure QM (w : World) (q : Nat) (lo : Option Addr) (n c M : Nat) (xs : List Int) (cl : Bool) : Prop where
  box : w.heap[q]? = some (.cells #[.slice lo n c, .int .i64 (M : Int), .bool cl] 48 (0, 0))
  row : QR w lo n c xs
  few : n ≤ M ∧ 1 ≤ M ∧ M ≤ 65536
section
variable {w w' : World} {q n c M : Nat} {lo : Option Addr} {xs : List Int} {cl : Bool}
theorem QM.ne (h : QM w q lo n c M xs cl) : qb lo ≠ some q := by
  intro e
  rcases h.row.row with ⟨rfl, _⟩ | ⟨b, off, cur, rfl, hb, _⟩
  · cases e
  · simp [qb] at e
    subst e
    rw [h.box] at hb
    simp at hb
theorem QM.keep {S : List Nat} (h : QM w q lo n c M xs cl) (hf : Fr S w w') (hq : q ∉ S) (hb : ∀ b, qb lo = some b → b ∉ S) : QM w' q lo n c M xs cl :=
  ⟨hf.keep h.box hq, h.row.keep hf hb, h.few⟩
theorem QM.c0 (h : QM w q lo n c M xs cl) : w.cell? ⟨q, 0, none⟩ = some (.slice lo n c) := by rw [cell_of_row _ _ _ _ _ _ h.box]; rfl
theorem QM.c1 (h : QM w q lo n c M xs cl) : w.cell? ⟨q, 1, none⟩ = some (.int .i64 (M : Int)) := by rw [cell_of_row _ _ _ _ _ _ h.box]; rfl
theorem QM.c2 (h : QM w q lo n c M xs cl) : w.cell? ⟨q, 2, none⟩ = some (.bool cl) := by rw [cell_of_row _ _ _ _ _ _ h.box]; rfl
theorem QM.fz (h : QM w q lo n c M xs cl) (i : Nat) : w.frozen? ⟨q, i, none⟩ = false := by simp [World.frozen?, h.box]
theorem QM.lt (h : QM w q lo n c M xs cl) : q < w.heap.size := lt_of_block h.box
theorem QM.blt (h : QM w q lo n c M xs cl) {b : Nat} (hb : qb lo = some b) : b < w.heap.size := by
  rcases h.row.row with ⟨rfl, _⟩ | ⟨b', off, cur, rfl, hb', _⟩
  · cases hb
  · simp [qb] at hb
    subst hb
    exact lt_of_block hb'
end
theorem qnew_any (k : Int) (w : World) (hc : 1 ≤ k ∧ k ≤ 65536) : Calls Tryd.prog 5 #[.int .i64 k] w fun e w' => ∃ q, e = .returned (.tuple #[.pointer (some ⟨q, 0, none⟩), .int .i64 0]) ∧ w.heap.size ≤ q ∧ QM w' q none 0 0 k.toNat [] false ∧ Fr [] w w' := by
  obtain ⟨h1, h2⟩ := hc
  have HM : Hid (QM (w.alloc (.cells #[.slice none 0 0, .int .i64 k, .bool false] 48)) w.heap.size none 0 0 k.toNat [] false) := by
    refine ⟨?_, ⟨rfl, Nat.le_refl _, .inl ⟨rfl, rfl⟩⟩, by omega, by omega, by omega⟩
    have e : ((k.toNat : Nat) : Int) = k := by omega
    rw [e]
    exact heap_alloc_new w _
  go_enter Tryd.func5, Tryd.ntmps5
  go_wp2
  refine bodyPost_ret (results_tmp2 rfl _ _ _) rfl ?_
  exact ⟨w.heap.size, rfl, Nat.le_refl _, HM.out, Fr.alloc _ _ _⟩
theorem qnew_no (k : Int) (w : World) (hc : k < 1 ∨ 65536 < k) : Calls Tryd.prog 5 #[.int .i64 k] w fun e w' => e = .returned (.tuple #[.pointer none, .int .i64 1]) ∧ w = w' := by
  by_cases h1 : k < 1
  · clear hc
    go_enter Tryd.func5, Tryd.ntmps5
    go_wp2
    refine bodyPost_ret (results_tmp2 rfl _ _ _) rfl ?_
    exact ⟨rfl, rfl⟩
  · have h2 : 65536 < k := by omega
    clear hc
    go_enter Tryd.func5, Tryd.ntmps5
    go_wp2
    refine bodyPost_ret (results_tmp2 rfl _ _ _) rfl ?_
    exact ⟨rfl, rfl⟩
end Go.Proofs.YtgdffhmbhknfcaaDoor

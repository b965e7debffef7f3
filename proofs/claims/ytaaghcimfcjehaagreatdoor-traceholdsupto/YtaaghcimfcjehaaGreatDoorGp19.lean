/- Texts of this claim laid together, one behind the other: contracts and plain lemmas; conditions as each names them. -/
import Derived.Test.YtaaghcimfcjehaaGreatDoorGp4
import Derived.Deep.AppendSrc
import Derived.Deep.RegionHeld3
import Derived.WalkSpells
import Derived.OwnWalk
import Derived.Laws.CopyOwn
/- A slice of numbers that is cut at its head and appended to, one or several at a time. Conditions as each names them. -/
namespace Go.Proofs.YtaaghcimfcjehaaGreatDoor
open Go.ChangeShapes Go.WideShapes Go.ChangeAt Go.RowKit Go.Lib
set_option linter.unusedVariables false
set_option linter.unusedSimpArgs false

theorem ints_get (xs : List Int) (j : Nat) (h : j < xs.length) : (ints xs)[j]? = some (.int .i64 (xs.getD j 0)) := by simp [ints, List.getD, h]
theorem ints_one (xs : List Int) : ∀ u ∈ ints xs, u.oneCell' = true := by
  intro u hu
  obtain ⟨_, _, rfl⟩ := List.mem_map.1 hu
  rfl
/-- The slice reads as the numbers xs; its room lies in its block. -/
structure QR (w : World) (lo : Option Addr) (n c : Nat) (xs : List Int) : Prop where
  len : n = xs.length
  fit : n ≤ c
  row : (lo = none ∧ c = 0) ∨ ∃ b off cur, lo = some ⟨b, off, none⟩ ∧ w.heap[b]? = some (.cells cur 3 (0, 0)) ∧ off + c ≤ cur.size ∧ ∀ j v, (ints xs)[j]? = some v → cur[off + j]? = some v
/-- Its block. -/
def qb (lo : Option Addr) : Option Nat := lo.map fun a => a.block
theorem QR.nil (w : World) : QR w none 0 0 [] := ⟨rfl, Nat.le_refl _, .inl ⟨rfl, rfl⟩⟩
theorem QR.keep {S : List Nat} {w w' : World} {lo : Option Addr} {n c : Nat} {xs : List Int} (h : QR w lo n c xs) (hf : Fr S w w') (hn : ∀ b, qb lo = some b → b ∉ S) : QR w' lo n c xs := by
  refine ⟨h.len, h.fit, ?_⟩
  rcases h.row with h | ⟨b, off, cur, rfl, hb, h⟩
  · exact .inl h
  · exact .inr ⟨b, off, cur, rfl, hf.keep hb (hn b rfl), h⟩
theorem QR.blk {w : World} {lo : Option Addr} {n c : Nat} {xs : List Int} (h : QR w lo n c xs) {b : Nat} (hb : qb lo = some b) : ∃ cur, w.heap[b]? = some (.cells cur 3 (0, 0)) := by
  rcases h.row with ⟨rfl, h0⟩ | ⟨b, off, cur, rfl, hb', _, hc⟩
  · cases hb
  · cases hb; exact ⟨cur, hb'⟩
theorem QR.lt {w : World} {lo : Option Addr} {n c : Nat} {xs : List Int} (h : QR w lo n c xs) {b : Nat} (hb : qb lo = some b) : b < w.heap.size := by
  obtain ⟨cur, hc⟩ := h.blk hb
  exact lt_of_block hc
theorem QR.of_own {base : Nat} {w : World} {o : Option Addr} {n c : Nat} {xs : List Int} (h : IOw base w o n c xs) : QR w o n c xs := by
  refine ⟨h.len, h.cap, ?_⟩
  rcases h.row.2 with ⟨hh, h0⟩ | ⟨g, cap, cur, hh, hb', hg, hc, hs, _, ht⟩
  · cases hh; exact .inl ⟨rfl, rfl⟩
  · cases hh
    refine .inr ⟨g, 0, cur, rfl, hg, by omega, fun j v hj => ?_⟩
    have hN := h.len
    have hjl := (List.getElem?_eq_some_iff.1 hj).1
    rw [ints_length] at hjl
    rw [Nat.zero_add, ← Array.getElem?_toList]
    have h1 : (cur.toList.take (n * 1))[j]? = (ints xs)[j]? := by rw [ht]
    rw [List.getElem?_take_of_lt (by omega)] at h1
    rw [h1]
    exact hj
/-- The first one lies at its head; what is left behind it. -/
theorem QR.first {w : World} {lo : Option Addr} {n c : Nat} {x : Int} {xs : List Int} (h : QR w lo n c (x :: xs)) : ∃ b off, lo = some ⟨b, off, none⟩ ∧ w.cell? ⟨b, off, none⟩ = some (.int .i64 x) ∧ 0 < c ∧ n = xs.length + 1 ∧ ∀ so, so = (if c = 1 then some ⟨b, off, none⟩ else some ⟨b, off + 1, none⟩) → QR w so (n - 1) (c - 1) xs ∧ qb so = qb lo := by
  have hl := h.len
  have hf := h.fit
  simp only [List.length_cons] at hl
  rcases h.row with ⟨_, h0⟩ | ⟨b, off, cur, rfl, hb, hoc, hc⟩
  · omega
  · refine ⟨b, off, rfl, ?_, by omega, hl, ?_⟩
    · rw [cell_of_row _ _ _ _ _ _ hb]
      simpa using hc 0 (.int .i64 x) (by simp [ints])
    · rintro so rfl
      by_cases h1 : c = 1
      · rw [if_pos h1]
        have : xs = [] := List.eq_nil_of_length_eq_zero (by omega)
        subst this
        exact ⟨⟨by simp at hl; simp; omega, by omega, .inr ⟨b, off, cur, rfl, hb, by omega, fun j v hj => by simp [ints] at hj⟩⟩, rfl⟩
      · rw [if_neg h1]
        refine ⟨⟨by omega, by omega, .inr ⟨b, off + 1, cur, rfl, hb, by omega, fun j v hj => ?_⟩⟩, rfl⟩
        rw [Nat.add_assoc, Nat.add_comm 1 j]
        exact hc (j + 1) v (by simpa [ints] using hj)
theorem Tryz.undIsQ : Tryz.prog.underlying 25 = some (.slice 3) := by kernel_rfl
theorem qrow_setCell {w : World} {b j : Nat} {cs : Array Value} {t : TypeId} (x : Value) (h : w.heap[b]? = some (.cells cs t (0, 0))) : (w.setCell ⟨b, j, none⟩ x).heap[b]? = some (.cells (cs.setIfInBounds j x) t (0, 0)) := by
  have hlt := lt_of_block h
  have h' : w.heap[b] = .cells cs t (0, 0) := by simpa [Array.getElem?_eq_getElem hlt] using h
  show (w.heap.modify b _)[b]? = _
  rw [Array.getElem?_eq_getElem (by simpa using hlt), Array.getElem_modify_self, h']
  rfl
theorem setCells_row {b : Nat} {t : TypeId} : ∀ (vs : List Value) (o : Nat) (w : World) (cur : Array Value), w.heap[b]? = some (.cells cur t (0, 0)) → o + vs.length ≤ cur.size → (w.setCells b o vs).heap[b]? = some (.cells (splice cur.toList o vs).toArray t (0, 0)) ∧ Fr [b] w (w.setCells b o vs)
  | [], o, w, cur, h, hl => by
    refine ⟨?_, Fr.refl _ _⟩
    rw [World.setCells, h]
    simp [splice]
  | v :: r, o, w, cur, h, hl => by
    simp only [List.length_cons] at hl
    have h1 := qrow_setCell (j := o) v h
    obtain ⟨h2, h3⟩ := setCells_row r (o + 1) (w.setCell ⟨b, o, none⟩ v) _ h1 (by simp; omega)
    rw [World.setCells]
    refine ⟨?_, (Fr.set (S := [b]) _ _ _ (by simp)).then h3⟩
    rw [h2]
    congr 3
    have e := list_seg_step cur.toList o v r (by simp; omega)
    simp only [splice, Array.toList_setIfInBounds]
    rw [← List.append_assoc, e]
    simp [Nat.add_assoc, Nat.add_comm 1]
/-- More behind it. -/
theorem run_appQs (w : World) (ty : TypeId) (lo : Option Addr) (n c : Nat) (xs : List Int) (v : Value) (m : Nat) (ys : List Int) (h : QR w lo n c xs) (hm : m = ys.length) (hsrc : Src Tryz.prog 1 25 v m (ints ys) w) (hn : n + m ≤ 2199023255552) :
    ∃ lo' c' w', (Builtin.append_ #[25, 25] ty #[.slice lo n c, v]).run Tryz.prog w = .ok (.slice lo' (n + m) c') w' ∧ QR w' lo' (n + m) c' (xs ++ ys) ∧ Fr (qb lo).toList w w' ∧ (qb lo' = qb lo ∨ ∃ k, qb lo' = some k ∧ w.heap.size ≤ k) := by
  obtain ⟨i0, hi, hz0, hz1, hz2⟩ := infoI_parts
  have hl := h.len
  have hmx : 2199023255552 ≤ maxLen := by unfold maxLen; omega
  rw [← hz1] at hsrc
  have happ : ints (xs ++ ys) = ints xs ++ ints ys := by simp [ints]
  by_cases hroom : n + m ≤ c
  · rcases h.row with ⟨rfl, h0⟩ | ⟨b, off, cur, rfl, hb, hoc, hc⟩
    · obtain rfl : n = 0 := by omega
      obtain rfl : m = 0 := by omega
      obtain rfl : ys = [] := List.eq_nil_of_length_eq_zero hm.symm
      obtain rfl : xs = [] := List.eq_nil_of_length_eq_zero hl.symm
      subst h0
      have hr : (Builtin.append_ #[25, 25] ty #[.slice none 0 0, v]).run Tryz.prog w = .ok (.slice none 0 0) w := by
        have hc := hsrc.cells
        rcases hsrc.kind with ⟨e', hk⟩ | hk <;> simp [Builtin.append_, run_underlying Tryz.undIsQ, sizeOf, typeInfo, hi, hsrc.len, hc, storeCells, ints]
      exact ⟨none, 0, w, hr, QR.nil w, Fr.refl _ _, .inl rfl⟩
    · have hr := run_append_room_src (P := Tryz.prog) w 25 25 ty 3 i0 Tryz.undIsQ hi b off n c _ m _ hsrc hroom
        (by intro j hj; rw [ints_length] at hj; rw [hz1, cell_of_row _ _ _ _ _ _ hb]; simp; omega)
        (by intro j hj; simp [World.frozen?, hb])
      rw [hz1, Nat.mul_one] at hr
      have hsz : off + n + (ints ys).length ≤ cur.size := by rw [ints_length]; omega
      obtain ⟨k1, k2⟩ := setCells_row (ints ys) (off + n) w cur hb hsz
      refine ⟨_, c, _, hr, ⟨by simp [hl, hm], hroom, .inr ⟨b, off, _, rfl, k1, ?_, fun j v hj => ?_⟩⟩, k2.mono (by simp [qb]), .inl rfl⟩
      · rw [List.size_toArray, length_splice _ _ _ (by simpa using hsz)]
        simpa using hoc
      · rw [List.getElem?_toArray]
        unfold splice
        rw [happ] at hj
        have hlv : (ints xs).length = n := by rw [ints_length, hl]
        by_cases hjn : j < n
        · rw [List.getElem?_append_left (by omega)] at hj
          have := hc j v hj
          rw [List.getElem?_append_left (by simp; omega), List.getElem?_take_of_lt (by omega)]
          simpa using this
        · rw [List.getElem?_append_right (by omega), hlv] at hj
          have hj9 := (List.getElem?_eq_some_iff.1 hj).1
          rw [List.getElem?_append_right (by simp; omega)]
          have e2 : off + j - (List.take (off + n) cur.toList).length = j - n := by simp; omega
          rw [e2, List.getElem?_append_left hj9]
          exact hj
  · have hold : (Builtin.firstCells i0.size n (.slice lo n c)).run Tryz.prog w.drew = .ok (ints xs).toArray w.drew := by
      rcases h.row with ⟨rfl, h0⟩ | ⟨b, off, cur, rfl, hb, hoc, hc⟩
      · have : xs = [] := List.eq_nil_of_length_eq_zero (by have := h.fit; omega)
        subst this
        exact run_firstCells_none (P := Tryz.prog) w.drew i0.size n n c
      · refine run_firstCells_some (P := Tryz.prog) w.drew i0.size n ⟨b, off, none⟩ n c (ints xs) (by rw [hz1, ints_length, hl]; omega) ?_
        intro j v hj
        rw [Addr.add_lit]
        show w.cell? _ = _
        rw [cell_of_row _ _ _ _ _ _ hb]
        exact hc j v hj
    have hr := run_append_grow_src (P := Tryz.prog) w 25 25 ty 3 i0 _ Tryz.undIsQ hi hz0 lo n c (ints xs) hold _ m _ hsrc (by omega) (by omega) (by rw [hz2]; exact growslice_fits (by omega) (by omega))
    have hG := grownCap_ge w (n + m) c 3
    refine ⟨_, _, _, hr, ⟨by simp [hl, hm], hG, .inr ⟨w.heap.size, 0, _, rfl, heap_alloc_new w.drew _, ?_, fun j v hj => ?_⟩⟩, ?_, .inr ⟨_, rfl, Nat.le_refl _⟩⟩
    · simp only [Array.size_append, size_zeroCells, List.size_toArray, List.length_append, ints_length]
      simp [Value.cells]
      omega
    · have hjl := (List.getElem?_eq_some_iff.1 hj).1
      rw [Nat.zero_add, Array.getElem?_append_left (by rw [List.size_toArray, ← happ]; exact hjl), List.getElem?_toArray, ← happ]
      exact hj
    · exact (Fr.drew _ w).then (Fr.alloc _ w.drew _)
theorem srcQ1 (w : World) (x : Int) : Src Tryz.prog 1 25 (.slice (some ⟨w.heap.size, 0, none⟩) 1 1) 1 (ints [x]) (w.alloc (.cells #[.int .i64 x] 3)) := by
  refine Src.ofSlice _ Tryz.undIsQ _ 1 1 _ (by rfl) ?_ (ints_one _)
  intro j u hu
  have hr := heap_alloc_new w (.cells #[.int .i64 x] 3)
  rw [Addr.add_lit, cell_of_row _ _ _ _ _ _ hr, Nat.zero_add]
  simpa [ints] using hu
/-- One more behind it. -/
theorem run_appQ1 (w : World) (ty : TypeId) (lo : Option Addr) (n c : Nat) (xs : List Int) (x : Int) (h : QR w lo n c xs) (hn : n ≤ 1099511627776) :
    ∃ lo' c' w', (Builtin.append_ #[25, 25] ty #[.slice lo n c, .slice (some ⟨w.heap.size, 0, none⟩) 1 1]).run Tryz.prog (w.alloc (.cells #[.int .i64 x] 3)) = .ok (.slice lo' (n + 1) c') w' ∧ QR w' lo' (n + 1) c' (xs ++ [x]) ∧ Fr (qb lo).toList w w' ∧ (qb lo' = qb lo ∨ ∃ k, qb lo' = some k ∧ w.heap.size ≤ k) := by
  obtain ⟨lo', c', w', h1, h2, h3, h4⟩ := run_appQs (w.alloc (.cells #[.int .i64 x] 3)) ty lo n c xs _ 1 [x] (h.keep (Fr.alloc [] w _) (by simp)) rfl (srcQ1 w x) (by omega)
  refine ⟨lo', c', w', h1, h2, (Fr.alloc _ w _).then h3, ?_⟩
  rcases h4 with h4 | ⟨k, h4, h5⟩
  · exact Or.inl h4
  · exact Or.inr ⟨k, h4, Nat.le_trans (Fr.alloc [] w (.cells #[.int .i64 x] 3)).size h5⟩
theorem wpList_appQ1 {ops : Array Oper} {rest : List Oper} {o : Oper} {a : Act} {Q : Exit → Act → World → Prop} (w : World) (hgd : o.guard = none) (s x : Operand)
    (ho : o.op = .call { callee := .builtin .append, args := #[s, x], argTypes := #[25, 25] }) (lo : Option Addr) (n c : Nat) (xs : List Int) (k : Int) (hs : a.eval s = .slice lo n c) (h : QR w lo n c xs) (hn : n ≤ 1099511627776)
    (hx : a.eval x = .slice (some ⟨w.heap.size, 0, none⟩) 1 1)
    (hK : ∀ lo' c' w', QR w' lo' (n + 1) c' (xs ++ [k]) → Fr (qb lo).toList w w' → (qb lo' = qb lo ∨ ∃ k, qb lo' = some k ∧ w.heap.size ≤ k) → wpList Tryz.prog ops Q rest (a.put o.dst (.slice lo' (n + 1) c')) w') :
    wpList Tryz.prog ops Q (o :: rest) a (w.alloc (.cells #[.int .i64 k] 3)) := by
  refine wpList_plain hgd fun K hK' => ?_
  obtain ⟨lo', c', w', hr, h2, h3, h4⟩ := run_appQ1 w o.type lo n c xs k h hn
  unfold Oper.wp execOp
  simp only [ho, resolve, invoke, builtin, Sem.run_bind, Sem.run_pure, Result.andThen_ok, List.map_toArray, List.map_cons, List.map_nil, hs, hx, hr]
  exact hK' _ _ (hK lo' c' w' h2 h3 h4)
theorem step_appQ1 {ops : Array Oper} {o : Oper} {a : Act} {K : Act → World → Prop} {Q : Exit → Act → World → Prop} {E : Prop} (w : World) (hgd : o.guard = none) (s x : Operand)
    (ho : o.op = .call { callee := .builtin .append, args := #[s, x], argTypes := #[25, 25] }) (lo : Option Addr) (n c : Nat) (xs : List Int) (k : Int) (hs : a.eval s = .slice lo n c) (h : QR w lo n c xs) (hn : n ≤ 1099511627776)
    (hx : a.eval x = .slice (some ⟨w.heap.size, 0, none⟩) 1 1)
    (hK : ∀ lo' c' w', QR w' lo' (n + 1) c' (xs ++ [k]) → Fr (qb lo).toList w w' → (qb lo' = qb lo ∨ ∃ k, qb lo' = some k ∧ w.heap.size ≤ k) → K (a.put o.dst (.slice lo' (n + 1) c')) w') :
    if Region.wanted o (yielded ops a.tmps) = true then Oper.wp Tryz.prog o a (w.alloc (.cells #[.int .i64 k] 3)) K Q else E := by
  have hw : Region.wanted o (yielded ops a.tmps) = true := by simp [Region.wanted, hgd]
  rw [if_pos hw]
  obtain ⟨lo', c', w', hr, h2, h3, h4⟩ := run_appQ1 w o.type lo n c xs k h hn
  unfold Oper.wp execOp
  simp only [ho, resolve, invoke, builtin, Sem.run_bind, Sem.run_pure, Result.andThen_ok, List.map_toArray, List.map_cons, List.map_nil, hs, hx, hr]
  exact hK lo' c' w' h2 h3 h4
/-- A row of numbers that can be read, as what is put behind. -/
theorem srcQs {w : World} {lo : Option Addr} {n c : Nat} {ys : List Int} (h : QR w lo n c ys) : Src Tryz.prog 1 25 (.slice lo n c) n (ints ys) w := by
  rcases h.row with ⟨rfl, h0⟩ | ⟨b, off, cur, rfl, hb, hoc, hc⟩
  · have hn : n = 0 := by have := h.fit; omega
    subst hn
    have : ys = [] := List.eq_nil_of_length_eq_zero h.len.symm
    subst this
    exact Src.ofNil _ Tryz.undIsQ c
  · refine Src.ofSlice _ Tryz.undIsQ _ n c _ (by rw [ints_length, ← h.len]; omega) ?_ (ints_one _)
    intro j u hu
    rw [Addr.add_lit, cell_of_row _ _ _ _ _ _ hb]
    exact hc j u hu
theorem wpList_appQs {ops : Array Oper} {rest : List Oper} {o : Oper} {a : Act} {Q : Exit → Act → World → Prop} (w : World) (hgd : o.guard = none) (s x : Operand)
    (ho : o.op = .call { callee := .builtin .append, args := #[s, x], argTypes := #[25, 25] }) (lo : Option Addr) (n c : Nat) (xs : List Int) (lo2 : Option Addr) (m c2 : Nat) (ys : List Int) (hs : a.eval s = .slice lo n c) (h : QR w lo n c xs) (hx : a.eval x = .slice lo2 m c2) (h2 : QR w lo2 m c2 ys) (hn : n + m ≤ 2199023255552)
    (hK : ∀ lo' c' w', QR w' lo' (n + m) c' (xs ++ ys) → Fr (qb lo).toList w w' → (qb lo' = qb lo ∨ ∃ k, qb lo' = some k ∧ w.heap.size ≤ k) → wpList Tryz.prog ops Q rest (a.put o.dst (.slice lo' (n + m) c')) w') :
    wpList Tryz.prog ops Q (o :: rest) a w := by
  refine wpList_plain hgd fun K hK' => ?_
  obtain ⟨lo', c', w', hr, h2, h3, h4⟩ := run_appQs w o.type lo n c xs _ m ys h h2.len (srcQs h2) hn
  unfold Oper.wp execOp
  simp only [ho, resolve, invoke, builtin, Sem.run_bind, Sem.run_pure, Result.andThen_ok, List.map_toArray, List.map_cons, List.map_nil, hs, hx, hr]
  exact hK' _ _ (hK lo' c' w' h2 h3 h4)
end Go.Proofs.YtaaghcimfcjehaaGreatDoor

/- Texts of this claim laid together, one behind the other: contracts and plain lemmas; conditions as each names them. -/
import Derived.Test.YtomajifklajilaaGreatGp25
import Derived.Deep.AppendSrc
import Derived.Deep.RegionHeld3
import Derived.WalkSpells
import Derived.OwnWalk
import Derived.Test.YtomajifklajilaaGreatGp28
import Derived.Test.YtomajifklajilaaGreatGp26
/- A slice of numbers, and one of requests, that is cut at its head and appended to. Conditions as each names them. -/
namespace Go.Proofs.YtomajifklajilaaGreat
open Go.ChangeShapes Go.WideShapes Go.ChangeAt Go.RowKit Go.Lib
set_option linter.unusedVariables false
set_option linter.unusedSimpArgs false

/-- Numbers as cells. -/
def intsQ (ns : List Int) : List Value := ns.map fun n => Value.int .i64 n
theorem intsQ_length (xs : List Int) : (intsQ xs).length = xs.length := by simp [intsQ]
theorem intsQ_get (xs : List Int) (j : Nat) (h : j < xs.length) : (intsQ xs)[j]? = some (.int .i64 (xs.getD j 0)) := by simp [intsQ, List.getD, h]
theorem intsQ_one (xs : List Int) : ∀ u ∈ intsQ xs, u.oneCell' = true := by
  intro u hu
  obtain ⟨_, _, rfl⟩ := List.mem_map.1 hu
  rfl
/-- The slice reads as the numbers xs; its room lies in its block. -/
structure QR (w : World) (lo : Option Addr) (n c : Nat) (xs : List Int) : Prop where
  len : n = xs.length
  fit : n ≤ c
  row : (lo = none ∧ c = 0) ∨ ∃ b off cur, lo = some ⟨b, off, none⟩ ∧ w.heap[b]? = some (.cells cur 3 (0, 0)) ∧ off + c ≤ cur.size ∧ ∀ i, i < n → cur[off + i]? = some (.int .i64 (xs.getD i 0))
/-- Its block. -/
def qb (lo : Option Addr) : Option Nat := lo.map fun a => a.block
theorem QR.keep {S : List Nat} {w w' : World} {lo : Option Addr} {n c : Nat} {xs : List Int} (h : QR w lo n c xs) (hf : Fr S w w') (hn : ∀ b, qb lo = some b → b ∉ S) : QR w' lo n c xs := by
  refine ⟨h.len, h.fit, ?_⟩
  rcases h.row with h | ⟨b, off, cur, rfl, hb, h⟩
  · exact .inl h
  · exact .inr ⟨b, off, cur, rfl, hf.keep hb (hn b rfl), h⟩
theorem QR.at_ {w : World} {lo : Option Addr} {n c : Nat} {xs : List Int} (h : QR w lo n c xs) {i : Nat} (hi : i < n) : ∃ b off, lo = some ⟨b, off, none⟩ ∧ w.cell? ⟨b, off + i, none⟩ = some (.int .i64 (xs.getD i 0)) := by
  rcases h.row with ⟨_, h0⟩ | ⟨b, off, cur, rfl, hb, _, hc⟩
  · have := h.fit; omega
  · exact ⟨b, off, rfl, by rw [cell_of_row _ _ _ _ _ _ hb]; exact hc i hi⟩
theorem QR.lies {w : World} {lo : Option Addr} {n c : Nat} {xs : List Int} (h : QR w lo n c xs) (h0 : 0 < n) : ∃ b off, lo = some ⟨b, off, none⟩ ∧ ∀ i, i < n → w.cell? ⟨b, off + i, none⟩ = some (.int .i64 (xs.getD i 0)) := by
  obtain ⟨b, off, rfl, _⟩ := h.at_ h0
  refine ⟨b, off, rfl, fun i hi => ?_⟩
  obtain ⟨b', off', e, hc⟩ := h.at_ hi
  cases e
  exact hc
theorem Tryz.undIsQ : Tryz.prog.underlying 34 = some (.slice 3) := by kernel_rfl
theorem Tryz.infoIQ : (Tryz.prog.info? 3).map (fun i => (i.zero, i.size, i.bytes)) = some (some (.int .i64 0), 1, 8) := by kernel_rfl
theorem infoIQ_parts : ∃ i, Tryz.prog.info? 3 = some i ∧ i.zero = some (.int .i64 0) ∧ i.size = 1 ∧ i.bytes = 8 := by
  have h := Tryz.infoIQ
  cases hi : Tryz.prog.info? 3 with
  | none => rw [hi] at h; cases h
  | some i =>
    rw [hi] at h
    simp only [Option.map_some, Option.some.injEq, Prod.mk.injEq] at h
    exact ⟨i, rfl, h.1, h.2.1, h.2.2⟩
theorem qgetD_snoc (xs : List Int) (x : Int) (j : Nat) : (xs ++ [x]).getD j 0 = if j < xs.length then xs.getD j 0 else if j = xs.length then x else 0 := by
  simp only [List.getD]
  split
  · rw [List.getElem?_append_left (by assumption)]
  · rw [List.getElem?_append_right (by omega)]
    split
    · subst_vars; simp
    · rw [List.getElem?_eq_none (by simp; omega)]; rfl
/-- One more behind it. -/
theorem run_appQ (w : World) (ty : TypeId) (lo : Option Addr) (n c : Nat) (xs : List Int) (x : Int) (h : QR w lo n c xs) (hn : n ≤ 65536) :
    ∃ lo' c' w', (Builtin.append_ #[34, 34] ty #[.slice lo n c, .slice (some ⟨w.heap.size, 0, none⟩) 1 1]).run Tryz.prog (w.alloc (.cells #[.int .i64 x] 3)) = .ok (.slice lo' (n + 1) c') w' ∧ QR w' lo' (n + 1) c' (xs ++ [x]) ∧ Fr (qb lo).toList w w' ∧ (qb lo' = qb lo ∨ ∃ k, qb lo' = some k ∧ w.heap.size ≤ k) := by
  obtain ⟨i0, hi, hz0, hz1, hz2⟩ := infoIQ_parts
  have hl := h.len
  have hmx : 65537 ≤ maxLen := by unfold maxLen; omega
  obtain ⟨w1, hw1⟩ : ∃ w1, w1 = w.alloc (.cells #[.int .i64 x] 3) := ⟨_, rfl⟩
  have hs1 : w1.heap.size = w.heap.size + 1 := by rw [hw1]; simp
  have hF1 : Fr [] w w1 := by rw [hw1]; exact Fr.alloc _ _ _
  have hQ1 : QR w1 lo n c xs := h.keep hF1 (by simp)
  have hsrc : Src Tryz.prog i0.size 34 (.slice (some ⟨w.heap.size, 0, none⟩) 1 1) 1 [.int .i64 x] w1 := by
    refine Src.ofSlice w1 Tryz.undIsQ _ 1 1 _ (by rw [hz1]; rfl) ?_ (by intro u hu; simp at hu; subst hu; rfl)
    intro j u hu
    have hr := heap_alloc_new w (.cells #[.int .i64 x] 3)
    rw [hw1, Addr.add_lit, cell_of_row _ _ _ _ _ _ hr, Nat.zero_add]
    simpa using hu
  rw [← hw1]
  by_cases hroom : n + 1 ≤ c
  · rcases hQ1.row with ⟨_, h0⟩ | ⟨b, off, cur, rfl, hb, hoc, hc⟩
    · omega
    · have hr := run_append_room_src (P := Tryz.prog) w1 34 34 ty 3 i0 Tryz.undIsQ hi b off n c _ 1 _ hsrc hroom
        (by intro j hj; simp at hj; subst hj; rw [hz1, cell_of_row _ _ _ _ _ _ hb]; simp; omega)
        (by intro j hj; simp [World.frozen?, hb])
      rw [hz1, Nat.mul_one] at hr
      refine ⟨_, c, _, hr, ⟨by simp [hl], hroom, .inr ⟨b, off, cur.setIfInBounds (off + n) (.int .i64 x), rfl, ?_, by simpa using hoc, fun i hi => ?_⟩⟩, ?_, .inl rfl⟩
      · show (w1.setCell ⟨b, off + n, none⟩ (.int .i64 x)).heap[b]? = _
        exact qrow_setCell _ hb
      · rw [qgetD_snoc, ← hl]
        by_cases hin : i < n
        · rw [if_pos hin, Array.getElem?_setIfInBounds_ne (by omega)]
          exact hc i hin
        · obtain rfl : i = n := by omega
          rw [if_neg hin, if_pos rfl, Array.getElem?_setIfInBounds_self_of_lt (by omega)]
      · show Fr _ w (w1.setCell ⟨b, off + n, none⟩ (.int .i64 x))
        exact (hF1.mono (by simp)).then (Fr.set _ _ _ (by simp [qb]))
  · have hcn : c = n := by have := h.fit; omega
    have hold : (Builtin.firstCells i0.size n (.slice lo n c)).run Tryz.prog w1.drew = .ok (intsQ xs).toArray w1.drew := by
      rcases hQ1.row with ⟨rfl, h0⟩ | ⟨b, off, cur, rfl, hb, hoc, hc⟩
      · have : xs = [] := List.eq_nil_of_length_eq_zero (by omega)
        subst this
        exact run_firstCells_none (P := Tryz.prog) w1.drew i0.size n n c
      · refine run_firstCells_some (P := Tryz.prog) w1.drew i0.size n ⟨b, off, none⟩ n c (intsQ xs) (by rw [hz1, intsQ_length, hl]; omega) ?_
        intro j v hj
        have hjl : j < xs.length := by have := (List.getElem?_eq_some_iff.1 hj).1; rwa [intsQ_length] at this
        rw [intsQ_get xs j hjl] at hj
        rw [Addr.add_lit]
        show w1.cell? _ = _
        rw [cell_of_row _ _ _ _ _ _ hb, hc j (by omega)]
        exact hj
    have hr := run_append_grow_src (P := Tryz.prog) w1 34 34 ty 3 i0 _ Tryz.undIsQ hi hz0 lo n c (intsQ xs) hold _ 1 _ hsrc (by omega) (by omega) (by rw [hz2]; exact growslice_fits (by omega) (by omega))
    have hG := grownCap_ge w1 (n + 1) c 3
    refine ⟨_, _, _, hr, ⟨by simp [hl], hG, .inr ⟨w1.heap.size, 0, _, rfl, heap_alloc_new w1.drew _, ?_, fun i hi => ?_⟩⟩, ?_, .inr ⟨_, rfl, by show w.heap.size ≤ w1.heap.size; omega⟩⟩
    · simp only [Array.size_append, size_zeroCells, List.size_toArray, List.length_append, intsQ_length]
      simp [Value.cells]
      omega
    · rw [Nat.zero_add, Array.getElem?_append_left (by simp [intsQ_length]; omega), List.getElem?_toArray]
      have e : intsQ xs ++ [.int .i64 x] = intsQ (xs ++ [x]) := by simp [intsQ]
      rw [e]
      exact intsQ_get _ _ (by simp; omega)
    · exact (hF1.mono (by simp)).then ((Fr.drew _ w1).then (Fr.alloc _ w1.drew _))
theorem wpList_appQ {ops : Array Oper} {rest : List Oper} {o : Oper} {a : Act} {Q : Exit → Act → World → Prop} (w : World) (hgd : o.guard = none) (s x : Operand)
    (ho : o.op = .call { callee := .builtin .append, args := #[s, x], argTypes := #[34, 34] }) (lo : Option Addr) (n c : Nat) (xs : List Int) (k : Int) (hs : a.eval s = .slice lo n c) (h : QR w lo n c xs) (hn : n ≤ 65536)
    (hx : a.eval x = .slice (some ⟨w.heap.size, 0, none⟩) 1 1)
    (hK : ∀ lo' c' w', QR w' lo' (n + 1) c' (xs ++ [k]) → Fr (qb lo).toList w w' → (qb lo' = qb lo ∨ ∃ k, qb lo' = some k ∧ w.heap.size ≤ k) → wpList Tryz.prog ops Q rest (a.put o.dst (.slice lo' (n + 1) c')) w') :
    wpList Tryz.prog ops Q (o :: rest) a (w.alloc (.cells #[.int .i64 k] 3)) := by
  refine wpList_plain hgd fun K hK' => ?_
  obtain ⟨lo', c', w', hr, h2, h3, h4⟩ := run_appQ w o.type lo n c xs k h hn
  unfold Oper.wp execOp
  simp only [ho, resolve, invoke, builtin, Sem.run_bind, Sem.run_pure, Result.andThen_ok, List.map_toArray, List.map_cons, List.map_nil, hs, hx, hr]
  exact hK' _ _ (hK lo' c' w' h2 h3 h4)

/-- The slice reads as the requests xs; its room lies in its block. -/
structure QV (w : World) (lo : Option Addr) (n c : Nat) (xs : List Rv) : Prop where
  len : n = xs.length
  fit : n ≤ c
  row : (lo = none ∧ c = 0) ∨ ∃ b off cur, lo = some ⟨b, off, none⟩ ∧ w.heap[b]? = some (.cells cur 36 (0, 0)) ∧ off + 9 * c ≤ cur.size ∧ ∀ j v, (vals xs)[j]? = some v → cur[off + j]? = some v
theorem QV.keep {S : List Nat} {w w' : World} {lo : Option Addr} {n c : Nat} {xs : List Rv} (h : QV w lo n c xs) (hf : Fr S w w') (hn : ∀ b, qb lo = some b → b ∉ S) : QV w' lo n c xs := by
  refine ⟨h.len, h.fit, ?_⟩
  rcases h.row with h | ⟨b, off, cur, rfl, hb, h⟩
  · exact .inl h
  · exact .inr ⟨b, off, cur, rfl, hf.keep hb (hn b rfl), h⟩
theorem QV.blk {w : World} {lo : Option Addr} {n c : Nat} {xs : List Rv} (h : QV w lo n c xs) {b : Nat} (hb : qb lo = some b) : ∃ cur, w.heap[b]? = some (.cells cur 36 (0, 0)) := by
  rcases h.row with ⟨rfl, h0⟩ | ⟨b, off, cur, rfl, hb', _, hc⟩
  · cases hb
  · cases hb; exact ⟨cur, hb'⟩
/-- The first one lies at its head. -/
theorem QV.first {w : World} {lo : Option Addr} {n c : Nat} {x : Rv} {xs : List Rv} (h : QV w lo n c (x :: xs)) : ∃ b off, lo = some ⟨b, off, none⟩ ∧ w.rangeAt b off x.cs ∧ QV w (some ⟨b, off + 9, none⟩) (n - 1) (c - 1) xs := by
  have hl := h.len
  have hf := h.fit
  simp only [List.length_cons] at hl
  rcases h.row with ⟨_, h0⟩ | ⟨b, off, cur, rfl, hb, hoc, hc⟩
  · omega
  · refine ⟨b, off, rfl, fun j v hj => ?_, ⟨by omega, by omega, .inr ⟨b, off + 9, cur, rfl, hb, by omega, fun j v hj => ?_⟩⟩⟩
    · rw [cell_of_row _ _ _ _ _ _ hb]
      refine hc j v ?_
      rw [vals_cons, List.getElem?_append_left (List.getElem?_eq_some_iff.1 hj).1]
      exact hj
    · rw [Nat.add_assoc]
      refine hc (9 + j) v ?_
      rw [vals_cons, List.getElem?_append_right (by rw [Rv.cs_length]; omega), Rv.cs_length, show 9 + j - 9 = j by omega]
      exact hj
/-- One more behind it. -/
theorem run_appV9 (w : World) (ty : TypeId) (lo : Option Addr) (n c : Nat) (xs : List Rv) (x : Rv) (sb : Nat) (h : QV w lo n c xs) (hn : n ≤ 65536) (hs : w.heap[sb]? = some (.cells x.cs.toArray 36 (0, 0))) :
    ∃ lo' c' w', (Builtin.append_ #[76, 76] ty #[.slice lo n c, .slice (some ⟨sb, 0, none⟩) 1 1]).run Tryz.prog w = .ok (.slice lo' (n + 1) c') w' ∧ QV w' lo' (n + 1) c' (xs ++ [x]) ∧ Fr (qb lo).toList w w' ∧ (qb lo' = qb lo ∨ ∃ k, qb lo' = some k ∧ w.heap.size ≤ k) := by
  obtain ⟨i0, hi, hz0, hz1, hz2⟩ := infoReq_parts
  have hl := h.len
  have hmx : 65537 ≤ maxLen := by unfold maxLen; omega
  have hsrc : Src Tryz.prog i0.size 76 (.slice (some ⟨sb, 0, none⟩) 1 1) 1 x.cs w := by
    refine Src.ofSlice w Tryz.undReqs _ 1 1 _ (by rw [hz1]; rfl) ?_ (by intro u hu; exact vals_one [x] u (by rw [vals_cons]; exact List.mem_append_left _ hu))
    intro j u hu
    rw [Addr.add_lit, cell_of_row _ _ _ _ _ _ hs, Nat.zero_add, List.getElem?_toArray]
    exact hu
  by_cases hroom : n + 1 ≤ c
  · rcases h.row with ⟨_, h0⟩ | ⟨b, off, cur, rfl, hb, hoc, hc⟩
    · omega
    · have hlv : (vals xs).length = 9 * n := by rw [vals_length, hl]
      have hr := run_append_room_src (P := Tryz.prog) w 76 76 ty 36 i0 Tryz.undReqs hi b off n c _ 1 _ hsrc hroom
        (by intro j hj; rw [Rv.cs_length] at hj; rw [hz1, cell_of_row _ _ _ _ _ _ hb]; simp; omega)
        (by intro j hj; simp [World.frozen?, hb])
      rw [hz1] at hr
      have hsz : off + n * 9 + x.cs.length ≤ cur.size := by rw [Rv.cs_length]; omega
      obtain ⟨k1, k2⟩ := setCells_row x.cs (off + n * 9) w cur hb hsz
      refine ⟨_, c, _, hr, ⟨by simp [hl], hroom, .inr ⟨b, off, _, rfl, k1, ?_, fun j v hj => ?_⟩⟩, k2.mono (by simp [qb]), .inl rfl⟩
      · rw [List.size_toArray, length_splice _ _ _ (by simpa using hsz)]
        simpa using hoc
      · rw [List.getElem?_toArray]
        unfold splice
        rw [vals_append] at hj
        by_cases hjn : j < 9 * n
        · rw [List.getElem?_append_left (by omega)] at hj
          have := hc j v hj
          rw [List.getElem?_append_left (by simp; omega), List.getElem?_take_of_lt (by omega)]
          simpa using this
        · rw [List.getElem?_append_right (by omega), hlv] at hj
          have e : vals [x] = x.cs := by simp [vals]
          rw [e] at hj
          have hj9 := (List.getElem?_eq_some_iff.1 hj).1
          rw [List.getElem?_append_right (by simp; omega)]
          have e2 : off + j - (List.take (off + n * 9) cur.toList).length = j - 9 * n := by simp; omega
          rw [e2, List.getElem?_append_left hj9]
          exact hj
  · have hcn : c = n := by have := h.fit; omega
    have hold : (Builtin.firstCells i0.size n (.slice lo n c)).run Tryz.prog w.drew = .ok (vals xs).toArray w.drew := by
      rcases h.row with ⟨rfl, h0⟩ | ⟨b, off, cur, rfl, hb, hoc, hc⟩
      · have : xs = [] := List.eq_nil_of_length_eq_zero (by omega)
        subst this
        exact run_firstCells_none (P := Tryz.prog) w.drew i0.size n n c
      · refine run_firstCells_some (P := Tryz.prog) w.drew i0.size n ⟨b, off, none⟩ n c (vals xs) (by rw [hz1, vals_length, hl]; omega) ?_
        intro j v hj
        rw [Addr.add_lit]
        show w.cell? _ = _
        rw [cell_of_row _ _ _ _ _ _ hb]
        exact hc j v hj
    have hr := run_append_grow_src (P := Tryz.prog) w 76 76 ty 36 i0 _ Tryz.undReqs hi hz0 lo n c (vals xs) hold _ 1 _ hsrc (by omega) (by omega) (by rw [hz2]; exact growslice_fits (by omega) (by omega))
    have hG := grownCap_ge w (n + 1) c 36
    refine ⟨_, _, _, hr, ⟨by simp [hl], hG, .inr ⟨w.heap.size, 0, _, rfl, heap_alloc_new w.drew _, ?_, fun j v hj => ?_⟩⟩, ?_, .inr ⟨_, rfl, Nat.le_refl _⟩⟩
    · simp only [Array.size_append, size_zeroCells, List.size_toArray, List.length_append, vals_length, Rv.cs_length]
      simp [Value.cells, Rv.v]
      omega
    · have e : vals xs ++ x.cs = vals (xs ++ [x]) := by rw [vals_append]; simp [vals]
      have hjl := (List.getElem?_eq_some_iff.1 hj).1
      rw [Nat.zero_add, Array.getElem?_append_left (by rw [List.size_toArray, e]; exact hjl), List.getElem?_toArray, e]
      exact hj
    · exact (Fr.drew _ w).then (Fr.alloc _ w.drew _)
end Go.Proofs.YtomajifklajilaaGreat
/- The document's Key, noWrite, Above, May: contracts. Conditions as each names them. -/
namespace Go.Proofs.YtomajifklajilaaGreat
open Go.ChangeShapes Go.WideShapes Go.ChangeAt Go.RowKit Go.Lib
set_option linter.unusedVariables false
set_option linter.unusedSimpArgs false
set_option maxHeartbeats 1000000 in
theorem yokey_any (key : ByteArray) (hk : key.size ≤ 140737488355328) (w : World) : Calls Tryz.prog 82 #[.string key] w fun e w' => e = .returned (.bool (decide (okK9 key))) ∧ w = w' := by
  by_cases h : key.size = 0
  · have hd : decide (okK9 key) = false := decide_eq_false (fun h2 => by have := h2.1; omega)
    rw [hd]
    have h0 : ¬ 0 < (key.size : Int) := by omega
    clear hd
    go_enter Tryz.func82, Tryz.ntmps82
    go_wp2
    all_goals (go_ret; exact ⟨rfl, rfl⟩)
  · have hd : decide (okK9 key) = decide ((key.size : Int) ≤ 64) := by
      rw [Bool.eq_iff_iff, decide_eq_true_eq, decide_eq_true_eq]
      unfold okK9
      omega
    rw [hd]
    have h0 : 0 < (key.size : Int) := by omega
    clear hd
    go_enter Tryz.func82, Tryz.ntmps82
    go_wp2
    all_goals (go_ret; exact ⟨rfl, rfl⟩)
set_option maxHeartbeats 1000000 in
theorem yonowrite_any (k v : ByteArray) (d : Bool) (w : World) : Calls Tryz.prog 83 #[.agg #[.string k, .string v, .bool d]] w fun e w' => e = .returned (.bool (decide (noWr k v d))) ∧ Fr [] w w' := by
  have hq : ∀ W, (binOp .eql 33 (.agg #[.string k, .string v, .bool d]) (.agg #[.string ⟨#[]⟩, .string ⟨#[]⟩, .bool false])).run Tryz.prog W = .ok (.bool (decide (noWr k v d))) W := fun W => by
    rw [wt_eql15, eNil, tl_beq, tl_beq]
    congr 2
    cases d <;> simp [noWr]
  have HF : Hid (Fr [] w (w.alloc (.cells #[.string k, .string v, .bool d] 33))) := Fr.alloc _ _ _
  go_enter Tryz.func83, Tryz.ntmps83
  go_wp2_with fail
  all_goals (go_ret; exact ⟨rfl, HF.out⟩)
set_option maxHeartbeats 2000000 in
set_option maxRecDepth 100000 in
theorem yoabove_any (a : Int) (ao : Option Addr) (L cap : Nat) (ns : List Int) (B : Bool) (w : World) (hI : IRs w ao ns) (hL : L = ns.length) (hB : B = true ↔ Ab a ns) :
    Calls Tryz.prog 84 #[.slice ao L cap, .int .i64 a] w fun e w' => e = .returned (.bool B) ∧ w = w' := by
  have HI : Hid (IRs w ao ns) := hI
  have HL : Hid (L = ns.length) := hL
  have HB : Hid (B = true ↔ Ab a ns) := hB
  have hLm : L ≤ 17592186044416 := by have := hI.few; omega
  clear hI hL hB
  go_enter Tryz.func84, Tryz.ntmps84
  go_wp2_with fail
  go_loopw [1, 5] (fun cc ii wr => ∃ (c : Int) (i : Nat), cc = .int .i64 c ∧ ii = .int .i64 i ∧ i ≤ L ∧ Hid (Ab a ns ↔ Ab c (ns.drop i)) ∧ Hid (w = wr)) (fun _ ii _ => L - (RowKit.intOf ii).toNat)
  case atStart => exact ⟨a, 0, rfl, rfl, Nat.zero_le _, Iff.rfl, rfl⟩
  case round =>
    obtain ⟨c, i, rfl, rfl, hiL, HA, HW⟩ := hrel
    by_cases hi : i < L
    · have hi' : i < ns.length := by rw [← HL.out]; exact hi
      obtain ⟨b, off, rfl, hb, hc⟩ := HI.out.lies (by omega)
      have c0 := hc i hi'
      rw [HW.out] at c0
      have HD : Hid (ns.drop i = ns.getD i 0 :: ns.drop (i + 1)) := drop_getD ns i hi'
      obtain ⟨n, hn⟩ : ∃ n, n = ns.getD i 0 := ⟨_, rfl⟩
      rw [← hn] at c0 HD
      clear hc hb hn
      by_cases h1 : n ≤ c
      · have hN : B = false := by
          cases B with
          | false => rfl
          | true => have := HA.out.1 (HB.out.1 rfl); rw [HD.out] at this; have := this.1; omega
        clear HA HB HD
        subst hN
        go_wp2
        go_ret
        exact ⟨rfl, HW.out⟩
      · by_cases h2 : 65536 < n
        · have hN : B = false := by
            cases B with
            | false => rfl
            | true => have := HA.out.1 (HB.out.1 rfl); rw [HD.out] at this; have := this.2.1; omega
          clear HA HB HD
          subst hN
          go_wp2
          go_ret
          exact ⟨rfl, HW.out⟩
        · have HA2 : Hid (Ab a ns ↔ Ab n (ns.drop (i + 1))) := HA.out.trans (by rw [HD.out]; exact ⟨fun h => h.2.2, fun h => ⟨by omega, by omega, h⟩⟩)
          clear HA HD
          go_wp2_with fail
          go_roundw
          case rel => exact ⟨n, i + 1, rfl, by simp, by omega, HA2, HW⟩
          case measure => simp [RowKit.intOf]; omega
    · have hN : B = true := by
        refine HB.out.2 (HA.out.2 ?_)
        rw [List.drop_of_length_le (by have := HL.out; omega)]
        trivial
      clear HA HB
      subst hN
      go_wp2
      go_ret
      exact ⟨rfl, HW.out⟩
end Go.Proofs.YtomajifklajilaaGreat
/- The document's May: contract. Conditions as each names them. -/
namespace Go.Proofs.YtomajifklajilaaGreat
open Go.ChangeShapes Go.WideShapes Go.ChangeAt Go.RowKit Go.Lib
set_option linter.unusedVariables false
set_option linter.unusedSimpArgs false
section
variable {k f n : Int} {wk wv : ByteArray} {wd : Bool} {key en : ByteArray} {bo : Option Addr} {bl bc : Nat} {ns : List Int}
set_option maxHeartbeats 4000000 in
set_option maxRecDepth 100000 in
theorem yomay_0 (w : World) (KE EE : Bool) (hKE : (key.toList == ([] : List UInt8)) = KE) (hEE : (en.toList == ([] : List UInt8)) = EE) (h1 : f = 0) :
    Calls Tryz.prog 44 #[.agg #[.int .u8 k, .int .i64 f, .int .i64 n, .string wk, .string wv, .bool wd, .string key, .string en, .slice bo bl bc]] w fun e w' => e = .returned (.bool (false)) ∧ Fr [] w w' := by
  have HF : Hid (Fr [] w (w.alloc (.cells #[.int .u8 k, .int .i64 f, .int .i64 n, .string wk, .string wv, .bool wd, .string key, .string en, .slice bo bl bc] 36))) := Fr.alloc _ _ _
  have e0 := eNil
  subst h1
  obtain ⟨M1, hM1⟩ : ∃ M, decide (0 ≤ n) = M := ⟨_, rfl⟩
  obtain ⟨M2, hM2⟩ : ∃ M, decide (n ≤ 65536) = M := ⟨_, rfl⟩
  cases M1 <;> cases M2 <;> cases KE <;> cases EE <;> simp only [decide_eq_true_eq, decide_eq_false_iff_not] at hM1 hM2 <;> (try (exfalso; omega))
  all_goals (
    go_enter Tryz.func44, Tryz.ntmps44
    go_wp2_with (fail))
  all_goals (go_ret; exact ⟨rfl, HF.out⟩)
end
end Go.Proofs.YtomajifklajilaaGreat
/- The document's May: contract. Conditions as each names them. -/
namespace Go.Proofs.YtomajifklajilaaGreat
open Go.ChangeShapes Go.WideShapes Go.ChangeAt Go.RowKit Go.Lib
set_option linter.unusedVariables false
set_option linter.unusedSimpArgs false
section
variable {k f n : Int} {wk wv : ByteArray} {wd : Bool} {key en : ByteArray} {bo : Option Addr} {bl bc : Nat} {ns : List Int}
set_option maxHeartbeats 4000000 in
set_option maxRecDepth 100000 in
theorem yomay_m (w : World) (KE EE : Bool) (hKE : (key.toList == ([] : List UInt8)) = KE) (hEE : (en.toList == ([] : List UInt8)) = EE) (h1 : ¬ f = 0) (h : n < 0 ∨ 65536 < n) (K1 : k = 1 ∨ k = 2 ∨ k = 3 ∨ k = 4 ∨ k = 5) :
    Calls Tryz.prog 44 #[.agg #[.int .u8 k, .int .i64 f, .int .i64 n, .string wk, .string wv, .bool wd, .string key, .string en, .slice bo bl bc]] w fun e w' => e = .returned (.bool (false)) ∧ Fr [] w w' := by
  have HF : Hid (Fr [] w (w.alloc (.cells #[.int .u8 k, .int .i64 f, .int .i64 n, .string wk, .string wv, .bool wd, .string key, .string en, .slice bo bl bc] 36))) := Fr.alloc _ _ _
  have e0 := eNil
  have hBA : (KE = false) ∨ (KE = true ∧ EE = false) ∨ (KE = true ∧ EE = true) := by cases KE <;> cases EE <;> simp
  rcases hBA with rfl | ⟨rfl, rfl⟩ | ⟨rfl, rfl⟩ <;> rcases h with h | h <;> rcases K1 with rfl | rfl | rfl | rfl | rfl <;> (try (by_cases h0 : 0 < f)) <;> skip
  all_goals (
    go_enter Tryz.func44, Tryz.ntmps44
    go_wp2_with (fail))
  all_goals (go_ret; first | exact ⟨rfl, HF.out⟩ | exact ⟨rfl, HF.out.then (Fr.alloc _ _ _)⟩)
end
end Go.Proofs.YtomajifklajilaaGreat
/- The document's May: contract. Conditions as each names them. -/
namespace Go.Proofs.YtomajifklajilaaGreat
open Go.ChangeShapes Go.WideShapes Go.ChangeAt Go.RowKit Go.Lib
set_option linter.unusedVariables false
set_option linter.unusedSimpArgs false
section
variable {k f n : Int} {wk wv : ByteArray} {wd : Bool} {key en : ByteArray} {bo : Option Addr} {bl bc : Nat} {ns : List Int}
set_option maxHeartbeats 4000000 in
set_option maxRecDepth 100000 in
theorem yomay_1 (w : World) (KE EE : Bool) (hKE : (key.toList == ([] : List UInt8)) = KE) (hEE : (en.toList == ([] : List UInt8)) = EE) (h1 : ¬ f = 0) (h2 : 0 ≤ n) (h3 : n ≤ 65536) (NB : Bool) (hNB : decide (bl = 0) = NB) (KB : Bool) (hks : wk.size ≤ 140737488355328) (hvs : wv.size ≤ 140737488355328) (hKB : decide (okK9 wk) = KB) (VE : Bool) (hVE : (wv.toList == ([] : List UInt8)) = VE) :
    Calls Tryz.prog 44 #[.agg #[.int .u8 1, .int .i64 f, .int .i64 n, .string wk, .string wv, .bool wd, .string key, .string en, .slice bo bl bc]] w fun e w' => e = .returned (.bool (KE && EE && NB && decide (0 < f) && decide (0 < n) && (KB && (decide ((wv.size : Int) ≤ 1024) && (VE || !wd))))) ∧ Fr [] w w' := by
  have HF : Hid (Fr [] w (w.alloc (.cells #[.int .u8 1, .int .i64 f, .int .i64 n, .string wk, .string wv, .bool wd, .string key, .string en, .slice bo bl bc] 36))) := Fr.alloc _ _ _
  have e0 := eNil
  have hNB2 : decide ((bl : Int) = 0) = NB := by rw [← hNB, Bool.eq_iff_iff, decide_eq_true_eq, decide_eq_true_eq]; omega
  have hNB3 : ((bl : Int) == 0) = NB := by rw [← hNB2]; rfl
  clear hNB
  have HK : Hid (∀ W, Calls Tryz.prog 82 #[.string wk] W fun e w1 => e = .returned (.bool KB) ∧ W = w1) := fun W => by rw [← hKB]; exact yokey_any wk hks W
  clear hKB
  obtain ⟨zb, HZB⟩ : ∃ z, Hid (z = w.heap.size) := ⟨_, rfl⟩
  have hWA : (¬ 0 < f) ∨ (0 < f ∧ ¬ 1 ≤ n) ∨ (0 < f ∧ 1 ≤ n ∧ KB = false) ∨ (0 < f ∧ 1 ≤ n ∧ KB = true ∧ ¬ (wv.size : Int) ≤ 1024) ∨ (0 < f ∧ 1 ≤ n ∧ KB = true ∧ (wv.size : Int) ≤ 1024 ∧ wd = true ∧ VE = false) ∨ (0 < f ∧ 1 ≤ n ∧ KB = true ∧ (wv.size : Int) ≤ 1024 ∧ wd = true ∧ VE = true) ∨ (0 < f ∧ 1 ≤ n ∧ KB = true ∧ (wv.size : Int) ≤ 1024 ∧ wd = false) := by cases KB <;> cases wd <;> cases VE <;> simp <;> omega
  have hBA : (KE = false) ∨ (KE = true ∧ EE = false) ∨ (KE = true ∧ EE = true) := by cases KE <;> cases EE <;> simp
  rcases hBA with rfl | ⟨rfl, rfl⟩ | ⟨rfl, rfl⟩ <;> rcases hWA with hf1 | ⟨hf1, hn1⟩ | ⟨hf1, hn1, rfl⟩ | ⟨hf1, hn1, rfl, hv1⟩ | ⟨hf1, hn1, rfl, hv1, rfl, rfl⟩ | ⟨hf1, hn1, rfl, hv1, rfl, rfl⟩ | ⟨hf1, hn1, rfl, hv1, rfl⟩ <;> (try cases NB)
  all_goals (
    go_enter Tryz.func44, Tryz.ntmps44
    go_wp2_with (first | (with_reducible refine (HK.out _).mono ?_; rintro e w2 ⟨rfl, rfl⟩)))
  all_goals (go_ret; first | (refine ⟨?_, HF.out.then (Fr.alloc _ _ _)⟩; first | (simp; done) | (simp [*]; done) | (simp [*]; omega)) | (refine ⟨?_, HF.out⟩; first | (simp; done) | (simp [*]; done) | (simp [*]; omega)))
end
end Go.Proofs.YtomajifklajilaaGreat
/- The document's May: contract. Conditions as each names them. -/
namespace Go.Proofs.YtomajifklajilaaGreat
open Go.ChangeShapes Go.WideShapes Go.ChangeAt Go.RowKit Go.Lib
set_option linter.unusedVariables false
set_option linter.unusedSimpArgs false
section
variable {k f n : Int} {wk wv : ByteArray} {wd : Bool} {key en : ByteArray} {bo : Option Addr} {bl bc : Nat} {ns : List Int}
set_option maxHeartbeats 4000000 in
set_option maxRecDepth 100000 in
theorem yomay_2 (w : World) (KE EE : Bool) (hKE : (key.toList == ([] : List UInt8)) = KE) (hEE : (en.toList == ([] : List UInt8)) = EE) (h1 : ¬ f = 0) (h2 : 0 ≤ n) (h3 : n ≤ 65536) (NB : Bool) (hNB : decide (bl = 0) = NB) (NW : Bool) (hNW : decide (noWr wk wv wd) = NW) (KB : Bool) (hks : key.size ≤ 140737488355328) (hKB : decide (okK9 key) = KB) :
    Calls Tryz.prog 44 #[.agg #[.int .u8 2, .int .i64 f, .int .i64 n, .string wk, .string wv, .bool wd, .string key, .string en, .slice bo bl bc]] w fun e w' => e = .returned (.bool (NW && NB && KB && EE)) ∧ Fr [] w w' := by
  have HF : Hid (Fr [] w (w.alloc (.cells #[.int .u8 2, .int .i64 f, .int .i64 n, .string wk, .string wv, .bool wd, .string key, .string en, .slice bo bl bc] 36))) := Fr.alloc _ _ _
  have e0 := eNil
  have hNB2 : decide ((bl : Int) = 0) = NB := by rw [← hNB, Bool.eq_iff_iff, decide_eq_true_eq, decide_eq_true_eq]; omega
  have hNB3 : ((bl : Int) == 0) = NB := by rw [← hNB2]; rfl
  clear hNB
  have HW : Hid (Calls Tryz.prog 83 #[.agg #[.string wk, .string wv, .bool wd]] (w.alloc (.cells #[.int .u8 2, .int .i64 f, .int .i64 n, .string wk, .string wv, .bool wd, .string key, .string en, .slice bo bl bc] 36)) fun e w1 => e = .returned (.bool NW) ∧ Fr [] w w1 ∧ w1.cell? ⟨w.heap.size, 2, none⟩ = some (.int .i64 n) ∧ w1.cell? ⟨w.heap.size, 6, none⟩ = some (.string key) ∧ w1.cell? ⟨w.heap.size, 7, none⟩ = some (.string en) ∧ w1.cell? ⟨w.heap.size, 8, none⟩ = some (.slice bo bl bc)) := by
    refine (yonowrite_any wk wv wd _).mono ?_
    rintro e w1 ⟨rfl, hf⟩
    have hr := hf.keep (heap_alloc_new w (.cells #[.int .u8 2, .int .i64 f, .int .i64 n, .string wk, .string wv, .bool wd, .string key, .string en, .slice bo bl bc] 36)) (by simp)
    rw [hNW]
    refine ⟨rfl, HF.out.then hf, ?_, ?_, ?_, ?_⟩ <;> (rw [cell_of_row _ _ _ _ _ _ hr]; rfl)
  clear hNW
  have HK : Hid (∀ W, Calls Tryz.prog 82 #[.string key] W fun e w1 => e = .returned (.bool KB) ∧ W = w1) := fun W => by rw [← hKB]; exact yokey_any key hks W
  clear hKB
  cases KE <;> cases EE <;> cases NW <;> cases NB <;> cases KB
  all_goals (
    go_enter Tryz.func44, Tryz.ntmps44
    go_wp2_with (first | (with_reducible refine HW.out.mono ?_; rintro e w1 ⟨rfl, hF1, q2, q6, q7, q8⟩) | (with_reducible refine (HK.out _).mono ?_; rintro e w2 ⟨rfl, rfl⟩)))
  all_goals (go_ret; first | exact ⟨by simp, hF1⟩ | exact ⟨by simp, HF.out⟩ | exact ⟨by simp [*], hF1⟩ | exact ⟨by simp [*], HF.out⟩)
end
end Go.Proofs.YtomajifklajilaaGreat
/- The document's May: contract. Conditions as each names them. -/
namespace Go.Proofs.YtomajifklajilaaGreat
open Go.ChangeShapes Go.WideShapes Go.ChangeAt Go.RowKit Go.Lib
set_option linter.unusedVariables false
set_option linter.unusedSimpArgs false
section
variable {k f n : Int} {wk wv : ByteArray} {wd : Bool} {key en : ByteArray} {bo : Option Addr} {bl bc : Nat} {ns : List Int}
set_option maxHeartbeats 4000000 in
set_option maxRecDepth 100000 in
theorem yomay_3 (w : World) (KE EE : Bool) (hKE : (key.toList == ([] : List UInt8)) = KE) (hEE : (en.toList == ([] : List UInt8)) = EE) (h1 : ¬ f = 0) (h2 : 0 ≤ n) (h3 : n ≤ 65536) (NB : Bool) (hNB : decide (bl = 0) = NB) (NW : Bool) (hNW : decide (noWr wk wv wd) = NW) (hks : key.size ≤ 140737488355328) (hes : en.size ≤ 140737488355328) :
    Calls Tryz.prog 44 #[.agg #[.int .u8 3, .int .i64 f, .int .i64 n, .string wk, .string wv, .bool wd, .string key, .string en, .slice bo bl bc]] w fun e w' => e = .returned (.bool (NW && NB && decide ((key.size : Int) ≤ 64) && decide ((en.size : Int) ≤ 64))) ∧ Fr [] w w' := by
  have HF : Hid (Fr [] w (w.alloc (.cells #[.int .u8 3, .int .i64 f, .int .i64 n, .string wk, .string wv, .bool wd, .string key, .string en, .slice bo bl bc] 36))) := Fr.alloc _ _ _
  have e0 := eNil
  have hNB2 : decide ((bl : Int) = 0) = NB := by rw [← hNB, Bool.eq_iff_iff, decide_eq_true_eq, decide_eq_true_eq]; omega
  have hNB3 : ((bl : Int) == 0) = NB := by rw [← hNB2]; rfl
  clear hNB
  have HW : Hid (Calls Tryz.prog 83 #[.agg #[.string wk, .string wv, .bool wd]] (w.alloc (.cells #[.int .u8 3, .int .i64 f, .int .i64 n, .string wk, .string wv, .bool wd, .string key, .string en, .slice bo bl bc] 36)) fun e w1 => e = .returned (.bool NW) ∧ Fr [] w w1 ∧ w1.cell? ⟨w.heap.size, 2, none⟩ = some (.int .i64 n) ∧ w1.cell? ⟨w.heap.size, 6, none⟩ = some (.string key) ∧ w1.cell? ⟨w.heap.size, 7, none⟩ = some (.string en) ∧ w1.cell? ⟨w.heap.size, 8, none⟩ = some (.slice bo bl bc)) := by
    refine (yonowrite_any wk wv wd _).mono ?_
    rintro e w1 ⟨rfl, hf⟩
    have hr := hf.keep (heap_alloc_new w (.cells #[.int .u8 3, .int .i64 f, .int .i64 n, .string wk, .string wv, .bool wd, .string key, .string en, .slice bo bl bc] 36)) (by simp)
    rw [hNW]
    refine ⟨rfl, HF.out.then hf, ?_, ?_, ?_, ?_⟩ <;> (rw [cell_of_row _ _ _ _ _ _ hr]; rfl)
  clear hNW
  have hWA : (NW = false) ∨ (NW = true ∧ ¬ (key.size : Int) ≤ 64) ∨ (NW = true ∧ (key.size : Int) ≤ 64 ∧ ¬ (en.size : Int) ≤ 64) ∨ (NW = true ∧ (key.size : Int) ≤ 64 ∧ (en.size : Int) ≤ 64 ∧ NB = false) ∨ (NW = true ∧ (key.size : Int) ≤ 64 ∧ (en.size : Int) ≤ 64 ∧ NB = true) := by cases NW <;> cases NB <;> simp <;> omega
  have hBA : (KE = false) ∨ (KE = true ∧ EE = false) ∨ (KE = true ∧ EE = true) := by cases KE <;> cases EE <;> simp
  rcases hBA with rfl | ⟨rfl, rfl⟩ | ⟨rfl, rfl⟩ <;> rcases hWA with rfl | ⟨rfl, hk1⟩ | ⟨rfl, hk1, he1⟩ | ⟨rfl, hk1, he1, rfl⟩ | ⟨rfl, hk1, he1, rfl⟩
  all_goals (
    go_enter Tryz.func44, Tryz.ntmps44
    go_wp2_with (first | (with_reducible refine HW.out.mono ?_; rintro e w1 ⟨rfl, hF1, q2, q6, q7, q8⟩)))
  all_goals (go_ret; first | (refine ⟨?_, hF1⟩; first | (simp; done) | (simp [*]; done) | (simp [*]; omega)) | (refine ⟨?_, HF.out⟩; first | (simp; done) | (simp [*]; done) | (simp [*]; omega)))
end
end Go.Proofs.YtomajifklajilaaGreat
/- The document's May: contract. Conditions as each names them. -/
namespace Go.Proofs.YtomajifklajilaaGreat
open Go.ChangeShapes Go.WideShapes Go.ChangeAt Go.RowKit Go.Lib
set_option linter.unusedVariables false
set_option linter.unusedSimpArgs false
section
variable {k f n : Int} {wk wv : ByteArray} {wd : Bool} {key en : ByteArray} {bo : Option Addr} {bl bc : Nat} {ns : List Int}
set_option maxHeartbeats 4000000 in
set_option maxRecDepth 100000 in
theorem yomay_4 (w : World) (KE EE : Bool) (hKE : (key.toList == ([] : List UInt8)) = KE) (hEE : (en.toList == ([] : List UInt8)) = EE) (h1 : ¬ f = 0) (h2 : 0 ≤ n) (h3 : n ≤ 65536) (NB : Bool) (hNB : decide (bl = 0) = NB) (NW : Bool) (hNW : decide (noWr wk wv wd) = NW) :
    Calls Tryz.prog 44 #[.agg #[.int .u8 4, .int .i64 f, .int .i64 n, .string wk, .string wv, .bool wd, .string key, .string en, .slice bo bl bc]] w fun e w' => e = .returned (.bool (NW && (KE && EE) && NB)) ∧ Fr [] w w' := by
  have HF : Hid (Fr [] w (w.alloc (.cells #[.int .u8 4, .int .i64 f, .int .i64 n, .string wk, .string wv, .bool wd, .string key, .string en, .slice bo bl bc] 36))) := Fr.alloc _ _ _
  have e0 := eNil
  have hNB2 : decide ((bl : Int) = 0) = NB := by rw [← hNB, Bool.eq_iff_iff, decide_eq_true_eq, decide_eq_true_eq]; omega
  have hNB3 : ((bl : Int) == 0) = NB := by rw [← hNB2]; rfl
  clear hNB
  have HW : Hid (Calls Tryz.prog 83 #[.agg #[.string wk, .string wv, .bool wd]] (w.alloc (.cells #[.int .u8 4, .int .i64 f, .int .i64 n, .string wk, .string wv, .bool wd, .string key, .string en, .slice bo bl bc] 36)) fun e w1 => e = .returned (.bool NW) ∧ Fr [] w w1 ∧ w1.cell? ⟨w.heap.size, 2, none⟩ = some (.int .i64 n) ∧ w1.cell? ⟨w.heap.size, 6, none⟩ = some (.string key) ∧ w1.cell? ⟨w.heap.size, 7, none⟩ = some (.string en) ∧ w1.cell? ⟨w.heap.size, 8, none⟩ = some (.slice bo bl bc)) := by
    refine (yonowrite_any wk wv wd _).mono ?_
    rintro e w1 ⟨rfl, hf⟩
    have hr := hf.keep (heap_alloc_new w (.cells #[.int .u8 4, .int .i64 f, .int .i64 n, .string wk, .string wv, .bool wd, .string key, .string en, .slice bo bl bc] 36)) (by simp)
    rw [hNW]
    refine ⟨rfl, HF.out.then hf, ?_, ?_, ?_, ?_⟩ <;> (rw [cell_of_row _ _ _ _ _ _ hr]; rfl)
  clear hNW
  cases KE <;> cases EE <;> cases NW <;> cases NB
  all_goals (
    go_enter Tryz.func44, Tryz.ntmps44
    go_wp2_with (first | (with_reducible refine HW.out.mono ?_; rintro e w1 ⟨rfl, hF1, q2, q6, q7, q8⟩)))
  all_goals (go_ret; first | exact ⟨by simp, hF1⟩ | exact ⟨by simp, HF.out⟩ | exact ⟨by simp [*], hF1⟩ | exact ⟨by simp [*], HF.out⟩)
end
end Go.Proofs.YtomajifklajilaaGreat
/- The document's May: contract. Conditions as each names them. -/
namespace Go.Proofs.YtomajifklajilaaGreat
open Go.ChangeShapes Go.WideShapes Go.ChangeAt Go.RowKit Go.Lib
set_option linter.unusedVariables false
set_option linter.unusedSimpArgs false
section
variable {k f n : Int} {wk wv : ByteArray} {wd : Bool} {key en : ByteArray} {bo : Option Addr} {bl bc : Nat} {ns : List Int}
set_option maxHeartbeats 4000000 in
set_option maxRecDepth 100000 in
theorem yomay_5 (w : World) (KE EE : Bool) (hKE : (key.toList == ([] : List UInt8)) = KE) (hEE : (en.toList == ([] : List UInt8)) = EE) (h1 : ¬ f = 0) (h2 : 0 ≤ n) (h3 : n ≤ 65536) (NB : Bool) (hNB : decide (bl = 0) = NB) (NW : Bool) (hNW : decide (noWr wk wv wd) = NW) (RS : Bool) (hI : IRs w bo ns) (hL : bl = ns.length) (hRS : RS = true ↔ Ab n ns) :
    Calls Tryz.prog 44 #[.agg #[.int .u8 5, .int .i64 f, .int .i64 n, .string wk, .string wv, .bool wd, .string key, .string en, .slice bo bl bc]] w fun e w' => e = .returned (.bool (NW && (KE && EE) && RS)) ∧ Fr [] w w' := by
  have HF : Hid (Fr [] w (w.alloc (.cells #[.int .u8 5, .int .i64 f, .int .i64 n, .string wk, .string wv, .bool wd, .string key, .string en, .slice bo bl bc] 36))) := Fr.alloc _ _ _
  have e0 := eNil
  have hNB2 : decide ((bl : Int) = 0) = NB := by rw [← hNB, Bool.eq_iff_iff, decide_eq_true_eq, decide_eq_true_eq]; omega
  have hNB3 : ((bl : Int) == 0) = NB := by rw [← hNB2]; rfl
  clear hNB
  have HW : Hid (Calls Tryz.prog 83 #[.agg #[.string wk, .string wv, .bool wd]] (w.alloc (.cells #[.int .u8 5, .int .i64 f, .int .i64 n, .string wk, .string wv, .bool wd, .string key, .string en, .slice bo bl bc] 36)) fun e w1 => e = .returned (.bool NW) ∧ Fr [] w w1 ∧ w1.cell? ⟨w.heap.size, 2, none⟩ = some (.int .i64 n) ∧ w1.cell? ⟨w.heap.size, 6, none⟩ = some (.string key) ∧ w1.cell? ⟨w.heap.size, 7, none⟩ = some (.string en) ∧ w1.cell? ⟨w.heap.size, 8, none⟩ = some (.slice bo bl bc)) := by
    refine (yonowrite_any wk wv wd _).mono ?_
    rintro e w1 ⟨rfl, hf⟩
    have hr := hf.keep (heap_alloc_new w (.cells #[.int .u8 5, .int .i64 f, .int .i64 n, .string wk, .string wv, .bool wd, .string key, .string en, .slice bo bl bc] 36)) (by simp)
    rw [hNW]
    refine ⟨rfl, HF.out.then hf, ?_, ?_, ?_, ?_⟩ <;> (rw [cell_of_row _ _ _ _ _ _ hr]; rfl)
  clear hNW
  have HRi : Hid (∀ W, Fr [] w W → Calls Tryz.prog 84 #[.slice bo bl bc, .int .i64 n] W fun e w1 => e = .returned (.bool RS) ∧ W = w1) := fun W hf => yoabove_any n bo bl bc ns RS W (hI.keep hf) hL hRS
  clear hI hL hRS
  cases KE <;> cases EE <;> cases NW
  all_goals (
    go_enter Tryz.func44, Tryz.ntmps44
    go_wp2_with (first | (with_reducible refine HW.out.mono ?_; rintro e w1 ⟨rfl, hF1, q2, q6, q7, q8⟩) | (with_reducible refine (HRi.out _ hF1).mono ?_; rintro e w2 ⟨rfl, rfl⟩)))
  all_goals (go_ret; first | exact ⟨by simp, hF1⟩ | exact ⟨by simp, HF.out⟩ | exact ⟨by simp [*], hF1⟩ | exact ⟨by simp [*], HF.out⟩)
end
end Go.Proofs.YtomajifklajilaaGreat
/- The document's May: contract. Conditions as each names them. -/
namespace Go.Proofs.YtomajifklajilaaGreat
open Go.ChangeShapes Go.WideShapes Go.ChangeAt Go.RowKit Go.Lib
set_option linter.unusedVariables false
set_option linter.unusedSimpArgs false
section
variable {k f n : Int} {wk wv : ByteArray} {wd : Bool} {key en : ByteArray} {bo : Option Addr} {bl bc : Nat} {ns : List Int}
set_option maxHeartbeats 4000000 in
set_option maxRecDepth 100000 in
theorem yomay_6 (w : World) (KE EE : Bool) (hKE : (key.toList == ([] : List UInt8)) = KE) (hEE : (en.toList == ([] : List UInt8)) = EE) (h1 : ¬ f = 0) (g1 : ¬ k = 1) (g2 : ¬ k = 2) (g3 : ¬ k = 3) (g4 : ¬ k = 4) (g5 : ¬ k = 5) :
    Calls Tryz.prog 44 #[.agg #[.int .u8 k, .int .i64 f, .int .i64 n, .string wk, .string wv, .bool wd, .string key, .string en, .slice bo bl bc]] w fun e w' => e = .returned (.bool (false)) ∧ Fr [] w w' := by
  have HF : Hid (Fr [] w (w.alloc (.cells #[.int .u8 k, .int .i64 f, .int .i64 n, .string wk, .string wv, .bool wd, .string key, .string en, .slice bo bl bc] 36))) := Fr.alloc _ _ _
  have e0 := eNil
  obtain ⟨M1, hM1⟩ : ∃ M, decide (0 ≤ n) = M := ⟨_, rfl⟩
  obtain ⟨M2, hM2⟩ : ∃ M, decide (n ≤ 65536) = M := ⟨_, rfl⟩
  cases M1 <;> cases M2 <;> cases KE <;> cases EE <;> simp only [decide_eq_true_eq, decide_eq_false_iff_not] at hM1 hM2 <;> (try (exfalso; omega))
  all_goals (
    go_enter Tryz.func44, Tryz.ntmps44
    go_wp2_with (fail))
  all_goals (go_ret; exact ⟨rfl, HF.out⟩)
end
end Go.Proofs.YtomajifklajilaaGreat
/- The document's May: which requests may be. Conditions as each names them. -/
namespace Go.Proofs.YtomajifklajilaaGreat
open Go.ChangeShapes Go.WideShapes Go.ChangeAt Go.RowKit Go.Lib
set_option linter.unusedVariables false
set_option linter.unusedSimpArgs false
theorem yomay_any (x : Rv) (ns : List Int) (B : Bool) (w : World) (h : RqB w x ns) (hB : B = true ↔ okR (x.q ns)) : Calls Tryz.prog 44 #[x.v] w fun e w' => e = .returned (.bool B) ∧ Fr [] w w' := by
  obtain ⟨k, f, n, wk, wv, wd, key, en, bo, bl, bc⟩ := x
  have hlen : bl = ns.length := h.len
  have hI : IRs w bo ns := h.is
  have b1 := h.wk
  have b2 := h.wv
  have b3 := h.key
  have b4 := h.en
  simp only at b1 b2 b3 b4
  have hF : ¬ okR (Rv.q ⟨k, f, n, wk, wv, wd, key, en, bo, bl, bc⟩ ns) → B = false := fun hn => by
    cases B with
    | false => rfl
    | true => exact absurd (hB.1 rfl) hn
  by_cases h1 : f = 0
  · rw [hF (fun h => h.1 h1)]
    exact yomay_0 w _ _ rfl rfl h1
  by_cases g : k = 1 ∨ k = 2 ∨ k = 3 ∨ k = 4 ∨ k = 5
  rotate_left
  · rw [hF (fun h => by
      obtain ⟨_, _, _, h⟩ := h
      simp only [Rv.q] at h
      omega)]
    exact yomay_6 w _ _ rfl rfl h1 (fun e => g (Or.inl e)) (fun e => g (Or.inr (Or.inl e))) (fun e => g (Or.inr (Or.inr (Or.inl e)))) (fun e => g (Or.inr (Or.inr (Or.inr (Or.inl e))))) (fun e => g (Or.inr (Or.inr (Or.inr (Or.inr e)))))
  by_cases h0 : n < 0 ∨ 65536 < n
  · rw [hF (fun h => by
      obtain ⟨_, a2, a3, _⟩ := h
      simp only [Rv.q] at a2 a3
      omega)]
    exact yomay_m w _ _ rfl rfl h1 h0 g
  have h2 : 0 ≤ n := by omega
  have h3 : n ≤ 65536 := by omega
  have hnb : decide (bl = 0) = decide (ns = []) := by
    rw [Bool.eq_iff_iff, decide_eq_true_eq, decide_eq_true_eq, hlen]
    exact List.length_eq_zero_iff
  obtain ⟨RS, hRS⟩ : ∃ RS : Bool, RS = true ↔ Ab n ns := by
    by_cases hh : Ab n ns
    · exact ⟨true, fun _ => hh, fun _ => rfl⟩
    · exact ⟨false, fun e => (by cases e), fun e => absurd e hh⟩
  have fin : ∀ R : Bool, (R = true ↔ okR ⟨k, f, n, wk, wv, wd, key, en, ns⟩) → R = B := fun R hR => by
    rw [Bool.eq_iff_iff, hR]
    exact hB.symm
  have c1 : ∀ s : ByteArray, ((s.size : Int) ≤ 64) = (s.size ≤ 64) := fun s => by rw [eq_iff_iff]; omega
  have c2 : ((wv.size : Int) ≤ 1024) = (wv.size ≤ 1024) := by rw [eq_iff_iff]; omega
  rcases g with rfl | rfl | rfl | rfl | rfl
  · rw [← fin _ ?_]
    · exact yomay_1 w _ _ (tl_beq key) (tl_beq en) h1 h2 h3 _ hnb _ b1 b2 rfl _ (tl_beq wv)
    · simp [okR, okWr, h1, h2, h3, and_assoc, c2]
  · rw [← fin _ ?_]
    · exact yomay_2 w _ _ (tl_beq key) (tl_beq en) h1 h2 h3 _ hnb _ rfl _ b3 rfl
    · simp [okR, h1, h2, h3, and_assoc]
  · rw [← fin _ ?_]
    · exact yomay_3 w _ _ (tl_beq key) (tl_beq en) h1 h2 h3 _ hnb _ rfl b3 b4
    · simp [okR, h1, h2, h3, and_assoc, c1]
  · rw [← fin _ ?_]
    · exact yomay_4 w _ _ (tl_beq key) (tl_beq en) h1 h2 h3 _ hnb _ rfl
    · simp [okR, h1, h2, h3, and_assoc]
  · rw [← fin _ ?_]
    · exact yomay_5 w _ _ (tl_beq key) (tl_beq en) h1 h2 h3 _ hnb _ rfl RS hI hlen hRS
    · simp [okR, hRS, h1, h2, h3, and_assoc]
end Go.Proofs.YtomajifklajilaaGreat
/- The document's owner in memory: its struct, what waits; Len, Room, Ask. Conditions as each names them. -/
namespace Go.Proofs.YtomajifklajilaaGreat
open Go.ChangeShapes Go.WideShapes Go.ChangeAt Go.RowKit Go.Lib Go.Maps
set_option linter.unusedVariables false
set_option linter.unusedSimpArgs false
/-- The document's owner: its struct at yb, its shard s, its room C; xs wait. -/
structure YoM (w : World) (yb : Nat) (s : Option Addr) (C : Nat) (lo : Option Addr) (n c : Nat) (xs : List Rv) : Prop where
  row : w.heap[yb]? = some (.cells #[.pointer s, .int .i64 C, .slice lo n c] 78 (0, 0))
  q : QV w lo n c xs
  ne : qb lo ≠ some yb
  cap : C ≤ 16
  few : n ≤ C
section
variable {w w' : World} {yb C n c : Nat} {s lo : Option Addr} {xs : List Rv}
theorem YoM.keep {S : List Nat} (h : YoM w yb s C lo n c xs) (hf : Fr S w w') (h1 : yb ∉ S) (h2 : ∀ b, qb lo = some b → b ∉ S) : YoM w' yb s C lo n c xs := ⟨hf.keep h.row h1, h.q.keep hf h2, h.ne, h.cap, h.few⟩
theorem YoM.same (h : YoM w yb s C lo n c xs) (hf : Fr [] w w') : YoM w' yb s C lo n c xs := h.keep hf (by simp) (by simp)
theorem YoM.c0 (h : YoM w yb s C lo n c xs) : w.cell? ⟨yb, 0, none⟩ = some (.pointer s) := by rw [cell_of_row _ _ _ _ _ _ h.row]; rfl
theorem YoM.c1 (h : YoM w yb s C lo n c xs) : w.cell? ⟨yb, 1, none⟩ = some (.int .i64 C) := by rw [cell_of_row _ _ _ _ _ _ h.row]; rfl
theorem YoM.c2 (h : YoM w yb s C lo n c xs) : w.cell? ⟨yb, 2, none⟩ = some (.slice lo n c) := by rw [cell_of_row _ _ _ _ _ _ h.row]; rfl
theorem YoM.lt (h : YoM w yb s C lo n c xs) : yb < w.heap.size := lt_of_block h.row
theorem yolen_any (h : YoM w yb s C lo n c xs) : Calls Tryz.prog 21 #[.pointer (some ⟨yb, 0, none⟩)] w fun e w' => e = .returned (.int .i64 n) ∧ w = w' := by
  have c2 := h.c2
  clear h
  go_enter Tryz.func21, Tryz.ntmps21
  go_wp2
  go_ret
  exact ⟨rfl, rfl⟩
theorem yoroom_any (h : YoM w yb s C lo n c xs) : Calls Tryz.prog 23 #[.pointer (some ⟨yb, 0, none⟩)] w fun e w' => e = .returned (.int .i64 ((C : Int) - n)) ∧ Fr [] w w' := by
  have c1 := h.c1
  have c2 := h.c2
  have h1 := h.cap
  have h2 := h.few
  clear h
  go_enter Tryz.func23, Tryz.ntmps23
  go_wp2_with fail
  go_quiet (fail)
  go_wp2
  go_ret
  exact ⟨rfl, Fr.drewN _ _ _⟩
set_option maxHeartbeats 2000000 in
theorem yoask_no (h : YoM w yb s C lo n c xs) (x : Rv) (ns : List Int) (hR : RqB w x ns) (hB : ¬ okR (x.q ns)) : Calls Tryz.prog 18 #[.pointer (some ⟨yb, 0, none⟩), x.v] w fun e w' => e = .returned (.tuple #[.bool false, .int .i64 1]) ∧ Fr [] w w' := by
  have hF0 : Fr [] w (w.alloc (.cells #[.int .u8 x.k, .int .i64 x.f, .int .i64 x.n, .string x.wk, .string x.wv, .bool x.wd, .string x.key, .string x.en, .slice x.bo x.bl x.bc] 36)) := Fr.alloc _ _ _
  have HM : Hid (Calls _ _ _ _ _) := yomay_any x ns false _ (hR.keep hF0) ⟨fun e => (by cases e), fun e => absurd e hB⟩
  have HF0 : Hid (Fr _ _ _) := hF0
  clear h hR hB hF0
  obtain ⟨xk, xf, xn, xa, xb, xd, xc, xe, xo, xl, xm⟩ := x
  simp only [Rv.v] at HM HF0 ⊢
  go_enter Tryz.func18, Tryz.ntmps18
  go_wp2_with fail
  refine Calls.mono HM.out ?_
  rintro e w1 ⟨rfl, hF1⟩
  go_wp2
  go_ret2
  exact ⟨rfl, HF0.out.then hF1⟩
set_option maxHeartbeats 2000000 in
theorem yoask_full (h : YoM w yb s C lo n c xs) (x : Rv) (ns : List Int) (hR : RqB w x ns) (hB : okR (x.q ns)) (hn : C ≤ n) : Calls Tryz.prog 18 #[.pointer (some ⟨yb, 0, none⟩), x.v] w fun e w' => e = .returned (.tuple #[.bool false, .int .i64 0]) ∧ Fr [] w w' := by
  have hF0 : Fr [] w (w.alloc (.cells #[.int .u8 x.k, .int .i64 x.f, .int .i64 x.n, .string x.wk, .string x.wv, .bool x.wd, .string x.key, .string x.en, .slice x.bo x.bl x.bc] 36)) := Fr.alloc _ _ _
  have HM : Hid (Calls _ _ _ _ _) := yomay_any x ns true _ (hR.keep hF0) ⟨fun _ => hB, fun _ => rfl⟩
  have HF0 : Hid (Fr _ _ _) := hF0
  have HY : Hid (∀ W, Fr [] w W → YoM W yb s C lo n c xs) := fun W hf => h.same hf
  have h1 := h.cap
  have h2 := h.few
  clear h hR hB hF0
  obtain ⟨xk, xf, xn, xa, xb, xd, xc, xe, xo, xl, xm⟩ := x
  simp only [Rv.v] at HM HF0 ⊢
  have hd2 : decide (C ≤ n) = true := by simp; omega
  go_enter Tryz.func18, Tryz.ntmps18
  go_wp2_with fail
  refine Calls.mono HM.out ?_
  rintro e w1 ⟨rfl, hF1⟩
  have c1 := (HY.out _ (HF0.out.then hF1)).c1
  have c2 := (HY.out _ (HF0.out.then hF1)).c2
  go_wp2_with fail
  go_quiet (fail)
  go_wp2
  go_ret2
  exact ⟨rfl, (HF0.out.then hF1).then (Fr.drewN _ _ _)⟩
end
end Go.Proofs.YtomajifklajilaaGreat

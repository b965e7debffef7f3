/- Texts of this claim laid together, one behind the other: contracts and plain lemmas; conditions as each names them. -/
import Derived.Test.YtpdkdgmaofhlkaaGreatDoorGp2
import Derived.Test.YtpdkdgmaofhlkaaGreatDoorGp26
import Derived.Test.YtpdkdgmaofhlkaaGreatDoorGp15
import Derived.Test.YtpdkdgmaofhlkaaGreatDoorGp19
import Derived.Shelf.Small.Strs
import Derived.Shelf.Lay
import Derived.Ground.NamesProg
import Derived.Lib.AppendZerosOnto
import Derived.Maps.RangeWalk
/- Comparing texts; rows of things of two cells each as the library's sort has them. Conditions as each names them. -/
namespace Go.Proofs
open Go.Shelf Go.RowKit Go.Lib Go.Sort
shelf_lay Lays.n106 Nm 106 at Tryz as Tryz.strCmp
end Go.Proofs
namespace Go.Proofs.YtpdkdgmaofhlkaaGreatDoor
open Go.ChangeShapes Go.WideShapes Go.ChangeAt Go.RowKit Go.Lib Go.Sort Go.Shelf
set_option linter.unusedVariables false
set_option linter.unusedSimpArgs false
set_option linter.unusedSectionVars false

theorem scmp_any (x y : ByteArray) (W : World) : Calls Tryz.prog 111 #[.string x, .string y] W fun e w' => e = .returned (.int .i64 (Lib.compareBytes x.data.toList y.data.toList)) ∧ W = w' := by
  have hcon := Any.strings_Compare Tryz.strCmp x y W
  change Calls Tryz.prog 111 _ _ _ at hcon
  refine hcon.mono ?_
  rintro e w' ⟨rfl, rfl⟩
  exact ⟨rfl, rfl⟩
section
variable {α : Type} [Inhabited α] (enc : α → List Value)
theorem flat_at (h2 : ∀ x, ∃ a b, enc x = [a, b]) : ∀ (ps : List α) (t : Nat), t < ps.length * 2 → (ps.flatMap enc)[t]? = some ((enc ps[t / 2]!)[t % 2]!)
  | [], t, h => by simp at h
  | p :: ps, 0, h => by obtain ⟨a, b, e⟩ := h2 p; simp [e]
  | p :: ps, 1, h => by obtain ⟨a, b, e⟩ := h2 p; simp [e]
  | p :: ps, (t + 2), h => by
    have ih := flat_at h2 ps t (by simp at h; omega)
    obtain ⟨a, b, e⟩ := h2 p
    have e1 : (t + 2) / 2 = t / 2 + 1 := by omega
    have e2 : (t + 2) % 2 = t % 2 := by omega
    rw [e1, e2]
    have e3 : ((p :: ps).flatMap enc)[t + 2]? = (ps.flatMap enc)[t]? := by simp [e]
    rw [e3, ih]
    simp
theorem flat_len (h2 : ∀ x, ∃ a b, enc x = [a, b]) (ps : List α) : (ps.flatMap enc).length = ps.length * 2 := by
  induction ps with
  | nil => rfl
  | cons p ps ih =>
    obtain ⟨a, b, e⟩ := h2 p
    rw [List.flatMap_cons, List.length_append, ih, e]
    simp
    omega
theorem flat_is (h2 : ∀ x, ∃ a b, enc x = [a, b]) (ps : List α) : flatK enc 2 ps.toArray = (ps.flatMap enc).toArray := by
  apply Array.ext_getElem?
  intro t
  by_cases h : t < ps.length * 2
  · have h1 : t < (flatK enc 2 ps.toArray).size := by rw [size_flatK]; simpa using h
    have h3 := get_flatK enc 2 ps.toArray t (by simpa using h)
    rw [getElem!_pos _ t h1] at h3
    rw [Array.getElem?_eq_getElem h1, h3, List.getElem?_toArray, flat_at enc h2 ps t h]
    simp
  · rw [Array.getElem?_eq_none (by rw [size_flatK]; simp; omega), Array.getElem?_eq_none (by simp [flat_len enc h2]; omega)]
theorem holds_is (h2 : ∀ x, ∃ a b, enc x = [a, b]) {w : World} {g : Nat} {cur : Array Value} {e : TypeId} {ps : List α} (hb : w.heap[g]? = some (.cells cur e (0, 0))) (ht : cur.toList.take (ps.length * 2) = ps.flatMap enc) : HoldsK enc 2 w g 0 ps.toArray := by
  unfold HoldsK
  rw [flat_is enc h2]
  intro j hj
  have hj' : j < ps.length * 2 := by rw [List.size_toArray, flat_len enc h2] at hj; exact hj
  refine ⟨?_, by simp [World.frozen?, hb]⟩
  have h1 : (cur.toList.take (ps.length * 2))[j]? = (ps.flatMap enc)[j]? := by rw [ht]
  rw [List.getElem?_take_of_lt hj'] at h1
  rw [cell_of_row _ _ _ _ _ _ hb, Nat.zero_add, ← Array.getElem?_toList, h1]
  have hl : j < (ps.flatMap enc).length := by rw [flat_len enc h2]; omega
  generalize ps.flatMap enc = q at hl ⊢
  simp [hl]
theorem heap_sorted {w : World} {g n : Nat} {os : Array Obj} {cur : Array Value} {e : TypeId} {fr : Nat × Nat} (d : Array α) (hb : w.heap[g]? = some (.cells cur e fr)) :
    (sortWorldK enc 2 w g 0 n d os).heap[g]? = some (.cells (putCells id 0 (flatK enc 2 d) cur) e fr) := by
  have hg : g < w.heap.size := (Array.getElem?_eq_some_iff.1 hb).1
  unfold sortWorldK putRowK
  rw [heap_grow_old _ _ (by simpa using hg)]
  simp [putRow, mapBlock, Sort.ahead, Array.getElem?_modify, hb, onCells]
theorem grown_sorted {w : World} {g n : Nat} {os : Array Obj} (d : Array α) : w.grownBy (sortWorldK enc 2 w g 0 n d os) (some g) := by
  unfold sortWorldK putRowK
  refine ⟨rfl, rfl, rfl, by simp, fun k hk hne => ?_⟩
  rw [heap_grow_old _ _ (by simpa using hk)]
  have : g ≠ k := fun e => hne (by rw [e])
  simp [putRow, mapBlock, Sort.ahead, Array.getElem?_modify, this]
theorem take_put (cur : Array Value) (vs : List Value) (h : vs.length ≤ cur.size) : (putCells id 0 vs.toArray cur).toList.take vs.length = vs := by
  apply List.ext_getElem?
  intro j
  by_cases hj : j < vs.length
  · rw [List.getElem?_take_of_lt hj, Array.getElem?_toList]
    simp [putCells, hj, show j < cur.size by omega]
  · rw [List.getElem?_take_eq_none (by omega), List.getElem?_eq_none (by omega)]
/-- A cell of another block, in every world that the sort passes through. -/
theorem cell_sorted {w : World} {g kb n : Nat} {os : Array Obj} (d : Array α) {v : Value} (hne : kb ≠ g) (hc : w.cell? ⟨kb, 0, none⟩ = some v) (hlt : kb < w.heap.size) : (sortWorldK enc 2 w g 0 n d os).cell? ⟨kb, 0, none⟩ = some v := by
  have h := Fr.grown (S := [g]) (grown_sorted enc (w := w) (g := g) (n := n) (os := os) d) (by intro k hk _; cases hk; simp)
  exact (World.cell?_of_block (h.block kb hlt (by simpa using hne))).trans hc
/-- A row that the sort has put into order. -/
theorem row_sorted (h2 : ∀ x, ∃ a b, enc x = [a, b]) {w w' : World} {base g cap : Nat} {t : TypeId} {ps qs : List α} {d' : Array α} (h : w.ownsRow base t 2 (.slice (some ⟨g, 0, none⟩) ps.length cap) ps.length (ps.flatMap enc)) (hd : d'.toList = qs) (hz : d'.size = ps.length) (hS : SWK enc 2 w g 0 d' w') :
    w'.ownsRow base t 2 (.slice (some ⟨g, 0, none⟩) ps.length cap) ps.length (qs.flatMap enc) ∧ Fr [g] w w' := by
  obtain ⟨hl, hr⟩ := h
  rcases hr with ⟨hh, _⟩ | ⟨g', cap', cur, hh, hbase, hb, h1, h2', h3, h4⟩
  · cases hh
  cases hh
  obtain ⟨n, os, rfl⟩ := hS
  have hql : qs.length = ps.length := by rw [← hd]; simpa using hz
  refine ⟨⟨?_, .inr ⟨g, cap, _, rfl, hbase, heap_sorted enc d' hb, h1, h2', by simp [putCells, h3], ?_⟩⟩, Fr.grown (grown_sorted enc d') (by intro k hk _; cases hk; simp)⟩
  · rw [flat_len enc h2, hql]
  · have e1 : flatK enc 2 d' = (qs.flatMap enc).toArray := by
      rw [← hd, ← flat_is enc h2]
    have e2 : ps.length * 2 = (qs.flatMap enc).length := by rw [flat_len enc h2, hql]
    rw [e1, e2]
    exact take_put cur _ (by rw [flat_len enc h2, hql, h3]; omega)
end
instance : Inhabited Ey := ⟨Ey.zero⟩
instance : Inhabited Hd := ⟨Hd.zero⟩
theorem eysC_flat : ∀ xs : List Ey, eysC xs = xs.flatMap eyC
  | [] => rfl
  | x :: xs => by rw [eysC, eysC_flat xs, List.flatMap_cons]
theorem hdsC_flat (xs : List Hd) : hdsC xs = xs.flatMap hdC := rfl
end Go.Proofs.YtpdkdgmaofhlkaaGreatDoor
/- Rows of entries read cell by cell; slices.Clone of them. Conditions as each names them. -/
namespace Go.Proofs.YtpdkdgmaofhlkaaGreatDoor
open Go.ChangeShapes Go.WideShapes Go.ChangeAt Go.RowKit Go.Lib
set_option linter.unusedVariables false
set_option linter.unusedSimpArgs false

theorem Tryz.undKE : Tryz.prog.underlying 50 = some (.slice 102) := by kernel_rfl
theorem Tryz.infoKE : (Tryz.prog.info? 102).map (fun i => (i.zero, i.size, i.bytes)) = some (some (.agg #[.string ⟨#[]⟩, .string ⟨#[]⟩]), 2, 32) := by kernel_rfl
theorem infoKE_parts : ∃ i, Tryz.prog.info? 102 = some i ∧ i.zero = some (.agg #[.string ⟨#[]⟩, .string ⟨#[]⟩]) ∧ i.size = 2 ∧ i.bytes = 32 := by
  have h := Tryz.infoKE
  cases hi : Tryz.prog.info? 102 with
  | none => rw [hi] at h; cases h
  | some i =>
    rw [hi] at h
    simp only [Option.map_some, Option.some.injEq, Prod.mk.injEq] at h
    exact ⟨i, rfl, h.1, h.2.1, h.2.2⟩
/-- A row's cells can be read. -/
def RrE (w : World) (ao : Option Addr) (xs : List Ey) : Prop := ∀ (j : Nat) (u : Value), (eysC xs)[j]? = some u → ∃ b off, ao = some ⟨b, off, none⟩ ∧ b < w.heap.size ∧ w.cell? ⟨b, off + j, none⟩ = some u
theorem RrE.nil (w : World) (ao : Option Addr) : RrE w ao [] := fun j u h => by simp [eysC] at h
theorem RrE.keepS {S : List Nat} {w w' : World} {ao : Option Addr} {xs : List Ey} (h : RrE w ao xs) (hf : Fr S w w') (hn : ∀ a, ao = some a → a.block ∉ S) : RrE w' ao xs := fun j u hu => by
  obtain ⟨b, off, e, hb, hc⟩ := h j u hu
  exact ⟨b, off, e, Nat.lt_of_lt_of_le hb hf.size, (World.cell?_of_block (hf.block b hb (hn _ e))).trans hc⟩
theorem RrE.keep {w w' : World} {ao : Option Addr} {xs : List Ey} (h : RrE w ao xs) (hf : Fr [] w w') : RrE w' ao xs := h.keepS hf (by simp)
theorem RrE.of_own {w : World} {base : Nat} {ro : Option Addr} {N rc : Nat} {xs : List Ey} (h : w.ownsRow base 102 2 (.slice ro N rc) N (eysC xs)) (hN : N = xs.length) : RrE w ro xs := fun j u hu => by
  have hj : j < (eysC xs).length := by
    rcases Nat.lt_or_ge j (eysC xs).length with h | h
    · exact h
    · rw [List.getElem?_eq_none h] at hu; cases hu
  rw [eysC_length] at hj
  rcases h.2 with ⟨hv, h0⟩ | ⟨g, cap, cur, hv, _, hg, _, _, _, ht⟩
  · omega
  · cases hv
    refine ⟨g, 0, rfl, lt_of_block hg, ?_⟩
    rw [cell_of_row _ _ _ _ _ _ hg, Nat.zero_add, ← Array.getElem?_toList, ← hu, ← ht, List.getElem?_take_of_lt (by omega)]
theorem RrE.none {w : World} {xs : List Ey} (h : RrE w none xs) : xs = [] := by
  cases xs with
  | nil => rfl
  | cons x r =>
    have hl : 0 < (eysC (x :: r)).length := by rw [eysC_length]; simp
    obtain ⟨b, off, e, _⟩ := h 0 ((eysC (x :: r))[0]) (by simp)
    cases e
set_option maxHeartbeats 2000000 in
set_option maxRecDepth 100000 in
theorem cloneE_any (ao : Option Addr) (L cap : Nat) (xs : List Ey) (w : World) (hX : RrE w ao xs) (hL : L = xs.length) (hf : L ≤ 2199023255552) :
    Calls Tryz.prog 68 #[.slice ao L cap] w fun e w' => ∃ ro rc, e = .returned (.slice ro L rc) ∧ w'.ownsRow w.heap.size 102 2 (.slice ro L rc) L (eysC xs) ∧ Fr [] w w' := by
  have q22 : ∀ (w : World) (a : Option Addr) (n c n' c' : Nat), (binOp .eql 50 (.slice a n c) (.slice none n' c')).run Tryz.prog w = .ok (.bool a.isNone) w := fun w a n c n' c' => Lib.run_eql_slice_nil w _ _ a n c n' c' Tryz.undKE
  cases ao with
  | none =>
    obtain rfl : xs = [] := hX.none
    obtain rfl : L = 0 := hL
    clear hX
    go_enter Tryz.func68, Tryz.ntmps68
    go_wp2
    go_ret
    exact ⟨none, 0, rfl, ⟨rfl, .inl ⟨rfl, rfl⟩⟩, Fr.refl _ _⟩
  | some a =>
    obtain ⟨i0, hi, hz0, hz1, hz2⟩ := infoKE_parts
    have hc : Hid (∀ j u, (eysC xs)[j]? = some u → w.cell? (a.add j) = some u) := by
      intro j u hu
      obtain ⟨b, off, e, _, hc⟩ := hX j u hu
      cases e
      rw [Addr.add_lit]
      exact hc
    have HL : Hid (L = xs.length) := hL
    clear hX hL
    go_enter Tryz.func68, Tryz.ntmps68
    go_wp2_with (at_builtin; refine wpList_append_own _ rfl _ _ 50 rfl w.heap.size 102 i0 (.agg #[.string ⟨#[]⟩, .string ⟨#[]⟩]) 2 32 Tryz.undKE hi hz0 hz1 hz2 rfl (by decide) _ _ _ rfl (World.ownsRow_made w #[] 0 (Nat.le_refl _) (Nat.zero_le _) (by simp)) a L cap (eysC xs) rfl ?qc1 ?qc2 ?qc3 ?qc4 ?qc5 ?qc6 ?_)
    case qc1 => rw [eysC_length, HL.out]
    case qc2 =>
      intro j u hj
      exact Lib.cell?_alloc_some _ (hc.out j u hj)
    case qc3 => exact eysC_oneCell xs
    case qc4 => rw [Nat.zero_add]; simp only [maxLen]; omega
    case qc5 => rw [Nat.zero_add]; omega
    case qc6 => simp
    intro v' w1 hown hgrow hnil
    obtain ⟨ro, rc, rfl⟩ : ∃ ro rc, v' = .slice ro L rc := by
      rcases hown.2 with ⟨hh, h0⟩ | ⟨g, cap', _, hh, _⟩
      · exact ⟨none, 0, by rw [hh]; have : L = 0 := by omega
                           rw [this]⟩
      · exact ⟨_, cap', by rw [hh]⟩
    have HO : Hid (w1.ownsRow w.heap.size 102 2 (.slice ro L rc) L (eysC xs) ∧ Fr [] w w1) := ⟨by simpa using hown, (Fr.alloc [] w _).on (Fr.grown (S := [w.heap.size]) hgrow (by intro k hk _; simp [Value.ownBlock] at hk; simp [hk])) (by simp)⟩
    clear hown hgrow hnil
    go_wp2
    go_ret
    exact ⟨ro, rc, rfl, HO.out⟩
end Go.Proofs.YtpdkdgmaofhlkaaGreatDoor
/- Appending rows of entries; slices.Grow of nothing. Conditions as each names them. -/
namespace Go.Proofs.YtpdkdgmaofhlkaaGreatDoor
open Go.ChangeShapes Go.WideShapes Go.ChangeAt Go.RowKit Go.Lib
set_option linter.unusedVariables false
set_option linter.unusedSimpArgs false
theorem run_append_noneE {P : Program} (w : World) (t ty e : TypeId) (i : TypeInfo) (size c base : Nat) (ht : P.underlying t = some (.slice e)) (hi : P.info? e = some i)
    (v : Value) (n : Nat) (xs : List Value) (hown : w.ownsRow base e size v n xs) :
    (Builtin.append_ #[t, t] ty #[v, .slice none 0 c]).run P w = .ok v w := by
  rcases hown.2 with ⟨rfl, rfl⟩ | ⟨g, cap, cur, rfl, _, _, hnc, _⟩
  · simp [Builtin.append_, run_underlying ht, sizeOf, typeInfo, hi, Builtin.lenOf, Builtin.firstCells]
  · simp [Builtin.append_, run_underlying ht, sizeOf, typeInfo, hi, Builtin.lenOf, Builtin.firstCells, hnc, storeCells]
theorem own_shapeE {w : World} {base : Nat} {e : TypeId} {size : Nat} {v : Value} {n : Nat} {xs : List Value} (h : w.ownsRow base e size v n xs) : ∃ bo cap, v = .slice bo n cap := by
  rcases h.2 with ⟨hv, hn⟩ | ⟨g, cap, cur, hv, _⟩
  · exact ⟨none, 0, by rw [hv, hn]⟩
  · exact ⟨_, cap, hv⟩
theorem own_blocksE {w : World} {base : Nat} {e : TypeId} {size : Nat} {v : Value} {n : Nat} {xs : List Value} (h : w.ownsRow base e size v n xs) : ∀ k ∈ v.ownBlock.toList, base ≤ k := by
  intro k hk
  rcases h.2 with ⟨rfl, _⟩ | ⟨g, cap, cur, rfl, hb, _⟩
  · simp [Value.ownBlock] at hk
  · simp [Value.ownBlock] at hk
    omega
theorem wpList_appE (w : World) {ops : Array Oper} {rest : List Oper} {o : Oper} {a : Act} {Q : Exit → Act → World → Prop} (hgd : o.guard = none) (s x : Operand)
    (ho : o.op = .call { callee := .builtin .append, args := #[s, x], argTypes := #[50, 50] })
    (base : Nat) (v : Value) (qs : List Ey) (hs : a.eval s = v) (hown : w.ownsRow base 102 2 v qs.length (eysC qs))
    (xo : Option Addr) (m c : Nat) (rs : List Ey) (hx : a.eval x = .slice xo m c) (hB : RrE w xo rs) (hm : m = rs.length) (hn : qs.length + m < 2199023255552) (hbase : base ≤ w.heap.size)
    (h : ∀ bo n' cap' w', n' = (qs ++ rs).length → w'.ownsRow base 102 2 (.slice bo n' cap') n' (eysC (qs ++ rs)) → Fr v.ownBlock.toList w w' → wpList Tryz.prog ops Q rest (a.put o.dst (.slice bo n' cap')) w') : wpList Tryz.prog ops Q (o :: rest) a w := by
  obtain ⟨i0, hi, hz0, hz1, hz2⟩ := infoKE_parts
  have hl : (eysC rs).length = m * 2 := by rw [eysC_length, hm]
  have hmx : 2199023255552 ≤ maxLen := by unfold maxLen; omega
  cases xo with
  | none =>
    refine wpList_plain hgd fun K hK => ?_
    obtain rfl : rs = [] := hB.none
    obtain rfl : m = 0 := hm
    have hr := run_append_noneE (P := Tryz.prog) w 50 o.type 102 i0 2 c base Tryz.undKE hi v qs.length (eysC qs) hown
    obtain ⟨bo, cap', rfl⟩ := own_shapeE hown
    unfold Oper.wp execOp
    simp only [ho, resolve, invoke, builtin, Sem.run_bind, Sem.run_pure, Result.andThen_ok, List.map_toArray, List.map_cons, List.map_nil, hs, hx, hr]
    exact hK _ _ (h bo _ cap' w (by simp) (by simpa using hown) (Fr.refl _ _))
  | some ad =>
    have hlies : ∀ j u, (eysC rs)[j]? = some u → w.cell? (ad.add j) = some u := by
      intro j u hu
      obtain ⟨b, off, e, _, hc⟩ := hB j u hu
      cases e
      rw [Addr.add_lit]
      exact hc
    refine wpList_append_own w hgd s x 50 ho base 102 i0 _ 2 32 Tryz.undKE hi hz0 hz1 hz2 rfl (by decide) v qs.length (eysC qs) hs hown ad m c (eysC rs) hx hl hlies (eysC_oneCell rs) (by omega) (by omega) hbase ?_
    intro v' w' hown' hg' _
    have hlen : (qs ++ rs).length = qs.length + m := by rw [List.length_append, hm]
    obtain ⟨bo, cap', rfl⟩ := own_shapeE hown'
    exact h bo _ cap' w' hlen.symm (by rw [eysC_append]; exact hown') (Fr.grown hg' (fun y hy _ => Option.mem_toList.2 hy))
set_option maxHeartbeats 2000000 in
set_option maxRecDepth 100000 in
theorem growE_none (w : World) :
    Calls Tryz.prog 117 #[.slice none 0 0, .int .i64 0] w fun e w' => e = .returned (.slice none 0 0) ∧ Fr [] w w' := by
  go_enter Tryz.func117, Tryz.ntmps117
  go_wp2
  go_ret
  exact ⟨rfl, Fr.refl _ _⟩
set_option maxHeartbeats 2000000 in
set_option maxRecDepth 100000 in
theorem growE_any (n : Nat) (w : World) (hn : 0 < n) (hb : n ≤ 2199023255552) :
    Calls Tryz.prog 117 #[.slice none 0 0, .int .i64 (n : Int)] w fun e w' => ∃ cap, e = .returned (.slice (some ⟨w.heap.size, 0, none⟩) 0 cap) ∧ w'.ownsRow w.heap.size 102 2 (.slice (some ⟨w.heap.size, 0, none⟩) 0 cap) 0 [] ∧ Fr [] w w' := by
  obtain ⟨i0, hi, hz0, hz1, hz2⟩ := infoKE_parts
  have hold : (Builtin.firstCells i0.size 0 (.slice none 0 0)).run Tryz.prog w.drew = .ok ([] : List Value).toArray w.drew := run_firstCells_none w.drew i0.size 0 0 0
  have hrz : ∀ ty, (Builtin.append_ #[50, 3] ty #[.slice none 0 0, .int .i64 (n : Int)]).run Tryz.prog w =
      .ok (.slice (some ⟨w.heap.size, 0, none⟩) n (grownCap w n 0 102)) (w.drew.alloc (.cells (([] : List Value).toArray ++ Builtin.zeroCells (Value.cells (.agg #[.string ⟨#[]⟩, .string ⟨#[]⟩])) n ++ Builtin.zeroCells (Value.cells (.agg #[.string ⟨#[]⟩, .string ⟨#[]⟩])) (grownCap w n 0 102 - n)) 102)) := fun ty => by
    have h := Lib.run_append_grow_zeros w 50 3 ty 102 i0 _ .i64 .i64 Tryz.undKE Tryz.undI9 hi hz0 none 0 0 [] hold n (by omega) (by rw [hz1]; decide) (by omega) (by omega) (by rw [hz2]; omega) (by rw [hz2]; exact growslice_fits (by omega) (by omega))
    rw [Nat.zero_add] at h
    exact h
  have hGn : n ≤ grownCap w n 0 102 := grownCap_ge w _ _ _
  have hGm := grownCap_le_maxLen w n 0 102 (by unfold maxLen; omega)
  obtain ⟨G, hG⟩ : ∃ G, G = grownCap w n 0 102 := ⟨_, rfl⟩
  rw [← hG] at hrz hGn hGm
  have hG63 : G ≤ 9223372036854775807 := by unfold maxLen at hGm; omega
  obtain ⟨cur, hcur⟩ : ∃ cur, cur = ([] : List Value).toArray ++ Builtin.zeroCells (Value.cells (.agg #[.string ⟨#[]⟩, .string ⟨#[]⟩])) n ++ Builtin.zeroCells (Value.cells (.agg #[.string ⟨#[]⟩, .string ⟨#[]⟩])) (G - n) := ⟨_, rfl⟩
  have hcs : cur.size = G * 2 := by
    rw [hcur]
    simp only [Array.size_append, size_zeroCells, Value.cells, List.size_toArray, List.length_nil, List.length_cons]
    omega
  rw [← hcur] at hrz
  have HOw : Hid ((w.drew.alloc (.cells cur 102)).ownsRow w.heap.size 102 2 (.slice (some ⟨w.heap.size, 0, none⟩) 0 G) 0 []) := ⟨rfl, .inr ⟨w.heap.size, G, cur, rfl, Nat.le_refl _, heap_alloc_new w.drew _, Nat.zero_le _, hGm, hcs, by simp⟩⟩
  have HF : Hid (Fr [] w (w.drew.alloc (.cells cur 102))) := (Fr.drew [] w).then (Fr.alloc [] _ _)
  have h1 : ¬ ((n : Int) < 0) := by omega
  have h4 : (n : Int) > 0 := by omega
  clear hold hG hcur hcs hGn
  go_enter Tryz.func117, Tryz.ntmps117
  go_wp2_with (at_builtin; refine Lib.wpList_append_run _ rfl _ _ _ _ rfl _ _ rfl rfl _ _ (hrz _) ?_)
  all_goals (go_ret; exact ⟨G, rfl, HOw.out, HF.out⟩)
end Go.Proofs.YtpdkdgmaofhlkaaGreatDoor
/- slices.Concat of rows of entries. Conditions as each names them. -/
namespace Go.Proofs.YtpdkdgmaofhlkaaGreatDoor
open Go.ChangeShapes Go.WideShapes Go.ChangeAt Go.RowKit Go.Lib
set_option linter.unusedVariables false
set_option linter.unusedSimpArgs false
/-- A row as it lies in a list of rows. -/
structure ElE where
  ro : Option Addr
  L : Nat
  rc : Nat
  xs : List Ey
def ElE.v (e : ElE) : Value := .slice e.ro e.L e.rc
def ElE.zero : ElE := ⟨none, 0, 0, []⟩
/-- All that the rows have, one row behind the other. -/
def flaE (es : List ElE) : List Ey := es.flatMap ElE.xs
theorem elgetE (es : List ElE) (i : Nat) (h : i < es.length) : es.getD i ElE.zero ∈ es := by simp [List.getD, h]
theorem flaE_snoc (es : List ElE) (i : Nat) (h : i < es.length) : flaE (es.take (i + 1)) = flaE (es.take i) ++ (es.getD i ElE.zero).xs := by
  unfold flaE
  rw [List.take_add_one, List.flatMap_append]
  simp [List.getD, h]
theorem flaE_app (es : List ElE) (e : ElE) : flaE (es ++ [e]) = flaE es ++ e.xs := by simp [flaE]
/-- The slice at ao is of rows that can be read. -/
structure LLE (w : World) (ao : Option Addr) (es : List ElE) : Prop where
  lies : 0 < es.length → ∃ b, ao = some ⟨b, 0, none⟩ ∧ b < w.heap.size ∧ ∀ i, i < es.length → w.cell? ⟨b, i, none⟩ = some (es.getD i ElE.zero).v
  each : ∀ e ∈ es, RrE w e.ro e.xs ∧ e.L = e.xs.length ∧ e.L ≤ 4194304
  few : es.length ≤ 17
theorem LLE.keep {w w' : World} {ao : Option Addr} {es : List ElE} (h : LLE w ao es) (hf : Fr [] w w') : LLE w' ao es := by
  refine ⟨fun h0 => ?_, fun e he => ⟨(h.each e he).1.keep hf, (h.each e he).2⟩, h.few⟩
  obtain ⟨b, e, hb, hc⟩ := h.lies h0
  exact ⟨b, e, Nat.lt_of_lt_of_le hb hf.size, fun i hi => (World.cell?_of_block (hf.block b hb (by simp))).trans (hc i hi)⟩
set_option maxRecDepth 100000 in
theorem LLE.bound {w : World} {ao : Option Addr} {es : List ElE} (h : LLE w ao es) (i : Nat) : (flaE (es.take i)).length ≤ i * 4194304 := by
  induction i with
  | zero => simp [flaE]
  | succ i ih =>
    by_cases hi : i < es.length
    · rw [flaE_snoc es i hi, List.length_append, Nat.succ_mul]
      have h1 := (h.each _ (elgetE es i hi)).2.1
      have h2 := (h.each _ (elgetE es i hi)).2.2
      rw [← h1]
      exact Nat.add_le_add ih h2
    · rw [List.take_of_length_le (by omega)] at ih ⊢
      rw [Nat.succ_mul]
      exact Nat.le_trans ih (Nat.le_add_right _ _)
theorem growE_gen (n : Nat) (w : World) (hb : n ≤ 2199023255552) :
    Calls Tryz.prog 117 #[.slice none 0 0, .int .i64 (n : Int)] w fun e w' => ∃ ro cap, e = .returned (.slice ro 0 cap) ∧ w'.ownsRow w.heap.size 102 2 (.slice ro 0 cap) 0 [] ∧ Fr [] w w' := by
  rcases Nat.eq_zero_or_pos n with rfl | hn
  · refine (growE_none w).mono ?_
    rintro e w' ⟨rfl, hf⟩
    exact ⟨none, 0, rfl, ⟨rfl, .inl ⟨rfl, rfl⟩⟩, hf⟩
  · refine (growE_any n w hn hb).mono ?_
    rintro e w' ⟨cap, rfl, ho, hf⟩
    exact ⟨_, cap, rfl, ho, hf⟩
set_option maxHeartbeats 4000000 in
set_option maxRecDepth 100000 in
theorem concatE_any (ao : Option Addr) (N cap : Nat) (es : List ElE) (w : World) (h : LLE w ao es) (hN : N = es.length) :
    Calls Tryz.prog 108 #[.slice ao N cap] w fun e w' => ∃ ro M rc, e = .returned (.slice ro M rc) ∧ M = (flaE es).length ∧ w'.ownsRow w.heap.size 102 2 (.slice ro M rc) M (eysC (flaE es)) ∧ Fr [] w w' := by
  have hN17 : N ≤ 17 := by have := h.few; omega
  have HN : Hid (N = es.length) := hN
  have HB : Hid (∀ i, (flaE (es.take i)).length ≤ i * 4194304) := fun i => h.bound i
  have HX : Hid (∀ W i, Fr [] w W → i < N → ∃ b ro L rc xs, ao = some ⟨b, 0, none⟩ ∧ W.cell? ⟨b, i, none⟩ = some (.slice ro L rc) ∧ RrE W ro xs ∧ L = xs.length ∧ L ≤ 4194304 ∧ flaE (es.take (i + 1)) = flaE (es.take i) ++ xs) := fun W i hf hi => by
    have hi' : i < es.length := by rw [← hN]; exact hi
    have hk := h.keep hf
    obtain ⟨b, e, _, hc⟩ := hk.lies (by omega)
    exact ⟨b, _, _, _, _, e, hc i hi', (hk.each _ (elgetE es i hi')).1, (hk.each _ (elgetE es i hi')).2.1, (hk.each _ (elgetE es i hi')).2.2, flaE_snoc es i hi'⟩
  have HG : Hid (∀ n : Nat, n ≤ 71303168 → Calls Tryz.prog 117 #[.slice none 0 0, .int .i64 (n : Int)] w fun e w' => ∃ ro cap, e = .returned (.slice ro 0 cap) ∧ w'.ownsRow w.heap.size 102 2 (.slice ro 0 cap) 0 [] ∧ Fr [] w w') := fun n hn => growE_gen n w (by omega)
  have HE : Hid (es.take N = es) := by show _ = _; rw [hN]; exact List.take_length
  clear h hN
  go_enter Tryz.func108, Tryz.ntmps108
  go_wp2_with fail
  go_loopw [11, 3] (fun ii ss wr => ∃ (i n : Nat), ii = .int .i64 i ∧ ss = .int .i64 n ∧ i ≤ N ∧ n ≤ 71303168 ∧ Hid (n = (flaE (es.take i)).length) ∧ w = wr) (fun ii _ _ => N - (RowKit.intOf ii).toNat)
  case atStart => exact ⟨0, 0, rfl, by first | rfl | simp, Nat.zero_le _, by omega, rfl, rfl⟩
  case round =>
    obtain ⟨i, n, rfl, rfl, hiN, hn, HSz, rfl⟩ := hrel
    by_cases hi : i < N
    · obtain ⟨b, ro, L, rc, xs, rfl, hc, hR, hL, hLm, hfl⟩ := HX.out w i (Fr.refl _ _) hi
      have HS2 : Hid (n + L = (flaE (es.take (i + 1))).length) := by show _ = _; rw [hfl, List.length_append, ← HSz.out, ← hL]
      have hb2 : n + L ≤ 71303168 := by have h1 := HB.out (i + 1); have h2 := HS2.out; omega
      have hnn : ¬ ((n : Int) + (L : Int) < 0) := by omega
      clear hR hL hfl HSz
      go_wp2
      go_roundw
      case rel => exact ⟨i + 1, n + L, by simp, by simp, by omega, hb2, HS2, by first | trivial | rfl⟩
      case measure => simp [RowKit.intOf]; omega
    · have HSz2 : Hid (n = (flaE es).length) := by show _ = _; rw [HSz.out, show i = N by omega, HE.out]
      clear HSz
      go_wp2_with fail
      refine (HG.out n hn).mono ?_
      rintro e w1 ⟨ro1, cap1, rfl, hO1, hF1⟩
      have HO1 : Hid (w1.ownsRow w.heap.size 102 2 (.slice ro1 0 cap1) 0 [] ∧ Fr [] w w1) := ⟨hO1, hF1⟩
      clear hO1 hF1 HG
      go_wp2_with fail
      go_loopw [27, 6] (fun ii ss wr => ∃ (k m : Nat) (bo : Option Addr) (bc : Nat), ii = .int .i64 k ∧ ss = .slice bo m bc ∧ k ≤ N ∧ Hid (m = (flaE (es.take k)).length ∧ wr.ownsRow w.heap.size 102 2 (.slice bo m bc) m (eysC (flaE (es.take k))) ∧ Fr [] w wr)) (fun ii _ _ => N - (RowKit.intOf ii).toNat)
      case atStart => exact ⟨0, 0, ro1, cap1, by first | rfl | simp, rfl, Nat.zero_le _, rfl, by rw [List.take_zero]; exact HO1.out.1, HO1.out.2⟩
      case round =>
        clear HO1
        obtain ⟨k, m, bo, bc, rfl, rfl, hkN, HO⟩ := hrel
        by_cases hk : k < N
        · obtain ⟨b, ro, L, rc, xs, rfl, hc, hR, hL, hLm, hfl⟩ := HX.out wr k HO.out.2.2 hk
          have HR : Hid (RrE wr ro xs ∧ L = xs.length ∧ flaE (es.take (k + 1)) = flaE (es.take k) ++ xs) := ⟨hR, hL, hfl⟩
          have HM : Hid ((flaE (es.take k)).length + L < 2199023255552) := by have h1 := HB.out k; show _ < _; omega
          clear hR hL hfl
          go_wp2_with (at_builtin; refine wpList_appE _ rfl _ _ rfl w.heap.size (.slice bo m bc) (flaE (es.take k)) rfl (by rw [← HO.out.1]; exact HO.out.2.1) ro L rc xs rfl HR.out.1 HR.out.2.1 HM.out HO.out.2.2.size ?_
                       intro bo1 n1 cap1 w2 hn1 hO2 hf2
                       have HO2 : Hid (n1 = (flaE (es.take (k + 1))).length ∧ w2.ownsRow w.heap.size 102 2 (.slice bo1 n1 cap1) n1 (eysC (flaE (es.take (k + 1)))) ∧ Fr [] w w2) := ⟨by rw [HR.out.2.2]; exact hn1, by rw [HR.out.2.2]; exact hO2, HO.out.2.2.on hf2 (own_blocksE HO.out.2.1)⟩
                       clear hO2 hf2 hn1
                       go_frame)
          go_roundw
          case rel => exact ⟨k + 1, n1, bo1, cap1, by simp, rfl, by omega, HO2⟩
          case measure => simp [RowKit.intOf]; omega
        · have HO3 : Hid (m = (flaE es).length ∧ wr.ownsRow w.heap.size 102 2 (.slice bo m bc) m (eysC (flaE es)) ∧ Fr [] w wr) := by
            have h := HO.out
            rw [show k = N by omega, HE.out] at h
            exact h
          clear HO
          go_wp2
          go_ret
          exact ⟨bo, m, bc, rfl, HO3.out⟩
end Go.Proofs.YtpdkdgmaofhlkaaGreatDoor

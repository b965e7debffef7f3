/- Texts of this claim laid together, one behind the other: contracts and plain lemmas; conditions as each names them. -/
import Derived.Test.YtomajifklajilaaGreatDoorGp7
import Derived.Lib.AppendZerosOnto
import Derived.Maps.RangeWalk
/- Appends of versions; slices.Grow of nothing; slices.Concat of three; Put. Conditions as each names them. -/
namespace Go.Proofs.YtomajifklajilaaGreatDoor
open Go.ChangeShapes Go.WideShapes Go.ChangeAt Go.RowKit Go.Lib
set_option linter.unusedVariables false
set_option linter.unusedSimpArgs false
theorem vrun_append_none {P : Program} (w : World) (t ty e : TypeId) (i : TypeInfo) (size c base : Nat) (ht : P.underlying t = some (.slice e)) (hi : P.info? e = some i)
    (v : Value) (n : Nat) (xs : List Value) (hown : w.ownsRow base e size v n xs) :
    (Builtin.append_ #[t, t] ty #[v, .slice none 0 c]).run P w = .ok v w := by
  rcases hown.2 with ⟨rfl, rfl⟩ | ⟨g, cap, cur, rfl, _, _, hnc, _⟩
  · simp [Builtin.append_, run_underlying ht, sizeOf, typeInfo, hi, Builtin.lenOf, Builtin.firstCells]
  · simp [Builtin.append_, run_underlying ht, sizeOf, typeInfo, hi, Builtin.lenOf, Builtin.firstCells, hnc, storeCells]
theorem own_shapeV {w : World} {base : Nat} {e : TypeId} {size : Nat} {v : Value} {n : Nat} {xs : List Value} (h : w.ownsRow base e size v n xs) : ∃ bo cap, v = .slice bo n cap := by
  rcases h.2 with ⟨hv, hn⟩ | ⟨g, cap, cur, hv, _⟩
  · exact ⟨none, 0, by rw [hv, hn]⟩
  · exact ⟨_, cap, hv⟩
/-- Versions of a row, behind a row of one's own. -/
theorem wpList_appV (w : World) {ops : Array Oper} {rest : List Oper} {o : Oper} {a : Act} {Q : Exit → Act → World → Prop} (hgd : o.guard = none) (s x : Operand)
    (ho : o.op = .call { callee := .builtin .append, args := #[s, x], argTypes := #[77, 77] })
    (base : Nat) (v : Value) (qs : List Vn) (hs : a.eval s = v) (hown : w.ownsRow base 106 3 v qs.length (vnsC qs))
    (xo : Option Addr) (m c : Nat) (rs : List Vn) (hx : a.eval x = .slice xo m c) (hB : VRs w xo rs) (hm : m = rs.length) (hn : qs.length + m < 2199023255552) (hbase : base ≤ w.heap.size)
    (h : ∀ bo n' cap' w', n' = (qs ++ rs).length → w'.ownsRow base 106 3 (.slice bo n' cap') n' (vnsC (qs ++ rs)) → Fr v.ownBlock.toList w w' → wpList Tryz.prog ops Q rest (a.put o.dst (.slice bo n' cap')) w') : wpList Tryz.prog ops Q (o :: rest) a w := by
  obtain ⟨i0, hi, hz0, hz1, hz2⟩ := infoVn_parts
  have hl : (vnsC rs).length = m * 3 := by rw [vnsC_length, hm]
  have hmx : 2199023255552 ≤ maxLen := by unfold maxLen; omega
  cases xo with
  | none =>
    refine wpList_plain hgd fun K hK => ?_
    have hrs : rs = [] := by
      rcases Nat.eq_zero_or_pos rs.length with h0 | h0
      · exact List.eq_nil_of_length_eq_zero h0
      · obtain ⟨_, _, e, _⟩ := hB.lies h0
        cases e
    subst hrs
    obtain rfl : m = 0 := hm
    have hr := vrun_append_none (P := Tryz.prog) w 77 o.type 106 i0 3 c base Tryz.undVns' hi v qs.length (vnsC qs) hown
    obtain ⟨bo, cap', rfl⟩ := own_shapeV hown
    unfold Oper.wp execOp
    simp only [ho, resolve, invoke, builtin, Sem.run_bind, Sem.run_pure, Result.andThen_ok, List.map_toArray, List.map_cons, List.map_nil, hs, hx, hr]
    exact hK _ _ (h bo _ cap' w (by simp) (by simpa using hown) (Fr.refl _ _))
  | some ad =>
    have hlies : ∀ j u, (vnsC rs)[j]? = some u → w.cell? (ad.add j) = some u := by
      intro j u hu
      obtain ⟨b, off, e, hc⟩ := hB.cells hu
      cases e
      rw [Addr.add_lit]
      exact hc
    refine wpList_append_own w hgd s x 77 ho base 106 i0 _ 3 32 Tryz.undVns' hi hz0 hz1 hz2 rfl (by decide) v qs.length (vnsC qs) hs hown ad m c (vnsC rs) hx hl hlies (vnsC_oneCell rs) (by omega) (by omega) hbase ?_
    intro v' w' hown' hg' _
    have hlen : (qs ++ rs).length = qs.length + m := by rw [List.length_append, hm]
    obtain ⟨bo, cap', rfl⟩ := own_shapeV hown'
    exact h bo _ cap' w' hlen.symm (by rw [vnsC_append]; exact hown') (Fr.grown hg' (fun y hy _ => Option.mem_toList.2 hy))
set_option maxHeartbeats 2000000 in
set_option maxRecDepth 100000 in
theorem grow_any (n : Nat) (w : World) (hn : 0 < n) (hb : n ≤ 4398046511104) :
    Calls Tryz.prog 133 #[.slice none 0 0, .int .i64 (n : Int)] w fun e w' => ∃ cap, e = .returned (.slice (some ⟨w.heap.size, 0, none⟩) 0 cap) ∧ w'.ownsRow w.heap.size 106 3 (.slice (some ⟨w.heap.size, 0, none⟩) 0 cap) 0 [] ∧ Fr [] w w' := by
  obtain ⟨i0, hi, hz0, hz1, hz2⟩ := infoVn_parts
  have hold : (Builtin.firstCells i0.size 0 (.slice none 0 0)).run Tryz.prog w.drew = .ok ([] : List Value).toArray w.drew := run_firstCells_none w.drew i0.size 0 0 0
  have hrz : ∀ ty, (Builtin.append_ #[77, 3] ty #[.slice none 0 0, .int .i64 (n : Int)]).run Tryz.prog w =
      .ok (.slice (some ⟨w.heap.size, 0, none⟩) n (grownCap w n 0 106)) (w.drew.alloc (.cells (([] : List Value).toArray ++ Builtin.zeroCells (Value.agg #[.int .i64 0, .string ⟨#[]⟩, .bool false]).cells n ++ Builtin.zeroCells (Value.agg #[.int .i64 0, .string ⟨#[]⟩, .bool false]).cells (grownCap w n 0 106 - n)) 106)) := fun ty => by
    have h := Lib.run_append_grow_zeros w 77 3 ty 106 i0 _ .i64 .i64 Tryz.undVns' Tryz.vundI hi hz0 none 0 0 [] hold n (by omega) (by rw [hz1]; decide) (by omega) (by omega) (by rw [hz2]; omega) (by rw [hz2]; exact growslice_fits (by omega) (by omega))
    rw [Nat.zero_add] at h
    exact h
  have hGn : n ≤ grownCap w n 0 106 := grownCap_ge w _ _ _
  have hGm := grownCap_le_maxLen w n 0 106 (by unfold maxLen; omega)
  obtain ⟨G, hG⟩ : ∃ G, G = grownCap w n 0 106 := ⟨_, rfl⟩
  rw [← hG] at hrz hGn hGm
  have hG63 : G ≤ 9223372036854775807 := by unfold maxLen at hGm; omega
  obtain ⟨cur, hcur⟩ : ∃ cur, cur = ([] : List Value).toArray ++ Builtin.zeroCells (Value.agg #[.int .i64 0, .string ⟨#[]⟩, .bool false]).cells n ++ Builtin.zeroCells (Value.agg #[.int .i64 0, .string ⟨#[]⟩, .bool false]).cells (G - n) := ⟨_, rfl⟩
  have hcs : cur.size = G * 3 := by
    rw [hcur]
    simp only [Array.size_append, size_zeroCells, Value.cells, List.size_toArray, List.length_nil, List.length_cons]
    omega
  rw [← hcur] at hrz
  have HOw : Hid ((w.drew.alloc (.cells cur 106)).ownsRow w.heap.size 106 3 (.slice (some ⟨w.heap.size, 0, none⟩) 0 G) 0 []) := ⟨rfl, .inr ⟨w.heap.size, G, cur, rfl, Nat.le_refl _, heap_alloc_new w.drew _, Nat.zero_le _, hGm, hcs, by simp⟩⟩
  have HF : Hid (Fr [] w (w.drew.alloc (.cells cur 106))) := (Fr.drew [] w).then (Fr.alloc [] _ _)
  have h1 : ¬ ((n : Int) < 0) := by omega
  have h4 : (n : Int) > 0 := by omega
  clear hold hG hcur hcs hGn
  go_enter Tryz.func133, Tryz.ntmps133
  go_wp2_with (at_builtin; refine Lib.wpList_append_run _ rfl _ _ _ _ rfl _ _ rfl rfl _ _ (hrz _) ?_)
  all_goals (go_ret; exact ⟨G, rfl, HOw.out, HF.out⟩)
end Go.Proofs.YtomajifklajilaaGreatDoor
/- slices.Concat of three rows of versions. Conditions as named. -/
namespace Go.Proofs.YtomajifklajilaaGreatDoor
open Go.ChangeShapes Go.WideShapes Go.ChangeAt Go.RowKit Go.Lib
set_option linter.unusedVariables false
set_option linter.unusedSimpArgs false
theorem own_blocks {w : World} {base : Nat} {e : TypeId} {size : Nat} {v : Value} {n : Nat} {xs : List Value} (h : w.ownsRow base e size v n xs) : ∀ k ∈ v.ownBlock.toList, base ≤ k := by
  intro k hk
  rcases h.2 with ⟨rfl, _⟩ | ⟨g, cap, cur, rfl, hb, _⟩
  · simp [Value.ownBlock] at hk
  · simp [Value.ownBlock] at hk
    omega
set_option maxHeartbeats 4000000 in
set_option maxRecDepth 100000 in
theorem concat_any (kb : Nat) (a0 a1 a2 : Option Addr) (l0 c0 l1 c1 l2 c2 : Nat) (x0 x1 x2 : List Vn) (w : World)
    (k0 : w.cell? ⟨kb, 0, none⟩ = some (.slice a0 l0 c0)) (k1 : w.cell? ⟨kb, 1, none⟩ = some (.slice a1 l1 c1)) (k2 : w.cell? ⟨kb, 2, none⟩ = some (.slice a2 l2 c2))
    (v0 : VRs w a0 x0) (v1 : VRs w a1 x1) (v2 : VRs w a2 x2) (e0 : l0 = x0.length) (e1 : l1 = x1.length) (e2 : l2 = x2.length) (hn : 0 < l0 + l1 + l2) (hb : l0 + l1 + l2 ≤ 70000) :
    Calls Tryz.prog 127 #[.slice (some ⟨kb, 0, none⟩) 3 3] w fun e w' => ∃ ro N rc, e = .returned (.slice ro N rc) ∧ VOut w w' ro N rc (x0 ++ x1 ++ x2) ∧ Fr [] w w' := by
  have HG : Hid (Calls _ _ _ _ _) := grow_any (l0 + l1 + l2) w hn (by omega)
  rw [show ((l0 + l1 + l2 : Nat) : Int) = (l0 : Int) + (l1 : Int) + (l2 : Int) from by omega] at HG
  have HV : Hid (∀ W, Fr [] w W → VRs W a0 x0 ∧ VRs W a1 x1 ∧ VRs W a2 x2) := fun W hf => ⟨v0.keep hf, v1.keep hf, v2.keep hf⟩
  have HE : Hid (l0 = x0.length ∧ l1 = x1.length ∧ l2 = x2.length) := ⟨e0, e1, e2⟩
  have HK : Hid (∀ W, Fr [] w W → W.cell? ⟨kb, 0, none⟩ = some (.slice a0 l0 c0) ∧ W.cell? ⟨kb, 1, none⟩ = some (.slice a1 l1 c1) ∧ W.cell? ⟨kb, 2, none⟩ = some (.slice a2 l2 c2)) := fun W hf => ⟨hf.cell k0, hf.cell k1, hf.cell k2⟩
  have b0 : l0 ≤ 70000 := by omega
  have b1 : l1 ≤ 70000 := by omega
  have b2 : l2 ≤ 70000 := by omega
  clear v0 v1 v2 e0 e1 e2
  go_enter Tryz.func127, Tryz.ntmps127
  go_wp2_with fail
  refine wp_loop_rounds 4 ?_
  rw [rounds_succ]
  go_wp2_with fail
  rw [rounds_succ]
  go_wp2_with fail
  rw [rounds_succ]
  go_wp2_with fail
  rw [rounds_succ]
  go_wp2_with fail
  refine Calls.mono HG.out ?_
  rintro e w1 ⟨cap, rfl, hO1, hF1⟩
  obtain ⟨j0, j1, j2⟩ := HK.out _ hF1
  have HO1 : Hid (w1.ownsRow w.heap.size 106 3 (.slice (some ⟨w.heap.size, 0, none⟩) 0 cap) ([] : List Vn).length (vnsC [])) := hO1
  clear k0 k1 k2 HG hO1
  go_wp2_with fail
  refine wp_loop_rounds 4 ?_
  rw [rounds_succ]
  go_wp2_with (at_builtin; refine wpList_appV _ rfl _ _ rfl w.heap.size (.slice (some ⟨w.heap.size, 0, none⟩) 0 cap) [] rfl HO1.out a0 l0 c0 x0 rfl (HV.out _ hF1).1 HE.out.1 (by simp; omega) hF1.size ?_
               intro bo1 n1 cap1 w2 hn1 hO2 hf2
               have hF2 : Fr [] w w2 := hF1.on hf2 (own_blocks HO1.out)
               have HO2 : Hid (w2.ownsRow w.heap.size 106 3 (.slice bo1 n1 cap1) (([] : List Vn) ++ x0).length (vnsC ([] ++ x0))) := by rw [← hn1]; exact hO2
               have HN1 : Hid (n1 = (([] : List Vn) ++ x0).length) := hn1
               clear hO2 hf2 j0 j1 j2 hn1
               obtain ⟨j0, j1, j2⟩ := HK.out _ hF2
               go_frame)
  rw [rounds_succ]
  go_wp2_with (at_builtin; refine wpList_appV _ rfl _ _ rfl w.heap.size (.slice bo1 n1 cap1) ([] ++ x0) rfl HO2.out a1 l1 c1 x1 rfl (HV.out _ hF2).2.1 HE.out.2.1 (by have := HE.out.1; simp; omega) hF2.size ?_
               intro bo2 n2 cap2 w3 hn2 hO3 hf3
               have hF3 : Fr [] w w3 := hF2.on hf3 (own_blocks HO2.out)
               have HO3 : Hid (w3.ownsRow w.heap.size 106 3 (.slice bo2 n2 cap2) (([] : List Vn) ++ x0 ++ x1).length (vnsC ([] ++ x0 ++ x1))) := by rw [← hn2]; exact hO3
               have HN2 : Hid (n2 = (([] : List Vn) ++ x0 ++ x1).length) := hn2
               clear hO3 hf3 j0 j1 j2 hn2
               obtain ⟨j0, j1, j2⟩ := HK.out _ hF3
               go_frame)
  rw [rounds_succ]
  go_wp2_with (at_builtin; refine wpList_appV _ rfl _ _ rfl w.heap.size (.slice bo2 n2 cap2) ([] ++ x0 ++ x1) rfl HO3.out a2 l2 c2 x2 rfl (HV.out _ hF3).2.2 HE.out.2.2 (by have := HE.out.1; have := HE.out.2.1; simp; omega) hF3.size ?_
               intro bo3 n3 cap3 w4 hn3 hO4 hf4
               have hF4 : Fr [] w w4 := hF3.on hf4 (own_blocks HO3.out)
               have HO4 : Hid (VOut w w4 bo3 n3 cap3 (x0 ++ x1 ++ x2)) := VOut.of (by simpa using hO4) (by simpa using hn3)
               clear hO4 hf4 hn3 j0 j1 j2
               go_frame)
  rw [rounds_succ]
  go_wp2
  go_ret
  exact ⟨bo3, n3, cap3, rfl, HO4.out, hF4⟩
end Go.Proofs.YtomajifklajilaaGreatDoor

/- What a loop over a ring's All keeps between its rounds; the law's own helper gone. Conditions as each names them. -/
import Derived.Test.YtgdffhmbhknfcaaIt10
import Derived.Laws.EntriesVeiled
namespace Go.Proofs.Ytgdffhmbhknfcaa
open Go.ChangeShapes Go.WideShapes Go.ChangeAt Go.RowKit Go.Lib Go.Maps Go.Sort
set_option linter.unusedVariables false
attribute [local go_sem] Oper.semAt_some

theorem owns_keepB {S : List Nat} {w w' : World} {base : Nat} {e : TypeId} {size : Nat} {v : Value} {n : Nat} {xs : List Value} (h : w.ownsRow base e size v n xs) (hf : Fr S w w') (hn : ∀ k, v.ownBlock = some k → k ∉ S) : w'.ownsRow base e size v n xs := by
  refine ⟨h.1, ?_⟩
  rcases h.2 with hh | ⟨g, cap, cur, rfl, hb, hgg, rest⟩
  · exact .inl hh
  · exact .inr ⟨g, cap, cur, rfl, hb, hf.keep hgg (hn g rfl), rest⟩
theorem owns_cells {w : World} {base : Nat} {e : TypeId} {size n : Nat} {v : Value} {xs : List Value} (h : w.ownsRow base e size v n xs) {k : Nat} (hk : v.ownBlock = some k) : base ≤ k ∧ ∃ cur, w.heap[k]? = some (.cells cur e (0, 0)) := by
  rcases h.2 with ⟨rfl, _⟩ | ⟨g, cap, cur, rfl, hb, hg, hr⟩
  · simp [Value.ownBlock] at hk
  · simp [Value.ownBlock] at hk
    subst hk
    exact ⟨hb, cur, hg⟩
theorem owns_less {w : World} {base base' : Nat} {e : TypeId} {size n : Nat} {v : Value} {xs : List Value} (h : w.ownsRow base e size v n xs) (hb : base' ≤ base) : w.ownsRow base' e size v n xs := by
  refine ⟨h.1, ?_⟩
  rcases h.2 with hh | ⟨g, cap, cur, rfl, hb', hgg, rest⟩
  · exact .inl hh
  · exact .inr ⟨g, cap, cur, rfl, by omega, hgg, rest⟩
theorem box_set {w : World} {b : Nat} {t : TypeId} {v : Value} (h : w.heap[b]? = some (.cells #[v] t (0, 0))) (u : Value) : (w.setCell ⟨b, 0, none⟩ u).heap[b]? = some (.cells #[u] t (0, 0)) := by
  rw [vrow_setCell _ h]
  rfl
/-- Between two rounds: the box Bs holds a slice that owns the numbers ns; another box stays; the loop's own blocks. -/
structure Lq (w0 : World) (Bs Bm lr D : Nat) (bm : Obj) (rec : Loop) (s : Nat) (ns : List Int) (W : World) (v : Value) : Prop where
  box : W.heap[Bs]? = some (.cells #[v] 31 (0, 0))
  row : W.ownsRow s 3 1 v ns.length (vals ns)
  mb : W.heap[Bm]? = some bm
  lp : W.heap[lr]? = some (.loop rec)
  df : W.heap[D]? = some (.deferred (some []))
  fr : Fr [] w0 W
  sl : lr < s
/-- The blocks in their order. -/
structure Dq (w0 : World) (Bs Bm lr D : Nat) : Prop where
  a0 : w0.heap.size ≤ Bs
  a2 : Bs ≠ Bm
  a3 : Bs < D
  a4 : Bm < D
  a5 : D < lr
section
variable {w0 W W' : World} {Bs Bm lr D s : Nat} {bm : Obj} {rec : Loop} {ns : List Int} {v : Value}
theorem Lq.far (h : Lq w0 Bs Bm lr D bm rec s ns W v) {x : Nat} (hx : v.ownBlock = some x) : lr < x := by
  have := (owns_cells h.row hx).1
  have := h.sl
  omega
theorem Lq.quiet (h : Lq w0 Bs Bm lr D bm rec s ns W v) (hf : Fr [] W W') : Lq w0 Bs Bm lr D bm rec s ns W' v :=
  ⟨hf.keep h.box (by simp), owns_keepB h.row hf (by simp), hf.keep h.mb (by simp), hf.keep h.lp (by simp), hf.keep h.df (by simp), h.fr.then hf, h.sl⟩
theorem Lq.rec_ (d : Dq w0 Bs Bm lr D) (h : Lq w0 Bs Bm lr D bm rec s ns W v) (rec' : Loop) : Lq w0 Bs Bm lr D bm rec' s ns (W.putObj lr (.loop rec')) v := by
  obtain ⟨d0, d2, d3, d4, d5⟩ := d
  have hf := Fr.putObj W lr (.loop rec')
  refine ⟨hf.keep h.box (by simp; omega), owns_keepB h.row hf (fun k hk hh => ?_), hf.keep h.mb (by simp; omega), World.putObj_heap_same (Array.getElem?_eq_some_iff.1 h.lp).1, hf.keep h.df (by simp; omega), h.fr.on hf (fun x hx => by simp at hx; omega), h.sl⟩
  have := h.far hk
  simp at hh
  omega
/-- Behind an append and the store of the new slice. -/
theorem Lq.app (d : Dq w0 Bs Bm lr D) (h : Lq w0 Bs Bm lr D bm rec s ns W v) {w3 : World} {u : Value} {x : Int} (hf : Fr v.ownBlock.toList W w3) (hown : w3.ownsRow s 3 1 u (ns.length + 1) (vals ns ++ [.int .i64 x])) :
    Lq w0 Bs Bm lr D bm rec s (ns ++ [x]) (w3.setCell ⟨Bs, 0, none⟩ u) u := by
  obtain ⟨d0, d2, d3, d4, d5⟩ := d
  have hsl := h.sl
  have hfar : ∀ {k : Nat}, k ∈ v.ownBlock.toList → lr < k := fun hk => by simp only [Option.mem_toList] at hk; exact h.far hk
  have hb3 : w3.heap[Bs]? = some (.cells #[v] 31 (0, 0)) := hf.keep h.box (fun hh => by have := hfar hh; omega)
  have hfs : Fr [Bs] w3 (w3.setCell ⟨Bs, 0, none⟩ u) := Fr.set _ _ _ (by simp)
  refine ⟨box_set hb3 u, ?_, hfs.keep (hf.keep h.mb (fun hh => by have := hfar hh; omega)) (by simp; omega), hfs.keep (hf.keep h.lp (fun hh => by have := hfar hh; omega)) (by simp; omega), hfs.keep (hf.keep h.df (fun hh => by have := hfar hh; omega)) (by simp; omega), (h.fr.on hf (fun y hy => by have := hfar hy; omega)).on hfs (by intro y hy; simp at hy; omega), hsl⟩
  have e : vals (ns ++ [x]) = vals ns ++ [.int .i64 x] := by simp [vals]
  rw [e, List.length_append, List.length_singleton]
  refine owns_keepB hown hfs (fun k hk hh => ?_)
  have := (owns_cells hown hk).1
  simp at hh
  omega
end
theorem Try.undIs : Try.prog.underlying 31 = some (.slice 3) := by kernel_rfl
theorem one_cell (W : World) (x : Int) : ∀ (j : Nat) (u : Value), [Value.int .i64 x][j]? = some u → (W.alloc (.cells #[.int .i64 x] 3)).cell? ((⟨W.heap.size, 0, none⟩ : Addr).add j) = some u := by
  intro j u hu
  have hr := heap_alloc_new W (.cells #[.int .i64 x] 3)
  rw [Addr.add_lit, cell_of_row _ _ _ _ _ _ hr, Nat.zero_add]
  simpa using hu
theorem take_succ_getD (xs : List Int) (i : Nat) (h : i < xs.length) : xs.take i ++ [xs.getD i 0] = xs.take (i + 1) := by
  rw [List.take_add_one]
  simp [List.getD, h]
set_option maxRecDepth 100000 in
set_option maxHeartbeats 8000000 in
theorem gone_in (p : Option Addr) (xs : List Int) (hx : xs.length ≤ 65536) (most : Int) (w : World) (hT : Tells w p xs) (hm : -9223372036854775808 ≤ most ∧ most ≤ 9223372036854775807) :
    CallsIn Fence.wide 3 Try.prog 11 #[.pointer p, .int .i64 most] w fun e w' => ∃ (v : Value), e = .returned v ∧ w'.ownsRow w.heap.size 3 1 v (xs.take most.toNat).length (vals (xs.take most.toNat)) ∧ Fr [] w w' := by
  obtain ⟨i0, hi, hz0, hz1, hz2⟩ := infoEl_parts
  have hmx : (1099511627776 : Nat) ≤ maxLen := by unfold maxLen; omega
  refine callsIn_of_wp_marks Try.func11 rfl trivial ?_ rfl
  simp only [Try.ntmps11, List.size_toArray, List.length_cons, List.length_nil, Nat.reduceAdd, Nat.reduceSub, Array.replicate_succ, Array.replicate_zero, List.push_toArray, List.append_toArray, List.nil_append, List.cons_append]
  gi_wp2_with fail
  have hM1 : ((w.alloc (.cells #[.int .i64 most] 3)).alloc (.cells #[.slice none 0 0] 31)).heap[w.heap.size]? = some (.cells #[.int .i64 most] 3 (0, 0)) := (Below.heap_alloc _ _ _ (by simp)).trans (heap_alloc_new w _)
  have hB1 : ((w.alloc (.cells #[.int .i64 most] 3)).alloc (.cells #[.slice none 0 0] 31)).heap[w.heap.size + 1]? = some (.cells #[.slice none 0 0] 31 (0, 0)) := by
    have := heap_alloc_new (w.alloc (.cells #[.int .i64 most] 3)) (.cells #[.slice none 0 0] 31)
    rwa [World.size_alloc] at this
  have hF1 : Fr [] w ((w.alloc (.cells #[.int .i64 most] 3)).alloc (.cells #[.slice none 0 0] 31)) := (Fr.alloc [] _ _).then (Fr.alloc [] _ _)
  have hs1 : ((w.alloc (.cells #[.int .i64 most] 3)).alloc (.cells #[.slice none 0 0] 31)).heap.size = w.heap.size + 2 := by simp
  obtain ⟨w1, HW1⟩ : ∃ w1, Hid ((w.alloc (.cells #[.int .i64 most] 3)).alloc (.cells #[.slice none 0 0] 31) = w1) := ⟨_, rfl⟩
  rw [HW1.out] at hB1 hF1 hs1 hM1 ⊢
  obtain ⟨Bm, hBm⟩ : ∃ Bm, Bm = w.heap.size := ⟨_, rfl⟩
  obtain ⟨Bs, hBs⟩ : ∃ Bs, Bs = w.heap.size + 1 := ⟨_, rfl⟩
  rw [← hBs] at hB1 ⊢
  rw [← hBm] at hM1 ⊢
  have HO1 : Hid (Bm = w.heap.size ∧ Bs = w.heap.size + 1 ∧ w1.heap.size = w.heap.size + 2) := ⟨hBm, hBs, hs1⟩
  clear HW1 hBm hBs hs1
  refine ⟨trivial, (callsIn_wide.2 (gall_any p w1)).mono ?_⟩
  rintro e w1' ⟨rfl, rfl⟩
  have hC2 : (w1.alloc (.cells #[.pointer p] 24)).cell? ⟨w1.heap.size, 0, none⟩ = some (.pointer p) := by rw [cell_of_row _ _ _ _ _ _ (heap_alloc_new w1 _)]; rfl
  have hF2 : Fr [] w1 (w1.alloc (.cells #[.pointer p] 24)) := Fr.alloc _ _ _
  have hs2 : (w1.alloc (.cells #[.pointer p] 24)).heap.size = w1.heap.size + 1 := by simp
  obtain ⟨bb, hbb⟩ : ∃ bb, bb = w1.heap.size := ⟨_, rfl⟩
  obtain ⟨w2, HW2⟩ : ∃ w2, Hid (w1.alloc (.cells #[.pointer p] 24) = w2) := ⟨_, rfl⟩
  rw [HW2.out] at hC2 hF2 hs2 ⊢
  rw [← hbb] at hC2 ⊢
  have HO2 : Hid (bb = w1.heap.size ∧ w2.heap.size = w1.heap.size + 1) := ⟨hbb, hs2⟩
  clear HW2 hbb hs2
  gi_wp2_with fail
  refine range_of rfl (fun _ => True.intro) rfl (gf := 33) (lb := #[.pointer (some ⟨bb, 0, none⟩)]) rfl (enters_of Try.func33 (by kernel_rfl) rfl) ?_
  intro fn RC HRC
  obtain ⟨D, hD⟩ : ∃ D, D = w2.heap.size := ⟨_, rfl⟩
  obtain ⟨lr, hlr⟩ : ∃ lr, lr = w2.heap.size + 1 := ⟨_, rfl⟩
  have hF3 : Fr [] w2 ((w2.alloc (.deferred (some []))).alloc (.loop (RC .ready none))) := (Fr.alloc [] _ _).then (Fr.alloc [] _ _)
  have hL3 : ((w2.alloc (.deferred (some []))).alloc (.loop (RC .ready none))).heap[w2.heap.size + 1]? = some (.loop (RC .ready none)) := by
    have := World.alloc_heap_new (w2.alloc (.deferred (some []))) (.loop (RC .ready none)); rwa [World.size_alloc] at this
  have hK3 : ((w2.alloc (.deferred (some []))).alloc (.loop (RC .ready none))).heap[w2.heap.size]? = some (.deferred (some [])) :=
    (Below.heap_alloc _ _ _ (by simp)).trans (World.alloc_heap_new w2 _)
  have hs3 : ((w2.alloc (.deferred (some []))).alloc (.loop (RC .ready none))).heap.size = w2.heap.size + 2 := by simp
  obtain ⟨w3, HW3⟩ : ∃ w3, Hid ((w2.alloc (.deferred (some []))).alloc (.loop (RC .ready none)) = w3) := ⟨_, rfl⟩
  rw [HW3.out] at hF3 hL3 hK3 hs3 ⊢
  rw [← hlr] at hL3 ⊢
  rw [← hD] at HRC hK3 ⊢
  obtain ⟨hBm, hBs, hs1⟩ := HO1.out
  obtain ⟨hbb, hs2⟩ := HO2.out
  have hC3 : w3.cell? ⟨bb, 0, none⟩ = some (.pointer p) := (World.cell?_of_block (hF3.block bb (by omega) (by simp))).trans hC2
  have hDq : Dq w Bs Bm lr D := ⟨by omega, by omega, by omega, by omega, by omega⟩
  have hbl : bb < w3.heap.size := by omega
  have hl3 : lr < w3.heap.size := by omega
  have hG3 := (hF1.then hF2).then hF3
  have hA0 : ∀ s, w3.heap.size ≤ s → Lq w Bs Bm lr D (.cells #[.int .i64 most] 3 (0, 0)) (RC .ready none) s [] w3 (.slice none 0 0) := fun s hs => ⟨hF3.keep (hF2.keep hB1 (by simp)) (by simp), ⟨rfl, .inl ⟨rfl, rfl⟩⟩, hF3.keep (hF2.keep hM1 (by simp)) (by simp), hL3, hK3, hG3, by omega⟩
  clear hD hlr hs3 HW3 hBs hs1 hBm hs2 hbb hC2 hB1 hM1 hF1 hF2 hF3 hL3 hK3
  have HDq : Hid (Dq w Bs Bm lr D) := hDq
  refine (hT 1 lr bb w3 (fun s i W => (∃ v, Lq w Bs Bm lr D (.cells #[.int .i64 most] 3 (0, 0)) (RC .ready none) s (xs.take i) W v) ∧ (i = 0 ∨ (i : Int) ≤ most)) (fun s i W => ∃ v, Lq w Bs Bm lr D (.cells #[.int .i64 most] 3 (0, 0)) (RC .done (some (.exit 0))) s (xs.take i) W v) (fun i => decide ((i : Int) < most)) hG3 hC3 hbl (fun s hs => ⟨⟨_, hA0 s hs⟩, Or.inl rfl⟩) ?_ ?_).mono ?_
  · rintro s i W W' ⟨⟨v, h⟩, h2⟩ hf
    exact ⟨⟨v, h.quiet hf⟩, h2⟩
  · rintro s i W ⟨⟨v, hL⟩, him⟩ hsW hsw hix
    refine round_of1 HRC hL.lp ?_
    have hbr := begin_of (P := Try.prog) HRC hL.lp
    have hLb := hL.rec_ hDq (RC .busy none)
    have hszb : (W.putObj lr (.loop (RC .busy none))).heap.size = W.heap.size := by simp
    have hfb := Fr.putObj W lr (.loop (RC .busy none))
    obtain ⟨Wb, HWb⟩ : ∃ Wb, Hid (W.putObj lr (.loop (RC .busy none)) = Wb) := ⟨_, rfl⟩
    rw [HWb.out] at hbr hLb hszb hfb
    obtain ⟨x, hxx⟩ : ∃ x, x = xs.getD i 0 := ⟨_, rfl⟩
    rw [← hxx]
    have HX : Hid (xs.take i ++ [x] = xs.take (i + 1)) := by rw [hxx]; exact take_succ_getD xs i hix
    have x0 : Wb.cell? ⟨Bs, 0, none⟩ = some v := by rw [cell_of_row _ _ _ _ _ _ hLb.box]; rfl
    have x1 : Wb.frozen? ⟨Bs, 0, none⟩ = false := by simp [World.frozen?, hLb.box]
    have x2 : Wb.cell? ⟨Bm, 0, none⟩ = some (.int .i64 most) := by rw [cell_of_row _ _ _ _ _ _ hLb.mb]; rfl
    have HLb : Hid (Lq w Bs Bm lr D (.cells #[.int .i64 most] 3 (0, 0)) (RC .busy none) s (xs.take i) Wb v) := hLb
    have hrow := hLb.row
    have hln : (xs.take i).length = i := by simp; omega
    rw [hln] at hrow
    obtain ⟨ao, cap, rfl⟩ : ∃ ao cap, v = .slice ao i cap := by
      rcases hrow.2 with ⟨rfl, h0⟩ | ⟨g', cap', cur', rfl, _⟩
      · exact ⟨none, 0, by rw [h0]⟩
      · exact ⟨_, cap', rfl⟩
    clear hL hLb hln HWb hxx
    simp only [List.setIfInBounds_toArray, List.set_cons_succ, List.set_cons_zero]
    have hsb : s ≤ Wb.heap.size := by omega
    have hil : i ≤ 65536 := by omega
    have Hkeep : Hid (∀ w4 rec, Fr (Bs :: (Value.slice ao i cap).ownBlock.toList) Wb w4 → W.heap.size ≤ (w4.putObj lr (.loop rec)).heap.size ∧ ∀ k, w3.heap.size ≤ k ∧ k < s → (w4.putObj lr (.loop rec)).heap[k]? = W.heap[k]?) := by
      intro w4 rec hf4
      refine ⟨by have := hf4.size; simp; omega, fun k hk => ?_⟩
      have hd := HDq.out
      obtain ⟨d0, d2, d3, d4, d5⟩ := hd
      have e1 := (Fr.putObj w4 lr (.loop rec)).block k (by have := hf4.size; omega) (by simp; omega)
      have e2 := hf4.block k (by omega) (by
        simp only [List.mem_cons, Option.mem_toList, not_or]
        refine ⟨by omega, fun hv => ?_⟩
        have := (owns_cells hrow hv).1
        omega)
      have e3 := hfb.block k (by omega) (by simp; omega)
      exact e1.trans (e2.trans e3)
    clear hfb hszb
    by_cases hgo : (i : Int) < most
    · have hdec : decide ((i : Int) < most) = true := decide_eq_true hgo
      have hng : ¬ most ≤ (i : Int) := by omega
      gi_wp2_with (first
        | (gi_at_builtin; refine wpListIn_append_own _ rfl _ _ 31 rfl s 3 i0 _ 1 8 Try.undIs hi hz0 hz1 hz2 rfl (by decide) _ _ _ rfl (hrow.alloc _) ⟨Wb.heap.size, 0, none⟩ 1 1 [.int .i64 x] rfl rfl (one_cell Wb x) (by intro u hu; simp at hu; subst hu; rfl) (by omega) (by omega) (by simp; omega) ?_
           intro v' w4 hown' hg4 hnil4
           have hf4 : Fr (Value.slice ao i cap).ownBlock.toList Wb w4 := (Fr.alloc _ Wb _).then (Fr.grown hg4 (fun y hy _ => Option.mem_toList.2 hy))
           have hA4 := HLb.out.app HDq.out hf4 (x := x) (u := v') (by have e : (xs.take i).length = i := (by simp; omega); rw [e]; exact hown')
           have hbx4 : w4.heap[Bs]? = some (.cells #[.slice ao i cap] 31 (0, 0)) := hf4.keep HLb.out.box (fun hh => by simp only [Option.mem_toList] at hh; have h1 := HLb.out.far hh; have h2 := HDq.out.a3; have h3 := HDq.out.a5; omega)
           have c4 : w4.cell? ⟨Bs, 0, none⟩ = some (.slice ao i cap) := by rw [cell_of_row _ _ _ _ _ _ hbx4]; rfl
           have d4 : w4.frozen? ⟨Bs, 0, none⟩ = false := by simp [World.frozen?, hbx4]
           obtain ⟨g', cap', rfl⟩ : ∃ g' cap', v' = .slice (some ⟨g', 0, none⟩) (i + 1) cap' := by
             rcases hown'.2 with ⟨_, h0⟩ | ⟨g', cap', cur', h1, _⟩
             · exact absurd h0 (by omega)
             · exact ⟨g', cap', h1⟩
           go_frame)
        | (rw [Oper.semAt_eq _ _ _ (fun c h => by cases h)]; go_simp; try go_bits))
      have hend := end_of (P := Try.prog) HRC hA4.lp none
      have hA5 := hA4.rec_ HDq.out (RC .ready none)
      obtain ⟨k1, k2⟩ := Hkeep.out (w4.setCell ⟨Bs, 0, none⟩ (.slice (some ⟨g', 0, none⟩) (i + 1) cap')) (RC .ready none) ((hf4.mono (by intro y hy _; exact List.mem_cons_of_mem _ hy)).then (Fr.set _ _ _ (by simp)))
      rw [HX.out] at hA5
      exact ⟨_, _, hend, rfl, ⟨⟨_, hA5⟩, by omega⟩, k1, fun k h1 h2 => k2 k ⟨h1, h2⟩⟩
    · have hdec : decide ((i : Int) < most) = false := decide_eq_false hgo
      have hng : most ≤ (i : Int) := by omega
      gi_wp2_with (rw [Oper.semAt_eq _ _ _ (fun c h => by cases h)]; go_simp; try go_bits)
      have hend := end_of (P := Try.prog) HRC HLb.out.lp (some (.exit 0))
      have hA5 := HLb.out.rec_ HDq.out (RC .done (some (.exit 0)))
      obtain ⟨k1, k2⟩ := Hkeep.out Wb (RC .done (some (.exit 0))) (Fr.refl _ _)
      exact ⟨_, _, hend, rfl, ⟨_, hA5⟩, k1, fun k h1 h2 => k2 k ⟨h1, h2⟩⟩
  · rintro e W3 ⟨⟨v0, rfl⟩, s, hEnd⟩
    obtain ⟨st, pe, v, hst, hpe, hL⟩ : ∃ st pe v, st ≠ .busy ∧ (pe = none ∨ pe = some (.exit 0)) ∧ Lq w Bs Bm lr D (.cells #[.int .i64 most] 3 (0, 0)) (RC st pe) s (xs.take most.toNat) W3 v := by
      rcases hEnd with ⟨⟨v, hL⟩, h2⟩ | ⟨i, hi1, hi2, hi3, v, hL⟩
      · refine ⟨.ready, none, v, by simp, Or.inl rfl, ?_⟩
        have e : xs.take most.toNat = xs.take xs.length := by
          rw [List.take_of_length_le (Nat.le_refl _)]
          rcases h2 with h2 | h2
          · rw [List.eq_nil_of_length_eq_zero h2]
            simp
          · exact List.take_of_length_le (by omega)
        rw [e]
        exact hL
      · refine ⟨.done, some (.exit 0), v, by simp, Or.inr rfl, ?_⟩
        have h2 := of_decide_eq_false hi2
        have e : most.toNat = i := by
          rcases Nat.eq_zero_or_pos i with h0 | h0
          · omega
          · have h3 := of_decide_eq_true (hi3 (i - 1) (by omega))
            omega
        rw [e]
        exact hL
    have hle := loop_end_of (P := Try.prog) HRC hL.lp hst
    have hL4 := hL.rec_ HDq.out (RC .exhausted pe)
    obtain ⟨W4, HW4⟩ : ∃ W4, Hid (W3.putObj lr (.loop (RC .exhausted pe)) = W4) := ⟨_, rfl⟩
    rw [HW4.out] at hle hL4
    have x0 : W4.cell? ⟨Bs, 0, none⟩ = some v := by rw [cell_of_row _ _ _ _ _ _ hL4.box]; rfl
    have x1 : W4.frozen? ⟨Bs, 0, none⟩ = false := by simp [World.frozen?, hL4.box]
    have HL4 : Hid (Lq w Bs Bm lr D (.cells #[.int .i64 most] 3 (0, 0)) (RC .exhausted pe) s (xs.take most.toNat) W4 v) := hL4
    have hsw : w.heap.size ≤ s := by have := hL4.sl; have := HDq.out.a0; have := HDq.out.a3; have := HDq.out.a5; omega
    clear hL hL4 HRC hA0 hEnd
    refine ⟨pe, W4, hle, ?_⟩
    clear hle
    rcases hpe with rfl | rfl
    · gi_wp2_with fail
      have hF5 : Fr [D] W4 (W4.putObj D (.deferred none)) := Fr.putObj _ D _
      refine ⟨by simp, .inl ⟨_, _, rfl, run_takeDeferred HL4.out.df, ?_⟩⟩
      refine ⟨_, results_tmp rfl _ _ _, v, rfl, owns_less (owns_keepB HL4.out.row hF5 (fun k hk hh => ?_)) hsw, HL4.out.fr.on hF5 (by intro y hy; simp at hy; have := HDq.out.a0; have := HDq.out.a3; omega)⟩
      have := HL4.out.far hk
      have := HDq.out.a5
      simp at hh
      omega
    · gi_wp2_with fail
      have hF5 : Fr [D] W4 (W4.putObj D (.deferred none)) := Fr.putObj _ D _
      refine ⟨by simp, .inl ⟨_, _, rfl, run_takeDeferred HL4.out.df, ?_⟩⟩
      refine ⟨_, results_tmp rfl _ _ _, v, rfl, owns_less (owns_keepB HL4.out.row hF5 (fun k hk hh => ?_)) hsw, HL4.out.fr.on hF5 (by intro y hy; simp at hy; have := HDq.out.a0; have := HDq.out.a3; omega)⟩
      have := HL4.out.far hk
      have := HDq.out.a5
      simp at hh
      omega
end Go.Proofs.Ytgdffhmbhknfcaa

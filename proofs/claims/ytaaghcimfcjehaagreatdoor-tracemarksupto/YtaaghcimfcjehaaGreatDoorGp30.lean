/- Texts of this claim laid together, one behind the other: contracts and plain lemmas; conditions as each names them. -/
import Derived.Test.YtaaghcimfcjehaaGreatDoorGp29
import Derived.Test.YtaaghcimfcjehaaGreatDoorGp1
import Derived.Lib.Bytealg
import Derived.Sort.Walk0
import Derived.Shelf.SlSortCmp.WholeK
import Derived.Shelf.Small.Strs
import Derived.Shelf.Lay
import Derived.Ground.SlsfProg
import Derived.Ground.NamesProg
/- slices.AppendSeq and slices.Collect of entries, against whatever iterator. Conditions as each names them. -/
namespace Go.Proofs.YtaaghcimfcjehaaGreatDoor
open Go.ChangeShapes Go.WideShapes Go.ChangeAt Go.RowKit Go.Lib Go.Maps Go.Sort
set_option linter.unusedVariables false
attribute [local go_sem] Oper.semAt_some

theorem Tryz.undEns : Tryz.prog.underlying 100 = some (.slice 152) := by kernel_rfl
theorem Tryz.infoEn : (Tryz.prog.info? 152).map (fun i => (i.zero, i.size, i.bytes)) = some (some (.agg #[.string ⟨#[]⟩, .string ⟨#[]⟩]), 2, 32) := by kernel_rfl
theorem Tryz.infoEn' : ∃ i, Tryz.prog.info? 152 = some i ∧ i.zero = some (.agg #[.string ⟨#[]⟩, .string ⟨#[]⟩]) ∧ i.size = 2 ∧ i.bytes = 32 := by
  have h := Tryz.infoEn
  cases hi : Tryz.prog.info? 152 with
  | none => rw [hi] at h; cases h
  | some i =>
    rw [hi] at h
    simp only [Option.map_some, Option.some.injEq, Prod.mk.injEq] at h
    exact ⟨i, rfl, h.1, h.2.1, h.2.2⟩
theorem owns_keepB {S : List Nat} {w w' : World} {base : Nat} {e : TypeId} {size : Nat} {v : Value} {n : Nat} {xs : List Value} (h : w.ownsRow base e size v n xs) (hf : Fr S w w') (hn : ∀ k, v.ownBlock = some k → k ∉ S) : w'.ownsRow base e size v n xs := by
  refine ⟨h.1, ?_⟩
  rcases h.2 with h0 | ⟨g, cap, cur, hv, hb, hg, hr⟩
  · exact Or.inl h0
  · exact Or.inr ⟨g, cap, cur, hv, hb, hf.keep hg (hn g (by rw [hv]; rfl)), hr⟩
theorem owns_cells {w : World} {base : Nat} {e : TypeId} {size : Nat} {v : Value} {n : Nat} {xs : List Value} (h : w.ownsRow base e size v n xs) {k : Nat} (hk : v.ownBlock = some k) : base ≤ k ∧ ∃ cur, w.heap[k]? = some (.cells cur e (0, 0)) := by
  rcases h.2 with ⟨rfl, _⟩ | ⟨g, cap, cur, rfl, hb, hg, hr⟩
  · simp [Value.ownBlock] at hk
  · simp [Value.ownBlock] at hk
    subst hk
    exact ⟨hb, cur, hg⟩
theorem new2_cells (w : World) (x : Pr) : ∀ (j : Nat) (u : Value), [Value.string x.1, Value.string x.2][j]? = some u → (w.alloc (.cells #[.string x.1, .string x.2] 152)).cell? ((⟨w.heap.size, 0, none⟩ : Addr).add j) = some u := by
  intro j u hu
  have hr := heap_alloc_new w (.cells #[.string x.1, .string x.2] 152)
  match j, hu with
  | 0, hu => show World.cell? _ ⟨w.heap.size, 0, none⟩ = _; rw [cell_of_row _ _ _ _ _ _ hr]; exact hu
  | 1, hu => show World.cell? _ ⟨w.heap.size, 1, none⟩ = _; rw [cell_of_row _ _ _ _ _ _ hr]; exact hu
  | (j + 2), hu => simp at hu
theorem new2_one (x : Pr) : ∀ u ∈ [Value.string x.1, Value.string x.2], u.oneCell' = true := by
  intro u hu
  simp only [List.mem_cons, List.not_mem_nil, or_false] at hu
  rcases hu with rfl | rfl <;> rfl
theorem box_set {w : World} {b : Nat} {t : TypeId} {v : Value} (h : w.heap[b]? = some (.cells #[v] t (0, 0))) (u : Value) : (w.setCell ⟨b, 0, none⟩ u).heap[b]? = some (.cells #[u] t (0, 0)) := by
  obtain ⟨hlt, hk⟩ := Array.getElem?_eq_some_iff.1 h
  show (w.heap.modify b _)[b]? = _
  rw [Array.getElem?_eq_getElem (by rw [Array.size_modify]; exact hlt), Array.getElem_modify_self, hk]
  rfl
/-- Between two rounds: the box holds a slice that owns what has come. -/
structure ApE (w0 : World) (Bs l D : Nat) (rec : Loop) (ps : List Pr) (W : World) (v : Value) : Prop where
  box : W.heap[Bs]? = some (.cells #[v] 100 (0, 0))
  row : W.ownsRow w0.heap.size 152 2 v ps.length (celsE ps)
  lp : W.heap[l]? = some (.loop rec)
  df : W.heap[D]? = some (.deferred (some []))
  fr : Fr [] w0 W
section
variable {w0 W W' : World} {Bs l D : Nat} {rec : Loop} {ps : List Pr} {v : Value}
theorem ApE.ne (h : ApE w0 Bs l D rec ps W v) {k : Nat} (hk : v.ownBlock = some k) : k ≠ Bs ∧ k ≠ l ∧ k ≠ D := by
  obtain ⟨_, cur, hc⟩ := owns_cells h.row hk
  refine ⟨?_, ?_, ?_⟩
  · rintro rfl; have := hc.symm.trans h.box; simp at this
  · rintro rfl; have := hc.symm.trans h.lp; simp at this
  · rintro rfl; have := hc.symm.trans h.df; simp at this
theorem ApE.keepS {S : List Nat} (h : ApE w0 Bs l D rec ps W v) (hf : Fr S W W') (hS : ∀ x ∈ S, w0.heap.size ≤ x ∧ x ≠ Bs ∧ x ≠ l ∧ x ≠ D ∧ v.ownBlock ≠ some x) : ApE w0 Bs l D rec ps W' v :=
  ⟨hf.keep h.box (fun hh => (hS _ hh).2.1 rfl), owns_keepB h.row hf (fun k hk hh => (hS _ hh).2.2.2.2 hk), hf.keep h.lp (fun hh => (hS _ hh).2.2.1 rfl), hf.keep h.df (fun hh => (hS _ hh).2.2.2.1 rfl), h.fr.on hf (fun x hx => (hS x hx).1)⟩
theorem ApE.rec_ (h : ApE w0 Bs l D rec ps W v) (rec' : Loop) (h0 : w0.heap.size ≤ l) (h1 : Bs ≠ l) (h2 : D ≠ l) : ApE w0 Bs l D rec' ps (W.putObj l (.loop rec')) v := by
  have hf := Fr.putObj W l (.loop rec')
  exact ⟨hf.keep h.box (by simpa using h1), owns_keepB h.row hf (fun k hk hh => by simp at hh; exact (h.ne hk).2.1 hh), World.putObj_heap_same (Array.getElem?_eq_some_iff.1 h.lp).1, hf.keep h.df (by simpa using h2), h.fr.on hf (fun x hx => by simp at hx; omega)⟩
theorem ApE.abides (B : Nat) (hB : w0.heap.size ≤ B) : AbidesFrom B (fun ps W => ∃ v, ApE w0 Bs l D rec ps W v) := fun ps W W' row ⟨v, h⟩ hg hrow => by
  have hf : Fr row.toList W W' := Fr.grown hg (by intro k hk _; simp [hk])
  refine ⟨v, h.keepS hf (fun x hx => ?_)⟩
  simp only [Option.mem_toList] at hx
  obtain ⟨hBx, o, ho, hw⟩ := hrow x hx
  refine ⟨by omega, ?_, ?_, ?_, ?_⟩
  · rintro rfl; rw [h.box] at ho; cases ho; cases hw
  · rintro rfl; rw [h.lp] at ho; cases ho; cases hw
  · rintro rfl; rw [h.df] at ho; cases ho; cases hw
  · intro hv; obtain ⟨_, cur, hc⟩ := owns_cells h.row hv; rw [hc] at ho; cases ho; cases hw
end
theorem walks_fr {S : List Nat} {W W' : World} (hf : Fr S W W') (hS : ∀ x ∈ S, ∀ o, W.heap[x]? = some o → o.isWalk = false) : KeepsWalks W W' := by
  refine ⟨hf.size, fun k o hk ho => hf.keep hk (fun hh => ?_)⟩
  rw [hS k hh o hk] at ho
  cases ho

set_option maxRecDepth 100000 in
set_option maxHeartbeats 4000000 in
theorem appendSeq_in (g : Nat) (lb : Array Value) (eg : ∀ args w, (callFunc g args).run Tryz.prog w = .ok (.enter g args) w) (S : List Pr → Prop) (N : Nat) (hN : N < 1099511627776) (w : World) (hseq : SeqGives Fence.wide 2 Tryz.prog g lb encE S N w) :
    CallsIn Fence.wide 3 Tryz.prog 179 #[.slice none 0 0, .func (.func g) #[] lb] w fun e w' => ∃ (v : Value) (ps : List Pr), e = .returned v ∧ S ps ∧ w'.ownsRow w.heap.size 152 2 v ps.length (celsE ps) ∧ Fr [] w w' := by
  obtain ⟨i0, hi, hz0, hz1, hz2⟩ := Tryz.infoEn'
  have hmx : (1099511627776 : Nat) ≤ maxLen := by unfold maxLen; omega
  refine callsIn_of_wp_marks Tryz.func179 rfl trivial ?_ rfl
  simp only [Tryz.ntmps179, List.size_toArray, List.length_cons, List.length_nil, Nat.reduceAdd, Nat.reduceSub, Array.replicate_succ, Array.replicate_zero, List.push_toArray, List.append_toArray, List.nil_append, List.cons_append]
  gi_wp2_with fail
  have hB1 : (w.alloc (.cells #[.slice none 0 0] 100)).heap[w.heap.size]? = some (.cells #[.slice none 0 0] 100 (0, 0)) := heap_alloc_new w _
  have hF1 : Fr [] w (w.alloc (.cells #[.slice none 0 0] 100)) := Fr.alloc _ _ _
  have hs1 : (w.alloc (.cells #[.slice none 0 0] 100)).heap.size = w.heap.size + 1 := by simp
  obtain ⟨w1, HW1⟩ : ∃ w1, Hid (w.alloc (.cells #[.slice none 0 0] 100) = w1) := ⟨_, rfl⟩
  rw [HW1.out] at hB1 hF1 hs1 ⊢
  obtain ⟨Bs, hBs⟩ : ∃ Bs, Bs = w.heap.size := ⟨_, rfl⟩
  rw [← hBs] at hB1 ⊢
  refine range_of rfl (fun _ => True.intro) rfl (gf := g) (lb := lb) rfl eg ?_
  intro fn RC HRC
  obtain ⟨D, hD⟩ : ∃ D, D = w1.heap.size := ⟨_, rfl⟩
  obtain ⟨lr, hlr⟩ : ∃ lr, lr = w1.heap.size + 1 := ⟨_, rfl⟩
  have hF2 : Fr [] w1 ((w1.alloc (.deferred (some []))).alloc (.loop (RC .ready none))) := (Fr.alloc [] _ _).then (Fr.alloc [] _ _)
  have hL2 : ((w1.alloc (.deferred (some []))).alloc (.loop (RC .ready none))).heap[w1.heap.size + 1]? = some (.loop (RC .ready none)) := by
    have := World.alloc_heap_new (w1.alloc (.deferred (some []))) (.loop (RC .ready none)); rwa [World.size_alloc] at this
  have hK2 : ((w1.alloc (.deferred (some []))).alloc (.loop (RC .ready none))).heap[w1.heap.size]? = some (.deferred (some [])) :=
    (Below.heap_alloc _ _ _ (by simp)).trans (World.alloc_heap_new w1 _)
  have hs2 : ((w1.alloc (.deferred (some []))).alloc (.loop (RC .ready none))).heap.size = w1.heap.size + 2 := by simp
  obtain ⟨w2, HW2⟩ : ∃ w2, Hid ((w1.alloc (.deferred (some []))).alloc (.loop (RC .ready none)) = w2) := ⟨_, rfl⟩
  rw [HW2.out] at hF2 hL2 hK2 hs2 ⊢
  rw [← hlr] at hL2 ⊢
  rw [← hD] at HRC hK2 ⊢
  have hord : w.heap.size ≤ Bs ∧ Bs < D ∧ D < lr ∧ lr < w2.heap.size := by omega
  clear hD hlr hs2 HW2 hBs hs1
  have hA0 : ApE w Bs lr D (RC .ready none) [] w2 (.slice none 0 0) := ⟨hF2.keep hB1 (by simp), ⟨rfl, .inl ⟨rfl, rfl⟩⟩, hL2, hK2, hF1.then hF2⟩
  have hG2 := hF1.then hF2
  refine (hseq lr (fun ps W => ∃ v, ApE w Bs lr D (RC .ready none) ps W v) w2 (hG2.below (Nat.le_refl _) (by simp)) (ApE.abides _ hG2.size) ?_ ⟨_, hA0⟩).mono ?_
  · rintro ps x W ⟨v, hL⟩ hlen
    refine round_of HRC rfl hL.lp ?_
    have hFa : Fr [] W (W.alloc (.cells #[.string x.1, .string x.2] 152)) := Fr.alloc _ _ _
    have hrow : (W.alloc (.cells #[.string x.1, .string x.2] 152)).heap[W.heap.size]? = some (.cells #[.string x.1, .string x.2] 152 (0, 0)) := heap_alloc_new W _
    have hLa := hL.keepS hFa (by simp)
    have hbr := begin_of (P := Tryz.prog) HRC hLa.lp
    have hLb := hLa.rec_ (RC .busy none) (by omega) (by omega) (by omega)
    have hlrW : lr < W.heap.size := lt_of_block hL.lp
    have hFb := Fr.putObj (W.alloc (.cells #[.string x.1, .string x.2] 152)) lr (.loop (RC .busy none))
    have hrowb := hFb.keep hrow (by simp; omega)
    have hkb : KeepsWalks W ((W.alloc (.cells #[.string x.1, .string x.2] 152)).putObj lr (.loop (RC .busy none))) := (KeepsWalks.alloc _ _).trans (KeepsWalks.putObj _ hLa.lp rfl)
    obtain ⟨Wb, HWb⟩ : ∃ Wb, Hid ((W.alloc (.cells #[.string x.1, .string x.2] 152)).putObj lr (.loop (RC .busy none)) = Wb) := ⟨_, rfl⟩
    rw [HWb.out] at hbr hLb hrowb hFb hkb
    have f0 : Wb.cell? ⟨W.heap.size, 0, none⟩ = some (.string x.1) := by rw [cell_of_row _ _ _ _ _ _ hrowb]; rfl
    have f1 : Wb.cell? ⟨W.heap.size, 1, none⟩ = some (.string x.2) := by rw [cell_of_row _ _ _ _ _ _ hrowb]; rfl
    have x0 : Wb.cell? ⟨Bs, 0, none⟩ = some v := by rw [cell_of_row _ _ _ _ _ _ hLb.box]; rfl
    have x1 : Wb.frozen? ⟨Bs, 0, none⟩ = false := by simp [World.frozen?, hLb.box]
    have hLbR := hLb.row
    have HLb : Hid (ApE w Bs lr D (RC .busy none) ps Wb v) := hLb
    have hbs : w.heap.size ≤ Wb.heap.size := hLb.fr.size
    clear hLa hrow hrowb hFa hL hLb hFb
    have hfo : Array.foldl (fun (t : Array Value) (x : Tmp × Value) => match x with | (p, v) => t.setIfInBounds p v) #[Value.slice none 0 0, Value.func (Fn.func g) #[] lb, Value.pointer (some { block := Bs, off := 0 }), undef, Value.slice none 0 0, undef, Value.func (Fn.func g) #[] lb, undef, undef, undef, undef, undef, undef] (#[7].zip #[encE x]) =
      #[Value.slice none 0 0, Value.func (Fn.func g) #[] lb, Value.pointer (some { block := Bs, off := 0 }), undef, Value.slice none 0 0, undef, Value.func (Fn.func g) #[] lb, .agg #[.string x.1, .string x.2], undef, undef, undef, undef, undef] := by simp [encE]
    rw [hfo]
    clear hfo
    gi_wp2_with (first
      | (gi_at_builtin; refine wpListIn_append_own _ rfl _ _ 100 rfl w.heap.size 152 i0 _ 2 32 Tryz.undEns hi hz0 hz1 hz2 rfl (by decide) _ _ _ rfl (hLbR.alloc _) ⟨Wb.heap.size, 0, none⟩ 1 1 [.string x.1, .string x.2] rfl rfl (new2_cells Wb x) (new2_one x) (by omega) (by omega) (by simp; omega) ?_
         intro v' w3 hown' hg3 hnil3
         have hf3 : Fr v.ownBlock.toList Wb w3 := (Fr.alloc _ Wb _).then (Fr.grown hg3 (fun y hy _ => Option.mem_toList.2 hy))
         have hbx3 : w3.heap[Bs]? = some (.cells #[v] 100 (0, 0)) := hf3.keep HLb.out.box (fun hh => by simp only [Option.mem_toList] at hh; exact (HLb.out.ne hh).1 rfl)
         have c3 : w3.cell? ⟨Bs, 0, none⟩ = some v := by rw [cell_of_row _ _ _ _ _ _ hbx3]; rfl
         have d3 : w3.frozen? ⟨Bs, 0, none⟩ = false := by simp [World.frozen?, hbx3]
         obtain ⟨g', cap', rfl, hgb⟩ : ∃ g' cap', v' = .slice (some ⟨g', 0, none⟩) (ps.length + 1) cap' ∧ w.heap.size ≤ g' := by
           rcases hown'.2 with ⟨_, h0⟩ | ⟨g', cap', cur', h1, h2, _⟩
           · exact absurd h0 (by omega)
           · exact ⟨g', cap', h1, h2⟩
         go_frame)
      | (rw [Oper.semAt_eq _ _ _ (fun c h => by cases h)]; go_simp; try go_bits))
    have hk3 : KeepsWalks Wb w3 := walks_fr hf3 (fun y hy o ho => by
      simp only [Option.mem_toList] at hy
      obtain ⟨_, cur, hc⟩ := owns_cells HLb.out.row hy
      rw [hc] at ho; cases ho; rfl)
    obtain ⟨u, hu⟩ : ∃ u, u = Value.slice (some { block := g', off := 0 }) (ps.length + 1) cap' := ⟨_, rfl⟩
    rw [← hu] at hown' ⊢
    have huo : u.ownBlock = some g' := by rw [hu]; rfl
    have hgB : g' ≠ Bs := by
      rintro rfl
      obtain ⟨_, cur, hc⟩ := owns_cells hown' huo
      have := hc.symm.trans hbx3
      simp at this
    have hfs : Fr [Bs] w3 (w3.setCell ⟨Bs, 0, none⟩ u) := Fr.set _ _ _ (by simp)
    have n3 : ∀ {y : Nat}, y ∈ v.ownBlock.toList → y ≠ Bs ∧ y ≠ lr ∧ y ≠ D := fun hy => by simp only [Option.mem_toList] at hy; exact HLb.out.ne hy
    have hA4 : ApE w Bs lr D (RC .busy none) (ps ++ [x]) (w3.setCell ⟨Bs, 0, none⟩ u) u := by
      refine ⟨?_, ?_, hfs.keep (hf3.keep HLb.out.lp (fun hh => (n3 hh).2.1 rfl)) (by simp; omega), hfs.keep (hf3.keep HLb.out.df (fun hh => (n3 hh).2.2 rfl)) (by simp; omega), (HLb.out.fr.on hf3 (fun y hy => ?_)).on hfs (by intro y hy; simp at hy; omega)⟩
      · exact box_set hbx3 u
      · have := owns_keepB hown' hfs (fun k hk hh => by rw [huo] at hk; cases hk; simp at hh; exact hgB hh)
        rw [List.length_append, List.length_singleton, celsE_snoc]
        exact this
      · simp only [Option.mem_toList] at hy
        exact (owns_cells HLb.out.row hy).1
    have hend := end_of (P := Tryz.prog) HRC hA4.lp none
    have hA5 := hA4.rec_ (RC .ready none) (by omega) (by omega) (by omega)
    exact ⟨_, _, hend, rfl, ⟨u, hA5⟩, hkb.trans (hk3.trans ((KeepsWalks.setCell _ _ _).trans (KeepsWalks.putObj _ hA4.lp rfl)))⟩
  · rintro e W3 ⟨⟨v0, rfl⟩, ps, hS, v, hL⟩
    have hle := loop_end_of (P := Tryz.prog) HRC hL.lp (by simp)
    have hL4 := hL.rec_ (RC .exhausted none) (by omega) (by omega) (by omega)
    obtain ⟨W4, HW4⟩ : ∃ W4, Hid (W3.putObj lr (.loop (RC .exhausted none)) = W4) := ⟨_, rfl⟩
    rw [HW4.out] at hle hL4
    have x0 : W4.cell? ⟨Bs, 0, none⟩ = some v := by rw [cell_of_row _ _ _ _ _ _ hL4.box]; rfl
    have x1 : W4.frozen? ⟨Bs, 0, none⟩ = false := by simp [World.frozen?, hL4.box]
    have HL4 : Hid (ApE w Bs lr D (RC .exhausted none) ps W4 v) := hL4
    have HS : Hid (S ps) := hS
    clear hL hL4 hS HRC hseq hA0
    refine ⟨none, W4, hle, ?_⟩
    clear hle
    gi_wp2_with fail
    have hF5 : Fr [D] W4 (W4.putObj D (.deferred none)) := Fr.putObj _ D _
    refine ⟨by simp, .inl ⟨_, _, rfl, run_takeDeferred HL4.out.df, ?_⟩⟩
    refine ⟨_, results_tmp rfl _ _ _, v, ps, rfl, HS.out, owns_keepB HL4.out.row hF5 (fun k hk hh => by simp at hh; exact (HL4.out.ne hk).2.2 hh), HL4.out.fr.on hF5 (by intro y hy; simp at hy; omega)⟩


set_option maxHeartbeats 1000000 in
theorem collect_in (g : Nat) (lb : Array Value) (eg : ∀ args w, (callFunc g args).run Tryz.prog w = .ok (.enter g args) w) (S : List Pr → Prop) (N : Nat) (hN : N < 1099511627776) (w : World) (hseq : SeqGives Fence.wide 2 Tryz.prog g lb encE S N w) :
    Calls Tryz.prog 167 #[.func (.func g) #[] lb] w fun e w' => ∃ (v : Value) (ps : List Pr), e = .returned v ∧ S ps ∧ w'.ownsRow w.heap.size 152 2 v ps.length (celsE ps) ∧ Fr [] w w' := by
  have h0 := callsIn_wide.1 (appendSeq_in g lb eg S N hN w hseq)
  go_enter Tryz.func167, Tryz.ntmps167
  go_wp2_with fail
  refine h0.mono ?_
  rintro e w1 ⟨v, ps, rfl, hS, hrow, hF⟩
  go_wp2
  go_ret
  exact ⟨v, ps, rfl, hS, hrow, hF⟩

/-- slices.Collect(maps.Values(m)): the pairs of the map, in some order, in a row of its own. -/
theorem collect_values (b Bm nn : Nat) (E : ByteArray → Option ByteArray) (w : World) (hM : MapE w b nn E) (hn : nn < 1099511627776) (hBm : Bm < w.heap.size) (hm : w.cell? ⟨Bm, 0, none⟩ = some (.map (some b))) :
    Calls Tryz.prog 167 #[.func (.func 169) #[] #[.pointer (some ⟨Bm, 0, none⟩)]] w fun e w' => ∃ (v : Value) (ps : List Pr), e = .returned v ∧ (AllP E ps ∧ ps.length ≤ nn) ∧ w'.ownsRow w.heap.size 152 2 v ps.length (celsE ps) ∧ Fr [] w w' :=
  collect_in 169 _ (enters_of Tryz.func169 (by kernel_rfl) rfl) (fun ps => AllP E ps ∧ ps.length ≤ nn) nn hn w (values_gives 1 Bm b nn E w hBm hm hM)
end Go.Proofs.YtaaghcimfcjehaaGreatDoor
/- The order of keys, byte by byte: strict and total; what comparing tells. No conditions. -/
namespace Go.Proofs.YtaaghcimfcjehaaGreatDoor
set_option linter.unusedVariables false

theorem bl_irrefl : ∀ a : List UInt8, Op.bytesLess a a = false
  | [] => rfl
  | x :: xs => by simp [Op.bytesLess, bl_irrefl xs]
theorem bl_cmp : ∀ a b : List UInt8, (Lib.compareBytes a b < 0 ↔ Op.bytesLess a b = true)
  | [], [] => by simp [Lib.compareBytes, Op.bytesLess]
  | [], _ :: _ => by simp [Lib.compareBytes, Op.bytesLess]
  | _ :: _, [] => by simp [Lib.compareBytes, Op.bytesLess]
  | x :: xs, y :: ys => by
    have ih := bl_cmp xs ys
    unfold Lib.compareBytes Op.bytesLess
    by_cases h1 : x < y
    · simp [h1]
    · by_cases h2 : y < x
      · simp [h1, h2]
        intro e
        subst e
        exact absurd h2 h1
      · simp [h1, h2]
        have e : x = y := UInt8.le_antisymm (UInt8.not_lt.1 h2) (UInt8.not_lt.1 h1)
        simp [e, ih]
theorem bl_lt (a b : List UInt8) : Op.bytesLess a b = true ↔ a < b := by rw [bytesLess_eq]; simp
theorem bl_trans {a b c : List UInt8} (h1 : Op.bytesLess a b = true) (h2 : Op.bytesLess b c = true) : Op.bytesLess a c = true := by
  rw [bl_lt] at *
  exact List.lt_trans h1 h2
theorem bl_ntrans {a b c : List UInt8} (h1 : Op.bytesLess a b = false) (h2 : Op.bytesLess b c = false) : Op.bytesLess a c = false := by
  rw [bytesLess_eq] at *
  simp only [decide_eq_false_iff_not, List.not_lt] at *
  exact List.le_trans h2 h1
theorem bl_eq {a b : List UInt8} (h1 : Op.bytesLess a b = false) (h2 : Op.bytesLess b a = false) : a = b := by
  rw [bytesLess_eq] at *
  simp only [decide_eq_false_iff_not, List.not_lt] at *
  exact List.le_antisymm h2 h1
theorem bl_asymm {a b : List UInt8} (h1 : Op.bytesLess a b = true) : Op.bytesLess b a = false := by
  cases h : Op.bytesLess b a with
  | false => rfl
  | true => have := bl_trans h1 h; rw [bl_irrefl] at this; cases this
end Go.Proofs.YtaaghcimfcjehaaGreatDoor
/- Entries by rising keys: strings.Compare, byKey, slices.SortFunc of a row of entries. Conditions as each names them. -/
namespace Go.Proofs.YtaaghcimfcjehaaGreatDoor
open Go.ChangeShapes Go.WideShapes Go.ChangeAt Go.RowKit Go.Lib Go.Maps Go.Sort Go.Shelf
set_option linter.unusedVariables false

shelf_lay_g SlLaysF0.n6 Slsf 6 at Tryz 168 as Tryz.sortEn
shelf_lay Lays.n106 Nm 106 at Tryz as Tryz.strCmp

def cfE (x y : Pr) : Int := compareBytes x.1.data.toList y.1.data.toList
set_option maxHeartbeats 1000000 in
theorem byKey_any (x y : Pr) (W : World) : Calls Tryz.prog 141 #[.agg #[.string x.1, .string x.2], .agg #[.string y.1, .string y.2]] W fun e w' => e = .returned (.int .i64 (cfE x y)) ∧ ∃ q os', w' = grow (W.drewN q) os' := by
  have hcon := fun W' => Any.strings_Compare Tryz.strCmp x.1 y.1 W'
  change ∀ W', Calls Tryz.prog 170 _ _ _ at hcon
  unfold cfE
  generalize compareBytes x.1.data.toList y.1.data.toList = r at hcon ⊢
  go_enter Tryz.func141, Tryz.ntmps141
  go_wp2_with (go_at_call 170; refine (hcon _).mono ?_; rintro e w' ⟨rfl, rfl⟩)
  go_ret
  exact ⟨rfl, 0, _, by rw [alloc_eq_grow, alloc_eq_grow, grow_grow]; rfl⟩
theorem ltOf_cfE (x y : Pr) : ltOf cfE x y = Op.bytesLess x.1.toList y.1.toList := by
  unfold ltOf cfE
  rw [ByteArray.toList_eq, ByteArray.toList_eq]
  have h := bl_cmp x.1.data.toList y.1.data.toList
  cases hb : Op.bytesLess x.1.data.toList y.1.data.toList with
  | true => simpa using h.2 hb
  | false =>
    rw [hb] at h
    simpa using h
theorem swoE : SWO (ltOf cfE) where
  irrefl x := by rw [ltOf_cfE]; exact bl_irrefl _
  trans x y z h1 h2 := by rw [ltOf_cfE] at *; exact bl_trans h1 h2
  ntrans x y z h1 h2 := by rw [ltOf_cfE] at *; exact bl_ntrans h1 h2
theorem celsE_at : ∀ (ps : List Pr) (t : Nat), t < ps.length * 2 → (celsE ps)[t]? = some ((celE ps[t / 2]!)[t % 2]!)
  | [], t, h => by simp at h
  | p :: ps, 0, h => by simp [celsE, celE]
  | p :: ps, 1, h => by simp [celsE, celE]
  | p :: ps, (t + 2), h => by
    have ih := celsE_at ps t (by simp at h; omega)
    have e1 : (t + 2) / 2 = t / 2 + 1 := by omega
    have e2 : (t + 2) % 2 = t % 2 := by omega
    rw [e1, e2]
    have e3 : (celsE (p :: ps))[t + 2]? = (celsE ps)[t]? := by simp [celsE, celE]
    rw [e3, ih]
    simp
theorem flatE (ps : List Pr) : flatK celE 2 ps.toArray = (celsE ps).toArray := by
  apply Array.ext_getElem?
  intro t
  by_cases h : t < ps.length * 2
  · have h1 : t < (flatK celE 2 ps.toArray).size := by rw [size_flatK]; simpa using h
    have h2 := get_flatK celE 2 ps.toArray t (by simpa using h)
    rw [getElem!_pos _ t h1] at h2
    rw [Array.getElem?_eq_getElem h1, h2, List.getElem?_toArray, celsE_at ps t h]
    simp
  · rw [Array.getElem?_eq_none (by rw [size_flatK]; simp; omega), Array.getElem?_eq_none (by simp [celsE_length]; omega)]
theorem holdsE {w : World} {g : Nat} {cur : Array Value} {e : TypeId} {ps : List Pr} (hb : w.heap[g]? = some (.cells cur e (0, 0))) (ht : cur.toList.take (ps.length * 2) = celsE ps) : HoldsK celE 2 w g 0 ps.toArray := by
  unfold HoldsK
  rw [flatE]
  intro j hj
  have hj' : j < ps.length * 2 := by simp [celsE_length] at hj; omega
  refine ⟨?_, by simp [World.frozen?, hb]⟩
  have h1 : (cur.toList.take (ps.length * 2))[j]? = (celsE ps)[j]? := by rw [ht]
  rw [List.getElem?_take_of_lt hj'] at h1
  rw [cell_of_row _ _ _ _ _ _ hb, Nat.zero_add, ← Array.getElem?_toList, h1]
  have hl : j < (celsE ps).length := by rw [celsE_length]; omega
  simp [hl]
theorem heapE {w : World} {g n : Nat} {os : Array Obj} {cur : Array Value} {e : TypeId} {fr : Nat × Nat} (d : Array Pr) (hb : w.heap[g]? = some (.cells cur e fr)) :
    (sortWorldK celE 2 w g 0 n d os).heap[g]? = some (.cells (putCells id 0 (flatK celE 2 d) cur) e fr) := by
  have hg : g < w.heap.size := (Array.getElem?_eq_some_iff.1 hb).1
  unfold sortWorldK putRowK
  rw [heap_grow_old _ _ (by simpa using hg)]
  simp [putRow, mapBlock, Sort.ahead, Array.getElem?_modify, hb, onCells]
theorem grownE {w : World} {g n : Nat} {os : Array Obj} (d : Array Pr) : w.grownBy (sortWorldK celE 2 w g 0 n d os) (some g) := by
  unfold sortWorldK putRowK
  refine ⟨rfl, rfl, rfl, by simp, fun k hk hne => ?_⟩
  rw [heap_grow_old _ _ (by simpa using hk)]
  have : g ≠ k := fun e => hne (by rw [e])
  simp [putRow, mapBlock, Sort.ahead, Array.getElem?_modify, this]
theorem take_putE (cur : Array Value) (vs : List Value) (h : vs.length ≤ cur.size) : (putCells id 0 vs.toArray cur).toList.take vs.length = vs := by
  apply List.ext_getElem?
  intro j
  by_cases hj : j < vs.length
  · rw [List.getElem?_take_of_lt hj, Array.getElem?_toList]
    simp [putCells, hj, show j < cur.size by omega]
  · rw [List.getElem?_take_eq_none (by omega), List.getElem?_eq_none (by omega)]
/-- No later key is less. -/
def Sd (ps : List Pr) : Prop := ps.Pairwise fun a b => Op.bytesLess b.1.toList a.1.toList = false
theorem sd_of {ds : List Pr} (h : SortedIn (ltOf cfE) 0 ds.length ds.toArray) : Sd ds := by
  unfold Sd
  rw [List.pairwise_iff_getElem]
  intro i j hi hj hij
  have := h i j (Nat.zero_le _) hij hj
  rw [ltOf_cfE] at this
  simpa [hi, hj] using this
theorem Tryz.isAggEn (w : World) : (isAgg 152).run Tryz.prog w = .ok true w := by kernel_rfl
theorem Tryz.sizeOfEn (w : World) : (Go.sizeOf 152).run Tryz.prog w = .ok 2 w := by kernel_rfl
theorem celE_one (x : Pr) : ∀ v ∈ celE x, v.oneCell' = true := new2_one x
set_option maxHeartbeats 1000000 in
theorem sortE_some (base g cap : Nat) (ps : List Pr) (w : World) (hrow : w.ownsRow base 152 2 (.slice (some ⟨g, 0, none⟩) ps.length cap) ps.length (celsE ps)) (hlen : ps.length < 1099511627776) :
    Calls Tryz.prog 168 #[.slice (some ⟨g, 0, none⟩) ps.length cap, .func (.func 141) #[] #[]] w fun e w' => e = .returned (.tuple #[]) ∧ ∃ ds, ds.Perm ps ∧ Sd ds ∧ w'.ownsRow base 152 2 (.slice (some ⟨g, 0, none⟩) ps.length cap) ps.length (celsE ds) ∧ Fr [g] w w' := by
  obtain ⟨hl, hr⟩ := hrow
  rcases hr with ⟨hh, _⟩ | ⟨g', cap', cur, hh, hbase, hb, h1, h2, h3, h4⟩
  · cases hh
  cases hh
  have eg : ∀ args w, (callFunc 141 args).run Tryz.prog w = .ok (.enter 141 args) w := enters_of Tryz.func141 (by kernel_rfl) rfl
  have hcmp : CmpLays Tryz.prog 141 #[] celE 2 cfE g 0 ps.toArray.size w := fun _ _ _ _ x y => byKey_any x y _
  have hcon := AnyQ.slices_SortFunc Tryz.sortEn 2 Tryz.isAggEn Tryz.sizeOfEn celE (fun _ => rfl) celE_one cfE swoE 141 #[] g 0 cap ps.toArray w eg hcmp (holdsE hb h4) (lt_of_block hb) (by simp; omega)
  change Calls Tryz.prog 168 _ _ _ at hcon
  have hsz : ps.toArray.size = ps.length := by simp
  rw [hsz] at hcon
  refine hcon.mono ?_
  rintro e w' ⟨rfl, d', n, os, hp, hs, rfl⟩
  obtain ⟨hs1, _, hp1⟩ := hp
  have hd : d'.toList.length = ps.length := by simpa using hs1
  refine ⟨rfl, d'.toList, ?_, ?_, ⟨?_, .inr ⟨g, cap, _, rfl, hbase, heapE d' hb, h1, h2, by simp [putCells, h3], ?_⟩⟩, Fr.grown (grownE d') (by intro k hk _; cases hk; simp)⟩
  · have e1 : d'.extract 0 ps.length = d' := by rw [← hd]; simp
    have e2 : ps.toArray.extract 0 ps.length = ps.toArray := by simp
    rw [e1, e2] at hp1
    simpa using hp1
  · refine sd_of ?_
    rw [hd]
    simpa using hs
  · rw [celsE_length, hd]; omega
  · have e1 : flatK celE 2 d' = (celsE d'.toList).toArray := by rw [← flatE]
    have e2 : ps.length * 2 = (celsE d'.toList).length := by rw [celsE_length, hd]; omega
    rw [e1, e2]
    exact take_putE cur _ (by rw [celsE_length, hd, h3]; omega)
end Go.Proofs.YtaaghcimfcjehaaGreatDoor

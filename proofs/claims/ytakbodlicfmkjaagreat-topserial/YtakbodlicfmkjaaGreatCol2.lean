/- slices.AppendSeq and slices.Collect of entries, against whatever iterator. Conditions as each names them. -/
import Derived.Test.YtakbodlicfmkjaaGreatCol
namespace Go.Proofs.YtakbodlicfmkjaaGreat.Fo
open Go.ChangeShapes Go.WideShapes Go.ChangeAt Go.RowKit Go.Lib Go.Maps Go.Sort
set_option linter.unusedVariables false
attribute [local go_sem] Oper.semAt_some

theorem Tryz.undEns : Tryz.prog.underlying 40 = some (.slice 61) := by kernel_rfl
theorem Tryz.infoEn : (Tryz.prog.info? 61).map (fun i => (i.zero, i.size, i.bytes)) = some (some (.agg #[.string ⟨#[]⟩, .string ⟨#[]⟩]), 2, 32) := by kernel_rfl
theorem Tryz.infoEn' : ∃ i, Tryz.prog.info? 61 = some i ∧ i.zero = some (.agg #[.string ⟨#[]⟩, .string ⟨#[]⟩]) ∧ i.size = 2 ∧ i.bytes = 32 := by
  have h := Tryz.infoEn
  cases hi : Tryz.prog.info? 61 with
  | none => rw [hi] at h; cases h
  | some i =>
    rw [hi] at h
    simp only [Option.map_some, Option.some.injEq, Prod.mk.injEq] at h
    exact ⟨i, rfl, h.1, h.2.1, h.2.2⟩
theorem owns_keepB {S : List Nat} {w w' : World} {base : Nat} {e : TypeId} {size : Nat} {v : Value} {n : Nat} {xs : List Value} (h : w.ownsRow base e size v n xs) (hf : Fr S w w') (hn : ∀ k, v.ownBlock = some k → k ∉ S) : w'.ownsRow base e size v n xs := by
  refine ⟨h.1, ?_⟩
  rcases h.2 with h0 | ⟨g, cap, cur, hv, hb, hg, hr⟩
  · exact Or.inl h0
  · exact Or.inr ⟨g, cap, cur, hv, hb, hf.keep hg (hn g (by rw [hv]; rfl)), hr⟩
theorem owns_cells {w : World} {base : Nat} {e : TypeId} {size : Nat} {v : Value} {n : Nat} {xs : List Value} (h : w.ownsRow base e size v n xs) {k : Nat} (hk : v.ownBlock = some k) : base ≤ k ∧ ∃ cur, w.heap[k]? = some (.cells cur e (0, 0)) := by
  rcases h.2 with ⟨rfl, _⟩ | ⟨g, cap, cur, rfl, hb, hg, hr⟩
  · simp [Value.ownBlock] at hk
  · simp [Value.ownBlock] at hk
    subst hk
    exact ⟨hb, cur, hg⟩
theorem new2_cells (w : World) (x : Pr) : ∀ (j : Nat) (u : Value), [Value.string x.1, Value.string x.2][j]? = some u → (w.alloc (.cells #[.string x.1, .string x.2] 61)).cell? ((⟨w.heap.size, 0, none⟩ : Addr).add j) = some u := by
  intro j u hu
  have hr := heap_alloc_new w (.cells #[.string x.1, .string x.2] 61)
  match j, hu with
  | 0, hu => show World.cell? _ ⟨w.heap.size, 0, none⟩ = _; rw [cell_of_row _ _ _ _ _ _ hr]; exact hu
  | 1, hu => show World.cell? _ ⟨w.heap.size, 1, none⟩ = _; rw [cell_of_row _ _ _ _ _ _ hr]; exact hu
  | (j + 2), hu => simp at hu
theorem new2_one (x : Pr) : ∀ u ∈ [Value.string x.1, Value.string x.2], u.oneCell' = true := by
  intro u hu
  simp only [List.mem_cons, List.not_mem_nil, or_false] at hu
  rcases hu with rfl | rfl <;> rfl
theorem box_set {w : World} {b : Nat} {t : TypeId} {v : Value} (h : w.heap[b]? = some (.cells #[v] t (0, 0))) (u : Value) : (w.setCell ⟨b, 0, none⟩ u).heap[b]? = some (.cells #[u] t (0, 0)) := by
  obtain ⟨hlt, hk⟩ := Array.getElem?_eq_some_iff.1 h
  show (w.heap.modify b _)[b]? = _
  rw [Array.getElem?_eq_getElem (by rw [Array.size_modify]; exact hlt), Array.getElem_modify_self, hk]
  rfl
/-- Between two rounds: the box holds a slice that owns what has come. -/
structure ApE (w0 : World) (Bs l D : Nat) (rec : Loop) (ps : List Pr) (W : World) (v : Value) : Prop where
  box : W.heap[Bs]? = some (.cells #[v] 40 (0, 0))
  row : W.ownsRow w0.heap.size 61 2 v ps.length (celsE ps)
  lp : W.heap[l]? = some (.loop rec)
  df : W.heap[D]? = some (.deferred (some []))
  fr : Fr [] w0 W
section
variable {w0 W W' : World} {Bs l D : Nat} {rec : Loop} {ps : List Pr} {v : Value}
theorem ApE.ne (h : ApE w0 Bs l D rec ps W v) {k : Nat} (hk : v.ownBlock = some k) : k ≠ Bs ∧ k ≠ l ∧ k ≠ D := by
  obtain ⟨_, cur, hc⟩ := owns_cells h.row hk
  refine ⟨?_, ?_, ?_⟩
  · rintro rfl; have := hc.symm.trans h.box; simp at this
  · rintro rfl; have := hc.symm.trans h.lp; simp at this
  · rintro rfl; have := hc.symm.trans h.df; simp at this
theorem ApE.keepS {S : List Nat} (h : ApE w0 Bs l D rec ps W v) (hf : Fr S W W') (hS : ∀ x ∈ S, w0.heap.size ≤ x ∧ x ≠ Bs ∧ x ≠ l ∧ x ≠ D ∧ v.ownBlock ≠ some x) : ApE w0 Bs l D rec ps W' v :=
  ⟨hf.keep h.box (fun hh => (hS _ hh).2.1 rfl), owns_keepB h.row hf (fun k hk hh => (hS _ hh).2.2.2.2 hk), hf.keep h.lp (fun hh => (hS _ hh).2.2.1 rfl), hf.keep h.df (fun hh => (hS _ hh).2.2.2.1 rfl), h.fr.on hf (fun x hx => (hS x hx).1)⟩
theorem ApE.rec_ (h : ApE w0 Bs l D rec ps W v) (rec' : Loop) (h0 : w0.heap.size ≤ l) (h1 : Bs ≠ l) (h2 : D ≠ l) : ApE w0 Bs l D rec' ps (W.putObj l (.loop rec')) v := by
  have hf := Fr.putObj W l (.loop rec')
  exact ⟨hf.keep h.box (by simpa using h1), owns_keepB h.row hf (fun k hk hh => by simp at hh; exact (h.ne hk).2.1 hh), World.putObj_heap_same (Array.getElem?_eq_some_iff.1 h.lp).1, hf.keep h.df (by simpa using h2), h.fr.on hf (fun x hx => by simp at hx; omega)⟩
theorem ApE.abides (B : Nat) (hB : w0.heap.size ≤ B) : AbidesFrom B (fun ps W => ∃ v, ApE w0 Bs l D rec ps W v) := fun ps W W' row ⟨v, h⟩ hg hrow => by
  have hf : Fr row.toList W W' := Fr.grown hg (by intro k hk _; simp [hk])
  refine ⟨v, h.keepS hf (fun x hx => ?_)⟩
  simp only [Option.mem_toList] at hx
  obtain ⟨hBx, o, ho, hw⟩ := hrow x hx
  refine ⟨by omega, ?_, ?_, ?_, ?_⟩
  · rintro rfl; rw [h.box] at ho; cases ho; cases hw
  · rintro rfl; rw [h.lp] at ho; cases ho; cases hw
  · rintro rfl; rw [h.df] at ho; cases ho; cases hw
  · intro hv; obtain ⟨_, cur, hc⟩ := owns_cells h.row hv; rw [hc] at ho; cases ho; cases hw
end
theorem walks_fr {S : List Nat} {W W' : World} (hf : Fr S W W') (hS : ∀ x ∈ S, ∀ o, W.heap[x]? = some o → o.isWalk = false) : KeepsWalks W W' := by
  refine ⟨hf.size, fun k o hk ho => hf.keep hk (fun hh => ?_)⟩
  rw [hS k hh o hk] at ho
  cases ho

set_option maxRecDepth 100000 in
set_option maxHeartbeats 4000000 in
theorem appendSeq_in (g : Nat) (lb : Array Value) (eg : ∀ args w, (callFunc g args).run Tryz.prog w = .ok (.enter g args) w) (S : List Pr → Prop) (N : Nat) (hN : N < 1099511627776) (w : World) (hseq : SeqGives Fence.wide 2 Tryz.prog g lb encE S N w) :
    CallsIn Fence.wide 3 Tryz.prog 105 #[.slice none 0 0, .func (.func g) #[] lb] w fun e w' => ∃ (v : Value) (ps : List Pr), e = .returned v ∧ S ps ∧ w'.ownsRow w.heap.size 61 2 v ps.length (celsE ps) ∧ Fr [] w w' := by
  obtain ⟨i0, hi, hz0, hz1, hz2⟩ := Tryz.infoEn'
  have hmx : (1099511627776 : Nat) ≤ maxLen := by unfold maxLen; omega
  refine callsIn_of_wp_marks Tryz.func105 rfl trivial ?_ rfl
  simp only [Tryz.ntmps105, List.size_toArray, List.length_cons, List.length_nil, Nat.reduceAdd, Nat.reduceSub, Array.replicate_succ, Array.replicate_zero, List.push_toArray, List.append_toArray, List.nil_append, List.cons_append]
  gi_wp2_with fail
  have hB1 : (w.alloc (.cells #[.slice none 0 0] 40)).heap[w.heap.size]? = some (.cells #[.slice none 0 0] 40 (0, 0)) := heap_alloc_new w _
  have hF1 : Fr [] w (w.alloc (.cells #[.slice none 0 0] 40)) := Fr.alloc _ _ _
  have hs1 : (w.alloc (.cells #[.slice none 0 0] 40)).heap.size = w.heap.size + 1 := by simp
  obtain ⟨w1, HW1⟩ : ∃ w1, Hid (w.alloc (.cells #[.slice none 0 0] 40) = w1) := ⟨_, rfl⟩
  rw [HW1.out] at hB1 hF1 hs1 ⊢
  obtain ⟨Bs, hBs⟩ : ∃ Bs, Bs = w.heap.size := ⟨_, rfl⟩
  rw [← hBs] at hB1 ⊢
  refine range_of rfl (fun _ => True.intro) rfl (gf := g) (lb := lb) rfl eg ?_
  intro fn RC HRC
  obtain ⟨D, hD⟩ : ∃ D, D = w1.heap.size := ⟨_, rfl⟩
  obtain ⟨lr, hlr⟩ : ∃ lr, lr = w1.heap.size + 1 := ⟨_, rfl⟩
  have hF2 : Fr [] w1 ((w1.alloc (.deferred (some []))).alloc (.loop (RC .ready none))) := (Fr.alloc [] _ _).then (Fr.alloc [] _ _)
  have hL2 : ((w1.alloc (.deferred (some []))).alloc (.loop (RC .ready none))).heap[w1.heap.size + 1]? = some (.loop (RC .ready none)) := by
    have := World.alloc_heap_new (w1.alloc (.deferred (some []))) (.loop (RC .ready none)); rwa [World.size_alloc] at this
  have hK2 : ((w1.alloc (.deferred (some []))).alloc (.loop (RC .ready none))).heap[w1.heap.size]? = some (.deferred (some [])) :=
    (Below.heap_alloc _ _ _ (by simp)).trans (World.alloc_heap_new w1 _)
  have hs2 : ((w1.alloc (.deferred (some []))).alloc (.loop (RC .ready none))).heap.size = w1.heap.size + 2 := by simp
  obtain ⟨w2, HW2⟩ : ∃ w2, Hid ((w1.alloc (.deferred (some []))).alloc (.loop (RC .ready none)) = w2) := ⟨_, rfl⟩
  rw [HW2.out] at hF2 hL2 hK2 hs2 ⊢
  rw [← hlr] at hL2 ⊢
  rw [← hD] at HRC hK2 ⊢
  have hord : w.heap.size ≤ Bs ∧ Bs < D ∧ D < lr ∧ lr < w2.heap.size := by omega
  clear hD hlr hs2 HW2 hBs hs1
  have hA0 : ApE w Bs lr D (RC .ready none) [] w2 (.slice none 0 0) := ⟨hF2.keep hB1 (by simp), ⟨rfl, .inl ⟨rfl, rfl⟩⟩, hL2, hK2, hF1.then hF2⟩
  have hG2 := hF1.then hF2
  refine (hseq lr (fun ps W => ∃ v, ApE w Bs lr D (RC .ready none) ps W v) w2 (hG2.below (Nat.le_refl _) (by simp)) (ApE.abides _ hG2.size) ?_ ⟨_, hA0⟩).mono ?_
  · rintro ps x W ⟨v, hL⟩ hlen
    refine round_of HRC rfl hL.lp ?_
    have hFa : Fr [] W (W.alloc (.cells #[.string x.1, .string x.2] 61)) := Fr.alloc _ _ _
    have hrow : (W.alloc (.cells #[.string x.1, .string x.2] 61)).heap[W.heap.size]? = some (.cells #[.string x.1, .string x.2] 61 (0, 0)) := heap_alloc_new W _
    have hLa := hL.keepS hFa (by simp)
    have hbr := begin_of (P := Tryz.prog) HRC hLa.lp
    have hLb := hLa.rec_ (RC .busy none) (by omega) (by omega) (by omega)
    have hlrW : lr < W.heap.size := lt_of_block hL.lp
    have hFb := Fr.putObj (W.alloc (.cells #[.string x.1, .string x.2] 61)) lr (.loop (RC .busy none))
    have hrowb := hFb.keep hrow (by simp; omega)
    have hkb : KeepsWalks W ((W.alloc (.cells #[.string x.1, .string x.2] 61)).putObj lr (.loop (RC .busy none))) := (KeepsWalks.alloc _ _).trans (KeepsWalks.putObj _ hLa.lp rfl)
    obtain ⟨Wb, HWb⟩ : ∃ Wb, Hid ((W.alloc (.cells #[.string x.1, .string x.2] 61)).putObj lr (.loop (RC .busy none)) = Wb) := ⟨_, rfl⟩
    rw [HWb.out] at hbr hLb hrowb hFb hkb
    have f0 : Wb.cell? ⟨W.heap.size, 0, none⟩ = some (.string x.1) := by rw [cell_of_row _ _ _ _ _ _ hrowb]; rfl
    have f1 : Wb.cell? ⟨W.heap.size, 1, none⟩ = some (.string x.2) := by rw [cell_of_row _ _ _ _ _ _ hrowb]; rfl
    have x0 : Wb.cell? ⟨Bs, 0, none⟩ = some v := by rw [cell_of_row _ _ _ _ _ _ hLb.box]; rfl
    have x1 : Wb.frozen? ⟨Bs, 0, none⟩ = false := by simp [World.frozen?, hLb.box]
    have hLbR := hLb.row
    have HLb : Hid (ApE w Bs lr D (RC .busy none) ps Wb v) := hLb
    have hbs : w.heap.size ≤ Wb.heap.size := hLb.fr.size
    clear hLa hrow hrowb hFa hL hLb hFb
    have hfo : Array.foldl (fun (t : Array Value) (x : Tmp × Value) => match x with | (p, v) => t.setIfInBounds p v) #[Value.slice none 0 0, Value.func (Fn.func g) #[] lb, Value.pointer (some { block := Bs, off := 0 }), undef, Value.slice none 0 0, undef, Value.func (Fn.func g) #[] lb, undef, undef, undef, undef, undef, undef] (#[7].zip #[encE x]) =
      #[Value.slice none 0 0, Value.func (Fn.func g) #[] lb, Value.pointer (some { block := Bs, off := 0 }), undef, Value.slice none 0 0, undef, Value.func (Fn.func g) #[] lb, .agg #[.string x.1, .string x.2], undef, undef, undef, undef, undef] := by simp [encE]
    rw [hfo]
    clear hfo
    gi_wp2_with (first
      | (gi_at_builtin; refine wpListIn_append_own _ rfl _ _ 40 rfl w.heap.size 61 i0 _ 2 32 Tryz.undEns hi hz0 hz1 hz2 rfl (by decide) _ _ _ rfl (hLbR.alloc _) ⟨Wb.heap.size, 0, none⟩ 1 1 [.string x.1, .string x.2] rfl rfl (new2_cells Wb x) (new2_one x) (by omega) (by omega) (by simp; omega) ?_
         intro v' w3 hown' hg3 hnil3
         have hf3 : Fr v.ownBlock.toList Wb w3 := (Fr.alloc _ Wb _).then (Fr.grown hg3 (fun y hy _ => Option.mem_toList.2 hy))
         have hbx3 : w3.heap[Bs]? = some (.cells #[v] 40 (0, 0)) := hf3.keep HLb.out.box (fun hh => by simp only [Option.mem_toList] at hh; exact (HLb.out.ne hh).1 rfl)
         have c3 : w3.cell? ⟨Bs, 0, none⟩ = some v := by rw [cell_of_row _ _ _ _ _ _ hbx3]; rfl
         have d3 : w3.frozen? ⟨Bs, 0, none⟩ = false := by simp [World.frozen?, hbx3]
         obtain ⟨g', cap', rfl, hgb⟩ : ∃ g' cap', v' = .slice (some ⟨g', 0, none⟩) (ps.length + 1) cap' ∧ w.heap.size ≤ g' := by
           rcases hown'.2 with ⟨_, h0⟩ | ⟨g', cap', cur', h1, h2, _⟩
           · exact absurd h0 (by omega)
           · exact ⟨g', cap', h1, h2⟩
         go_frame)
      | (rw [Oper.semAt_eq _ _ _ (fun c h => by cases h)]; go_simp; try go_bits))
    have hk3 : KeepsWalks Wb w3 := walks_fr hf3 (fun y hy o ho => by
      simp only [Option.mem_toList] at hy
      obtain ⟨_, cur, hc⟩ := owns_cells HLb.out.row hy
      rw [hc] at ho; cases ho; rfl)
    obtain ⟨u, hu⟩ : ∃ u, u = Value.slice (some { block := g', off := 0 }) (ps.length + 1) cap' := ⟨_, rfl⟩
    rw [← hu] at hown' ⊢
    have huo : u.ownBlock = some g' := by rw [hu]; rfl
    have hgB : g' ≠ Bs := by
      rintro rfl
      obtain ⟨_, cur, hc⟩ := owns_cells hown' huo
      have := hc.symm.trans hbx3
      simp at this
    have hfs : Fr [Bs] w3 (w3.setCell ⟨Bs, 0, none⟩ u) := Fr.set _ _ _ (by simp)
    have n3 : ∀ {y : Nat}, y ∈ v.ownBlock.toList → y ≠ Bs ∧ y ≠ lr ∧ y ≠ D := fun hy => by simp only [Option.mem_toList] at hy; exact HLb.out.ne hy
    have hA4 : ApE w Bs lr D (RC .busy none) (ps ++ [x]) (w3.setCell ⟨Bs, 0, none⟩ u) u := by
      refine ⟨?_, ?_, hfs.keep (hf3.keep HLb.out.lp (fun hh => (n3 hh).2.1 rfl)) (by simp; omega), hfs.keep (hf3.keep HLb.out.df (fun hh => (n3 hh).2.2 rfl)) (by simp; omega), (HLb.out.fr.on hf3 (fun y hy => ?_)).on hfs (by intro y hy; simp at hy; omega)⟩
      · exact box_set hbx3 u
      · have := owns_keepB hown' hfs (fun k hk hh => by rw [huo] at hk; cases hk; simp at hh; exact hgB hh)
        rw [List.length_append, List.length_singleton, celsE_snoc]
        exact this
      · simp only [Option.mem_toList] at hy
        exact (owns_cells HLb.out.row hy).1
    have hend := end_of (P := Tryz.prog) HRC hA4.lp none
    have hA5 := hA4.rec_ (RC .ready none) (by omega) (by omega) (by omega)
    exact ⟨_, _, hend, rfl, ⟨u, hA5⟩, hkb.trans (hk3.trans ((KeepsWalks.setCell _ _ _).trans (KeepsWalks.putObj _ hA4.lp rfl)))⟩
  · rintro e W3 ⟨⟨v0, rfl⟩, ps, hS, v, hL⟩
    have hle := loop_end_of (P := Tryz.prog) HRC hL.lp (by simp)
    have hL4 := hL.rec_ (RC .exhausted none) (by omega) (by omega) (by omega)
    obtain ⟨W4, HW4⟩ : ∃ W4, Hid (W3.putObj lr (.loop (RC .exhausted none)) = W4) := ⟨_, rfl⟩
    rw [HW4.out] at hle hL4
    have x0 : W4.cell? ⟨Bs, 0, none⟩ = some v := by rw [cell_of_row _ _ _ _ _ _ hL4.box]; rfl
    have x1 : W4.frozen? ⟨Bs, 0, none⟩ = false := by simp [World.frozen?, hL4.box]
    have HL4 : Hid (ApE w Bs lr D (RC .exhausted none) ps W4 v) := hL4
    have HS : Hid (S ps) := hS
    clear hL hL4 hS HRC hseq hA0
    refine ⟨none, W4, hle, ?_⟩
    clear hle
    gi_wp2_with fail
    have hF5 : Fr [D] W4 (W4.putObj D (.deferred none)) := Fr.putObj _ D _
    refine ⟨by simp, .inl ⟨_, _, rfl, run_takeDeferred HL4.out.df, ?_⟩⟩
    refine ⟨_, results_tmp rfl _ _ _, v, ps, rfl, HS.out, owns_keepB HL4.out.row hF5 (fun k hk hh => by simp at hh; exact (HL4.out.ne hk).2.2 hh), HL4.out.fr.on hF5 (by intro y hy; simp at hy; omega)⟩


set_option maxHeartbeats 1000000 in
theorem collect_in (g : Nat) (lb : Array Value) (eg : ∀ args w, (callFunc g args).run Tryz.prog w = .ok (.enter g args) w) (S : List Pr → Prop) (N : Nat) (hN : N < 1099511627776) (w : World) (hseq : SeqGives Fence.wide 2 Tryz.prog g lb encE S N w) :
    Calls Tryz.prog 72 #[.func (.func g) #[] lb] w fun e w' => ∃ (v : Value) (ps : List Pr), e = .returned v ∧ S ps ∧ w'.ownsRow w.heap.size 61 2 v ps.length (celsE ps) ∧ Fr [] w w' := by
  have h0 := callsIn_wide.1 (appendSeq_in g lb eg S N hN w hseq)
  go_enter Tryz.func72, Tryz.ntmps72
  go_wp2_with fail
  refine h0.mono ?_
  rintro e w1 ⟨v, ps, rfl, hS, hrow, hF⟩
  go_wp2
  go_ret
  exact ⟨v, ps, rfl, hS, hrow, hF⟩

/-- slices.Collect(maps.Values(m)): the pairs of the map, in some order, in a row of its own. -/
theorem collect_values (b Bm nn : Nat) (E : ByteArray → Option ByteArray) (w : World) (hM : MapE w b nn E) (hn : nn < 1099511627776) (hBm : Bm < w.heap.size) (hm : w.cell? ⟨Bm, 0, none⟩ = some (.map (some b))) :
    Calls Tryz.prog 72 #[.func (.func 74) #[] #[.pointer (some ⟨Bm, 0, none⟩)]] w fun e w' => ∃ (v : Value) (ps : List Pr), e = .returned v ∧ (AllP E ps ∧ ps.length ≤ nn) ∧ w'.ownsRow w.heap.size 61 2 v ps.length (celsE ps) ∧ Fr [] w w' :=
  collect_in 74 _ (enters_of Tryz.func74 (by kernel_rfl) rfl) (fun ps => AllP E ps ∧ ps.length ≤ nn) nn hn w (values_gives 1 Bm b nn E w hBm hm hM)
end Go.Proofs.YtakbodlicfmkjaaGreat.Fo

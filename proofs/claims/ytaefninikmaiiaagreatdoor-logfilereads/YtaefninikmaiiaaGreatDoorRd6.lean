/- Read: its contract. Conditions as it names them. -/
import Derived.Test.YtaefninikmaiiaaGreatDoorRg6
import Derived.Laws.EntriesVeiled
namespace Go.Proofs.YtaefninikmaiiaaGreatDoor
open Go.ChangeShapes Go.WideShapes Go.ChangeAt Go.RowKit Go.Lib
set_option linter.unusedVariables false
attribute [local go_sem] Oper.semAt_some

/-- A transaction that was told: its writes lie in a block of their own, made since w0. -/
def Tnew (w0 w : World) (t : Tm) : Prop := ∃ k, t.ao = some ⟨k, 0, none⟩ ∧ t.cap = t.L ∧ t.L = t.ws.length ∧ w0.heap.size ≤ k ∧ w.heap[k]? = some (.cells (wtsC t.ws).toArray 124 (0, 0)) ∧ okT t.n t.ws
theorem Tnew.at {w0 w : World} {t : Tm} (h : Tnew w0 w t) : t.at w := by
  obtain ⟨k, e1, e2, e3, _, hr, hok⟩ := h
  refine ⟨by rw [e1]; exact WRs.of_ok hok hr, e3, ?_, ?_⟩
  · have := hok.1; omega
  · have := hok.2.1; omega
theorem Tnew.keepS {S : List Nat} {w0 w w' : World} {t : Tm} (h : Tnew w0 w t) (hf : Fr S w w') (hS : ∀ k, w.heap[k]? = some (.cells (wtsC t.ws).toArray 124 (0, 0)) → k ∉ S) : Tnew w0 w' t := by
  obtain ⟨k, e1, e2, e3, hk, hr, hok⟩ := h
  exact ⟨k, e1, e2, e3, hk, hf.keep hr (hS k hr), hok⟩
/-- The loop's state between two rounds. -/
structure Lp (w0 : World) (bl bg be bn bw lr D : Nat) (rec : Loop) (ec nx : Nat) (s : Nat) (ds : List Tm) (good : Nat) (w : World) (v : Value) : Prop where
  lb : Bv w bl 22 v
  row : w.ownsRow 0 63 2 v ds.length (tmsC ds)
  new : ∀ k, v.ownBlock = some k → s ≤ k
  gb : Bv w bg 3 (.int .i64 (good : Int))
  eb : Bv w be 27 (.int .i64 (ec : Int))
  nb : Bv w bn 3 (.int .i64 (nx : Int))
  sl : lr < s
  wrb : Bv w bw 93 (.func (Fn.func 112) #[] #[.pointer (some ⟨bn, 0, none⟩)])
  lp : w.heap[lr]? = some (.loop rec)
  df : w.heap[D]? = some (.deferred (some []))
  each : ∀ t ∈ ds, Tnew w0 w t
  pw : ds.Pairwise fun a b => a.ao ≠ b.ao
  fr : Fr [] w0 w

theorem records_any (ao : Option Addr) (L cap : Nat) (w : World) : Calls Tryz.prog 86 #[.slice ao L cap] w fun e w' => e = .returned (.func (Fn.func 137) #[] #[.pointer (some ⟨w.heap.size, 0, none⟩)]) ∧ w' = w.alloc (.cells #[.slice ao L cap] 26) := by
  go_enter Tryz.func86, Tryz.ntmps86
  go_wp2
  go_ret
  exact ⟨rfl, rfl⟩
theorem Fr.putObj (w : World) (l : Nat) (o : Obj) : Fr [l] w (w.putObj l o) := ⟨rfl, rfl, rfl, by simp, fun k _ hn => World.putObj_heap_other (by simpa using hn)⟩
/-- The loop's record. -/
def recOf (fn : FuncId) (tmps : Array Value) (ps : Array Tmp) (assign body : Code) (D : Nat) (st : LoopState) (pe : Option Code) : Loop := { state := st, pending := pe, fn, tmps, params := ps, assign, body, defers := D }
/-- The statement 'for x := range g': the record's blocks are laid, the iterator is called. -/
theorem range_of {F : Fence} {n : Nat} {P : Program} {g : Operand} {ps : Array Tmp} {assign body : Code} {Q : Exit → Act → World → Prop} {a : Act} {w : World} (hro : F.round = none) (hF : ∀ f, F.fn f) (hdep : F.depth = none) {gf : Nat} {lb : Array Value} (hg : a.eval g = .func (.func gf) #[] lb) (eg : ∀ args w, (callFunc gf args).run P w = .ok (.enter gf args) w)
    (h : ∀ (fn : FuncId) (RC : LoopState → Option Code → Loop), Hid (RC = recOf fn a.tmps ps assign body w.heap.size) → CallsIn F (n - 1) P gf (#[Value.func (.yield (w.heap.size + 1)) #[] #[]] ++ lb) ((w.alloc (.deferred (some []))).alloc (.loop (RC .ready none)))
      (rangePost F n P (w.heap.size + 1) Q { a with defers := [({ target := .collected w.heap.size, args := #[] } : Deferred)] ++ a.defers })) :
    (Code.rangeFunc g ps assign body).wpIn F n P Q a w := by
  refine wpIn_rangeFunc ?_
  intro fn hfn
  rw [hro]
  obtain ⟨RC, hRC⟩ : ∃ RC, RC = recOf fn a.tmps ps assign body w.heap.size := ⟨_, rfl⟩
  have hc := h fn RC hRC
  obtain ⟨W1, hW1⟩ : ∃ W1, (w.alloc (.deferred (some []))).alloc (.loop (RC .ready none)) = W1 := ⟨_, rfl⟩
  rw [hW1] at hc
  refine ⟨w.heap.size + 1, [{ target := .collected w.heap.size, args := #[] }], W1, { target := .fn (.func gf) lb, args := #[.func (.yield (w.heap.size + 1)) #[] #[]] }, W1, gf,
    #[.func (.yield (w.heap.size + 1)) #[] #[]] ++ lb, W1, ?_, ?_, ?_, ?_, ?_, ?_⟩
  · rw [← hW1, hRC]
    exact run_enterLoop_outer _ _ _ _ _
  · simp only [resolve, hg]
    simp [go_sem]
  · intro f' hf'
    exact hF f'
  · simp [invoke, go_sem, eg]
  · intro hd
    rw [hdep] at hd
    cases hd
  · exact hc
/-- One round. -/
theorem round_of {m l : Nat} {P : Program} {fn : FuncId} {tmps : Array Value} {ps : Array Tmp} {assign body : Code} {D : Nat} {args : Array Value} {RC : LoopState → Option Code → Loop} (hRC : Hid (RC = recOf fn tmps ps assign body D)) (hs : args.size = ps.size) {W : World} (hl : W.heap[l]? = some (.loop (RC .ready none))) {R : Ending → World → Prop}
    (h : assign.wpIn (Fence.wide.inRound l) m P (Exit.then (fun a₁ w₁ => ∃ w₂, (Instr.beginRound l).run P w₁ = .ok () w₂ ∧ body.wpIn (Fence.wide.inRound l) m P (roundPost P l R) a₁ w₂) (fun _ _ _ => False))
      { tmps := (ps.zip args).foldl (fun t (p, v) => t.setIfInBounds p v) tmps, defers := [] } W) : YieldAt Fence.wide m P l args W R :=
  ⟨fn, _, assign, body, by have := hRC.out; subst this; exact run_yield (r := recOf fn tmps ps assign body D .ready none) hl hs, roundIn_of_wpIn trivial h⟩
theorem begin_of {l : Nat} {P : Program} {fn : FuncId} {tmps : Array Value} {ps : Array Tmp} {assign body : Code} {D : Nat} {RC : LoopState → Option Code → Loop} (hRC : Hid (RC = recOf fn tmps ps assign body D)) {W : World} (hl : W.heap[l]? = some (.loop (RC .ready none))) :
    (Instr.beginRound l).run P W = .ok () (W.putObj l (.loop (RC .busy none))) := by
  have := hRC.out
  subst this
  exact run_beginRound hl rfl
theorem end_of {l : Nat} {P : Program} {fn : FuncId} {tmps : Array Value} {ps : Array Tmp} {assign body : Code} {D : Nat} {RC : LoopState → Option Code → Loop} (hRC : Hid (RC = recOf fn tmps ps assign body D)) {W : World} (hl : W.heap[l]? = some (.loop (RC .busy none))) (jump : Option Code) :
    (Instr.endRound l jump).run P W = .ok (.bool jump.isNone) (W.putObj l (.loop (RC (if jump.isNone then .ready else .done) jump))) := by
  have := hRC.out
  subst this
  exact run_endRound jump hl
theorem loop_end_of {l : Nat} {P : Program} {fn : FuncId} {tmps : Array Value} {ps : Array Tmp} {assign body : Code} {D : Nat} {RC : LoopState → Option Code → Loop} (hRC : Hid (RC = recOf fn tmps ps assign body D)) {W : World} {st : LoopState} {pe : Option Code} (hl : W.heap[l]? = some (.loop (RC st pe))) (hb : st ≠ .busy) :
    (Instr.endLoop l).run P W = .ok pe (W.putObj l (.loop (RC .exhausted pe))) := by
  have := hRC.out
  subst this
  exact run_endLoop hl hb
theorem Lp.keepS {S : List Nat} {w0 w w' : World} {bl bg be bn bw lr D : Nat} {rec : Loop} {ec nx s good : Nat} {ds : List Tm} {v : Value} (h : Lp w0 bl bg be bn bw lr D rec ec nx s ds good w v) (hf : Fr S w w')
    (hS : ∀ x ∈ S, w0.heap.size ≤ x ∧ x ≠ bl ∧ x ≠ bg ∧ x ≠ be ∧ x ≠ bn ∧ x ≠ bw ∧ x ≠ lr ∧ x ≠ D ∧ v.ownBlock ≠ some x ∧ ∀ cs f, w.heap[x]? ≠ some (.cells cs 124 f)) : Lp w0 bl bg be bn bw lr D rec ec nx s ds good w' v := by
  refine ⟨h.lb.keep hf (fun hh => (hS _ hh).2.1 rfl), owns_keep h.row hf (fun k hk hh => (hS _ hh).2.2.2.2.2.2.2.2.1 hk), h.new, h.gb.keep hf (fun hh => (hS _ hh).2.2.1 rfl), h.eb.keep hf (fun hh => (hS _ hh).2.2.2.1 rfl), h.nb.keep hf (fun hh => (hS _ hh).2.2.2.2.1 rfl), h.sl, h.wrb.keep hf (fun hh => (hS _ hh).2.2.2.2.2.1 rfl),
    hf.keep h.lp (fun hh => (hS _ hh).2.2.2.2.2.2.1 rfl), hf.keep h.df (fun hh => (hS _ hh).2.2.2.2.2.2.2.1 rfl), fun t ht => (h.each t ht).keepS hf (fun k hk hh => (hS _ hh).2.2.2.2.2.2.2.2.2 _ _ hk), h.pw, h.fr.on hf (fun x hx => (hS x hx).1)⟩
theorem Lp.rowNe {w0 w : World} {bl bg be bn bw lr D : Nat} {rec : Loop} {ec nx s good : Nat} {ds : List Tm} {v : Value} (h : Lp w0 bl bg be bn bw lr D rec ec nx s ds good w v) {g : Nat} (hg : v.ownBlock = some g) : ∃ cur, w.heap[g]? = some (.cells cur 63 (0, 0)) := by
  rcases h.row.2 with ⟨rfl, _⟩ | ⟨g', cap, cur, rfl, _, hgg, _⟩
  · simp [Value.ownBlock] at hg
  · simp [Value.ownBlock] at hg
    subst hg
    exact ⟨cur, hgg⟩
theorem Lp.reader {w0 w w' : World} {bl bg be bn bw lr D : Nat} {rec : Loop} {ec nx s good g : Nat} {ds : List Tm} {v : Value} (h : Lp w0 bl bg be bn bw lr D rec ec nx s ds good w v) (hb : RBox w g) (hg : w0.heap.size ≤ g) (hf : Fr [g] w w') : Lp w0 bl bg be bn bw lr D rec ec nx s ds good w' v := by
  obtain ⟨cs, f, hb⟩ := hb
  refine h.keepS hf (fun x hx => ?_)
  simp only [List.mem_singleton] at hx
  subst hx
  refine ⟨hg, ?_, ?_, ?_, ?_, ?_, ?_, ?_, ?_, ?_⟩
  · rintro rfl; have := hb.symm.trans h.lb.box; simp at this
  · rintro rfl; have := hb.symm.trans h.gb.box; simp at this
  · rintro rfl; have := hb.symm.trans h.eb.box; simp at this
  · rintro rfl; have := hb.symm.trans h.nb.box; simp at this
  · rintro rfl; have := hb.symm.trans h.wrb.box; simp at this
  · rintro rfl; have := hb.symm.trans h.lp; simp at this
  · rintro rfl; have := hb.symm.trans h.df; simp at this
  · intro hv; obtain ⟨cur, hc⟩ := h.rowNe hv; have := hb.symm.trans hc; simp at this
  · intro cs' f' hh; have := hb.symm.trans hh; simp at this

/-- The blocks in their order. -/
structure Ds (w0 : World) (bl bg be bn bw lr D : Nat) : Prop where
  lo : w0.heap.size ≤ bl
  a1 : bl < bg
  a2 : bg < be
  a3 : be < bn
  a4 : bn < bw
  a5 : bw < D
  a6 : D < lr
section
variable {w0 w w' : World} {bl bg be bn bw lr D : Nat} {rec : Loop} {ec nx s good : Nat} {ds : List Tm} {v : Value}
theorem Lp.quiet (h : Lp w0 bl bg be bn bw lr D rec ec nx s ds good w v) (hf : Fr [] w w') : Lp w0 bl bg be bn bw lr D rec ec nx s ds good w' v := h.keepS hf (by simp)
theorem Lp.far (d : Ds w0 bl bg be bn bw lr D) (h : Lp w0 bl bg be bn bw lr D rec ec nx s ds good w v) {x : Nat} (hx : x ≤ lr) : v.ownBlock ≠ some x := by
  intro hv
  have := h.new x hv
  have := h.sl
  omega
theorem Lp.rec_ (d : Ds w0 bl bg be bn bw lr D) (h : Lp w0 bl bg be bn bw lr D rec ec nx s ds good w v) (rec' : Loop) : Lp w0 bl bg be bn bw lr D rec' ec nx s ds good (w.putObj lr (.loop rec')) v := by
  obtain ⟨d0, d1, d2, d3, d4, d5, d6⟩ := d
  have hf := Fr.putObj w lr (.loop rec')
  have hlt : lr < w.heap.size := (Array.getElem?_eq_some_iff.1 h.lp).1
  refine ⟨h.lb.keep hf (by simp; omega), owns_keep h.row hf (fun k hk hh => ?_), h.new, h.gb.keep hf (by simp; omega), h.eb.keep hf (by simp; omega), h.nb.keep hf (by simp; omega), h.sl, h.wrb.keep hf (by simp; omega), World.putObj_heap_same hlt, hf.keep h.df (by simp; omega), fun t ht => (h.each t ht).keepS hf (fun k hk hh => ?_), h.pw, h.fr.on hf (fun x hx => by simp at hx; omega)⟩
  · simp only [List.mem_singleton] at hh; have := h.new k hk; have := h.sl; omega
  · simp only [List.mem_singleton] at hh; subst hh; rw [h.lp] at hk; cases hk
theorem Lp.err (d : Ds w0 bl bg be bn bw lr D) (h : Lp w0 bl bg be bn bw lr D rec ec nx s ds good w v) (c : Nat) : Lp w0 bl bg be bn bw lr D rec c nx s ds good (w.setCell ⟨be, 0, none⟩ (.int .i64 (c : Int))) v := by
  obtain ⟨d0, d1, d2, d3, d4, d5, d6⟩ := d
  have hf : Fr [be] w (w.setCell ⟨be, 0, none⟩ (.int .i64 (c : Int))) := Fr.set _ _ _ (by simp)
  refine ⟨h.lb.keep hf (by simp; omega), owns_keep h.row hf (fun k hk hh => ?_), h.new, h.gb.keep hf (by simp; omega), h.eb.set _, h.nb.keep hf (by simp; omega), h.sl, h.wrb.keep hf (by simp; omega), hf.keep h.lp (by simp; omega), hf.keep h.df (by simp; omega), fun t ht => (h.each t ht).keepS hf (fun k hk hh => ?_), h.pw, h.fr.on hf (fun x hx => by simp at hx; omega)⟩
  · simp only [List.mem_singleton] at hh; have := h.new k hk; have := h.sl; omega
  · simp only [List.mem_singleton] at hh; subst hh; rw [h.eb.box] at hk; simp at hk
theorem Lp.nxt (d : Ds w0 bl bg be bn bw lr D) (h : Lp w0 bl bg be bn bw lr D rec ec nx s ds good w v) {nx' : Nat} (hf : Fr [bn] w w') (hb : Bv w' bn 3 (.int .i64 (nx' : Int))) : Lp w0 bl bg be bn bw lr D rec ec nx' s ds good w' v := by
  obtain ⟨d0, d1, d2, d3, d4, d5, d6⟩ := d
  refine ⟨h.lb.keep hf (by simp; omega), owns_keep h.row hf (fun k hk hh => ?_), h.new, h.gb.keep hf (by simp; omega), h.eb.keep hf (by simp; omega), hb, h.sl, h.wrb.keep hf (by simp; omega), hf.keep h.lp (by simp; omega), hf.keep h.df (by simp; omega), fun t ht => (h.each t ht).keepS hf (fun k hk hh => ?_), h.pw, h.fr.on hf (fun x hx => by simp at hx; omega)⟩
  · simp only [List.mem_singleton] at hh; have := h.new k hk; have := h.sl; omega
  · simp only [List.mem_singleton] at hh; subst hh; rw [h.nb.box] at hk; simp at hk
theorem _root_.Go.Proofs.YtaefninikmaiiaaGreatDoor.App.fr {n : Int} {ao : Option Addr} {C N : Nat} {xs news : List Value} {u : Value} (hA : App (wb w n ao C) v N xs news w' u) : Fr v.ownBlock.toList w w' := by
  have a : Fr v.ownBlock.toList w (wb w n ao C) := (Fr.drew _ w).then (Fr.alloc _ _ _)
  exact a.then (Fr.grown hA.grown (fun x hx _ => by rw [hx]; simp))
theorem Lp.app (d : Ds w0 bl bg be bn bw lr D) (h : Lp w0 bl bg be bn bw lr D rec ec nx s ds good w v) {n : Int} {k C en : Nat} {ws : List Wt} {u : Value} (hA : App (wb w n (some ⟨k, 0, none⟩) C) v ds.length (tmsC ds) (nw n (some ⟨k, 0, none⟩) C) w' u)
    (hs : s ≤ w.heap.size) (hk : w0.heap.size ≤ k) (hC : C = ws.length) (hrow : w.heap[k]? = some (.cells (wtsC ws).toArray 124 (0, 0))) (hok : okT n ws) (hnew : ∀ t ∈ ds, t.ao ≠ some ⟨k, 0, none⟩) :
    Lp w0 bl bg be bn bw lr D rec ec nx s (ds ++ [⟨n, some ⟨k, 0, none⟩, C, C, ws⟩]) en ((w'.setCell ⟨bl, 0, none⟩ u).setCell ⟨bg, 0, none⟩ (.int .i64 (en : Int))) u := by
  obtain ⟨d0, d1, d2, d3, d4, d5, d6⟩ := d
  have hf1 : Fr v.ownBlock.toList w w' := hA.fr
  have hfar : ∀ x, x ∈ v.ownBlock.toList → lr < x := by
    intro x hx
    simp only [Option.mem_toList] at hx
    have := h.new x hx
    have := h.sl
    omega
  have hf2 : Fr [bl] w' (w'.setCell ⟨bl, 0, none⟩ u) := Fr.set _ _ _ (by simp)
  have hf3 : Fr [bg] (w'.setCell ⟨bl, 0, none⟩ u) ((w'.setCell ⟨bl, 0, none⟩ u).setCell ⟨bg, 0, none⟩ (.int .i64 (en : Int))) := Fr.set _ _ _ (by simp)
  have n1 : ∀ {x}, x ≤ lr → x ∉ v.ownBlock.toList := fun hx hh => by have := hfar _ hh; omega
  have hlb := ((h.lb.keep hf1 (n1 (by omega))).set u).keep hf3 (by simp; omega)
  have hgb := ((h.gb.keep hf1 (n1 (by omega))).keep hf2 (by simp; omega)).set (.int .i64 (en : Int))
  have htm : nw n (some ⟨k, 0, none⟩) C = tmC ⟨n, some ⟨k, 0, none⟩, C, C, ws⟩ := rfl
  have hunew : ∀ x, u.ownBlock = some x → s ≤ x := by
    intro x hx
    rcases hA.moved with hm | ⟨y, hy, hle⟩
    · exact h.new x (hm ▸ hx)
    · rw [hy] at hx; cases hx
      have : (wb w n (some ⟨k, 0, none⟩) C).heap.size = w.heap.size + 1 := by simp [wb]
      omega
  have hune : ∀ x, u.ownBlock = some x → x ≠ bl ∧ x ≠ bg := fun x hx => by have := hunew x hx; have := h.sl; omega
  have hfT : Fr (v.ownBlock.toList ++ [bl, bg]) w ((w'.setCell ⟨bl, 0, none⟩ u).setCell ⟨bg, 0, none⟩ (.int .i64 (en : Int))) :=
    ((hf1.mono (fun x hx _ => List.mem_append_left _ hx)).then (hf2.mono (fun x hx _ => by simp at hx; simp [hx]))).then (hf3.mono (fun x hx _ => by simp at hx; simp [hx]))
  have nT : ∀ {x}, x ≤ lr → x ≠ bl → x ≠ bg → x ∉ v.ownBlock.toList ++ [bl, bg] := fun hx h1 h2 hh => by
    rcases List.mem_append.1 hh with h3 | h3
    · exact n1 hx h3
    · simp at h3; omega
  have wT : ∀ {x : Nat} {cs : Array Value} {f : Nat × Nat}, w.heap[x]? = some (.cells cs 124 f) → x ∉ v.ownBlock.toList ++ [bl, bg] := by
    intro x cs f hx hh
    rcases List.mem_append.1 hh with h3 | h3
    · simp only [Option.mem_toList] at h3
      obtain ⟨cur, hc⟩ := h.rowNe h3
      rw [hc] at hx; simp at hx
    · simp only [List.mem_cons, List.not_mem_nil, or_false] at h3
      rcases h3 with rfl | rfl
      · rw [h.lb.box] at hx; simp at hx
      · rw [h.gb.box] at hx; simp at hx
  refine ⟨hlb, ?_, hunew, hgb, h.eb.keep hfT (nT (by omega) (by omega) (by omega)), h.nb.keep hfT (nT (by omega) (by omega) (by omega)), h.sl, h.wrb.keep hfT (nT (by omega) (by omega) (by omega)), hfT.keep h.lp (nT (Nat.le_refl _) (by omega) (by omega)), hfT.keep h.df (nT (by omega) (by omega) (by omega)), ?_, ?_, h.fr.on hfT (fun x hx => ?_)⟩
  · have := owns_keep (owns_keep hA.own hf2 (fun x hx hh => (hune x hx).1 (by simpa using hh))) hf3 (fun x hx hh => (hune x hx).2 (by simpa using hh))
    rw [List.length_append, List.length_singleton, tmsC_append]
    rw [htm] at this
    simpa [tmsC] using this
  · intro t ht
    rcases List.mem_append.1 ht with h3 | h3
    · exact (h.each t h3).keepS hfT (fun x hx => wT hx)
    · simp only [List.mem_singleton] at h3
      subst h3
      exact ⟨k, rfl, rfl, hC, hk, hfT.keep hrow (wT hrow), hok⟩
  · rw [List.pairwise_append]
    exact ⟨h.pw, by simp, fun a ha b hb => by simp only [List.mem_singleton] at hb; subst hb; exact hnew a ha⟩
  · rcases List.mem_append.1 hx with h3 | h3
    · have := hfar x h3; omega
    · simp at h3; omega
end

theorem results_cell3 {fn : Func} {p q r : Tmp} {t u v : TypeId} (h : fn.results = #[.cell p t, .cell q u, .cell r v]) (tmps : Array Value) (P : Program) (w : World) :
    (results fn tmps).run P w =
      ((asAddr (tmps.getD p undef)).run P w).andThen fun a w₁ => ((loadVar t a).run P w₁).andThen fun x w₂ => ((asAddr (tmps.getD q undef)).run P w₂).andThen fun b w₃ => ((loadVar u b).run P w₃).andThen fun y w₄ => ((asAddr (tmps.getD r undef)).run P w₄).andThen fun c w₅ => ((loadVar v c).run P w₅).andThen fun z w₆ => .ok (.tuple #[x, y, z]) w₆ := by
  simp only [results, h]
  simp [Sem.run_bind, Result.andThen]
/-- A store of what is there leaves the world as it is. -/
theorem Bv.same {w : World} {b : Nat} {t : TypeId} {v : Value} (h : Bv w b t v) : w.setCell ⟨b, 0, none⟩ v = w := by
  have hk : (w.setCell ⟨b, 0, none⟩ v).heap = w.heap := by
    apply Array.ext_getElem?
    intro i
    by_cases hi : i = b
    · subst hi
      rw [(h.set v).box, h.box]
    · exact Below.heap_setCell _ _ _ _ (by simpa using hi)
  have he : w.setCell ⟨b, 0, none⟩ v = { w with heap := (w.setCell ⟨b, 0, none⟩ v).heap } := rfl
  rw [he, hk]
/-- What Read hands out: a row of its own, each transaction's writes in a block of their own. -/
structure TOut (w w' : World) (v : Value) (ds : List Tm) : Prop where
  row : w'.ownsRow 0 63 2 v ds.length (tmsC ds)
  new : ∀ k, v.ownBlock = some k → w.heap.size ≤ k
  each : ∀ t ∈ ds, Tnew w w' t
  pw : ds.Pairwise fun a b => a.ao ≠ b.ao
theorem own2_shape {w : World} {e : TypeId} {v : Value} {n : Nat} {xs : List Value} (h : w.ownsRow 0 e 2 v n xs) : ∃ ao cap, v = .slice ao n cap := by
  rcases h.2 with ⟨rfl, h0⟩ | ⟨g, cap, _, rfl, _⟩
  · exact ⟨none, 0, by rw [h0]⟩
  · exact ⟨_, cap, rfl⟩
set_option maxHeartbeats 8000000 in
set_option maxRecDepth 100000 in
theorem lread_any (ao : Option Addr) (L cap c : Nat) (xs vs : List Nat) (ls : List Tx) (w : World) (hA : BArg w ao L cap xs) (hlen : xs.length < 2^40) (hR : Rds 1 xs ls vs c) (N G : Nat) (hN : N = ls.length) (hG : G + vs.length = xs.length) :
    Calls Tryz.prog 19 #[.slice ao L cap] w fun e w' => ∃ ro rc, e = .returned (.tuple #[.slice ro N rc, .int .i64 (G : Int), .int .i64 (c : Int)]) ∧ ∃ ds, txs ds = ls ∧ TOut w w' (.slice ro N rc) ds ∧ Fr [] w w' := by
  have HN : Hid (N = ls.length) := hN
  have HG : Hid (G + vs.length = xs.length) := hG
  clear hN hG
  have HR : Hid (Rds 1 xs ls vs c) := hR
  have HL : Hid (L = xs.length) := hA.len
  clear hR
  refine (callsIn_wide (n := 3)).1 ?_
  refine callsIn_of_wp_marks Tryz.func19 rfl trivial ?_ rfl
  simp only [Tryz.ntmps19, List.size_toArray, List.length_cons, List.length_nil, Nat.reduceAdd, Nat.reduceSub, Array.replicate_succ, Array.replicate_zero, List.push_toArray, List.append_toArray, List.nil_append, List.cons_append]
  gi_wp2_with fail
  refine ⟨trivial, (callsIn_wide.2 (inTurn_any _)).mono ?_⟩
  rintro e w1 ⟨rfl, rfl⟩
  gi_wp2_with fail
  refine ⟨trivial, (callsIn_wide.2 (records_any _ _ _ _)).mono ?_⟩
  rintro e w1 ⟨rfl, hw1⟩
  have hB : Fr [] w w1 ∧ Bv w1 w.heap.size 22 (.slice none 0 0) ∧ Bv w1 (w.heap.size + 1) 3 (.int .i64 0) ∧ Bv w1 (w.heap.size + 1 + 1) 27 (.int .i64 0) ∧ Bv w1 (w.heap.size + 1 + 1 + 1) 3 (.int .i64 1) ∧
      Bv w1 (w.heap.size + 1 + 1 + 1 + 1) 93 (.func (Fn.func 112) #[] #[.pointer (some ⟨w.heap.size + 1 + 1 + 1, 0, none⟩)]) ∧ Bv w1 (w.heap.size + 1 + 1 + 1 + 1 + 1) 26 (.slice ao L cap) ∧ w1.heap.size = w.heap.size + 6 := by
    have k : ∀ (W : World) (o : Obj) {b : Nat} {t : TypeId} {v : Value}, Bv W b t v → Bv (W.alloc o) b t v := fun W o b t v h => h.keep (Fr.alloc [] W o) (by simp)
    have nw : ∀ (W : World) (t : TypeId) (v : Value) (b : Nat), b = W.heap.size → Bv (W.alloc (.cells #[v] t)) b t v := fun W t v b hb => by rw [hb]; exact Bv.new W t v
    rw [hw1]
    refine ⟨?_, ?_, ?_, ?_, ?_, ?_, ?_, ?_⟩
    · exact (Fr.alloc [] _ _).then ((Fr.alloc [] _ _).then ((Fr.alloc [] _ _).then ((Fr.alloc [] _ _).then ((Fr.alloc [] _ _).then (Fr.alloc [] _ _)))))
    · exact k _ _ (k _ _ (k _ _ (k _ _ (k _ _ (nw _ _ _ _ rfl)))))
    · exact k _ _ (k _ _ (k _ _ (k _ _ (nw _ _ _ _ (by simp)))))
    · exact k _ _ (k _ _ (k _ _ (nw _ _ _ _ (by simp))))
    · exact k _ _ (k _ _ (nw _ _ _ _ (by simp)))
    · exact k _ _ (nw _ _ _ _ (by simp))
    · exact nw _ _ _ _ (by simp)
    · simp
  clear hw1
  obtain ⟨hF1, hB0, hB1, hB2, hB3, hB4, hB5, hsz1⟩ := hB
  have HSZ : Hid (w1.heap.size = w.heap.size + 6) := hsz1
  clear hsz1
  gi_wp2_with fail
  obtain ⟨bb, hbb⟩ : ∃ b, b = w.heap.size + 1 + 1 + 1 + 1 + 1 := ⟨_, rfl⟩
  obtain ⟨bw, hbw⟩ : ∃ b, b = w.heap.size + 1 + 1 + 1 + 1 := ⟨_, rfl⟩
  obtain ⟨bn, hbn⟩ : ∃ b, b = w.heap.size + 1 + 1 + 1 := ⟨_, rfl⟩
  obtain ⟨be, hbe⟩ : ∃ b, b = w.heap.size + 1 + 1 := ⟨_, rfl⟩
  obtain ⟨bg, hbg⟩ : ∃ b, b = w.heap.size + 1 := ⟨_, rfl⟩
  obtain ⟨bl, hbl⟩ : ∃ b, b = w.heap.size := ⟨_, rfl⟩
  rw [← hbb] at hB5 ⊢
  rw [← hbw] at hB4 ⊢
  rw [← hbn] at hB3 hB4 ⊢
  rw [← hbe] at hB2 ⊢
  rw [← hbg] at hB1 ⊢
  rw [← hbl] at hB0 ⊢
  have hord : w.heap.size ≤ bl ∧ bl < bg ∧ bg < be ∧ be < bn ∧ bn < bw ∧ bw < bb ∧ bb < w1.heap.size := by have := HSZ.out; omega
  clear hbb hbw hbn hbe hbg hbl HSZ
  refine range_of rfl (fun _ => True.intro) rfl (gf := 137) (lb := #[.pointer (some ⟨bb, 0, none⟩)]) rfl (enters_of Tryz.func137 (by kernel_rfl) rfl) ?_
  intro fn RC HRC
  obtain ⟨D, hD⟩ : ∃ D, D = w1.heap.size := ⟨_, rfl⟩
  obtain ⟨lr, hlr⟩ : ∃ lr, lr = w1.heap.size + 1 := ⟨_, rfl⟩
  have hF2 : Fr [] w1 ((w1.alloc (.deferred (some []))).alloc (.loop (RC .ready none))) := (Fr.alloc [] _ _).then (Fr.alloc [] _ _)
  have hL2 : ((w1.alloc (.deferred (some []))).alloc (.loop (RC .ready none))).heap[w1.heap.size + 1]? = some (.loop (RC .ready none)) := by
    have := World.alloc_heap_new (w1.alloc (.deferred (some []))) (.loop (RC .ready none)); rwa [World.size_alloc] at this
  have hK2 : ((w1.alloc (.deferred (some []))).alloc (.loop (RC .ready none))).heap[w1.heap.size]? = some (.deferred (some [])) :=
    (Below.heap_alloc _ _ _ (by simp)).trans (World.alloc_heap_new w1 _)
  have hs2 : ((w1.alloc (.deferred (some []))).alloc (.loop (RC .ready none))).heap.size = w1.heap.size + 2 := by simp
  obtain ⟨w2, HW2⟩ : ∃ w2, Hid ((w1.alloc (.deferred (some []))).alloc (.loop (RC .ready none)) = w2) := ⟨_, rfl⟩
  rw [HW2.out] at hF2 hL2 hK2 hs2 ⊢
  rw [← hlr] at hL2 ⊢
  rw [← hD] at HRC hK2 ⊢
  have hord2 : bb < D ∧ D < lr ∧ lr < w2.heap.size := by omega
  clear hD hlr hs2 HW2
  have hLp0 : ∀ s, w2.heap.size ≤ s → Lp w bl bg be bn bw lr D (RC .ready none) 0 1 s [] 0 w2 (.slice none 0 0) := fun s hs =>
    ⟨hB0.keep hF2 (by simp), ⟨rfl, .inl ⟨rfl, rfl⟩⟩, fun k hk => by simp [Value.ownBlock] at hk, hB1.keep hF2 (by simp), hB2.keep hF2 (by simp), hB3.keep hF2 (by simp), by omega, hB4.keep hF2 (by simp), hL2, hK2, by simp, .nil, hF1.then hF2⟩
  have hbb2 := hB5.keep hF2 (by simp)
  have hA2 := hA.keep (hF1.then hF2)
  clear hB0 hB1 hB2 hB3 hB4 hB5 hF1 hF2 hL2 hK2
  have hds : Ds w bl bg be bn bw lr D := ⟨by omega, by omega, by omega, by omega, by omega, by omega, by omega⟩
  have hYe : ∀ (s : Nat) (ds : List Tm) (good : Nat) (W : World) (c en : Nat), (∃ v, Lp w bl bg be bn bw lr D (RC .ready none) 0 (ds.length + 1) s ds good W v) → c ≠ 0 → en < 2^41 →
      YieldAt Fence.wide 1 Tryz.prog lr #[.agg #[.int .i64 0, .slice none 0 0, .int .i64 (en : Int), .int .i64 (c : Int)]] W fun e w' => e = .returned (.bool false) ∧ ∃ v, Lp w bl bg be bn bw lr D (RC .done (some (.exit 0))) c (ds.length + 1) s ds good w' v := by
    rintro s ds good W c en ⟨v, hL⟩ hc0 hen
    have hcb : ((c : Int) == 0) = false := by rw [beq_eq_false_iff_ne]; omega
    have hcn : ((c : Int) != 0) = true := by rw [bne_iff_ne]; omega
    clear hc0
    refine round_of HRC rfl hL.lp ?_
    have hFa : Fr [] W (W.alloc (.cells #[.int .i64 0, .slice none 0 0, .int .i64 (en : Int), .int .i64 (c : Int)] 100)) := Fr.alloc _ _ _
    have hrow : (W.alloc (.cells #[.int .i64 0, .slice none 0 0, .int .i64 (en : Int), .int .i64 (c : Int)] 100)).heap[W.heap.size]? = some (.cells #[.int .i64 0, .slice none 0 0, .int .i64 (en : Int), .int .i64 (c : Int)] 100 (0, 0)) := heap_alloc_new W _
    have hLa := hL.quiet hFa
    have hbr := begin_of (P := Tryz.prog) HRC hLa.lp
    have hLb := hLa.rec_ hds (RC .busy none)
    have hlrW : lr < W.heap.size := (Array.getElem?_eq_some_iff.1 hL.lp).1
    have hrowb := (Fr.putObj (W.alloc (.cells #[.int .i64 0, .slice none 0 0, .int .i64 (en : Int), .int .i64 (c : Int)] 100)) lr (.loop (RC .busy none))).keep hrow (by simp; omega)
    obtain ⟨Wb, HWb⟩ : ∃ Wb, Hid ((W.alloc (.cells #[.int .i64 0, .slice none 0 0, .int .i64 (en : Int), .int .i64 (c : Int)] 100)).putObj lr (.loop (RC .busy none)) = Wb) := ⟨_, rfl⟩
    rw [HWb.out] at hbr hLb hrowb
    have f3 : Wb.cell? ⟨W.heap.size, 3, none⟩ = some (.int .i64 (c : Int)) := by rw [cell_of_row _ _ _ _ _ _ hrowb]; rfl
    have x0 := hLb.eb.c
    have x1 := hLb.eb.f
    have hLc := hLb.err hds c
    have hend := end_of (P := Tryz.prog) HRC hLc.lp (some (.exit 0))
    have hLd := hLc.rec_ hds (RC .done (some (.exit 0)))
    have HLd : Hid (Lp w bl bg be bn bw lr D (RC .done (some (.exit 0))) c (ds.length + 1) s ds good _ v) := hLd
    clear hLa hLb hLc hLd hrow hrowb hFa
    gi_wp2_with fail
    exact ⟨_, _, hend, rfl, v, HLd.out⟩
  have hYo : ∀ (s : Nat) (ds : List Tm) (good : Nat) (W : World) (n k C en : Nat) (ws : List Wt), (∃ v, Lp w bl bg be bn bw lr D (RC .ready none) 0 (ds.length + 1) s ds good W v) → w2.heap.size ≤ s → s ≤ W.heap.size → okT (n : Int) ws → n ≠ ds.length + 1 → C = ws.length → w2.heap.size ≤ k → W.heap[k]? = some (.cells (wtsC ws).toArray 124 (0, 0)) → en < 2^41 → ds.length < 2^41 →
      YieldAt Fence.wide 1 Tryz.prog lr #[.agg #[.int .i64 (n : Int), .slice (some ⟨k, 0, none⟩) C C, .int .i64 (en : Int), .int .i64 0]] W fun e w' => e = .returned (.bool false) ∧ ∃ v, Lp w bl bg be bn bw lr D (RC .done (some (.exit 0))) 6 (ds.length + 1) s ds good w' v := by
    rintro s ds good W n k C en ws ⟨v, hL⟩ hs1 hs2 hok hn hC hk hrk hen hdl
    have HOK : Hid (okT (n : Int) ws) := hok
    have HN : Hid (n ≠ ds.length + 1) := hn
    have HC : Hid (C = ws.length) := hC
    have hn16 : n ≤ 65536 := by have := hok.2.1; omega
    clear hok hn hC
    refine round_of HRC rfl hL.lp ?_
    have hFa : Fr [] W (W.alloc (.cells #[.int .i64 (n : Int), .slice (some ⟨k, 0, none⟩) C C, .int .i64 (en : Int), .int .i64 0] 100)) := Fr.alloc _ _ _
    have hrow : (W.alloc (.cells #[.int .i64 (n : Int), .slice (some ⟨k, 0, none⟩) C C, .int .i64 (en : Int), .int .i64 0] 100)).heap[W.heap.size]? = some (.cells #[.int .i64 (n : Int), .slice (some ⟨k, 0, none⟩) C C, .int .i64 (en : Int), .int .i64 0] 100 (0, 0)) := heap_alloc_new W _
    have hLa := hL.quiet hFa
    have hbr := begin_of (P := Tryz.prog) HRC hLa.lp
    have hLb := hLa.rec_ hds (RC .busy none)
    have hlrW : lr < W.heap.size := (Array.getElem?_eq_some_iff.1 hL.lp).1
    have hFb := Fr.putObj (W.alloc (.cells #[.int .i64 (n : Int), .slice (some ⟨k, 0, none⟩) C C, .int .i64 (en : Int), .int .i64 0] 100)) lr (.loop (RC .busy none))
    have hrowb := hFb.keep hrow (by simp; omega)
    obtain ⟨Wb, HWb⟩ : ∃ Wb, Hid ((W.alloc (.cells #[.int .i64 (n : Int), .slice (some ⟨k, 0, none⟩) C C, .int .i64 (en : Int), .int .i64 0] 100)).putObj lr (.loop (RC .busy none)) = Wb) := ⟨_, rfl⟩
    rw [HWb.out] at hbr hLb hrowb hFb
    obtain ⟨b6, hb6⟩ : ∃ b6, b6 = W.heap.size := ⟨_, rfl⟩
    have HB6 : Hid (b6 = W.heap.size) := hb6
    rw [← hb6] at hrowb
    have f3 : Wb.cell? ⟨W.heap.size, 3, none⟩ = some (.int .i64 0) := by rw [← hb6, cell_of_row _ _ _ _ _ _ hrowb]; rfl
    have x0 := hLb.eb.c
    have x1 := hLb.eb.f
    have hFc : Fr [be] Wb (Wb.setCell ⟨be, 0, none⟩ (.int .i64 0)) := Fr.set _ _ _ (by simp)
    have hLc : Lp w bl bg be bn bw lr D (RC .busy none) 0 (ds.length + 1) s ds good (Wb.setCell ⟨be, 0, none⟩ (.int .i64 0)) v := hLb.err hds 0
    have hb6be : b6 ≠ be := by omega
    have hrowc := hFc.keep hrowb (by simpa using hb6be)
    have f0 : (Wb.setCell ⟨be, 0, none⟩ (.int .i64 0)).cell? ⟨W.heap.size, 0, none⟩ = some (.int .i64 (n : Int)) := by rw [← hb6, cell_of_row _ _ _ _ _ _ hrowc]; rfl
    have f1 : (Wb.setCell ⟨be, 0, none⟩ (.int .i64 0)).cell? ⟨W.heap.size, 1, none⟩ = some (.slice (some ⟨k, 0, none⟩) C C) := by rw [← hb6, cell_of_row _ _ _ _ _ _ hrowc]; rfl
    have x2 := hLc.wrb.c
    have hTm : Tnew w W ⟨(n : Int), some ⟨k, 0, none⟩, C, C, ws⟩ := ⟨k, rfl, rfl, HC.out, by have := hL.fr.size; omega, hrk, HOK.out⟩
    have hWrt : ∀ (S : List Nat) (A B : World), Fr S A B → (∀ x ∈ S, x = lr ∨ x = be ∨ x = bn) → A.heap[k]? = some (.cells (wtsC ws).toArray 124 (0, 0)) → B.heap[k]? = some (.cells (wtsC ws).toArray 124 (0, 0)) := fun S A B hf hS ha => hf.keep ha (fun hh => by have := hS k hh; omega)
    have hrkb := hWrt _ _ _ hFb (by simp) (hFa.keep hrk (by simp))
    have hrkc := hWrt _ _ _ hFc (by simp) hrkb
    have hat : TArg (Wb.setCell ⟨be, 0, none⟩ (.int .i64 0)) (n : Int) (some ⟨k, 0, none⟩) C C ws := Tnew.at (w0 := w) (t := ⟨(n : Int), some ⟨k, 0, none⟩, C, C, ws⟩) ⟨k, rfl, rfl, HC.out, by have := hL.fr.size; omega, hrkc, HOK.out⟩
    clear hLa hrow hrowb hb6
    gi_wp2_with fail
    refine ⟨trivial, (CallsIn.inRound lr (callsIn_wide.2 (turn1_no bn (ds.length + 1) 6 (n : Int) (some ⟨k, 0, none⟩) C C ws _ hLc.nb hat (by omega) (Or.inr ⟨HOK.out, by have := HN.out; omega, rfl⟩)))).mono ?_⟩
    rintro e We ⟨rfl, hFe⟩
    have hLe := hLc.quiet hFe
    have y0 := hLe.eb.c
    have y1 := hLe.eb.f
    have hLf : Lp w bl bg be bn bw lr D (RC .busy none) 6 (ds.length + 1) s ds good (We.setCell ⟨be, 0, none⟩ (.int .i64 6)) v := hLe.err hds 6
    have hend := end_of (P := Tryz.prog) HRC hLf.lp (some (.exit 0))
    have hLd := hLf.rec_ hds (RC .done (some (.exit 0)))
    have HLd : Hid (Lp w bl bg be bn bw lr D (RC .done (some (.exit 0))) 6 (ds.length + 1) s ds good _ v) := hLd
    clear hLb hLc hLe hLf hLd hFa hFe hat hrkc hrkb hTm hWrt f0 f1 x2 x0 x1 f3 hrowc hFc hFb
    gi_wp2_with fail
    exact ⟨_, _, hend, rfl, v, HLd.out⟩
  have hYg : ∀ (s : Nat) (ds : List Tm) (good : Nat) (W : World) (n k C en : Nat) (ws : List Wt), (∃ v, Lp w bl bg be bn bw lr D (RC .ready none) 0 (ds.length + 1) s ds good W v) → w2.heap.size ≤ s → s ≤ W.heap.size → okT (n : Int) ws → n = ds.length + 1 → C = ws.length → w2.heap.size ≤ k → W.heap[k]? = some (.cells (wtsC ws).toArray 124 (0, 0)) → en < 2^41 → ds.length < 2^41 → (∃ w0, (∃ v, Lp w bl bg be bn bw lr D (RC .ready none) 0 (ds.length + 1) s ds good w0 v) ∧ w0.heap.size ≤ k) →
      YieldAt Fence.wide 1 Tryz.prog lr #[.agg #[.int .i64 (n : Int), .slice (some ⟨k, 0, none⟩) C C, .int .i64 (en : Int), .int .i64 0]] W fun e w' => e = .returned (.bool true) ∧ (∃ v, Lp w bl bg be bn bw lr D (RC .ready none) 0 ((ds ++ [(⟨(n : Int), some ⟨k, 0, none⟩, C, C, ws⟩ : Tm)]).length + 1) s (ds ++ [(⟨(n : Int), some ⟨k, 0, none⟩, C, C, ws⟩ : Tm)]) en w' v) ∧ W.heap.size ≤ w'.heap.size ∧ ∀ k, (w2.heap.size ≤ k ∧ k < s) ∨ k = bb → w'.heap[k]? = W.heap[k]? := by
    rintro s ds good W n k C en ws ⟨v, hL⟩ hs1 hs2 hok hn hC hk hrk hen hdl hnw
    have hnew : ∀ t ∈ ds, t.ao ≠ some ⟨k, 0, none⟩ := by
      obtain ⟨w9, ⟨v9, hL9⟩, hk9⟩ := hnw
      intro t ht he
      obtain ⟨k', e1, _, _, _, hr', _⟩ := hL9.each t ht
      rw [e1] at he
      cases he
      have := lt_of_block hr'
      omega
    clear hnw
    have HOK : Hid (okT (n : Int) ws) := hok
    have HN : Hid (n = ds.length + 1) := hn
    have HC : Hid (C = ws.length) := hC
    have hn16 : n ≤ 65536 := by have := hok.2.1; omega
    clear hok hn hC
    refine round_of HRC rfl hL.lp ?_
    have hFa : Fr [] W (W.alloc (.cells #[.int .i64 (n : Int), .slice (some ⟨k, 0, none⟩) C C, .int .i64 (en : Int), .int .i64 0] 100)) := Fr.alloc _ _ _
    have hrow : (W.alloc (.cells #[.int .i64 (n : Int), .slice (some ⟨k, 0, none⟩) C C, .int .i64 (en : Int), .int .i64 0] 100)).heap[W.heap.size]? = some (.cells #[.int .i64 (n : Int), .slice (some ⟨k, 0, none⟩) C C, .int .i64 (en : Int), .int .i64 0] 100 (0, 0)) := heap_alloc_new W _
    have hLa := hL.quiet hFa
    have hbr := begin_of (P := Tryz.prog) HRC hLa.lp
    have hLb := hLa.rec_ hds (RC .busy none)
    have hlrW : lr < W.heap.size := (Array.getElem?_eq_some_iff.1 hL.lp).1
    have hFb := Fr.putObj (W.alloc (.cells #[.int .i64 (n : Int), .slice (some ⟨k, 0, none⟩) C C, .int .i64 (en : Int), .int .i64 0] 100)) lr (.loop (RC .busy none))
    have hrowb := hFb.keep hrow (by simp; omega)
    obtain ⟨Wb, HWb⟩ : ∃ Wb, Hid ((W.alloc (.cells #[.int .i64 (n : Int), .slice (some ⟨k, 0, none⟩) C C, .int .i64 (en : Int), .int .i64 0] 100)).putObj lr (.loop (RC .busy none)) = Wb) := ⟨_, rfl⟩
    rw [HWb.out] at hbr hLb hrowb hFb
    obtain ⟨b6, hb6⟩ : ∃ b6, b6 = W.heap.size := ⟨_, rfl⟩
    have HB6 : Hid (b6 = W.heap.size) := hb6
    rw [← hb6] at hrowb
    have f3 : Wb.cell? ⟨W.heap.size, 3, none⟩ = some (.int .i64 0) := by rw [← hb6, cell_of_row _ _ _ _ _ _ hrowb]; rfl
    have x0 := hLb.eb.c
    have x1 := hLb.eb.f
    have hFc : Fr [be] Wb (Wb.setCell ⟨be, 0, none⟩ (.int .i64 0)) := Fr.set _ _ _ (by simp)
    have hLc : Lp w bl bg be bn bw lr D (RC .busy none) 0 (ds.length + 1) s ds good (Wb.setCell ⟨be, 0, none⟩ (.int .i64 0)) v := hLb.err hds 0
    have hb6be : b6 ≠ be := by omega
    have hrowc := hFc.keep hrowb (by simpa using hb6be)
    have f0 : (Wb.setCell ⟨be, 0, none⟩ (.int .i64 0)).cell? ⟨W.heap.size, 0, none⟩ = some (.int .i64 (n : Int)) := by rw [← hb6, cell_of_row _ _ _ _ _ _ hrowc]; rfl
    have f1 : (Wb.setCell ⟨be, 0, none⟩ (.int .i64 0)).cell? ⟨W.heap.size, 1, none⟩ = some (.slice (some ⟨k, 0, none⟩) C C) := by rw [← hb6, cell_of_row _ _ _ _ _ _ hrowc]; rfl
    have x2 := hLc.wrb.c
    have hTm : Tnew w W ⟨(n : Int), some ⟨k, 0, none⟩, C, C, ws⟩ := ⟨k, rfl, rfl, HC.out, by have := hL.fr.size; omega, hrk, HOK.out⟩
    have hWrt : ∀ (S : List Nat) (A B : World), Fr S A B → (∀ x ∈ S, x = lr ∨ x = be ∨ x = bn) → A.heap[k]? = some (.cells (wtsC ws).toArray 124 (0, 0)) → B.heap[k]? = some (.cells (wtsC ws).toArray 124 (0, 0)) := fun S A B hf hS ha => hf.keep ha (fun hh => by have := hS k hh; omega)
    have hrkb := hWrt _ _ _ hFb (by simp) (hFa.keep hrk (by simp))
    have hrkc := hWrt _ _ _ hFc (by simp) hrkb
    have hat : TArg (Wb.setCell ⟨be, 0, none⟩ (.int .i64 0)) (n : Int) (some ⟨k, 0, none⟩) C C ws := Tnew.at (w0 := w) (t := ⟨(n : Int), some ⟨k, 0, none⟩, C, C, ws⟩) ⟨k, rfl, rfl, HC.out, by have := hL.fr.size; omega, hrkc, HOK.out⟩
    clear hLa hrow hrowb hb6
    gi_wp2_with fail
    refine ⟨trivial, (CallsIn.inRound lr (callsIn_wide.2 (turn1_ok bn (ds.length + 1) (n : Int) (some ⟨k, 0, none⟩) C C ws _ hLc.nb hat (by omega) HOK.out (by rw [HN.out])))).mono ?_⟩
    rintro e We ⟨rfl, hbe, hFe⟩
    have hLe := hLc.nxt hds hFe hbe
    have y0 := hLe.eb.c
    have y1 := hLe.eb.f
    have hFf : Fr [be] We (We.setCell ⟨be, 0, none⟩ (.int .i64 0)) := Fr.set _ _ _ (by simp)
    have hLf : Lp w bl bg be bn bw lr D (RC .busy none) 0 (ds.length + 1 + 1) s ds good (We.setCell ⟨be, 0, none⟩ (.int .i64 0)) v := hLe.err hds 0
    have hrowe := hFe.keep hrowc (by have := HB6.out; simp; omega)
    have hrowf := hFf.keep hrowe (by simpa using hb6be)
    have hrke := hWrt _ _ _ hFe (by simp) hrkc
    have hrkf := hWrt _ _ _ hFf (by simp) hrke
    have hsf : s ≤ (We.setCell ⟨be, 0, none⟩ (.int .i64 0)).heap.size := by have := hFa.size; have := hFb.size; have := hFc.size; have := hFe.size; have := hFf.size; omega
    have hT : Fr ([lr, be, bn, bl, bg] ++ v.ownBlock.toList) W (We.setCell ⟨be, 0, none⟩ (.int .i64 0)) :=
      ((((hFa.mono (by simp)).then (hFb.mono (fun x hx _ => by simp at hx; simp [hx]))).then (hFc.mono (fun x hx _ => by simp at hx; simp [hx]))).then (hFe.mono (fun x hx _ => by simp at hx; simp [hx]))).then (hFf.mono (fun x hx _ => by simp at hx; simp [hx]))
    clear hLb hLc hLe hFa hFe hFf hat hrkc hrkb hrke hTm hWrt f0 f1 x2 x0 x1 f3 hrowc hrowe hFc hFb hbe
    gi_wp2_with fail
    obtain ⟨Wf, HWf⟩ : ∃ Wf, Hid (We.setCell ⟨be, 0, none⟩ (.int .i64 0) = Wf) := ⟨_, rfl⟩
    rw [HWf.out] at hLf hrowf hrkf hsf hT ⊢
    have hRg : Rg bl bg b6 Wf v (.int .i64 (good : Int)) ds.length (tmsC ds) (n : Int) (some ⟨k, 0, none⟩) C en :=
      ⟨hLf.lb, hLf.gb, hLf.row, by rw [cell_of_row _ _ _ _ _ _ hrowf]; rfl, by rw [cell_of_row _ _ _ _ _ _ hrowf]; rfl, by rw [cell_of_row _ _ _ _ _ _ hrowf]; rfl, lt_of_block hrowf, by omega, by have := HB6.out; omega, by have := HB6.out; omega, hLf.far hds (by omega), hLf.far hds (by omega), fun hv => by obtain ⟨cur, hcu⟩ := hLf.rowNe hv; rw [hcu] at hrowf; simp at hrowf, by omega⟩
    rw [← HB6.out]
    refine wpIn_mono (region8 lr 1 bl bg b6 Wf v (.int .i64 (good : Int)) ds.length (tmsC ds) (n : Int) (some ⟨k, 0, none⟩) C en hRg (fun W9 => ∃ v' w', (Instr.endRound lr none).run Tryz.prog W9 = .ok v' w' ∧ (Ending.returned v' = .returned (.bool true) ∧ (∃ v, Lp w bl bg be bn bw lr D (RC .ready none) 0 (ds.length + 1 + 1) s (ds ++ [(⟨(n : Int), some ⟨k, 0, none⟩, C, C, ws⟩ : Tm)]) en w' v) ∧ W.heap.size ≤ w'.heap.size ∧ ∀ k, (w2.heap.size ≤ k ∧ k < s) ∨ k = bb → w'.heap[k]? = W.heap[k]?)) _ ?_ rfl rfl rfl rfl) ?_
    · intro w' u hA
      have hLg := hLf.app (en := en) hds hA hsf (by have := hL.fr.size; omega) HC.out hrkf HOK.out hnew
      have hend := end_of (P := Tryz.prog) HRC hLg.lp none
      refine ⟨_, _, hend, rfl, ⟨u, ?_⟩, ?_, ?_⟩
      · have := hLg.rec_ hds (RC .ready none)
        exact this
      · have := hT.size
        have := hA.fr.size
        simp
        omega
      · intro j hj
        have hT2 : Fr ([lr, be, bn, bl, bg] ++ v.ownBlock.toList) W (((w'.setCell ⟨bl, 0, none⟩ u).setCell ⟨bg, 0, none⟩ (.int .i64 (en : Int))).putObj lr (.loop (RC .ready none))) :=
          (((hT.then (hA.fr.mono (fun x hx _ => List.mem_append_right _ hx))).then (Fr.set w' ⟨bl, 0, none⟩ u (by simp))).then (Fr.set _ ⟨bg, 0, none⟩ (.int .i64 (en : Int)) (by simp))).then ((Fr.putObj _ lr _).mono (fun x hx _ => by simp at hx; simp [hx]))
        refine hT2.block j (by omega) (fun hh => ?_)
        rcases List.mem_append.1 hh with h3 | h3
        · simp at h3; omega
        · simp only [Option.mem_toList] at h3
          have := hL.new j h3
          have := hL.sl
          omega
    · rintro e a9 W9 ⟨rfl, hq⟩
      have HQ : Hid (∃ v' w', _) := hq
      clear hq
      gi_wp2_with fail
      exact HQ.out
  refine (rec1_in 1 lr bb ao L cap xs vs ls c w2 (fun s ds good W => ∃ v, Lp w bl bg be bn bw lr D (RC .ready none) 0 (ds.length + 1) s ds good W v) (fun s ds good c W => ∃ v, Lp w bl bg be bn bw lr D (RC .done (some (.exit 0))) c (ds.length + 1) s ds good W v)
    hbb2 hA2 hlen HR.out (fun s hs => ⟨_, hLp0 s hs⟩) (fun s ds good W W' ⟨v, hL⟩ hf => ⟨v, hL.quiet hf⟩) (fun s ds good W W' g ⟨v, hL⟩ hb hg hf => ⟨v, hL.reader hb (by omega) hf⟩) hYg hYo hYe).mono ?_
  rintro e W3 ⟨⟨v0, rfl⟩, s, ds, good, htx, hgood, hend⟩
  have HT : Hid (txs ds = ls ∧ good + vs.length = xs.length) := ⟨htx, hgood⟩
  clear htx hgood hYg hYo hYe hLp0 hbb2 hA2
  obtain ⟨st, pe, v, hst, hpe, hL⟩ : ∃ st pe v, st ≠ .busy ∧ (pe = none ∨ pe = some (.exit 0)) ∧ Lp w bl bg be bn bw lr D (RC st pe) c (ds.length + 1) s ds good W3 v := by
    rcases hend with ⟨rfl, v, hL⟩ | ⟨_, v, hL⟩
    · exact ⟨.ready, none, v, by simp, Or.inl rfl, hL⟩
    · exact ⟨.done, some (.exit 0), v, by simp, Or.inr rfl, hL⟩
  clear hend
  have hle := loop_end_of (P := Tryz.prog) HRC hL.lp hst
  have hL4 := hL.rec_ hds (RC .exhausted pe)
  obtain ⟨W4, HW4⟩ : ∃ W4, Hid (W3.putObj lr (.loop (RC .exhausted pe)) = W4) := ⟨_, rfl⟩
  rw [HW4.out] at hle hL4
  clear hL
  obtain ⟨ro, rc, rfl⟩ := own2_shape hL4.row
  have hdl : ds.length = N := by rw [HN.out, ← HT.out.1, txs_length]
  have hgl : good = G := by have := HT.out.2; have := HG.out; omega
  subst hgl
  rw [hdl] at hL4
  have hb0 := hL4.lb.c
  have hb1 := hL4.lb.f
  have hg0 := hL4.gb.c
  have hg1 := hL4.gb.f
  have he0 := hL4.eb.c
  have he1 := hL4.eb.f
  have n1 : W4.setCell ⟨bl, 0, none⟩ (.slice ro N rc) = W4 := hL4.lb.same
  have n2 : W4.setCell ⟨bg, 0, none⟩ (.int .i64 (good : Int)) = W4 := hL4.gb.same
  have n3 : W4.setCell ⟨be, 0, none⟩ (.int .i64 (c : Int)) = W4 := hL4.eb.same
  have n4 : W4.drew.setCell ⟨bl, 0, none⟩ (.slice ro N rc) = W4.drew := (hL4.lb.keep (Fr.drew [] W4) (by simp)).same
  have n5 : W4.drew.setCell ⟨bg, 0, none⟩ (.int .i64 (good : Int)) = W4.drew := (hL4.gb.keep (Fr.drew [] W4) (by simp)).same
  have n6 : W4.drew.setCell ⟨be, 0, none⟩ (.int .i64 (c : Int)) = W4.drew := (hL4.eb.keep (Fr.drew [] W4) (by simp)).same
  have HL4 : Hid (Lp w bl bg be bn bw lr D (RC .exhausted pe) c (N + 1) s ds good W4 (.slice ro N rc)) := hL4
  have HDL : Hid (ds.length = N) := hdl
  clear hL4 hdl hst HRC
  refine ⟨pe, W4, hle, ?_⟩
  clear hle
  rcases hpe with rfl | rfl
  · gi_wp2_with fail
    refine wpIn_wide.2 ?_
    go_region_held3 (fun W => W.cell? ⟨bl, 0, none⟩ = some (.slice ro N rc) ∧ W.cell? ⟨bg, 0, none⟩ = some (.int .i64 (good : Int)) ∧ W.cell? ⟨be, 0, none⟩ = some (.int .i64 (c : Int))) (go_keep) (fail)
    gi_wp2_with fail
    have hK : W4.drew.heap[D]? = some (.deferred (some [])) := HL4.out.df
    have hF5 : Fr [D] W4 (W4.drew.putObj D (.deferred none)) := (Fr.drew [D] W4).then (Fr.putObj _ D _)
    refine ⟨by simp, .inl ⟨_, _, rfl, run_takeDeferred hK, ?_⟩⟩
    have k0 := (HL4.out.lb.keep hF5 (by simp; omega)).c
    have k1 := (HL4.out.gb.keep hF5 (by simp; omega)).c
    have k2 := (HL4.out.eb.keep hF5 (by simp; omega)).c
    have HO : Hid (TOut w (W4.drew.putObj D (.deferred none)) (.slice ro N rc) ds ∧ Fr [] w (W4.drew.putObj D (.deferred none))) := by
      have hlt : D < W4.heap.size := lt_of_block HL4.out.df
      refine ⟨⟨?_, fun k hk => ?_, fun t ht => (HL4.out.each t ht).keepS hF5 (fun k hk hh => ?_), HL4.out.pw⟩, HL4.out.fr.on hF5 (by intro x hx; simp at hx; omega)⟩
      · exact owns_keep HL4.out.row hF5 (fun k hk hh => by simp at hh; have := HL4.out.new k hk; have := HL4.out.sl; omega)
      · have := HL4.out.new k hk; have := HL4.out.sl; omega
      · simp at hh; subst hh; rw [HL4.out.df] at hk; cases hk
    obtain ⟨W5, HW5⟩ : ∃ W5, Hid (W4.drew.putObj D (.deferred none) = W5) := ⟨_, rfl⟩
    rw [HW5.out] at k0 k1 k2 HO ⊢
    refine ⟨.tuple #[.slice ro N rc, .int .i64 (good : Int), .int .i64 (c : Int)], ?_, ro, rc, rfl, ds, HT.out.1, HO.out⟩
    rw [results_cell3 rfl]
    go_simp
  · gi_wp2_with fail
    refine wpIn_wide.2 ?_
    go_region_held3 (fun W => W.cell? ⟨bl, 0, none⟩ = some (.slice ro N rc) ∧ W.cell? ⟨bg, 0, none⟩ = some (.int .i64 (good : Int)) ∧ W.cell? ⟨be, 0, none⟩ = some (.int .i64 (c : Int))) (go_keep) (fail)
    gi_wp2_with fail
    have hK : W4.drew.heap[D]? = some (.deferred (some [])) := HL4.out.df
    have hF5 : Fr [D] W4 (W4.drew.putObj D (.deferred none)) := (Fr.drew [D] W4).then (Fr.putObj _ D _)
    refine ⟨by simp, .inl ⟨_, _, rfl, run_takeDeferred hK, ?_⟩⟩
    have k0 := (HL4.out.lb.keep hF5 (by simp; omega)).c
    have k1 := (HL4.out.gb.keep hF5 (by simp; omega)).c
    have k2 := (HL4.out.eb.keep hF5 (by simp; omega)).c
    have HO : Hid (TOut w (W4.drew.putObj D (.deferred none)) (.slice ro N rc) ds ∧ Fr [] w (W4.drew.putObj D (.deferred none))) := by
      have hlt : D < W4.heap.size := lt_of_block HL4.out.df
      refine ⟨⟨?_, fun k hk => ?_, fun t ht => (HL4.out.each t ht).keepS hF5 (fun k hk hh => ?_), HL4.out.pw⟩, HL4.out.fr.on hF5 (by intro x hx; simp at hx; omega)⟩
      · exact owns_keep HL4.out.row hF5 (fun k hk hh => by simp at hh; have := HL4.out.new k hk; have := HL4.out.sl; omega)
      · have := HL4.out.new k hk; have := HL4.out.sl; omega
      · simp at hh; subst hh; rw [HL4.out.df] at hk; cases hk
    obtain ⟨W5, HW5⟩ : ∃ W5, Hid (W4.drew.putObj D (.deferred none) = W5) := ⟨_, rfl⟩
    rw [HW5.out] at k0 k1 k2 HO ⊢
    refine ⟨.tuple #[.slice ro N rc, .int .i64 (good : Int), .int .i64 (c : Int)], ?_, ro, rc, rfl, ds, HT.out.1, HO.out⟩
    rw [results_cell3 rfl]
    go_simp
theorem TOut.trs {w w' : World} {ro : Option Addr} {N rc : Nat} {ds : List Tm} (h : TOut w w' (.slice ro N rc) ds) (hl : ds.length ≤ 140737488355328 := by omega) : TRs w' ro ds := by
  refine ⟨fun h0 => ?_, hl, fun t ht => (h.each t ht).at⟩
  rcases h.row.2 with ⟨hv, h1⟩ | ⟨g, cap, cur, hv, _, hgg, hnc, _, hcs, htake⟩
  · omega
  · cases hv
    refine ⟨g, 0, rfl, lt_of_block hgg, fun i hi => ?_⟩
    have hc := h.row.cells (g := g) rfl
    have key : ∀ c, c < 2 → w'.cell? ⟨g, 0 + i * 2 + c, none⟩ = (tmC (ds.getD i Tm.zero))[c]? := by
      intro c hc2
      have h1 := tmsC_get ds i c hi hc2
      have hlt : c < (tmC (ds.getD i Tm.zero)).length := by simp [tmC]; omega
      rw [List.getElem?_eq_getElem hlt] at h1 ⊢
      have := hc (i * 2 + c) _ h1
      rw [Addr.add_lit] at this
      simpa [Nat.add_assoc] using this
    exact ⟨key 0 (by omega), key 1 (by omega)⟩
end Go.Proofs.YtaefninikmaiiaaGreatDoor

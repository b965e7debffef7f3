/- The two sources side by side with a Book: what each call leaves alone. Asked as a row of its own. Conditions as each names them. -/
import Derived.Test.YtaefninikmaiiaaGreatDoorYgt6
import Derived.Test.YtaefninikmaiiaaGreatDoorAsk6
import Derived.Test.YtaefninikmaiiaaGreatDoorLw6
namespace Go.Proofs.YtaefninikmaiiaaGreatDoor
open Go.ChangeShapes Go.WideShapes Go.ChangeAt Go.RowKit Go.Lib
set_option linter.unusedVariables false
set_option linter.unusedSimpArgs false

theorem Tryz.undIsW : Tryz.prog.underlying 54 = some (.slice 3) := by kernel_rfl
/-- The slice at ao reads as the numbers ns. -/
structure IRs (w : World) (ao : Option Addr) (ns : List Int) : Prop where
  lies : 0 < ns.length → ∃ b off, ao = some ⟨b, off, none⟩ ∧ b < w.heap.size ∧ ∀ i, i < ns.length → w.cell? ⟨b, off + i, none⟩ = some (.int .i64 (ns.getD i 0))
  few : ns.length ≤ 17592186044416
theorem IRs.keepS {S : List Nat} {w w' : World} {ao : Option Addr} {ns : List Int} (h : IRs w ao ns) (hf : Fr S w w') (hn : 0 < ns.length → ∀ a, ao = some a → a.block ∉ S) : IRs w' ao ns := by
  refine ⟨fun h0 => ?_, h.few⟩
  obtain ⟨b, off, e, hb, hc⟩ := h.lies h0
  exact ⟨b, off, e, Nat.lt_of_lt_of_le hb hf.size, fun i hi => (World.cell?_of_block (hf.block b hb (hn h0 _ e))).trans (hc i hi)⟩
theorem IRs.keep {w w' : World} {ao : Option Addr} {ns : List Int} (h : IRs w ao ns) (hf : Fr [] w w') : IRs w' ao ns := h.keepS hf (by simp)
theorem IRs.of_open {w : World} {a : Addr} {len cap : Nat} {zs : List Int} (hl : len ≤ cap) (hz : zs.length = cap) (hc : ∀ i, i < zs.length → w.cell? (a.add i) = some (.int .i64 (zs.getD i 0))) (hb : len ≤ 17592186044416) : IRs w (some a) (zs.take len) := by
  refine ⟨fun h0 => ?_, by simp; omega⟩
  rw [List.length_take] at h0
  obtain ⟨b, off, spot⟩ := a
  have hspot : spot = none := by simpa [Addr.add] using World.cell?_spot (hc 0 (by omega))
  subst hspot
  refine ⟨b, off, rfl, ?_, fun j hj => ?_⟩
  · have := World.block_lt_of_cell? w _ (hc 0 (by omega))
    simpa [Addr.add] using this
  · rw [List.length_take] at hj
    have h1 := hc j (by omega)
    rw [show (⟨b, off, none⟩ : Addr).add j = ⟨b, off + j, none⟩ from by simp [Addr.add]] at h1
    rw [h1]
    congr 2
    simp only [List.getD]
    rw [List.getElem?_take_of_lt (by omega)]
theorem beyond2_any (k N M : Nat) (w : World) (hN : N ≤ 9007199254740992) (hM : M ≤ 9007199254740992) (h0 : w.cell? ⟨k, 0, none⟩ = some (.int .i64 (N : Int))) (h1 : w.cell? ⟨k, 1, none⟩ = some (.int .i64 (M : Int))) :
    Calls Tryz.prog 7 #[.slice (some ⟨k, 0, none⟩) 2 2] w fun e w' => e = .returned (.bool (decide (1048576 < N + M))) ∧ w = w' := by
  by_cases h : 1048576 < N
  · have h' : (1048576 : Int) < N := by omega
    have E : Hid (decide (1048576 < N + M) = true) := by show decide _ = true; simp; omega
    go_enter Tryz.func7, Tryz.ntmps7
    go_wp2_with fail
    refine wp_loop_rounds 1 ?_
    rw [rounds_succ]
    go_wp2
    go_ret
    rw [E.out]
    exact ⟨rfl, rfl⟩
  · have h' : (N : Int) ≤ 1048576 := by omega
    by_cases h3 : 1048576 < N + M
    · have h3' : (1048576 : Int) < (N : Int) + M := by omega
      have E : Hid (decide (1048576 < N + M) = true) := by show decide _ = true; simp; omega
      go_enter Tryz.func7, Tryz.ntmps7
      go_wp2_with fail
      refine wp_loop_rounds 2 ?_
      rw [rounds_succ]
      go_wp2
      rw [rounds_succ]
      go_wp2
      go_ret
      rw [E.out]
      exact ⟨rfl, rfl⟩
    · have h3' : (N : Int) + M ≤ 1048576 := by omega
      have E : Hid (decide (1048576 < N + M) = false) := by show decide _ = false; simp; omega
      go_enter Tryz.func7, Tryz.ntmps7
      go_wp2_with fail
      refine wp_loop_rounds 3 ?_
      rw [rounds_succ]
      go_wp2
      rw [rounds_succ]
      go_wp2
      rw [rounds_succ]
      go_wp2
      go_ret
      rw [E.out]
      exact ⟨rfl, rfl⟩
set_option maxHeartbeats 4000000 in
set_option maxRecDepth 100000 in
theorem asn_any {w0 w : World} {g lb L : Nat} {ts : List Tm} {v : Value} {qs : List Nat} (h : Src w0 w g lb L ts v qs) (hq : qs.length < 2 ^ 40) (N : Nat) (hN : N = qs.length) :
    Calls Tryz.prog 32 #[.pointer (some ⟨g, 0, none⟩)] w fun e w' => ∃ bo, e = .returned (.slice bo N N) ∧ w'.ownsRow w.heap.size 3 1 (.slice bo N N) N (ints qs) ∧ Fr [] w w' := by
  obtain ⟨iI, hiI, hzI, hsI, hbI⟩ := info_parts Tryz.infoI
  obtain ⟨ao, cap, hv⟩ := own_shape w h.row
  have HL : Hid (N = qs.length) := hN
  rw [← hN] at hv hq
  subst hv
  clear hN
  have c2 := h.c2
  have HI : Hid (Is w ao qs) := Is.of_own (n := qs.length) (by have := h.row; rw [HL.out] at this; exact this) rfl
  by_cases h0 : 0 < N
  · obtain ⟨b, off, e1, _⟩ := HI.out.lies (by have := HL.out; omega)
    subst e1
    have hn0 : ((N : Int) == 0) = false := by rw [beq_eq_false_iff_ne]; omega
    go_enter Tryz.func32, Tryz.ntmps32
    go_wp2_with fail
    refine (sThere_any h).mono ?_
    rintro e w1 ⟨rfl, rfl⟩
    go_wp2_with (at_make; refine wpList_make_full _ rfl (.tmp 19) (.tmp 19) 54 rfl 0 3 iI (.int .i64 0) 1 Tryz.undIs hiI hzI hsI .i64 .i64 N N N rfl rfl rfl rfl ?b2 ?b3 ?b4 ?_)
    case b2 => rw [hbI]; omega
    case b3 => unfold maxLen; omega
    case b4 => exact Nat.zero_le _
    intro w1 hown hgrow
    obtain ⟨cur, hcur, hcs⟩ := own_lit hown
    have hF1 : Fr [] w w1 := Fr.grown (S := []) hgrow (by simp)
    have hcl : (ints qs).length = N := by rw [ints_length, HL.out]
    have hS1 := h.keep hF1
    have c2' := hS1.c2
    have hcp := run_copy_row (P := Tryz.prog) w1 54 54 3 3 w.heap.size 0 N N ⟨b, off, none⟩ N cap cur 3 (ints qs) Tryz.undIs Tryz.sizeI hcur (by rw [hcl]; exact (Nat.min_self N).symm) (HI.out.keep hF1).src (by omega) (ints_oneCell qs)
    rw [hcl] at hcp
    have hcur2 : cur.toList.drop (0 + N) = [] := by simp [hcs]
    rw [hcur2, List.take_zero, List.append_nil, List.nil_append] at hcp
    have HF : Hid ((w1.setRow w.heap.size (ints qs).toArray).ownsRow w.heap.size 3 1 (.slice (some ⟨w.heap.size, 0, none⟩) N N) N (ints qs) ∧ Fr [] w (w1.setRow w.heap.size (ints qs).toArray)) := ⟨⟨by rw [hcl]; omega, .inr ⟨w.heap.size, N, _, rfl, Nat.le_refl _, setRow_heap w1 _ _ _ _ _ hcur, Nat.le_refl _, by unfold maxLen; omega, by simp [hcl], by simp only [Nat.mul_one]; rw [List.take_of_length_le (by omega)]⟩⟩, hF1.on (Fr.setRow w1 _ _) (by simp)⟩
    clear hcur hown hgrow hF1 hS1 hcl hcs hcur2 h c2
    go_wp2
    go_ret
    exact ⟨_, rfl, HF.out.1, HF.out.2⟩
  · obtain rfl : N = 0 := by omega
    go_enter Tryz.func32, Tryz.ntmps32
    go_wp2_with fail
    refine (sThere_any h).mono ?_
    rintro e w1 ⟨rfl, rfl⟩
    go_wp2
    go_ret
    exact ⟨none, rfl, by
      have e0 : qs = [] := List.eq_nil_of_length_eq_zero (by have := HL.out; omega)
      subst e0
      exact World.ownsRow_nil _ _ _ _, Fr.refl _ _⟩

theorem cells_type {w : World} {k : Nat} {c c' : Array Value} {t t' : TypeId} (h : w.heap[k]? = some (.cells c t (0, 0))) (h' : w.heap[k]? = some (.cells c' t' (0, 0))) : t = t' := by
  rw [h] at h'
  simp only [Option.some.injEq, Obj.cells.injEq] at h'
  exact h'.2.1
section
variable {w0 wk w w' : World} {S : List Nat}
theorem Src.keepW {g lb L : Nat} {ts : List Tm} {v v0 : Value} {qs q0 : List Nat} (ho : Src w0 wk g lb L ts v0 q0) (h : Src w0 w g lb L ts v qs) (hf : Fr S w w') (hS : ∀ k ∈ S, ∀ cs t, w.heap[k]? = some (.cells cs t (0, 0)) → (t = 3 → v.ownBlock ≠ some k) ∧ t ≠ 72 ∧ (t = 63 ∨ t = 124 → k < w0.heap.size ∨ wk.heap.size ≤ k)) : Src w0 w' g lb L ts v qs := by
  refine ⟨hf.keep h.box (fun hm => (hS g hm _ _ h.box).2.1 rfl), hf.keep h.log (fun hm => ?_), h.len, h.few, fun t ht => ?_, owns_keep h.row hf (fun k hk hm => ?_), h.gn, h.ln, h.rn⟩
  · have := (hS lb hm _ _ h.log).2.2 (Or.inl rfl)
    have := h.ln
    have := lt_of_block ho.log
    omega
  · obtain ⟨k, e1, e2, e3, e4, e5, e6⟩ := h.each t ht
    obtain ⟨k', f1, _, _, f4, f5, _⟩ := ho.each t ht
    rw [e1] at f1
    cases f1
    refine ⟨k, e1, e2, e3, e4, hf.keep e5 (fun hm => ?_), e6⟩
    have := (hS k hm _ _ e5).2.2 (Or.inr rfl)
    have := lt_of_block f5
    omega
  · obtain ⟨cur, hc⟩ := h.rowNe hk
    exact (hS k hm _ _ hc).1 rfl hk
theorem YSrc.keepW {g L lc : Nat} {lo : Option Addr} {us : List Tm} {v v0 : Value} {qs q0 : List Nat} (ho : YSrc w0 wk g L lo lc us v0 q0) (h : YSrc w0 w g L lo lc us v qs) (hf : Fr S w w') (hS : ∀ k ∈ S, ∀ cs t, w.heap[k]? = some (.cells cs t (0, 0)) → (t = 3 → v.ownBlock ≠ some k) ∧ t ≠ 109 ∧ (t = 63 ∨ t = 124 → k < w0.heap.size ∨ wk.heap.size ≤ k)) : YSrc w0 w' g L lo lc us v qs := by
  have hr : ∀ k, v.ownBlock = some k → k ∉ S := fun k hk hm => by
    obtain ⟨cur, hc⟩ := h.rowAt hk
    exact (hS k hm _ _ hc).1 rfl hk
  refine ⟨hf.keep h.box (fun hm => (hS g hm _ _ h.box).2.1 rfl), ⟨h.log.len, owns_keepB h.log.row hf (fun k hk hm => ?_), fun u hu => (h.log.each u hu).keepS hf (fun k hk hm => ?_)⟩, h.ok, h.few, owns_keep h.row hf hr, h.gn, h.rn⟩
  · obtain ⟨hb, c, e⟩ := owns_cells h.log.row hk
    obtain ⟨_, c', e'⟩ := owns_cells ho.log.row hk
    have := lt_of_block e'
    have := (hS k hm _ _ e).2.2 (Or.inl rfl)
    omega
  · obtain ⟨hb, c, e⟩ := owns_cells (h.log.each u hu).row hk
    obtain ⟨_, c', e'⟩ := owns_cells (ho.log.each u hu).row hk
    have := lt_of_block e'
    have := (hS k hm _ _ e).2.2 (Or.inr rfl)
    omega
end
/-- The two sources and the Book k of the law, side by side. -/
structure Pr6 (wa wb wk w : World) (g lb g2 L lc : Nat) (lo : Option Addr) (ds us : List Tm) (v v2 : Value) (qs ps : List Nat) (bk T : Nat) (rI rW : Value) (hI hW : List Bq.HB) : Prop where
  s : Src wa w g lb L ds v qs
  y : YSrc wb w g2 L lo lc us v2 ps
  b : Bq.B4 wk w bk T (.slice none 0 0) rI rW (.slice none 0 0) [] hI hW []
  vv : ∀ k, v.ownBlock = some k → v2.ownBlock ≠ some k
  vI : ∀ k ∈ Bq.lbs hI, v.ownBlock ≠ some k ∧ v2.ownBlock ≠ some k ∧ wk.heap.size ≤ k
  vW : ∀ k ∈ Bq.lbs hW, wk.heap.size ≤ k
section
variable {wa wb wk w w' : World} {g lb g2 L lc : Nat} {lo : Option Addr} {ds us : List Tm} {v v2 v' : Value} {qs ps qs' : List Nat} {bk T : Nat} {rI rW : Value} {hI hW : List Bq.HB}
theorem lbsI_type {w0 : World} {rB rT : Value} {hB hT : List Bq.HB} (h : Bq.B4 w0 w bk T rB rI rW rT hB hI hW hT) {k : Nat} (hk : k ∈ Bq.lbs hI) : ∃ cs, w.heap[k]? = some (.cells cs 3 (0, 0)) := by
  obtain ⟨b, hb, hbk⟩ := Bq.mem_lbs.1 hk
  obtain ⟨j, hj⟩ := List.getElem?_of_mem hb
  exact (h.sI.each j b hj).type k hbk
theorem lbsW_type {w0 : World} {rB rT : Value} {hB hT : List Bq.HB} (h : Bq.B4 w0 w bk T rB rI rW rT hB hI hW hT) {k : Nat} (hk : k ∈ Bq.lbs hW) : ∃ cs, w.heap[k]? = some (.cells cs 124 (0, 0)) := by
  obtain ⟨b, hb, hbk⟩ := Bq.mem_lbs.1 hk
  obtain ⟨j, hj⟩ := List.getElem?_of_mem hb
  exact (h.sW.each j b hj).type k hbk
/-- What a source writes is none of the Book's. -/
theorem b4_keepG {w0 : World} {S : List Nat} (h : Bq.B4 w0 w bk T (.slice none 0 0) rI rW (.slice none 0 0) [] hI hW []) (hf : Fr S w w') (hS : ∀ k ∈ S, ∃ cs t, w.heap[k]? = some (.cells cs t (0, 0)) ∧ (t = 72 ∨ t = 109 ∨ (t = 3 ∧ k ∉ Bq.lbs hI))) : Bq.B4 w0 w' bk T (.slice none 0 0) rI rW (.slice none 0 0) [] hI hW [] := by
  have hoff : ∀ K : Bq.Kd, K.tH ≠ 72 → K.tH ≠ 109 → K.tH ≠ 3 → K.tE ≠ 72 → K.tE ≠ 109 → K.tE ≠ 3 → Bq.Off K S w := by
    intro K a1 a2 a3 a4 a5 a6 k hk
    obtain ⟨cs, t, hc, ht⟩ := hS k hk
    refine ⟨cs, t, hc, ?_⟩
    rcases ht with rfl | rfl | ⟨rfl, _⟩
    · exact ⟨by decide, Ne.symm a1, Ne.symm a4⟩
    · exact ⟨by decide, Ne.symm a2, Ne.symm a5⟩
    · exact ⟨by decide, Ne.symm a3, Ne.symm a6⟩
  have hbk : bk ∉ S := fun hm => by
    obtain ⟨cs, t, hc, ht⟩ := hS bk hm
    obtain ⟨cs', h1, _⟩ := h.box
    have := cells_type hc h1.box
    subst this
    rcases ht with e | e | ⟨e, _⟩ <;> exact absurd e (by decide)
  obtain ⟨cs, hX, hc⟩ := h.box
  refine ⟨⟨cs, hX.keep hf hbk, hc⟩, h.sB.stay hf (hoff _ (by decide) (by decide) (by decide) (by decide) (by decide) (by decide)), ⟨h.sI.bl.keep hf hbk (fun k hk hm => ?_), fun j b hb => (h.sI.each j b hb).keep hf (fun k hk hm => ?_), h.sI.alone, h.sI.fresh⟩, h.sW.stay hf (hoff _ (by decide) (by decide) (by decide) (by decide) (by decide) (by decide)), h.sT.stay hf (hoff _ (by decide) (by decide) (by decide) (by decide) (by decide) (by decide)), h.bn, h.rBn, h.rIn, h.rWn, h.rTn, h.lB, h.lI, h.lW, h.lT⟩
  · obtain ⟨cs1, h1⟩ := Bq.own_type h.sI.bl.row k hk
    obtain ⟨cs2, t, h2, ht⟩ := hS k hm
    have := cells_type h2 h1
    subst this
    rcases ht with e | e | ⟨e, _⟩ <;> exact absurd e (by decide)
  · obtain ⟨cs2, t, h2, ht⟩ := hS k hm
    obtain ⟨cs1, h1⟩ := (h.sI.each j b hb).type k hk
    have := cells_type h2 h1
    subst this
    rcases ht with e | e | ⟨_, e⟩
    · exact absurd e (by decide)
    · exact absurd e (by decide)
    · exact e (Bq.mem_lbs.2 ⟨b, List.mem_of_getElem? hb, hk⟩)
theorem Pr6.keep (h : Pr6 wa wb wk w g lb g2 L lc lo ds us v v2 qs ps bk T rI rW hI hW) (hf : Fr [] w w') : Pr6 wa wb wk w' g lb g2 L lc lo ds us v v2 qs ps bk T rI rW hI hW :=
  ⟨h.s.keep hf, h.y.keep hf, h.b.keep hf, h.vv, h.vI, h.vW⟩
/-- Behind the program's Get. -/
theorem Pr6.get1 (h : Pr6 wa wb wk w g lb g2 L lc lo ds us v v2 qs ps bk T rI rW hI hW) (hs : Src wa w' g lb L ds v' qs') (hf : Fr (Src.own g v) w w') (hm : Moved w.heap.size v v') : Pr6 wa wb wk w' g lb g2 L lc lo ds us v' v2 qs' ps bk T rI rW hI hW := by
  have ht : ∀ k ∈ Src.own g v, ∃ cs t, w.heap[k]? = some (.cells cs t (0, 0)) ∧ (t = 72 ∨ (t = 3 ∧ v.ownBlock = some k)) := by
    intro k hk
    simp only [Src.own, List.mem_cons, Option.mem_toList] at hk
    rcases hk with rfl | hk
    · exact ⟨_, _, h.s.box, Or.inl rfl⟩
    · obtain ⟨cur, hc⟩ := h.s.rowNe hk
      exact ⟨_, _, hc, Or.inr ⟨rfl, hk⟩⟩
  refine ⟨hs, h.y.keepW h.y hf (fun k hk cs t hc => ?_), b4_keepG h.b hf (fun k hk => ?_), fun k hk hk2 => ?_, fun k hk => ?_, h.vW⟩
  · obtain ⟨cs', t', hc', h1⟩ := ht k hk
    have := cells_type hc hc'
    subst this
    rcases h1 with rfl | ⟨rfl, h1⟩
    · exact ⟨fun e => absurd e (by decide), by decide, fun e => by rcases e with e | e <;> exact absurd e (by decide)⟩
    · exact ⟨fun _ => h.vv k h1, by decide, fun e => by rcases e with e | e <;> exact absurd e (by decide)⟩
  · obtain ⟨cs', t', hc', h1⟩ := ht k hk
    refine ⟨cs', t', hc', ?_⟩
    rcases h1 with rfl | ⟨rfl, h1⟩
    · exact Or.inl rfl
    · exact Or.inr (Or.inr ⟨rfl, fun hh => (h.vI k hh).1 h1⟩)
  · rcases hm with hm | ⟨y, h1, h2⟩
    · exact h.vv k (hm ▸ hk) hk2
    · rw [h1] at hk
      cases hk
      obtain ⟨cur, hc⟩ := h.y.rowAt hk2
      have := lt_of_block hc
      omega
  · refine ⟨fun hv => ?_, (h.vI k hk).2⟩
    rcases hm with hm | ⟨y, h1, h2⟩
    · exact (h.vI k hk).1 (hm ▸ hv)
    · rw [h1] at hv
      cases hv
      obtain ⟨cs, hc⟩ := lbsI_type h.b hk
      have := lt_of_block hc
      omega
/-- Behind the document's Get. -/
theorem Pr6.get2 (h : Pr6 wa wb wk w g lb g2 L lc lo ds us v v2 qs ps bk T rI rW hI hW) (hs : YSrc wb w' g2 L lo lc us v' qs') (hf : Fr (YSrc.own g2 v2) w w') (hm : Moved w.heap.size v2 v') : Pr6 wa wb wk w' g lb g2 L lc lo ds us v v' qs qs' bk T rI rW hI hW := by
  have ht : ∀ k ∈ YSrc.own g2 v2, ∃ cs t, w.heap[k]? = some (.cells cs t (0, 0)) ∧ (t = 109 ∨ (t = 3 ∧ v2.ownBlock = some k)) := by
    intro k hk
    simp only [YSrc.own, List.mem_cons, Option.mem_toList] at hk
    rcases hk with rfl | hk
    · exact ⟨_, _, h.y.box, Or.inl rfl⟩
    · obtain ⟨cur, hc⟩ := h.y.rowAt hk
      exact ⟨_, _, hc, Or.inr ⟨rfl, hk⟩⟩
  refine ⟨h.s.keepW h.s hf (fun k hk cs t hc => ?_), hs, b4_keepG h.b hf (fun k hk => ?_), fun k hk hk2 => ?_, fun k hk => ?_, h.vW⟩
  · obtain ⟨cs', t', hc', h1⟩ := ht k hk
    have := cells_type hc hc'
    subst this
    rcases h1 with rfl | ⟨rfl, h1⟩
    · exact ⟨fun e => absurd e (by decide), by decide, fun e => by rcases e with e | e <;> exact absurd e (by decide)⟩
    · exact ⟨fun _ hv => h.vv k hv h1, by decide, fun e => by rcases e with e | e <;> exact absurd e (by decide)⟩
  · obtain ⟨cs', t', hc', h1⟩ := ht k hk
    refine ⟨cs', t', hc', ?_⟩
    rcases h1 with rfl | ⟨rfl, h1⟩
    · exact Or.inr (Or.inl rfl)
    · exact Or.inr (Or.inr ⟨rfl, fun hh => (h.vI k hh).2.1 h1⟩)
  · rcases hm with hm | ⟨y, h1, h2⟩
    · exact h.vv k hk (hm ▸ hk2)
    · rw [h1] at hk2
      cases hk2
      obtain ⟨cur, hc⟩ := h.s.rowNe hk
      have := lt_of_block hc
      omega
  · refine ⟨(h.vI k hk).1, fun hv => ?_, (h.vI k hk).2.2⟩
    rcases hm with hm | ⟨y, h1, h2⟩
    · exact (h.vI k hk).2.1 (hm ▸ hv)
    · rw [h1] at hv
      cases hv
      obtain ⟨cs, hc⟩ := lbsI_type h.b hk
      have := lt_of_block hc
      omega
/-- Behind what a Book is told: its own blocks alone were written. -/
theorem Pr6.told {T' : Nat} {rI' rW' : Value} {hI' hW' : List Bq.HB} {S : List Nat} (h : Pr6 wa wb wk w g lb g2 L lc lo ds us v v2 qs ps bk T rI rW hI hW) (hb : Bq.B4 wk w' bk T' (.slice none 0 0) rI' rW' (.slice none 0 0) [] hI' hW' []) (hf : Fr S w w') (hS : ∀ k ∈ S, k = bk ∨ rI.ownBlock = some k ∨ rW.ownBlock = some k)
    (hI2 : ∀ k ∈ Bq.lbs hI', k ∈ Bq.lbs hI ∨ (wk.heap.size ≤ k ∧ v.ownBlock ≠ some k ∧ v2.ownBlock ≠ some k)) (hW2 : ∀ k ∈ Bq.lbs hW', k ∈ Bq.lbs hW ∨ wk.heap.size ≤ k) : Pr6 wa wb wk w' g lb g2 L lc lo ds us v v2 qs ps bk T' rI' rW' hI' hW' := by
  have ht : ∀ k ∈ S, ∀ cs t, w.heap[k]? = some (.cells cs t (0, 0)) → t ≠ 3 ∧ t ≠ 72 ∧ t ≠ 109 ∧ t ≠ 63 ∧ t ≠ 124 := by
    intro k hk cs t hc
    rcases hS k hk with rfl | hk | hk
    · obtain ⟨cs', h1, _⟩ := h.b.box
      have := cells_type hc h1.box
      subst this
      exact ⟨by decide, by decide, by decide, by decide, by decide⟩
    · obtain ⟨cs1, h1⟩ := Bq.own_type h.b.sI.bl.row k hk
      have := cells_type hc h1
      subst this
      exact ⟨by decide, by decide, by decide, by decide, by decide⟩
    · obtain ⟨cs1, h1⟩ := Bq.own_type h.b.sW.bl.row k hk
      have := cells_type hc h1
      subst this
      exact ⟨by decide, by decide, by decide, by decide, by decide⟩
  refine ⟨h.s.keepW h.s hf (fun k hk cs t hc => ?_), h.y.keepW h.y hf (fun k hk cs t hc => ?_), hb, h.vv, fun k hk => ?_, fun k hk => ?_⟩
  · obtain ⟨a, b, c, d, e⟩ := ht k hk cs t hc
    exact ⟨fun x => absurd x a, b, fun x => by rcases x with x | x; exact absurd x d; exact absurd x e⟩
  · obtain ⟨a, b, c, d, e⟩ := ht k hk cs t hc
    exact ⟨fun x => absurd x a, c, fun x => by rcases x with x | x; exact absurd x d; exact absurd x e⟩
  · rcases hI2 k hk with h1 | ⟨h1, h2, h3⟩
    · exact h.vI k h1
    · exact ⟨h2, h3, h1⟩
  · rcases hW2 k hk with h1 | h1
    · exact h.vW k h1
    · exact h1
/-- Apart says true, and leaves both sources as they were. -/
theorem Pr6.apart {v0 v20 : Value} {q0 p0 : List Nat} (hs0 : Src wa wk g lb L ds v0 q0) (hy0 : YSrc wb wk g2 L lo lc us v20 p0) (h : Pr6 wa wb wk w g lb g2 L lc lo ds us v v2 qs ps bk T rI rW hI hW) (ht0 : Bq.Tab wk) (htw : Bq.Tab w) :
    Calls Tryz.prog 17 #[.pointer (some ⟨bk, 0, none⟩)] w fun e w' => e = .returned (.bool true) ∧ Src wa w' g lb L ds v qs ∧ YSrc wb w' g2 L lo lc us v2 ps ∧ (∀ p, NoS p w → NoS p w') ∧ ∃ S, Fr S w w' ∧ ∀ k ∈ S, wk.heap.size ≤ k := by
  obtain ⟨cs, hX, _⟩ := h.b.box
  have hmem : ∀ k ∈ Bq.own4 (.slice none 0 0) rI rW (.slice none 0 0) [] hI hW [], rI.ownBlock = some k ∨ k ∈ Bq.lbs hI ∨ rW.ownBlock = some k ∨ k ∈ Bq.lbs hW := by
    intro k hk
    simp only [Bq.own4, List.mem_append, Option.mem_toList] at hk
    rcases hk with (hk | hk) | (hk | hk) | (hk | hk) | (hk | hk)
    · simp [Value.ownBlock] at hk
    · simp [Bq.lbs] at hk
    · exact Or.inl hk
    · exact Or.inr (Or.inl hk)
    · exact Or.inr (Or.inr (Or.inl hk))
    · exact Or.inr (Or.inr (Or.inr hk))
    · simp [Value.ownBlock] at hk
    · simp [Bq.lbs] at hk
  have hnew : ∀ k ∈ Bq.own4 (.slice none 0 0) rI rW (.slice none 0 0) [] hI hW [], wk.heap.size ≤ k := by
    intro k hk
    rcases hmem k hk with hk | hk | hk | hk
    · exact h.b.rIn k hk
    · exact (h.vI k hk).2.2
    · exact h.b.rWn k hk
    · exact h.vW k hk
  have hcond : ∀ k ∈ Bq.own4 (.slice none 0 0) rI rW (.slice none 0 0) [] hI hW [], ∀ cs t, w.heap[k]? = some (.cells cs t (0, 0)) → (t = 3 → v.ownBlock ≠ some k ∧ v2.ownBlock ≠ some k) ∧ t ≠ 72 ∧ t ≠ 109 := by
    intro k hk cs t hc
    rcases hmem k hk with hk | hk | hk | hk
    · obtain ⟨cs1, h1⟩ := Bq.own_type h.b.sI.bl.row k hk
      have := cells_type hc h1
      subst this
      exact ⟨fun x => absurd x (by decide), by decide, by decide⟩
    · obtain ⟨cs1, h1⟩ := lbsI_type h.b hk
      have := cells_type hc h1
      subst this
      exact ⟨fun _ => ⟨(h.vI k hk).1, (h.vI k hk).2.1⟩, by decide, by decide⟩
    · obtain ⟨cs1, h1⟩ := Bq.own_type h.b.sW.bl.row k hk
      have := cells_type hc h1
      subst this
      exact ⟨fun x => absurd x (by decide), by decide, by decide⟩
    · obtain ⟨cs1, h1⟩ := lbsW_type h.b hk
      have := cells_type hc h1
      subst this
      exact ⟨fun x => absurd x (by decide), by decide, by decide⟩
  refine (Bq.apart4_any bk cs (.slice none 0 0) rI rW (.slice none 0 0) [] hI hW [] w hX h.b.sB h.b.sI h.b.sW h.b.sT htw (fun hm => by have := hnew _ hm; have := ht0.lt; omega)).mono ?_
  rintro e w' ⟨rfl, hF⟩
  refine ⟨rfl, hs0.keepW h.s hF (fun k hk cs t hc => ?_), hy0.keepW h.y hF (fun k hk cs t hc => ?_), fun p hp => ?_, _, hF, hnew⟩
  · obtain ⟨a, b, c⟩ := hcond k hk cs t hc
    exact ⟨fun x => (a x).1, b, fun _ => Or.inr (hnew k hk)⟩
  · obtain ⟨a, b, c⟩ := hcond k hk cs t hc
    exact ⟨fun x => (a x).2, c, fun _ => Or.inr (hnew k hk)⟩
  · rcases hp with hp | ⟨x, e, hx⟩
    · exact Or.inl hp
    · exact Or.inr ⟨x, e, hF.keep hx (fun hm => (hcond x hm _ _ hx).2.1 rfl)⟩
/-- What lies there is older than what comes. -/
theorem Pr6.old (h : Pr6 wa wb wk w g lb g2 L lc lo ds us v v2 qs ps bk T rI rW hI hW) : ∀ k, w.heap.size ≤ k → v.ownBlock ≠ some k ∧ v2.ownBlock ≠ some k ∧ k ∉ Bq.lbs hI ∧ k ∉ Bq.lbs hW := by
  intro k hk
  refine ⟨fun e => ?_, fun e => ?_, fun e => ?_, fun e => ?_⟩
  · obtain ⟨c, hc⟩ := h.s.rowNe e
    have := lt_of_block hc
    omega
  · obtain ⟨c, hc⟩ := h.y.rowAt e
    have := lt_of_block hc
    omega
  · obtain ⟨c, hc⟩ := lbsI_type h.b e
    have := lt_of_block hc
    omega
  · obtain ⟨c, hc⟩ := lbsW_type h.b e
    have := lt_of_block hc
    omega
/-- The Book is told a transaction. -/
theorem Pr6.txn (h : Pr6 wa wb wk w g lb g2 L lc lo ds us v v2 qs ps bk T rI rW hI hW) (xn : Int) (xo : Option Addr) (M xc B : Nat) (vs : List Value) (hr : w.ownsRow B 124 3 (.slice xo M xc) M vs) (hB : wk.heap.size ≤ B) (hM : M ≤ 32) (hal : ∀ k, (Value.slice xo M xc).ownBlock = some k → k ∉ Bq.lbs hW) (hT : T < 2097150) :
    Calls Tryz.prog 30 #[.pointer (some ⟨bk, 0, none⟩), .agg #[.int .i64 xn, .slice xo M xc]] w fun e w' => e = .returned (.tuple #[]) ∧ ∃ rW' hW', Pr6 wa wb wk w' g lb g2 L lc lo ds us v v2 qs ps bk (T + 1) rI rW' hI hW' ∧ ∃ S, Fr S w w' ∧ ∀ k ∈ S, wk.heap.size ≤ k := by
  refine (Bq.txn_any h.b xn xo M xc ⟨M, vs, own_base hr (Nat.zero_le _), by omega⟩ hal hT).mono ?_
  rintro e w' ⟨rfl, rv', hb, hf, hm⟩
  refine ⟨rfl, rv', _, h.told hb hf ?_ (fun k hk => Or.inl hk) ?_, _, hf, ?_⟩
  · intro k hk
    rcases List.mem_cons.1 hk with hk | hk
    · exact Or.inl hk
    · exact Or.inr (Or.inr (by simpa using hk))
  · intro k hk
    obtain ⟨b, hb1, hk1⟩ := Bq.mem_lbs.1 hk
    rcases List.mem_append.1 hb1 with hb1 | hb1
    · exact Or.inl (Bq.mem_lbs.2 ⟨b, hb1, hk1⟩)
    · simp only [List.mem_singleton] at hb1
      subst hb1
      have := (owns_cells hr hk1).1
      exact Or.inr (by omega)
  · intro k hk
    rcases List.mem_cons.1 hk with hk | hk
    · have := h.b.bn
      omega
    · exact h.b.rWn k (by simpa using hk)
/-- The Book is told numbers. -/
theorem Pr6.nums (h : Pr6 wa wb wk w g lb g2 L lc lo ds us v v2 qs ps bk T rI rW hI hW) (xo : Option Addr) (M xc B : Nat) (vs : List Value) (hr : w.ownsRow B 3 1 (.slice xo M xc) M vs) (hB : wk.heap.size ≤ B) (hM : M < 17179869184) (hal : ∀ k, B ≤ k → v.ownBlock ≠ some k ∧ v2.ownBlock ≠ some k ∧ k ∉ Bq.lbs hI) (hT : T < 2097150) :
    Calls Tryz.prog 31 #[.pointer (some ⟨bk, 0, none⟩), .slice xo M xc] w fun e w' => e = .returned (.tuple #[]) ∧ ∃ rI' hI', Pr6 wa wb wk w' g lb g2 L lc lo ds us v v2 qs ps bk (T + 1) rI' rW hI' hW ∧ ∃ S, Fr S w w' ∧ ∀ k ∈ S, wk.heap.size ≤ k := by
  refine (Bq.ints_any h.b xo M xc ⟨M, vs, own_base hr (Nat.zero_le _), hM⟩ (fun k hk => (hal k (owns_cells hr hk).1).2.2) hT).mono ?_
  rintro e w' ⟨rfl, rv', hb, hf, hm⟩
  refine ⟨rfl, rv', _, h.told hb hf ?_ ?_ (fun k hk => Or.inl hk), _, hf, ?_⟩
  · intro k hk
    rcases List.mem_cons.1 hk with hk | hk
    · exact Or.inl hk
    · exact Or.inr (Or.inl (by simpa using hk))
  · intro k hk
    obtain ⟨b, hb1, hk1⟩ := Bq.mem_lbs.1 hk
    rcases List.mem_append.1 hb1 with hb1 | hb1
    · exact Or.inl (Bq.mem_lbs.2 ⟨b, hb1, hk1⟩)
    · simp only [List.mem_singleton] at hb1
      subst hb1
      have h1 := (owns_cells hr hk1).1
      exact Or.inr ⟨by omega, (hal k h1).1, (hal k h1).2.1⟩
  · intro k hk
    rcases List.mem_cons.1 hk with hk | hk
    · have := h.b.bn
      omega
    · exact h.b.rIn k (by simpa using hk)
theorem Src.own_ge {w0 : World} (h : Src w0 w g lb L ds v qs) : ∀ k ∈ Src.own g v, w0.heap.size ≤ k := by
  intro k hk
  simp only [Src.own, List.mem_cons, Option.mem_toList] at hk
  rcases hk with rfl | hk
  · exact h.gn
  · exact h.rn k hk
theorem YSrc.own_ge {w0 : World} (h : YSrc w0 w g2 L lo lc us v2 ps) : ∀ k ∈ YSrc.own g2 v2, w0.heap.size ≤ k := by
  intro k hk
  simp only [YSrc.own, List.mem_cons, Option.mem_toList] at hk
  rcases hk with rfl | hk
  · exact h.gn
  · exact h.rn k hk
/-- A block of another type is none of what the document's Get writes. -/
theorem YSrc.own_off {w0 : World} (h : YSrc w0 w g2 L lo lc us v2 ps) {k : Nat} {cs : Array Value} {t : TypeId} (hk : w.heap[k]? = some (.cells cs t (0, 0))) (h1 : t ≠ 109) (h2 : t ≠ 3) : k ∉ YSrc.own g2 v2 := by
  intro hm
  simp only [YSrc.own, List.mem_cons, Option.mem_toList] at hm
  rcases hm with rfl | hm
  · exact h1 (cells_type hk h.box)
  · obtain ⟨c, hc⟩ := h.rowAt hm
    exact h2 (cells_type hk hc)
/-- Apart of the Book of what came in, and leaves both sources as they were. -/
theorem old_apart {w0 : World} {rT : Value} {hT : List Bq.HB} (h : Bq.B4 w0 w bk T (.slice none 0 0) (.slice none 0 0) rW rT [] [] hW hT) (hs : Src wa w g lb L ds v qs) (hy : YSrc wb w g2 L lo lc us v2 ps) (hab : wa.heap.size ≤ wb.heap.size) (lW : ∀ k ∈ Bq.lbs hW, w0.heap.size ≤ k ∧ k < wa.heap.size) (lT : ∀ k ∈ Bq.lbs hT, w0.heap.size ≤ k ∧ k < wa.heap.size) (ht0 : Bq.Tab w0) (hf : Fr [] w0 w) :
    Calls Tryz.prog 17 #[.pointer (some ⟨bk, 0, none⟩)] w fun e w' => e = .returned (.bool true) ∧ Src wa w' g lb L ds v qs ∧ YSrc wb w' g2 L lo lc us v2 ps ∧ Fr [] w0 w' := by
  obtain ⟨cs, hX, _⟩ := h.box
  have ho := h.own (by simp [Bq.lbs]) (by simp [Bq.lbs]) (fun k hk => (lW k hk).1) (fun k hk => (lT k hk).1)
  have hcond : ∀ k ∈ Bq.own4 (.slice none 0 0) (.slice none 0 0) rW rT [] [] hW hT, ∀ cs t, w.heap[k]? = some (.cells cs t (0, 0)) → t ≠ 3 ∧ t ≠ 72 ∧ t ≠ 109 ∧ (t = 63 ∨ t = 124 → k < wa.heap.size) := by
    intro k hk cs t hc
    simp only [Bq.own4, List.mem_append, Option.mem_toList] at hk
    rcases hk with (hk | hk) | (hk | hk) | (hk | hk) | (hk | hk)
    · simp [Value.ownBlock] at hk
    · simp [Bq.lbs] at hk
    · simp [Value.ownBlock] at hk
    · simp [Bq.lbs] at hk
    · obtain ⟨cs1, h1⟩ := Bq.own_type h.sW.bl.row k hk
      have := cells_type hc h1
      subst this
      exact ⟨by decide, by decide, by decide, fun e => by rcases e with e | e <;> exact absurd e (by decide)⟩
    · obtain ⟨cs1, h1⟩ := lbsW_type h hk
      have := cells_type hc h1
      subst this
      exact ⟨by decide, by decide, by decide, fun _ => (lW k hk).2⟩
    · obtain ⟨cs1, h1⟩ := Bq.own_type h.sT.bl.row k hk
      have := cells_type hc h1
      subst this
      exact ⟨by decide, by decide, by decide, fun e => by rcases e with e | e <;> exact absurd e (by decide)⟩
    · obtain ⟨b, hb, hbk⟩ := Bq.mem_lbs.1 hk
      obtain ⟨j, hj⟩ := List.getElem?_of_mem hb
      obtain ⟨cs1, h1⟩ := (h.sT.each j b hj).type k hbk
      have := cells_type hc h1
      subst this
      exact ⟨by decide, by decide, by decide, fun _ => (lT k hk).2⟩
  refine (Bq.apart4_any bk cs (.slice none 0 0) (.slice none 0 0) rW rT [] [] hW hT w hX h.sB h.sI h.sW h.sT (ht0.keep hf (by simp)) (fun hm => by have := ho _ hm; have := ht0.lt; omega)).mono ?_
  rintro e w' ⟨rfl, hF⟩
  refine ⟨rfl, hs.keepW hs hF (fun k hk cs t hc => ?_), hy.keepW hy hF (fun k hk cs t hc => ?_), hf.on hF ho⟩
  · obtain ⟨a, b, c, d⟩ := hcond k hk cs t hc
    exact ⟨fun x => absurd x a, b, fun x => Or.inl (d x)⟩
  · obtain ⟨a, b, c, d⟩ := hcond k hk cs t hc
    exact ⟨fun x => absurd x a, c, fun x => Or.inl (by have := d x; omega)⟩
end
end Go.Proofs.YtaefninikmaiiaaGreatDoor

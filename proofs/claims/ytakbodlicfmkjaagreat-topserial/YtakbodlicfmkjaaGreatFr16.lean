/- The program's feed: contracts of Read, handOn, Skip, Dispatch. Conditions as each names them. -/
import Derived.Test.YtakbodlicfmkjaaGreatFt16
namespace Go.Proofs.YtakbodlicfmkjaaGreat.F
open Go.ChangeShapes Go.WideShapes Go.ChangeAt Go.RowKit Go.Lib Go.Maps
set_option linter.unusedVariables false
set_option linter.unusedSimpArgs false

section
variable {w0 w w' : World} {f g lb L : Nat} {ts : List Tm} {v : Value} {qs : List Nat} {mb : Nat} {bs : List Int} {s : Fe} {hw : Value}
theorem FdM.notOwn (h : FdM w0 w f g lb L ts v qs mb bs s hw) : f ∉ Src.own g v ∧ mb ∉ Src.own g v ∧ f ≠ mb := by
  obtain ⟨n, F, hm, _⟩ := h.map
  obtain ⟨es, c, he⟩ := hm.block
  have hg := h.src.box
  refine ⟨fun hx => ?_, fun hx => ?_, fun hx => ?_⟩
  · simp only [Src.own, List.mem_cons, Option.mem_toList] at hx
    rcases hx with rfl | hx
    · rw [h.box] at hg; simp at hg
    · obtain ⟨cur, hc⟩ := h.src.rowNe hx
      rw [h.box] at hc; simp at hc
  · simp only [Src.own, List.mem_cons, Option.mem_toList] at hx
    rcases hx with rfl | hx
    · rw [he] at hg; simp at hg
    · obtain ⟨cur, hc⟩ := h.src.rowNe hx
      rw [he] at hc; simp at hc
  · subst hx
    rw [h.box] at he
    simp at he
/-- A transaction's struct that was made behind a source's own blocks is stored anew. -/
theorem Src.off {w4 w5 : World} {v' : Value} {qs' : List Nat} {B : Nat} {u y : Value} (h0 : Src w0 w g lb L ts v qs) (h : Src w0 w4 g lb L ts v' qs') (hB : w.heap.size ≤ B) (hb : B2 w4 B u y) (hf : Fr [B] w4 w5) : Src w0 w5 g lb L ts v' qs' := by
  have hg := h0.lt
  have hl := lt_of_block h0.log
  refine ⟨hf.keep h.box (by simp; omega), hf.keep h.log (by simp; omega), h.len, h.few, fun t ht => (h.each t ht).keepS hf (fun k hk hm => ?_), owns_keep h.row hf (fun k hk hm => ?_), h.gn, h.ln, h.rn⟩
  · simp only [List.mem_singleton] at hm
    subst hm
    rw [hb.box] at hk
    simp at hk
  · simp only [List.mem_singleton] at hm
    subst hm
    exact h.apart hb.box (by decide) hk
/-- A record was read: the source has been asked, then the struct was stored. -/
theorem FdM.got (h : FdM w0 w f g lb L ts v qs mb bs s hw) (hc : s.readC = 0) {w5 : World} {v' : Value} {k tl : Nat} (htl : tl = (ts.getD s.rd Tm.zero).L) (hS : Src w0 w5 g lb L ts v' (qs ++ [s.rd + 1])) (hF : Fr (Src.own g v) w w5) (hk : w.heap.size ≤ k)
    (hrow : w5.heap[k]? = some (.cells (wtsC (ts.getD s.rd Tm.zero).ws).toArray 56 (0, 0))) :
    FdM w0 (((w5.setCell ⟨f, 1, none⟩ (.int .i64 ((s.rd : Int) + 1))).setCell ⟨f, 5, none⟩ (.int .i64 ((s.rd : Int) + 1))).setCell ⟨f, 6, none⟩ (.slice (some ⟨k, 0, none⟩) tl tl)) f g lb L ts v' (qs ++ [s.rd + 1]) mb bs s.readS (.slice (some ⟨k, 0, none⟩) tl tl)
      ∧ Fr (f :: Src.own g v) w (((w5.setCell ⟨f, 1, none⟩ (.int .i64 ((s.rd : Int) + 1))).setCell ⟨f, 5, none⟩ (.int .i64 ((s.rd : Int) + 1))).setCell ⟨f, 6, none⟩ (.slice (some ⟨k, 0, none⟩) tl tl)) := by
  subst htl
  rw [show (s.rd : Int) + 1 = ((s.rd + 1 : Nat) : Int) from by omega]
  obtain ⟨n1, n2, n3⟩ := h.notOwn
  have hc' : s.hv = false ∧ s.cl = false ∧ s.rd < s.fd := by
    unfold Fe.readC at hc
    by_cases a1 : s.hv = true
    · simp [a1] at hc
    · by_cases a2 : s.cl = true
      · simp [a1, a2] at hc
      · by_cases a3 : s.fd ≤ s.rd
        · simp [a1, a2, a3] at hc
        · exact ⟨by simpa using a1, by simpa using a2, by omega⟩
  have hRS : s.readS = { s with rd := s.rd + 1, hv := true } := by simp [Fe.readS, hc]
  have hbox5 := hF.keep h.box n1
  have hF6 : Fr [f] w5 (((w5.setCell ⟨f, 1, none⟩ (.int .i64 ((s.rd + 1 : Nat) : Int))).setCell ⟨f, 5, none⟩ (.int .i64 ((s.rd + 1 : Nat) : Int))).setCell ⟨f, 6, none⟩ (.slice (some ⟨k, 0, none⟩) (ts.getD s.rd Tm.zero).L (ts.getD s.rd Tm.zero).L)) :=
    ((Fr.set _ _ _ (by simp)).then (Fr.set _ _ _ (by simp))).then (Fr.set _ _ _ (by simp))
  have hbox6 := fd_set (j := 6) (.slice (some ⟨k, 0, none⟩) (ts.getD s.rd Tm.zero).L (ts.getD s.rd Tm.zero).L) (fd_set (j := 5) (.int .i64 ((s.rd + 1 : Nat) : Int)) (fd_set (j := 1) (.int .i64 ((s.rd + 1 : Nat) : Int)) hbox5))
  have hno : ∀ k cs t, w5.heap[k]? = some (.cells cs t (0, 0)) → t ≠ 163 → k ∉ [f] := by
    intro k cs t hk ht hm
    simp only [List.mem_singleton] at hm
    subst hm
    rw [hbox5] at hk
    cases hk
    exact ht rfl
  rw [hRS]
  refine ⟨⟨⟨hF6.keep hS.box (hno _ _ _ hS.box (by decide)), hF6.keep hS.log (hno _ _ _ hS.log (by decide)), hS.len, hS.few, fun t ht => (hS.each t ht).keepS hF6 (fun k hk => hno _ _ _ hk (by decide)), owns_keep hS.row hF6 (fun k hk => ?_), hS.gn, hS.ln, hS.rn⟩, h.ok, ?_, ?_, by show s.rd + 1 ≤ s.fd; omega, h.fl, h.wn, fun _ => ⟨by show 1 ≤ s.rd + 1; omega, k, by simp, by
      simp only [Nat.add_sub_cancel]
      exact hF6.keep hrow (hno _ _ _ hrow (by decide)), ?_⟩, ⟨_, _, _, rfl⟩, h.fn, h.mn⟩, hF.trans hF6 (fun x hx _ => List.mem_cons_of_mem _ hx) (fun x hx _ => by simp at hx; subst hx; exact List.mem_cons_self)⟩
  · obtain ⟨cur, hc⟩ := hS.rowNe hk
    exact hno _ _ _ hc (by decide)
  · exact hbox6
  · obtain ⟨n, F, hm, hb⟩ := h.map
    refine ⟨n, F, (hm.keep hF n2).keep hF6 (by simp; exact fun e => n3 e.symm), ⟨fun x hx hlt => hb.ahead x hx (by simp only at hlt; omega), fun _ => ?_⟩⟩
    have hfew := h.few
    have := h.fl
    have := hb.ahead ((s.rd + 1 : Nat) : Int) ⟨by omega, by omega⟩ (by omega)
    exact this
  · have := h.fn
    have := h.lt
    omega
set_option maxHeartbeats 8000000 in
set_option maxRecDepth 100000 in
theorem fRead_any (h : FdM w0 w f g lb L ts v qs mb bs s hw) (hq : qs.length < 2 ^ 40) : Calls Tryz.prog 252 #[.pointer (some ⟨f, 0, none⟩)] w fun e w' => e = .returned (.tuple #[.int .i64 (s.readN : Int), .int .i64 (s.readC : Int)]) ∧
    ((s.readC ≠ 0 ∧ FdM w0 w' f g lb L ts v qs mb bs s hw ∧ Fr [] w w') ∨ (s.readC = 0 ∧ ∃ v' hw', FdM w0 w' f g lb L ts v' (qs ++ [s.rd + 1]) mb bs s.readS hw' ∧ Fr (f :: Src.own g v) w w' ∧ Moved w.heap.size v v' ∧ ∃ k n, hw' = .slice (some ⟨k, 0, none⟩) n n ∧ w.heap.size ≤ k)) := by
  have HT : Hid (Calls _ _ _ _ _) := fThere_any h
  have hfew := h.few
  have hr1 := h.rf
  have hr2 := h.fl
  by_cases hv : s.hv = true
  · have e1 : s.readC = 10 := by simp [Fe.readC, hv]
    have e2 : s.readN = 0 := by simp [Fe.readN, e1]
    rw [e1, e2]
    have HH : Hid (∀ W, Fr [] w W → FdM w0 W f g lb L ts v qs mb bs s hw) := fun W hf => h.keep hf
    by_cases hb : (s.rd : Int) ∈ bs
    · have HU : Hid (Calls _ _ _ _ _) := fTurn_skip h hv hb
      clear h hv hb e1 e2
      go_enter Tryz.func252, Tryz.ntmps252
      go_wp2_with fail
      refine Calls.mono HT.out ?_
      rintro e w1 ⟨rfl, rfl⟩
      go_wp2_with fail
      refine Calls.mono HU.out ?_
      rintro e w1 ⟨rfl, hF1⟩
      go_wp2
      go_ret2
      exact ⟨rfl, Or.inl ⟨by omega, HH.out _ hF1, hF1⟩⟩
    · have HU : Hid (Calls _ _ _ _ _) := fTurn_dis h hv hb
      clear h hv hb e1 e2
      go_enter Tryz.func252, Tryz.ntmps252
      go_wp2_with fail
      refine Calls.mono HT.out ?_
      rintro e w1 ⟨rfl, rfl⟩
      go_wp2_with fail
      refine Calls.mono HU.out ?_
      rintro e w1 ⟨rfl, hF1⟩
      go_wp2
      go_ret2
      exact ⟨rfl, Or.inl ⟨by omega, HH.out _ hF1, hF1⟩⟩
  · have hv2 : s.hv = false := by simpa using hv
    have HU : Hid (Calls _ _ _ _ _) := fTurn_none h hv2
    have HH : Hid (∀ W, Fr [] w W → FdM w0 W f g lb L ts v qs mb bs s hw) := fun W hf => h.keep hf
    by_cases hcl : s.cl = true
    · have e1 : s.readC = 12 := by simp [Fe.readC, hv2, hcl]
      have e2 : s.readN = 0 := by simp [Fe.readN, e1]
      rw [e1, e2]
      clear h hv hv2 e1 e2
      go_enter Tryz.func252, Tryz.ntmps252
      go_wp2_with fail
      refine Calls.mono HT.out ?_
      rintro e w1 ⟨rfl, rfl⟩
      go_wp2_with fail
      refine Calls.mono HU.out ?_
      rintro e w1 ⟨rfl, hF1⟩
      have c7 := (HH.out _ hF1).c7
      rw [hcl] at c7
      go_wp2
      go_ret2
      exact ⟨rfl, Or.inl ⟨by omega, HH.out _ hF1, hF1⟩⟩
    · have hcf : s.cl = false := by simpa using hcl
      by_cases hlt : s.rd < s.fd
      · have e1 : s.readC = 0 := by simp [Fe.readC, hv2, hcf]; omega
        have e2 : s.readN = s.rd + 1 := by simp [Fe.readN, e1]
        obtain ⟨tl, htl⟩ : ∃ tl, tl = (ts.getD s.rd Tm.zero).L := ⟨_, rfl⟩
        have HG : Hid (∀ W, Fr [] w W → Calls Tryz.prog 52 #[.pointer (some ⟨g, 0, none⟩), .int .i64 (IntKind.i64.wrap ((s.rd : Int) + 1))] W fun e w4 => ∃ k v', e = .returned (.tuple #[.agg #[.int .i64 ((s.rd : Int) + 1), .slice (some ⟨k, 0, none⟩) tl tl], .int .i64 0]) ∧
            Hid (w.heap.size ≤ k ∧ w4.heap[k]? = some (.cells (wtsC (ts.getD s.rd Tm.zero).ws).toArray 56 (0, 0)) ∧ Src w0 w4 g lb L ts v' (qs ++ [s.rd + 1]) ∧ Fr (Src.own g v) w w4 ∧ Moved w.heap.size v v') ∧ w4.cell? ⟨f, 0, none⟩ = some (.pointer (some ⟨g, 0, none⟩)) ∧ w4.cell? ⟨f, 1, none⟩ = some (.int .i64 (s.rd : Int)) ∧ Hid (∀ b u y, B2 W b u y → B2 w4 b u y)) := fun W hf => by
          have hk := h.keep hf
          have hlt0 : w0.heap.size ≤ W.heap.size := by have := h.fn; have := hk.lt; omega
          have hg := get_ok hk.src (s.rd + 1) (by omega) (by omega) hq hlt0 _ rfl
          rw [show IntKind.i64.wrap ((s.rd : Int) + 1) = ((s.rd + 1 : Nat) : Int) from by rw [IntKind.wrap_i64]; omega]
          refine Calls.mono hg ?_
          rintro e w4 ⟨k, v', rfl, a1, a2, a3, a4, a5⟩
          simp only [Nat.add_sub_cancel] at a2 ⊢
          have hn : (ts.getD s.rd Tm.zero).n = ((s.rd + 1 : Nat) : Int) := h.numOf (s.rd + 1) (by omega) (by omega)
          rw [hn, ← htl, show ((s.rd + 1 : Nat) : Int) = (s.rd : Int) + 1 from by omega]
          have hF4 : Fr (Src.own g v) w w4 := (hf.mono (by simp)).then a4
          have hb4 := hF4.keep h.box h.notOwn.1
          refine ⟨k, v', rfl, ⟨by have := hf.size; omega, a2, a3, hF4, ?_⟩, by rw [cell_of_row _ _ _ _ _ _ hb4]; rfl, by rw [cell_of_row _ _ _ _ _ _ hb4]; rfl, fun b u y hb => hb.keepS a4 (fun hx => ?_)⟩
          · exact (Moved.refl _ _).trans a5 hf.size
          · simp only [Src.own, List.mem_cons, Option.mem_toList] at hx
            rcases hx with rfl | hx
            · have := hk.src.box; rw [hb.box] at this; simp at this
            · exact hk.src.apart hb.box (by decide) hx
        have HTl : Hid (tl = (ts.getD s.rd Tm.zero).L) := htl
        have HFz : Hid (∀ W, Fr (Src.own g v) w W → W.cell? ⟨f, 1, none⟩ = some (.int .i64 (s.rd : Int)) ∧ (∃ u, W.cell? ⟨f, 5, none⟩ = some u) ∧ (∃ u, W.cell? ⟨f, 6, none⟩ = some u) ∧ ∀ j, W.frozen? ⟨f, j, none⟩ = false) := fun W hf => by
          have hb := hf.keep h.box h.notOwn.1
          exact ⟨by rw [cell_of_row _ _ _ _ _ _ hb]; rfl, ⟨_, by rw [cell_of_row _ _ _ _ _ _ hb]; rfl⟩, ⟨_, by rw [cell_of_row _ _ _ _ _ _ hb]; rfl⟩, fun j => by simp [World.frozen?, hb]⟩
        have HGo : Hid (FdM w0 w f g lb L ts v qs mb bs s hw) := h
        clear htl
        have hfw := h.lt
        rw [e2, e1]
        have hd : decide ((s.fd : Int) ≤ (s.rd : Int)) = false := by simp; omega
        clear h hv hv2
        go_enter Tryz.func252, Tryz.ntmps252
        go_wp2_with fail
        refine Calls.mono HT.out ?_
        rintro e w1 ⟨rfl, rfl⟩
        go_wp2_with fail
        refine Calls.mono HU.out ?_
        rintro e w1 ⟨rfl, hF1⟩
        have c0 := (HH.out _ hF1).c0
        have c1 := (HH.out _ hF1).c1
        have c2 := (HH.out _ hF1).c2
        have c7 := (HH.out _ hF1).c7
        rw [hcf] at c7
        go_wp2_with fail
        go_quiet (fail)
        go_wp2_with fail
        obtain ⟨w2, HW2⟩ : ∃ w2, Hid (w1.drewN nq = w2) := ⟨_, rfl⟩
        have hF2 : Fr [] w w2 := by rw [← HW2.out]; exact hF1.then (Fr.drewN _ _ _)
        rw [HW2.out]
        have d0 := (HH.out _ hF2).c0
        have d1 := (HH.out _ hF2).c1
        have hfB : f ≠ w2.heap.size := by have := hF2.size; omega
        have hfB' : w2.heap.size ≠ f := fun e => hfB e.symm
        clear HW2 hF1 c0 c1 c2 c7
        go_region_held3 (fun W => W.cell? ⟨f, 0, none⟩ = some (.pointer (some ⟨g, 0, none⟩)) ∧ W.cell? ⟨f, 1, none⟩ = some (.int .i64 (s.rd : Int))) (go_keep)
          (first
            | (go_at_call 52; with_reducible refine Calls.mono (HG.out _ (hF2.then (Fr.drew _ _))) ?_; rintro e w4 ⟨k, v', rfl, HP, g0, g1, HB2⟩)
            | (go_at_call 52; with_reducible refine Calls.mono (HG.out _ (hF2.then ((Fr.alloc _ _ _).then (Fr.drew _ _)))) ?_; rintro e w4 ⟨k, v', rfl, HP, g0, g1, HB2⟩; have hB4 := HB2.out w2.heap.size (.int .i64 0) (.slice none 0 0) ⟨heap_alloc_new _ _⟩; obtain ⟨s0, s1, s2, s3⟩ : _ ∧ _ ∧ _ ∧ _ := ⟨hB4.c0, hB4.c1, hB4.f0, hB4.f1⟩))
        · obtain ⟨w5, HW5⟩ : ∃ w5, Hid (w4.alloc (.cells #[.int .i64 ((s.rd : Int) + 1), .slice (some ⟨k, 0, none⟩) tl tl] 59) = w5) := ⟨_, rfl⟩
          obtain ⟨B, HB⟩ : ∃ B, Hid (w4.heap.size = B) := ⟨_, rfl⟩
          have hB5 : B2 w5 B (.int .i64 ((s.rd : Int) + 1)) (.slice (some ⟨k, 0, none⟩) tl tl) := ⟨by rw [← HW5.out, ← HB.out]; exact heap_alloc_new _ _⟩
          have hF45 : Fr [] w4 w5 := by rw [← HW5.out]; exact Fr.alloc _ _ _
          obtain ⟨p1, p2, p3, p4, p5⟩ := HP.out
          have hF5 : Fr (Src.own g v) w w5 := p4.then (hF45.mono (by simp))
          have hBf : B ≠ f := by rw [← HB.out]; have := p4.size; omega
          rw [HW5.out, HB.out]
          have HX : Hid (_ ∧ Moved w.heap.size v v' ∧ ∃ k' n' : Nat, (Value.slice (some ⟨k, 0, none⟩) tl tl) = .slice (some ⟨k', 0, none⟩) n' n' ∧ w.heap.size ≤ k') := ⟨HGo.out.got e1 HTl.out (p3.keep hF45) hF5 p1 (hF45.keep p2 (by simp)), p5, k, tl, rfl, p1⟩
          obtain ⟨a1, ⟨u5, a5⟩, ⟨u6, a6⟩, az⟩ := HFz.out _ hF5
          obtain ⟨b0, b1⟩ : _ ∧ _ := ⟨hB5.c0, hB5.c1⟩
          have z1 := az 1
          have z5 := az 5
          have z6 := az 6
          have hBf' : f ≠ B := fun e => hBf e.symm
          clear HW5 HB hB5 hF45 p1 p2 p3 p4 p5 hF5 az HP HGo HB2 g0 g1 hfB hfB' d0 d1
          go_wp2
          go_ret2
          exact ⟨by simp, Or.inr ⟨trivial, v', _, HX.out.1.1, HX.out.1.2, HX.out.2⟩⟩
        · obtain ⟨w5, HW5⟩ : ∃ w5, Hid ((w4.setCell ⟨w2.heap.size, 0, none⟩ (.int .i64 ((s.rd : Int) + 1))).setCell ⟨w2.heap.size, 1, none⟩ (.slice (some ⟨k, 0, none⟩) tl tl) = w5) := ⟨_, rfl⟩
          obtain ⟨B, HB⟩ : ∃ B, Hid (w2.heap.size = B) := ⟨_, rfl⟩
          have hF45 : Fr [B] w4 w5 := by rw [← HW5.out, HB.out]; exact Fr.box2 _ _ _ _
          have hB5 : B2 w5 B (.int .i64 ((s.rd : Int) + 1)) (.slice (some ⟨k, 0, none⟩) tl tl) := ⟨by
            rw [← HW5.out, HB.out]
            rw [HB.out] at hB4
            have := row_setCell (j := 1) (.slice (some ⟨k, 0, none⟩) tl tl) (row_setCell (j := 0) (.int .i64 ((s.rd : Int) + 1)) hB4.box)
            simpa using this⟩
          obtain ⟨p1, p2, p3, p4, p5⟩ := HP.out
          rw [HB.out] at hB4 hfB hfB'
          have hBw : w.heap.size ≤ B := by rw [← HB.out]; exact hF2.size
          have hF5 : Fr (Src.own g v) w w5 := p4.trans hF45 (fun x hx _ => hx) (fun x hx hl => by simp at hx; omega)
          have hkB : k ≠ B := by
            rintro rfl
            rw [hB4.box] at p2
            simp at p2
          rw [HW5.out, HB.out]
          have HX : Hid (_ ∧ Moved w.heap.size v v' ∧ ∃ k' n' : Nat, (Value.slice (some ⟨k, 0, none⟩) tl tl) = .slice (some ⟨k', 0, none⟩) n' n' ∧ w.heap.size ≤ k') := ⟨HGo.out.got e1 HTl.out (HGo.out.src.off p3 hBw hB4 hF45) hF5 p1 (hF45.keep p2 (by simpa using hkB)), p5, k, tl, rfl, p1⟩
          obtain ⟨a1, ⟨u5, a5⟩, ⟨u6, a6⟩, az⟩ := HFz.out _ hF5
          obtain ⟨b0, b1⟩ : _ ∧ _ := ⟨hB5.c0, hB5.c1⟩
          have z1 := az 1
          have z5 := az 5
          have z6 := az 6
          clear HW5 HB hB5 hF45 p1 p2 p3 p4 p5 hF5 az HP HGo HB2 g0 g1 d0 d1 hB4 s0 s1 s2 s3
          go_wp2
          go_ret2
          exact ⟨by simp, Or.inr ⟨trivial, v', _, HX.out.1.1, HX.out.1.2, HX.out.2⟩⟩
      · have e1 : s.readC = 9 := by simp [Fe.readC, hv2, hcf]; omega
        have e2 : s.readN = 0 := by simp [Fe.readN, e1]
        rw [e1, e2]
        have hd : decide ((s.fd : Int) ≤ (s.rd : Int)) = true := by simp; omega
        clear h hv hv2 e1 e2
        go_enter Tryz.func252, Tryz.ntmps252
        go_wp2_with fail
        refine Calls.mono HT.out ?_
        rintro e w1 ⟨rfl, rfl⟩
        go_wp2_with fail
        refine Calls.mono HU.out ?_
        rintro e w1 ⟨rfl, hF1⟩
        have c1 := (HH.out _ hF1).c1
        have c2 := (HH.out _ hF1).c2
        have c7 := (HH.out _ hF1).c7
        rw [hcf] at c7
        go_wp2_with fail
        go_quiet (fail)
        go_wp2
        go_ret2
        exact ⟨rfl, Or.inl ⟨by omega, HH.out _ (hF1.then (Fr.drewN _ _ _)), hF1.then (Fr.drewN _ _ _)⟩⟩
end
end Go.Proofs.YtakbodlicfmkjaaGreat.F

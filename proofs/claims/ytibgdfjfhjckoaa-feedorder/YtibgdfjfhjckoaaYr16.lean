/- The document's feed: contracts of Read, Skip, Dispatch. Conditions as each names them. -/
import Derived.Test.YtibgdfjfhjckoaaYf16
namespace Go.Proofs.Ytibgdfjfhjckoaa
open Go.ChangeShapes Go.WideShapes Go.ChangeAt Go.RowKit Go.Lib Go.Maps
set_option linter.unusedVariables false
set_option linter.unusedSimpArgs false

theorem far_off {w : World} {f i j : Nat} {x : Value} (h : i ≠ j) : (w.setCell ⟨f, i, none⟩ x).cell? ⟨f, j, none⟩ = w.cell? ⟨f, j, none⟩ := World.cell?_setCell_other _ _ _ _ (by intro e; cases e; exact h rfl)
theorem far67 {w : World} {f j : Nat} {x y z : Value} (hj : j < 5) (h : w.cell? ⟨f, j, none⟩ = some z) : ((w.setCell ⟨f, 6, none⟩ x).setCell ⟨f, 7, none⟩ y).cell? ⟨f, j, none⟩ = some z :=
  (far_off (by omega)).trans ((far_off (by omega)).trans h)
section
variable {w0 w w' : World} {f g L lc : Nat} {lo : Option Addr} {us : List Tm} {v : Value} {qs : List Nat} {bo : Option Addr} {M bc : Nat} {bs : List Int} {s : Fe} {hn : Int} {hw : Value}
theorem YfM.notOwn (h : YfM w0 w f g L lo lc us v qs bo M bc bs s hn hw) : f ∉ YSrc.own g v ∧ ∀ a, bo = some a → 0 < M → a.block ∉ YSrc.own g v := by
  have hg := h.src.box
  refine ⟨fun hx => ?_, fun a e h0 hx => ?_⟩
  · simp only [YSrc.own, List.mem_cons, Option.mem_toList] at hx
    rcases hx with rfl | hx
    · rw [h.box] at hg; simp at hg
    · exact h.src.apart h.box (by decide) hx
  · obtain ⟨h1, cur, hc⟩ := h.rowb a e h0
    simp only [YSrc.own, List.mem_cons, Option.mem_toList] at hx
    rcases hx with hx | hx
    · rw [hx, hg] at hc; simp at hc
    · exact h1 hx
theorem YfM.numOf (h : YfM w0 w f g L lo lc us v qs bo M bc bs s hn hw) (n : Nat) (hn1 : 1 ≤ n) (hnL : n ≤ L) : (us.getD (n - 1) Tm.zero).n = (n : Int) := by
  have hl := h.src.log.len
  have := (okL_get h.src.ok (n - 1) (by rw [txs_length]; omega)).2
  rw [txs_getD] at this
  have e : ((1 + (n - 1) : Nat) : Int) = n := by omega
  rw [← e, ← this]
  rfl
/-- A record was read. -/
theorem YfM.got (h : YfM w0 w f g L lo lc us v qs bo M bc bs s hn hw) (hc : s.readC = 0) {w5 : World} {v' : Value} {ko : Option Addr} {tl cap : Nat} (htl : tl = (us.getD s.rd Tm.zero).L) (hS : YSrc w0 w5 g L lo lc us v' (qs ++ [s.rd + 1])) (hF : Fr (f :: YSrc.own g v) w w5) (hM : Moved w.heap.size v v')
    (hbox5 : w5.heap[f]? = some (.cells #[.pointer (some ⟨g, 0, none⟩), .int .i64 ((s.rd : Int) + 1), .slice bo M bc, .int .i64 (s.fd : Int), .int .i64 (s.wn : Int), .bool s.hv, .int .i64 hn, hw, .bool s.cl] 72 (0, 0)))
    (hW : WOw w0 w5 ko tl cap (us.getD s.rd Tm.zero).ws) :
    YfM w0 (((w5.setCell ⟨f, 6, none⟩ (.int .i64 ((s.rd : Int) + 1))).setCell ⟨f, 7, none⟩ (.slice ko tl cap)).setCell ⟨f, 5, none⟩ (.bool true)) f g L lo lc us v' (qs ++ [s.rd + 1]) bo M bc bs s.readS ((s.rd : Int) + 1) (.slice ko tl cap)
      ∧ Fr (f :: YSrc.own g v) w (((w5.setCell ⟨f, 6, none⟩ (.int .i64 ((s.rd : Int) + 1))).setCell ⟨f, 7, none⟩ (.slice ko tl cap)).setCell ⟨f, 5, none⟩ (.bool true)) := by
  subst htl
  obtain ⟨n1, n2⟩ := h.notOwn
  have hc' : s.hv = false ∧ s.cl = false ∧ s.rd < s.fd := by
    unfold Fe.readC at hc
    by_cases a1 : s.hv = true
    · simp [a1] at hc
    · by_cases a2 : s.cl = true
      · simp [a1, a2] at hc
      · by_cases a3 : s.fd ≤ s.rd
        · simp [a1, a2, a3] at hc
        · exact ⟨by simpa using a1, by simpa using a2, by omega⟩
  have hRS : s.readS = { s with rd := s.rd + 1, hv := true } := by simp [Fe.readS, hc]
  have e1 : (s.rd : Int) + 1 = ((s.rd + 1 : Nat) : Int) := by omega
  rw [e1] at hbox5 ⊢
  have hF6 : Fr [f] w5 (((w5.setCell ⟨f, 6, none⟩ (.int .i64 ((s.rd + 1 : Nat) : Int))).setCell ⟨f, 7, none⟩ (.slice ko (us.getD s.rd Tm.zero).L cap)).setCell ⟨f, 5, none⟩ (.bool true)) :=
    ((Fr.set _ _ _ (by simp)).then (Fr.set _ _ _ (by simp))).then (Fr.set _ _ _ (by simp))
  have hbox6 := yf_set (j := 5) (.bool true) (yf_set (j := 7) (.slice ko (us.getD s.rd Tm.zero).L cap) (yf_set (j := 6) (.int .i64 ((s.rd + 1 : Nat) : Int)) hbox5))
  have hno : ∀ k cs t, w5.heap[k]? = some (.cells cs t (0, 0)) → t ≠ 72 → k ∉ [f] := by
    intro k cs t hk ht hm
    simp only [List.mem_singleton] at hm
    subst hm
    rw [hbox5] at hk
    cases hk
    exact ht rfl
  have hb5 : ∀ a, bo = some a → 0 < M → v'.ownBlock ≠ some a.block ∧ ∃ cur, w5.heap[a.block]? = some (.cells cur 3 (0, 0)) := fun a e h0 => by
    obtain ⟨h1, cur, hcu⟩ := h.rowb a e h0
    have hlt := lt_of_block hcu
    refine ⟨fun hx => ?_, cur, hF.keep hcu (fun hx => ?_)⟩
    · rcases hM with hM | ⟨k, hk, hl⟩
      · exact h1 (hM ▸ hx)
      · rw [hk] at hx; cases hx; omega
    · rcases List.mem_cons.1 hx with hx | hx
      · rw [hx, h.box] at hcu; simp at hcu
      · exact n2 a e h0 hx
  have hbf : ∀ a, bo = some a → 0 < M → a.block ∉ [f] := fun a e h0 => by
    obtain ⟨_, cur, hcu⟩ := hb5 a e h0
    exact hno _ _ _ hcu (by decide)
  rw [hRS]
  refine ⟨⟨hS.keepS hF6 (fun k hk cs t e => ?_), hbox6, ?_, h.len, fun a e h0 => ?_, by show s.rd + 1 ≤ s.fd; omega, h.fl, h.wn, fun _ => ⟨by show 1 ≤ s.rd + 1; omega, rfl, ko, cap, by simp, ?_⟩, ⟨_, _, _, rfl⟩, h.fn⟩, hF.trans hF6 (fun x hx _ => hx) (fun x hx _ => by simp at hx; subst hx; exact List.mem_cons_self)⟩
  · simp only [List.mem_singleton] at hk
    subst hk
    rw [hbox5] at e
    cases e
    exact ⟨fun ht => absurd ht (by decide), by decide, fun ht => ht.elim (fun x => absurd x (by decide)) (fun x => absurd x (by decide))⟩
  · refine (h.bey.keepS hF (fun h0 a e hx => ?_)).keepS hF6 (fun h0 a e => hbf a e (by rw [h.len]; exact h0))
    have h0' : 0 < M := by rw [h.len]; exact h0
    obtain ⟨_, cur, hcu⟩ := h.rowb a e h0'
    rcases List.mem_cons.1 hx with hx | hx
    · rw [hx, h.box] at hcu; simp at hcu
    · exact n2 a e h0' hx
  · obtain ⟨g1, cur, hcu⟩ := hb5 a e h0
    exact ⟨g1, cur, hF6.keep hcu (hbf a e h0)⟩
  · simp only [Nat.add_sub_cancel]
    refine hW.keepS hF6 (fun k hk => ?_)
    obtain ⟨_, cur, hcu⟩ := owns_cells hW.row hk
    exact hno _ _ _ hcu (by decide)
set_option maxHeartbeats 8000000 in
set_option maxRecDepth 100000 in
theorem yfRead_any (h : YfM w0 w f g L lo lc us v qs bo M bc bs s hn hw) (hq : qs.length < 2 ^ 40) : Calls Try.prog 31 #[.pointer (some ⟨f, 0, none⟩)] w fun e w' => e = .returned (.tuple #[.int .i64 (s.readN : Int), .int .i64 (s.readC : Int)]) ∧
    ((s.readC ≠ 0 ∧ YfM w0 w' f g L lo lc us v qs bo M bc bs s hn hw ∧ Fr [] w w') ∨ (s.readC = 0 ∧ ∃ v' hn' hw', YfM w0 w' f g L lo lc us v' (qs ++ [s.rd + 1]) bo M bc bs s.readS hn' hw' ∧ Fr (f :: YSrc.own g v) w w' ∧ Moved w.heap.size v v')) := by
  have hfew := h.few
  have hr1 := h.rf
  have hr2 := h.fl
  have c1 := h.c1
  have c3 := h.c3
  have c5 := h.c5
  have c8 := h.c8
  by_cases hv : s.hv = true
  · have e1 : s.readC = 10 := by simp [Fe.readC, hv]
    have e2 : s.readN = 0 := by simp [Fe.readN, e1]
    rw [e1, e2]
    have HH : Hid (YfM w0 w f g L lo lc us v qs bo M bc bs s hn hw) := h
    rw [hv] at c5
    clear h hv e1 e2
    go_enter Try.func31, Try.ntmps31
    go_wp2
    go_ret2
    exact ⟨rfl, Or.inl ⟨by omega, HH.out, Fr.refl _ _⟩⟩
  · have hv2 : s.hv = false := by simpa using hv
    rw [hv2] at c5
    have HH : Hid (∀ W, Fr [] w W → YfM w0 W f g L lo lc us v qs bo M bc bs s hn hw) := fun W hf => h.keep hf
    by_cases hcl : s.cl = true
    · have e1 : s.readC = 12 := by simp [Fe.readC, hv2, hcl]
      have e2 : s.readN = 0 := by simp [Fe.readN, e1]
      rw [e1, e2]
      rw [hcl] at c8
      clear h hv hv2 e1 e2
      go_enter Try.func31, Try.ntmps31
      go_wp2
      go_ret2
      exact ⟨rfl, Or.inl ⟨by omega, HH.out _ (Fr.refl _ _), Fr.refl _ _⟩⟩
    · have hcf : s.cl = false := by simpa using hcl
      rw [hcf] at c8
      by_cases hlt : s.rd < s.fd
      · have e1 : s.readC = 0 := by simp [Fe.readC, hv2, hcf]; omega
        have e2 : s.readN = s.rd + 1 := by simp [Fe.readN, e1]
        have hd : decide ((s.fd : Int) ≤ (s.rd : Int)) = false := by simp; omega
        have HFz : Hid (∀ W, Fr [] w W → (∃ u, W.cell? ⟨f, 1, none⟩ = some u) ∧ W.frozen? ⟨f, 1, none⟩ = false ∧ W.cell? ⟨f, 1, none⟩ = some (.int .i64 (s.rd : Int))) := fun W hf => ⟨⟨_, (h.keep hf).c1⟩, (h.keep hf).fz 1, (h.keep hf).c1⟩
        obtain ⟨tl, htl⟩ : ∃ tl, tl = (us.getD s.rd Tm.zero).L := ⟨_, rfl⟩
        obtain ⟨o9, n9, c9, h9⟩ := h.slot
        have HG : Hid (∀ W V, Fr [] w W → Fr [] (W.setCell ⟨f, 1, none⟩ (.int .i64 ((s.rd : Int) + 1))) V → Calls Try.prog 55 #[.pointer (some ⟨g, 0, none⟩), .int .i64 ((s.rd : Int) + 1)] V fun e w4 => ∃ ko cap v', e = .returned (.tuple #[.agg #[.int .i64 ((s.rd : Int) + 1), .slice ko tl cap], .int .i64 0]) ∧
            Hid ((YfM w0 (((w4.setCell ⟨f, 6, none⟩ (.int .i64 ((s.rd : Int) + 1))).setCell ⟨f, 7, none⟩ (.slice ko tl cap)).setCell ⟨f, 5, none⟩ (.bool true)) f g L lo lc us v' (qs ++ [s.rd + 1]) bo M bc bs s.readS ((s.rd : Int) + 1) (.slice ko tl cap) ∧ Fr (f :: YSrc.own g v) w (((w4.setCell ⟨f, 6, none⟩ (.int .i64 ((s.rd : Int) + 1))).setCell ⟨f, 7, none⟩ (.slice ko tl cap)).setCell ⟨f, 5, none⟩ (.bool true))) ∧ Moved w.heap.size v v')
            ∧ w4.cell? ⟨f, 0, none⟩ = some (.pointer (some ⟨g, 0, none⟩)) ∧ w4.cell? ⟨f, 1, none⟩ = some (.int .i64 ((s.rd : Int) + 1)) ∧ Hid (w4.cell? ⟨f, 5, none⟩ = some (.bool false) ∧ w4.cell? ⟨f, 6, none⟩ = some (.int .i64 hn) ∧ w4.cell? ⟨f, 7, none⟩ = some (.slice o9 n9 c9) ∧ ∃ cs, w4.heap[f]? = some (.cells cs 72 (0, 0)))) := fun W V hf hfV => by
          have hk := h.keep hf
          have hbW := yf_set (j := 1) (.int .i64 ((s.rd : Int) + 1)) hk.box
          have hFs : Fr [f] W (W.setCell ⟨f, 1, none⟩ (.int .i64 ((s.rd : Int) + 1))) := Fr.set _ _ _ (by simp)
          have hFV : Fr [f] w V := ((hf.mono (by simp)).then hFs).then (hfV.mono (by simp))
          have hSV : YSrc w0 V g L lo lc us v qs := (hk.src.keepS hFs (fun k hk' cs t e => by
            simp only [List.mem_singleton] at hk'
            subst hk'
            rw [hk.box] at e
            cases e
            exact ⟨fun ht => absurd ht (by decide), by decide, fun ht => ht.elim (fun x => absurd x (by decide)) (fun x => absurd x (by decide))⟩)).keep hfV
          have hbV := hfV.keep hbW (by simp)
          have hlt0 : w0.heap.size ≤ V.heap.size := by have := h.fn; have := h.lt; have := hFV.size; omega
          have hg := yGet_ok hSV (s.rd + 1) (by omega) (by omega) hq hlt0 _ rfl
          rw [show ((s.rd + 1 : Nat) : Int) = (s.rd : Int) + 1 from by omega] at hg
          refine Calls.mono hg ?_
          rintro e w4 ⟨ko, cap, v', rfl, a2, a3, a4, a5⟩
          simp only [Nat.add_sub_cancel] at a2 ⊢
          have hnn : (us.getD s.rd Tm.zero).n = ((s.rd + 1 : Nat) : Int) := h.numOf (s.rd + 1) (by omega) (by omega)
          rw [hnn, ← htl, show ((s.rd + 1 : Nat) : Int) = (s.rd : Int) + 1 from by omega]
          rw [← htl] at a2
          have hb4 := a4.keep hbV (by have := h.notOwn.1; exact this)
          have hM : Moved w.heap.size v v' := (Moved.refl _ _).trans a5 hFV.size
          have hF4 : Fr (f :: YSrc.own g v) w w4 := hFV.trans a4 (fun x hx _ => by simp at hx; subst hx; exact List.mem_cons_self) (fun x hx _ => List.mem_cons_of_mem _ hx)
          refine ⟨ko, cap, v', rfl, ⟨h.got e1 htl a3 hF4 hM hb4 (a2.later hlt0), hM⟩, by rw [cell_of_row _ _ _ _ _ _ hb4]; rfl, by rw [cell_of_row _ _ _ _ _ _ hb4]; rfl, ?_⟩
          rw [hv2, h9] at hb4
          exact ⟨by rw [cell_of_row _ _ _ _ _ _ hb4]; rfl, by rw [cell_of_row _ _ _ _ _ _ hb4]; rfl, by rw [cell_of_row _ _ _ _ _ _ hb4]; rfl, _, hb4⟩
        have HC0 : Hid (∀ W, Fr [] w W → (W.setCell ⟨f, 1, none⟩ (.int .i64 ((s.rd : Int) + 1))).cell? ⟨f, 0, none⟩ = some (.pointer (some ⟨g, 0, none⟩)) ∧ (W.setCell ⟨f, 1, none⟩ (.int .i64 ((s.rd : Int) + 1))).cell? ⟨f, 1, none⟩ = some (.int .i64 ((s.rd : Int) + 1))) := fun W hf => by
          have hbW := yf_set (j := 1) (.int .i64 ((s.rd : Int) + 1)) (h.keep hf).box
          exact ⟨by rw [cell_of_row _ _ _ _ _ _ hbW]; rfl, by rw [cell_of_row _ _ _ _ _ _ hbW]; rfl⟩
        rw [e2, e1]
        clear h hv hv2 htl h9
        go_enter Try.func31, Try.ntmps31
        go_wp2_with fail
        go_quiet (fail)
        have hF1 : Fr [] w (w.drewN nq) := Fr.drewN _ _ _
        obtain ⟨w1, HW1⟩ : ∃ w1, Hid (w.drewN nq = w1) := ⟨_, rfl⟩
        rw [HW1.out] at hF1 ⊢
        obtain ⟨_, z1, d1⟩ := HFz.out _ hF1
        obtain ⟨q0, q1⟩ := HC0.out _ hF1
        obtain ⟨w2, HW2⟩ : ∃ w2, Hid (w1.setCell ⟨f, 1, none⟩ (.int .i64 ((s.rd : Int) + 1)) = w2) := ⟨_, rfl⟩
        rw [HW2.out] at q0 q1
        have HGd : Hid (Calls _ _ _ _ _) := HG.out w1 w2.drew hF1 (by rw [HW2.out]; exact Fr.drew _ _)
        clear HG HC0 HFz HW1
        go_upto_region 10 with fail
        rw [HW2.out]
        clear HW2
        go_region_held3 (fun W => W.cell? ⟨f, 0, none⟩ = some (.pointer (some ⟨g, 0, none⟩)) ∧ W.cell? ⟨f, 1, none⟩ = some (.int .i64 ((s.rd : Int) + 1))) (first | go_keep | exact ⟨far67 (by omega) g0, far67 (by omega) g1⟩)
          (first
            | (go_at_call 55; with_reducible refine Calls.mono HGd.out ?_; rintro e w4 ⟨ko, cap, v', rfl, HP, g0, g1, HZ⟩; obtain ⟨p5, p6, p7, cs9, pz⟩ := HZ.out; have z6 : w4.frozen? ⟨f, 6, none⟩ = false := (by simp [World.frozen?, pz]); have z7 : w4.frozen? ⟨f, 7, none⟩ = false := (by simp [World.frozen?, pz])))
        have q5 : ((w4.setCell ⟨f, 6, none⟩ (.int .i64 ((s.rd : Int) + 1))).setCell ⟨f, 7, none⟩ (.slice ko tl cap)).cell? ⟨f, 5, none⟩ = some (.bool false) := (far_off (by omega)).trans ((far_off (by omega)).trans p5)
        have q1 : (((w4.setCell ⟨f, 6, none⟩ (.int .i64 ((s.rd : Int) + 1))).setCell ⟨f, 7, none⟩ (.slice ko tl cap)).setCell ⟨f, 5, none⟩ (.bool true)).cell? ⟨f, 1, none⟩ = some (.int .i64 ((s.rd : Int) + 1)) := (far_off (by omega)).trans (far67 (by omega) g1)
        have qz : ((w4.setCell ⟨f, 6, none⟩ (.int .i64 ((s.rd : Int) + 1))).setCell ⟨f, 7, none⟩ (.slice ko tl cap)).frozen? ⟨f, 5, none⟩ = false := by simp [World.frozen?, yf_set (j := 7) (.slice ko tl cap) (yf_set (j := 6) (.int .i64 ((s.rd : Int) + 1)) pz)]
        obtain ⟨W5, HW5⟩ : ∃ W5, Hid ((w4.setCell ⟨f, 6, none⟩ (.int .i64 ((s.rd : Int) + 1))).setCell ⟨f, 7, none⟩ (.slice ko tl cap) = W5) := ⟨_, rfl⟩
        rw [HW5.out] at q5 q1 qz HP
        rw [HW5.out]
        clear HW5 g0 g1 p5 p6 p7 pz HZ q0 z6 z7
        go_wp2
        go_ret2
        exact ⟨by simp, Or.inr ⟨trivial, v', _, _, HP.out.1.1, HP.out.1.2, HP.out.2⟩⟩
      · have e1 : s.readC = 9 := by simp [Fe.readC, hv2, hcf]; omega
        have e2 : s.readN = 0 := by simp [Fe.readN, e1]
        rw [e1, e2]
        have hd : decide ((s.fd : Int) ≤ (s.rd : Int)) = true := by simp; omega
        clear h hv hv2 e1 e2
        go_enter Try.func31, Try.ntmps31
        go_wp2_with fail
        go_quiet (fail)
        go_wp2
        go_ret2
        exact ⟨rfl, Or.inl ⟨by omega, HH.out _ (Fr.drewN _ _ _), Fr.drewN _ _ _⟩⟩
end
end Go.Proofs.Ytibgdfjfhjckoaa

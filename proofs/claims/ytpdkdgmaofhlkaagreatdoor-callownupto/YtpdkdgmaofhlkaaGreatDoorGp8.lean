/- Texts of this claim laid together, one behind the other: contracts and plain lemmas; conditions as each names them. -/
import Derived.Test.YtpdkdgmaofhlkaaGreatDoorGp7
/- What a task that has begun asks next. Conditions as each names them. -/
namespace Go.Proofs.YtpdkdgmaofhlkaaGreatDoor
open Go.ChangeShapes Go.WideShapes Go.ChangeAt Go.RowKit Go.Lib
set_option linter.unusedVariables false
set_option linter.unusedSimpArgs false
attribute [local go_sem] Oper.semAt_some

theorem fold_two (t : Array Value) (p q : Tmp) (u v : Value) : (#[p, q].zip #[u, v]).foldl (fun t (x : Tmp × Value) => match x with | (p, v) => t.setIfInBounds p v) t = (t.setIfInBounds p u).setIfInBounds q v := by simp
/-- One round of a loop with two variables. -/
theorem round_of2 {m l : Nat} {P : Program} {fn : FuncId} {tmps : Array Value} {p q : Tmp} {u v : Value} {assign body : Code} {D : Nat} {RC : LoopState → Option Code → Loop} (hRC : Hid (RC = recOf fn tmps #[p, q] assign body D)) {W : World} (hl : W.heap[l]? = some (.loop (RC .ready none))) {R : Ending → World → Prop}
    (h : assign.wpIn (Fence.wide.inRound l) m P (Exit.then (fun a₁ w₁ => ∃ w₂, (Instr.beginRound l).run P w₁ = .ok () w₂ ∧ body.wpIn (Fence.wide.inRound l) m P (roundPost P l R) a₁ w₂) (fun _ _ _ => False))
      { tmps := (tmps.setIfInBounds p u).setIfInBounds q v, defers := [] } W) : YieldAt Fence.wide m P l #[u, v] W R :=
  round_of hRC rfl hl (by rw [fold_two]; exact h)
theorem reqs1_any (m l bb t : Nat) (T : Tk) (W : World) (J Jx : Nat → World → Prop) (go : Nat → Bool) (hm : Cf.may ⟨T.l, T.s, T.x, T.q⟩) (hc : okC T.k T.key T.en)
    (hT : ∀ i w, J i w → TkM w t T ∧ w.cell? ⟨bb, 0, none⟩ = some (.pointer (some ⟨t, 0, none⟩))) (h0 : J 0 W) (hJ0 : ∀ i w w', J i w → Fr [] w w' → J i w')
    (hY : ∀ (i : Nat) (w : World), J i w → i < T.nR → YieldAt Fence.wide m Tryz.prog l #[.int .i64 (T.sh i), .agg #[.int .u8 T.r.k, .int .i64 T.r.f, .int .i64 T.r.n, .string ⟨#[]⟩, .string ⟨#[]⟩, .bool false, .string T.r.key, .string T.r.en, .slice T.r.bo T.r.bl T.r.bc]] w fun e w' => e = .returned (.bool (go i)) ∧ (go i = true → J (i + 1) w') ∧ (go i = false → Jx i w')) :
    CallsIn Fence.wide (m + 1) Tryz.prog 106 #[.func (.yield l) #[] #[], .pointer (some ⟨bb, 0, none⟩)] W fun e W' => (∃ v, e = .returned v) ∧ ReqEnd J Jx go T.nR W' := by
  by_cases hk : T.k = 1
  · refine reqs1_get m l bb t T W J Jx go hk ?_ hT h0 hJ0 hY
    rcases hc with ⟨_, h, _⟩ | ⟨h, _⟩ | ⟨h | h, _⟩
    · have := h.2; omega
    · omega
    · omega
    · omega
  · exact reqs1_all m l bb t T W J Jx go hk ⟨by have := hm.2.1.1; simp only at this; omega, hm.2.1.2⟩ hT h0 hY
/-- The results are stored. -/
theorem Nq.fin {w0 W : World} {t b2 b3 b4 b5 bb D lr : Nat} {rec : Loop} {v2 a5 : Int} {r3 : Rv} {v4 : Bool} (d : Nd w0 b2 b3 b4 b5 bb D lr) (h : Nq w0 t b2 b3 b4 b5 bb D lr rec v2 r3 v4 a5 W) (v : Int) (r : Rv) (c : Bool) : Nq w0 t b2 b3 b4 b5 bb D lr rec v r c a5 (((((((((((W.setCell ⟨b2, 0, none⟩ (.int .i64 v)).setCell ⟨b3, 0, none⟩ (.int .u8 r.k)).setCell ⟨b3, 1, none⟩ (.int .i64 r.f)).setCell ⟨b3, 2, none⟩ (.int .i64 r.n)).setCell ⟨b3, 3, none⟩ (.string ⟨#[]⟩)).setCell ⟨b3, 4, none⟩ (.string ⟨#[]⟩)).setCell ⟨b3, 5, none⟩ (.bool false)).setCell ⟨b3, 6, none⟩ (.string r.key)).setCell ⟨b3, 7, none⟩ (.string r.en)).setCell ⟨b3, 8, none⟩ (.slice r.bo r.bl r.bc)).setCell ⟨b4, 0, none⟩ (.bool c)) := by
  obtain ⟨d0, d1, d2, d3, d4, d5, d6⟩ := d.a
  have f2 : Fr [b2] W (W.setCell ⟨b2, 0, none⟩ (.int .i64 v)) := Fr.set _ _ _ (by simp)
  have k2 := row_put17 (j := 0) (.int .i64 v) h.c2
  have k3 := f2.keep h.c3 (by simp; omega)
  have q3 := row9_17 (.int .u8 r.k) (.int .i64 r.f) (.int .i64 r.n) (.string ⟨#[]⟩) (.string ⟨#[]⟩) (.bool false) (.string r.key) (.string r.en) (.slice r.bo r.bl r.bc) k3
  generalize (W.setCell ⟨b2, 0, none⟩ (.int .i64 v)) = W2 at *
  have f3 : Fr [b3] W2 (((((((((W2.setCell ⟨b3, 0, none⟩ (.int .u8 r.k)).setCell ⟨b3, 1, none⟩ (.int .i64 r.f)).setCell ⟨b3, 2, none⟩ (.int .i64 r.n)).setCell ⟨b3, 3, none⟩ (.string ⟨#[]⟩)).setCell ⟨b3, 4, none⟩ (.string ⟨#[]⟩)).setCell ⟨b3, 5, none⟩ (.bool false)).setCell ⟨b3, 6, none⟩ (.string r.key)).setCell ⟨b3, 7, none⟩ (.string r.en)).setCell ⟨b3, 8, none⟩ (.slice r.bo r.bl r.bc)) := ((((((((Fr.set _ _ _ (by simp)).then (Fr.set _ _ _ (by simp))).then (Fr.set _ _ _ (by simp))).then (Fr.set _ _ _ (by simp))).then (Fr.set _ _ _ (by simp))).then (Fr.set _ _ _ (by simp))).then (Fr.set _ _ _ (by simp))).then (Fr.set _ _ _ (by simp))).then (Fr.set _ _ _ (by simp))
  generalize (((((((((W2.setCell ⟨b3, 0, none⟩ (.int .u8 r.k)).setCell ⟨b3, 1, none⟩ (.int .i64 r.f)).setCell ⟨b3, 2, none⟩ (.int .i64 r.n)).setCell ⟨b3, 3, none⟩ (.string ⟨#[]⟩)).setCell ⟨b3, 4, none⟩ (.string ⟨#[]⟩)).setCell ⟨b3, 5, none⟩ (.bool false)).setCell ⟨b3, 6, none⟩ (.string r.key)).setCell ⟨b3, 7, none⟩ (.string r.en)).setCell ⟨b3, 8, none⟩ (.slice r.bo r.bl r.bc)) = W3 at *
  have f4 : Fr [b4] W3 (W3.setCell ⟨b4, 0, none⟩ (.bool c)) := Fr.set _ _ _ (by simp)
  have k4 := f3.keep (f2.keep h.c4 (by simp; omega)) (by simp; omega)
  have q4 := row_put17 (j := 0) (.bool c) k4
  generalize (W3.setCell ⟨b4, 0, none⟩ (.bool c)) = W4 at *
  exact ⟨f4.keep (f3.keep k2 (by simp; omega)) (by simp; omega), f4.keep q3 (by simp; omega), q4, f4.keep (f3.keep (f2.keep h.c5 (by simp; omega)) (by simp; omega)) (by simp; omega), f4.keep (f3.keep (f2.keep h.cb (by simp; omega)) (by simp; omega)) (by simp; omega), f4.keep (f3.keep (f2.keep h.lp (by simp; omega)) (by simp; omega)) (by simp; omega), f4.keep (f3.keep (f2.keep h.df (by simp; omega)) (by simp; omega)) (by simp; omega), ((h.fr.on f2 (fun x hx => by simp at hx; omega)).on f3 (fun x hx => by simp at hx; omega)).on f4 (fun x hx => by simp at hx; omega)⟩
set_option maxRecDepth 100000 in
set_option maxHeartbeats 8000000 in
theorem qnext_in {w : World} {t : Nat} {T : Tk} (h : TkM w t T) (hn : T.n < 0) (hb : T.bg = true) (hm : Cf.may ⟨T.l, T.s, T.x, T.q⟩) (hc : okC T.k T.key T.en) (hak : T.ak ≤ 16) :
    CallsIn Fence.wide 3 Tryz.prog 24 #[.pointer (some ⟨t, 0, none⟩)] w fun e w' => e = .returned (.tuple #[.int .i64 T.nxS, T.nxR.v, .bool T.nxB]) ∧ Fr [] w w' := by
  have mixed : Tryz.prog.follows .mixedOrders = true := by kernel_rfl
  have hF : Fr [] w (((w.alloc (.cells #[.int .i64 0] 3)).alloc (.cells Rv.zero.a 64)).alloc (.cells #[.bool false] 4)) := ((Fr.alloc [] _ _).then (Fr.alloc [] _ _)).then (Fr.alloc [] _ _)
  have r2 : (((w.alloc (.cells #[.int .i64 0] 3)).alloc (.cells Rv.zero.a 64)).alloc (.cells #[.bool false] 4)).heap[w.heap.size]? = some (.cells #[.int .i64 0] 3 (0, 0)) := (Below.heap_alloc _ _ _ (by simp; omega)).trans ((Below.heap_alloc _ _ _ (by simp)).trans (heap_alloc_new w _))
  have r3 : (((w.alloc (.cells #[.int .i64 0] 3)).alloc (.cells Rv.zero.a 64)).alloc (.cells #[.bool false] 4)).heap[w.heap.size + 1]? = some (.cells Rv.zero.a 64 (0, 0)) := (Below.heap_alloc _ _ _ (by simp)).trans (heap_at1 _ _ _)
  have r4 : (((w.alloc (.cells #[.int .i64 0] 3)).alloc (.cells Rv.zero.a 64)).alloc (.cells #[.bool false] 4)).heap[w.heap.size + 1 + 1]? = some (.cells #[.bool false] 4 (0, 0)) := heap_at2 _ _ _ _
  have hs3 : (((w.alloc (.cells #[.int .i64 0] 3)).alloc (.cells Rv.zero.a 64)).alloc (.cells #[.bool false] 4)).heap.size = w.heap.size + 3 := by simp
  have hk := h.keep hF (by simp)
  have HTk : Hid (TkM w t T) := h
  clear h
  obtain ⟨ak, hakk⟩ : ∃ a, a = T.ak := ⟨_, rfl⟩
  have c8 := hk.c8
  have c19 := hk.c19
  rw [hb] at c8
  rw [← hakk] at c19
  rw [← hakk] at hak
  have HAK : Hid (ak = T.ak) := hakk
  clear hakk
  have hw3 : ∃ w3, Hid ((((w.alloc (.cells #[.int .i64 0] 3)).alloc (.cells Rv.zero.a 64)).alloc (.cells #[.bool false] 4)) = w3) := ⟨_, rfl⟩
  obtain ⟨w3, HW3⟩ := hw3
  rw [HW3.out] at hF r2 r3 r4 hs3 hk c8 c19
  have HT : Hid (Calls _ _ _ _ _) := qthere_any hk hn
  have HW3' := HW3.out
  simp only [Rv.a, Rv.zero] at HW3'
  have HW : Hid _ := HW3'
  clear HW3 HW3'
  refine callsIn_of_wp_marks Tryz.func24 rfl trivial ?_ rfl
  simp only [Tryz.ntmps24, List.size_toArray, List.length_cons, List.length_nil, Nat.reduceAdd, Nat.reduceSub, Array.replicate_succ, Array.replicate_zero, List.push_toArray, List.append_toArray, List.nil_append, List.cons_append]
  gi_wp2_with fail
  rw [HW.out]
  obtain ⟨b2, hb2⟩ : ∃ b, b = w.heap.size := ⟨_, rfl⟩
  obtain ⟨b3, hb3⟩ : ∃ b, b = w.heap.size + 1 := ⟨_, rfl⟩
  obtain ⟨b4, hb4⟩ : ∃ b, b = w.heap.size + 1 + 1 := ⟨_, rfl⟩
  rw [← hb4] at r4 ⊢
  rw [← hb3] at r3 ⊢
  rw [← hb2] at r2 ⊢
  refine ⟨trivial, (callsIn_wide.2 HT.out).mono ?_⟩
  rintro e w3' ⟨rfl, rfl⟩
  clear HT HW
  have HB : Hid (b2 = w.heap.size ∧ b3 = w.heap.size + 1 ∧ b4 = w.heap.size + 2 ∧ w3.heap.size = w.heap.size + 3) := ⟨hb2, hb3, hb4, hs3⟩
  clear hb2 hb3 hb4 hs3
  gi_wp2_with fail
  have r5 : (w3.alloc (.cells #[.int .i64 (ak : Int)] 3)).heap[w3.heap.size]? = some (.cells #[.int .i64 (ak : Int)] 3 (0, 0)) := heap_alloc_new w3 _
  have hF4 : Fr [] w3 (w3.alloc (.cells #[.int .i64 (ak : Int)] 3)) := Fr.alloc _ _ _
  have hs4 : (w3.alloc (.cells #[.int .i64 (ak : Int)] 3)).heap.size = w3.heap.size + 1 := by simp
  obtain ⟨b5, hb5⟩ : ∃ b, b = w3.heap.size := ⟨_, rfl⟩
  obtain ⟨w4, HW4⟩ : ∃ w4, Hid (w3.alloc (.cells #[.int .i64 (ak : Int)] 3) = w4) := ⟨_, rfl⟩
  rw [HW4.out] at r5 hF4 hs4 ⊢
  rw [← hb5] at r5 ⊢
  refine ⟨trivial, (callsIn_wide.2 (qrequests_any (some ⟨t, 0, none⟩) w4)).mono ?_⟩
  rintro e w5' ⟨rfl, rfl⟩
  have rb : (w4.alloc (.cells #[.pointer (some ⟨t, 0, none⟩)] 30)).heap[w4.heap.size]? = some (.cells #[.pointer (some ⟨t, 0, none⟩)] 30 (0, 0)) := heap_alloc_new w4 _
  have hF5 : Fr [] w4 (w4.alloc (.cells #[.pointer (some ⟨t, 0, none⟩)] 30)) := Fr.alloc _ _ _
  have hs5 : (w4.alloc (.cells #[.pointer (some ⟨t, 0, none⟩)] 30)).heap.size = w4.heap.size + 1 := by simp
  obtain ⟨bb, hbb⟩ : ∃ b, b = w4.heap.size := ⟨_, rfl⟩
  obtain ⟨w5, HW5⟩ : ∃ w5, Hid (w4.alloc (.cells #[.pointer (some ⟨t, 0, none⟩)] 30) = w5) := ⟨_, rfl⟩
  rw [HW5.out] at rb hF5 hs5 ⊢
  rw [← hbb] at rb ⊢
  have HB5 : Hid (b5 = w3.heap.size ∧ bb = w4.heap.size ∧ w4.heap.size = w3.heap.size + 1 ∧ w5.heap.size = w4.heap.size + 1) := ⟨hb5, hbb, hs4, hs5⟩
  clear HW4 HW5 hb5 hbb hs4 hs5 c8 c19
  gi_wp2_with fail
  refine range_of rfl (fun _ => True.intro) rfl (gf := 106) (lb := #[.pointer (some ⟨bb, 0, none⟩)]) rfl (enters_of Tryz.func106 (by kernel_rfl) rfl) ?_
  intro fn RC HRC
  obtain ⟨D, hD⟩ : ∃ D, D = w5.heap.size := ⟨_, rfl⟩
  obtain ⟨lr, hlr⟩ : ∃ lr, lr = w5.heap.size + 1 := ⟨_, rfl⟩
  have hF6 : Fr [] w5 ((w5.alloc (.deferred (some []))).alloc (.loop (RC .ready none))) := (Fr.alloc [] _ _).then (Fr.alloc [] _ _)
  have hL6 : ((w5.alloc (.deferred (some []))).alloc (.loop (RC .ready none))).heap[w5.heap.size + 1]? = some (.loop (RC .ready none)) := by
    have := World.alloc_heap_new (w5.alloc (.deferred (some []))) (.loop (RC .ready none)); rwa [World.size_alloc] at this
  have hK6 : ((w5.alloc (.deferred (some []))).alloc (.loop (RC .ready none))).heap[w5.heap.size]? = some (.deferred (some [])) :=
    (Below.heap_alloc _ _ _ (by simp)).trans (World.alloc_heap_new w5 _)
  obtain ⟨w6, HW6⟩ : ∃ w6, Hid ((w5.alloc (.deferred (some []))).alloc (.loop (RC .ready none)) = w6) := ⟨_, rfl⟩
  rw [HW6.out] at hF6 hL6 hK6 ⊢
  rw [← hlr] at hL6 ⊢
  rw [← hD] at HRC hK6 ⊢
  obtain ⟨e1, e2, e3, e4⟩ := HB.out
  obtain ⟨f1, f2, f3, f4⟩ := HB5.out
  have hNd : Nd w b2 b3 b4 b5 bb D lr := ⟨by omega, by omega, by omega, by omega, by omega, by omega, by omega⟩
  have hF36 := (hF4.then hF5).then hF6
  have hA0 : Nq w t b2 b3 b4 b5 bb D lr (RC .ready none) 0 Rv.zero false (ak : Int) w6 := ⟨hF36.keep r2 (by simp), hF36.keep r3 (by simp), hF36.keep r4 (by simp), (hF5.then hF6).keep r5 (by simp), hF6.keep rb (by simp), hL6, hK6, hF.then hF36⟩
  clear hD hlr HW6 e1 e2 e3 e4 f1 f2 f3 f4 hF36 hF6 hF5 hF4 hF r2 r3 r4 r5 rb hL6 hK6 hk
  have HNd : Hid (Nd w b2 b3 b4 b5 bb D lr) := hNd
  refine (reqs1_any 1 lr bb t T w6 (fun i W => i ≤ ak ∧ Nq w t b2 b3 b4 b5 bb D lr (RC .ready none) 0 Rv.zero false ((ak : Int) - (i : Int)) W) (fun i W => i = ak ∧ Nq w t b2 b3 b4 b5 bb D lr (RC .done (some .ret)) (T.sh i) T.r true 0 W) (fun i => decide (i ≠ ak)) hm hc ?_ ⟨Nat.zero_le _, by simpa using hA0⟩ ?_ ?_).mono ?_
  · rintro i W ⟨_, hL⟩
    exact ⟨HTk.out.keep hL.fr (by simp), by rw [cell_of_row _ _ _ _ _ _ hL.cb]; rfl⟩
  · rintro i W W' ⟨h1, hL⟩ hf
    exact ⟨h1, hL.quiet hf⟩
  · rintro i W ⟨hia, hL⟩ hiR
    refine round_of2 HRC hL.lp ?_
    have hLa := hL.quiet (Fr.alloc [] W (.cells #[.int .u8 T.r.k, .int .i64 T.r.f, .int .i64 T.r.n, .string ⟨#[]⟩, .string ⟨#[]⟩, .bool false, .string T.r.key, .string T.r.en, .slice T.r.bo T.r.bl T.r.bc] 64))
    have hbr := begin_of (P := Tryz.prog) HRC hLa.lp
    have hLb := hLa.rec_ hNd (RC .busy none)
    have hlW : lr < W.heap.size := (Array.getElem?_eq_some_iff.1 hL.lp).1
    have h7 : ((W.alloc (.cells #[.int .u8 T.r.k, .int .i64 T.r.f, .int .i64 T.r.n, .string ⟨#[]⟩, .string ⟨#[]⟩, .bool false, .string T.r.key, .string T.r.en, .slice T.r.bo T.r.bl T.r.bc] 64)).putObj lr (.loop (RC .busy none))).heap[W.heap.size]? = some (.cells #[.int .u8 T.r.k, .int .i64 T.r.f, .int .i64 T.r.n, .string ⟨#[]⟩, .string ⟨#[]⟩, .bool false, .string T.r.key, .string T.r.en, .slice T.r.bo T.r.bl T.r.bc] 64 (0, 0)) := (Fr.putObj _ lr _).keep (heap_alloc_new W _) (by simp; omega)
    obtain ⟨Wb, HWb⟩ : ∃ Wb, Hid ((W.alloc (.cells #[.int .u8 T.r.k, .int .i64 T.r.f, .int .i64 T.r.n, .string ⟨#[]⟩, .string ⟨#[]⟩, .bool false, .string T.r.key, .string T.r.en, .slice T.r.bo T.r.bl T.r.bc] 64)).putObj lr (.loop (RC .busy none)) = Wb) := ⟨_, rfl⟩
    rw [HWb.out] at hbr hLb h7
    have HLb : Hid (Nq w t b2 b3 b4 b5 bb D lr (RC .busy none) 0 Rv.zero false ((ak : Int) - (i : Int)) Wb) := hLb
    have HWlt : Hid (lr < W.heap.size) := hlW
    have x5 : Wb.cell? ⟨b5, 0, none⟩ = some (.int .i64 ((ak : Int) - (i : Int))) := by rw [cell_of_row _ _ _ _ _ _ hLb.c5]; rfl
    have z5 : Wb.frozen? ⟨b5, 0, none⟩ = false := by simp [World.frozen?, hLb.c5]
    clear hL hLa hLb HWb hlW
    simp only [List.setIfInBounds_toArray, List.set_cons_succ, List.set_cons_zero]
    by_cases hgo : i = ak
    · subst hgo
      have hdec : decide (i ≠ i) = false := by simp
      have hz : ((i : Int) - (i : Int)) = 0 := by omega
      rw [hz] at x5
      have hh := HLb.out
      obtain ⟨o0, o1, o2, o3, o4, o5, o6⟩ := HNd.out.a
      have hlw := HWlt.out
      have y2 : Wb.cell? ⟨b2, 0, none⟩ = some (.int .i64 0) := by rw [cell_of_row _ _ _ _ _ _ hh.c2]; rfl
      have y4 : Wb.cell? ⟨b4, 0, none⟩ = some (.bool false) := by rw [cell_of_row _ _ _ _ _ _ hh.c4]; rfl
      have u2 : Wb.frozen? ⟨b2, 0, none⟩ = false := by simp [World.frozen?, hh.c2]
      have u4 : Wb.frozen? ⟨b4, 0, none⟩ = false := by simp [World.frozen?, hh.c4]
      have u3 : ∀ j, Wb.frozen? ⟨b3, j, none⟩ = false := fun j => by simp [World.frozen?, hh.c3]
      have y30 : Wb.cell? ⟨b3, 0, none⟩ = some (.int .u8 0) := by rw [cell_of_row _ _ _ _ _ _ hh.c3]; rfl
      have y31 : Wb.cell? ⟨b3, 1, none⟩ = some (.int .i64 0) := by rw [cell_of_row _ _ _ _ _ _ hh.c3]; rfl
      have y32 : Wb.cell? ⟨b3, 2, none⟩ = some (.int .i64 0) := by rw [cell_of_row _ _ _ _ _ _ hh.c3]; rfl
      have y33 : Wb.cell? ⟨b3, 3, none⟩ = some (.string ⟨#[]⟩) := by rw [cell_of_row _ _ _ _ _ _ hh.c3]; rfl
      have y34 : Wb.cell? ⟨b3, 4, none⟩ = some (.string ⟨#[]⟩) := by rw [cell_of_row _ _ _ _ _ _ hh.c3]; rfl
      have y35 : Wb.cell? ⟨b3, 5, none⟩ = some (.bool false) := by rw [cell_of_row _ _ _ _ _ _ hh.c3]; rfl
      have y36 : Wb.cell? ⟨b3, 6, none⟩ = some (.string ⟨#[]⟩) := by rw [cell_of_row _ _ _ _ _ _ hh.c3]; rfl
      have y37 : Wb.cell? ⟨b3, 7, none⟩ = some (.string ⟨#[]⟩) := by rw [cell_of_row _ _ _ _ _ _ hh.c3]; rfl
      have y38 : Wb.cell? ⟨b3, 8, none⟩ = some (.slice none 0 0) := by rw [cell_of_row _ _ _ _ _ _ hh.c3]; rfl
      have k0 : Wb.cell? ⟨W.heap.size, 0, none⟩ = some (.int .u8 T.r.k) := by rw [cell_of_row _ _ _ _ _ _ h7]; rfl
      have k1 : Wb.cell? ⟨W.heap.size, 1, none⟩ = some (.int .i64 T.r.f) := by rw [cell_of_row _ _ _ _ _ _ h7]; rfl
      have k2 : Wb.cell? ⟨W.heap.size, 2, none⟩ = some (.int .i64 T.r.n) := by rw [cell_of_row _ _ _ _ _ _ h7]; rfl
      have k3 : Wb.cell? ⟨W.heap.size, 3, none⟩ = some (.string ⟨#[]⟩) := by rw [cell_of_row _ _ _ _ _ _ h7]; rfl
      have k4 : Wb.cell? ⟨W.heap.size, 4, none⟩ = some (.string ⟨#[]⟩) := by rw [cell_of_row _ _ _ _ _ _ h7]; rfl
      have k5 : Wb.cell? ⟨W.heap.size, 5, none⟩ = some (.bool false) := by rw [cell_of_row _ _ _ _ _ _ h7]; rfl
      have k6 : Wb.cell? ⟨W.heap.size, 6, none⟩ = some (.string T.r.key) := by rw [cell_of_row _ _ _ _ _ _ h7]; rfl
      have k7 : Wb.cell? ⟨W.heap.size, 7, none⟩ = some (.string T.r.en) := by rw [cell_of_row _ _ _ _ _ _ h7]; rfl
      have k8 : Wb.cell? ⟨W.heap.size, 8, none⟩ = some (.slice T.r.bo T.r.bl T.r.bc) := by rw [cell_of_row _ _ _ _ _ _ h7]; rfl
      have n23 : b2 ≠ b3 := by omega
      have n24 : b2 ≠ b4 := by omega
      have n34 : b3 ≠ b4 := by omega
      have n32 : b3 ≠ b2 := by omega
      have n42 : b4 ≠ b2 := by omega
      have n43 : b4 ≠ b3 := by omega
      have n72 : W.heap.size ≠ b2 := by omega
      have n27 : b2 ≠ W.heap.size := by omega
      have n73 : W.heap.size ≠ b3 := by omega
      have n37 : b3 ≠ W.heap.size := by omega
      have n74 : W.heap.size ≠ b4 := by omega
      have n47 : b4 ≠ W.heap.size := by omega
      have k0' : Wb.drew.cell? ⟨W.heap.size, 0, none⟩ = some (.int .u8 T.r.k) := k0
      have k1' : Wb.drew.cell? ⟨W.heap.size, 1, none⟩ = some (.int .i64 T.r.f) := k1
      have k2' : Wb.drew.cell? ⟨W.heap.size, 2, none⟩ = some (.int .i64 T.r.n) := k2
      have k3' : Wb.drew.cell? ⟨W.heap.size, 3, none⟩ = some (.string ⟨#[]⟩) := k3
      have k4' : Wb.drew.cell? ⟨W.heap.size, 4, none⟩ = some (.string ⟨#[]⟩) := k4
      have k5' : Wb.drew.cell? ⟨W.heap.size, 5, none⟩ = some (.bool false) := k5
      have k6' : Wb.drew.cell? ⟨W.heap.size, 6, none⟩ = some (.string T.r.key) := k6
      have k7' : Wb.drew.cell? ⟨W.heap.size, 7, none⟩ = some (.string T.r.en) := k7
      have k8' : Wb.drew.cell? ⟨W.heap.size, 8, none⟩ = some (.slice T.r.bo T.r.bl T.r.bc) := k8
      have y2' : Wb.drew.cell? ⟨b2, 0, none⟩ = some (.int .i64 0) := y2
      have y4' : Wb.drew.cell? ⟨b4, 0, none⟩ = some (.bool false) := y4
      have y30' : Wb.drew.cell? ⟨b3, 0, none⟩ = some (.int .u8 0) := y30
      have y31' : Wb.drew.cell? ⟨b3, 1, none⟩ = some (.int .i64 0) := y31
      have y32' : Wb.drew.cell? ⟨b3, 2, none⟩ = some (.int .i64 0) := y32
      have y33' : Wb.drew.cell? ⟨b3, 3, none⟩ = some (.string ⟨#[]⟩) := y33
      have y34' : Wb.drew.cell? ⟨b3, 4, none⟩ = some (.string ⟨#[]⟩) := y34
      have y35' : Wb.drew.cell? ⟨b3, 5, none⟩ = some (.bool false) := y35
      have y36' : Wb.drew.cell? ⟨b3, 6, none⟩ = some (.string ⟨#[]⟩) := y36
      have y37' : Wb.drew.cell? ⟨b3, 7, none⟩ = some (.string ⟨#[]⟩) := y37
      have y38' : Wb.drew.cell? ⟨b3, 8, none⟩ = some (.slice none 0 0) := y38
      have u2' : Wb.drew.frozen? ⟨b2, 0, none⟩ = false := u2
      have u4' : Wb.drew.frozen? ⟨b4, 0, none⟩ = false := u4
      have u3' : ∀ j, Wb.drew.frozen? ⟨b3, j, none⟩ = false := u3
      clear o0 o1 o2 o3 o4 o5 o6 hlw hh h7
      gi_wp2_with (rw [Oper.semAt_eq _ _ _ (fun c h => by cases h)]; go_simp; try go_bits)
      gi_region_with_o (fail)
      all_goals
        gi_wp2_with (rw [Oper.semAt_eq _ _ _ (fun c h => by cases h)]; go_simp; try go_bits)
        have hA4 := (HLb.out.fin HNd.out (T.sh i) T.r true).quiet (Fr.drew _ _)
        have hend := end_of (P := Tryz.prog) HRC hA4.lp (some .ret)
        have hA5 := hA4.rec_ HNd.out (RC .done (some .ret))
        rw [hz] at hA5
        exact ⟨_, _, hend, rfl, hA5⟩
    · have hdec : decide (i ≠ ak) = true := by simp [hgo]
      have hnz : ¬ ((ak : Int) - (i : Int)) = 0 := by omega
      have hnzB : (((ak : Int) - (i : Int)) == 0) = false := by simp; omega
      gi_wp2_with (rw [Oper.semAt_eq _ _ _ (fun c h => by cases h)]; go_simp; try go_bits)
      have hA4 := HLb.out.dec HNd.out ((ak : Int) - (i : Int) - 1)
      have hend := end_of (P := Tryz.prog) HRC hA4.lp none
      have hA5 := hA4.rec_ HNd.out (RC .ready none)
      refine ⟨_, _, hend, rfl, by omega, ?_⟩
      first
        | (rw [show (ak : Int) - ((i : Int) + 1) = (ak : Int) - (i : Int) - 1 by omega]; exact hA5)
        | (rw [show (ak : Int) - ((i + 1 : Nat) : Int) = (ak : Int) - (i : Int) - 1 by omega]; exact hA5)
  · rintro e W3 ⟨⟨v0, rfl⟩, hEnd⟩
    have hNdx := HNd.out
    rcases hEnd with ⟨⟨hRa, hL⟩, hall⟩ | ⟨i, hi1, hi2, hi3, rfl, hL⟩
    · have hno : ¬ (T.bg = true ∧ T.ak < T.nR) := fun hh => by have := HAK.out; have := hh.2; omega
      have eS : T.nxS = 0 := if_neg hno
      have eR : T.nxR = Rv.zero := if_neg hno
      have eB : T.nxB = false := decide_eq_false hno
      have HE : Hid (T.nxS = 0 ∧ T.nxR = Rv.zero ∧ T.nxB = false) := ⟨eS, eR, eB⟩
      have hle := loop_end_of (P := Tryz.prog) HRC hL.lp (by simp)
      have hL4 := hL.rec_ hNdx (RC .exhausted none)
      obtain ⟨W4, HW4⟩ : ∃ W4, Hid (W3.putObj lr (.loop (RC .exhausted none)) = W4) := ⟨_, rfl⟩
      rw [HW4.out] at hle hL4
      have y2 : W4.cell? ⟨b2, 0, none⟩ = some (.int .i64 0) := by rw [cell_of_row _ _ _ _ _ _ hL4.c2]; rfl
      have y4 : W4.cell? ⟨b4, 0, none⟩ = some (.bool false) := by rw [cell_of_row _ _ _ _ _ _ hL4.c4]; rfl
      have u2 : W4.frozen? ⟨b2, 0, none⟩ = false := by simp [World.frozen?, hL4.c2]
      have u4 : W4.frozen? ⟨b4, 0, none⟩ = false := by simp [World.frozen?, hL4.c4]
      have u3 : ∀ j, W4.frozen? ⟨b3, j, none⟩ = false := fun j => by simp [World.frozen?, hL4.c3]
      have y30 : W4.cell? ⟨b3, 0, none⟩ = some (.int .u8 0) := by rw [cell_of_row _ _ _ _ _ _ hL4.c3]; rfl
      have y31 : W4.cell? ⟨b3, 1, none⟩ = some (.int .i64 0) := by rw [cell_of_row _ _ _ _ _ _ hL4.c3]; rfl
      have y32 : W4.cell? ⟨b3, 2, none⟩ = some (.int .i64 0) := by rw [cell_of_row _ _ _ _ _ _ hL4.c3]; rfl
      have y33 : W4.cell? ⟨b3, 3, none⟩ = some (.string ⟨#[]⟩) := by rw [cell_of_row _ _ _ _ _ _ hL4.c3]; rfl
      have y34 : W4.cell? ⟨b3, 4, none⟩ = some (.string ⟨#[]⟩) := by rw [cell_of_row _ _ _ _ _ _ hL4.c3]; rfl
      have y35 : W4.cell? ⟨b3, 5, none⟩ = some (.bool false) := by rw [cell_of_row _ _ _ _ _ _ hL4.c3]; rfl
      have y36 : W4.cell? ⟨b3, 6, none⟩ = some (.string ⟨#[]⟩) := by rw [cell_of_row _ _ _ _ _ _ hL4.c3]; rfl
      have y37 : W4.cell? ⟨b3, 7, none⟩ = some (.string ⟨#[]⟩) := by rw [cell_of_row _ _ _ _ _ _ hL4.c3]; rfl
      have y38 : W4.cell? ⟨b3, 8, none⟩ = some (.slice none 0 0) := by rw [cell_of_row _ _ _ _ _ _ hL4.c3]; rfl
      have HL4 : Hid (Nq w t b2 b3 b4 b5 bb D lr (RC .exhausted none) 0 Rv.zero false ((ak : Int) - (T.nR : Int)) W4) := hL4
      obtain ⟨o0, o1, o2, o3, o4, o5, o6⟩ := hNdx.a
      have n23 : b2 ≠ b3 := by omega
      have n24 : b2 ≠ b4 := by omega
      have n34 : b3 ≠ b4 := by omega
      have n32 : b3 ≠ b2 := by omega
      have n42 : b4 ≠ b2 := by omega
      have n43 : b4 ≠ b3 := by omega
      clear hL hL4 HRC hA0 o0 o1 o2 o3 o4 o5 o6 hall eS eR eB hno
      refine ⟨none, W4, hle, ?_⟩
      clear hle
      gi_wp2_with fail
      have hfin := HL4.out.fin HNd.out 0 Rv.zero false
      have hF5 : ∀ W, Fr [D] W (W.putObj D (.deferred none)) := fun W => Fr.putObj _ D _
      obtain ⟨o0, o1, o2, o3, o4, o5, o6⟩ := HNd.out.a
      refine ⟨by simp, .inl ⟨_, _, rfl, run_takeDeferred hfin.df, ?_⟩⟩
      obtain ⟨eS, eR, eB⟩ := HE.out
      refine ⟨_, results_ccc_row rfl _ _ _ b2 b3 b4 _ _ _ rfl rfl rfl (load_int17 (x := 0) ((hF5 _).keep hfin.c2 (by simp; omega))) (load_req Rv.zero ((hF5 _).keep hfin.c3 (by simp; omega))) (load_bool17 (x := false) ((hF5 _).keep hfin.c4 (by simp; omega))), ?_⟩
      exact ⟨by rw [eS, eR, eB], hfin.fr.on (hF5 _) (fun x hx => by simp at hx; omega)⟩
    · have hyes : T.bg = true ∧ T.ak < T.nR := ⟨hb, by have := HAK.out; omega⟩
      have eS : T.nxS = T.sh i := by unfold Tk.nxS; rw [if_pos hyes, ← HAK.out]
      have eR : T.nxR = T.r := if_pos hyes
      have eB : T.nxB = true := decide_eq_true hyes
      have HE : Hid (T.nxS = T.sh i ∧ T.nxR = T.r ∧ T.nxB = true) := ⟨eS, eR, eB⟩
      have hle := loop_end_of (P := Tryz.prog) HRC hL.lp (by simp)
      have hL4 := hL.rec_ hNdx (RC .exhausted (some .ret))
      obtain ⟨W4, HW4⟩ : ∃ W4, Hid (W3.putObj lr (.loop (RC .exhausted (some .ret))) = W4) := ⟨_, rfl⟩
      rw [HW4.out] at hle hL4
      have HL4 : Hid (Nq w t b2 b3 b4 b5 bb D lr (RC .exhausted (some .ret)) (T.sh i) T.r true 0 W4) := hL4
      clear hL hL4 HRC hA0 hi2 hi3 eS eR eB hyes
      refine ⟨some .ret, W4, hle, ?_⟩
      clear hle
      gi_wp2_with fail
      have hfin := HL4.out
      have hF5 : ∀ W, Fr [D] W (W.putObj D (.deferred none)) := fun W => Fr.putObj _ D _
      obtain ⟨o0, o1, o2, o3, o4, o5, o6⟩ := HNd.out.a
      refine ⟨by simp, .inl ⟨_, _, rfl, run_takeDeferred hfin.df, ?_⟩⟩
      obtain ⟨eS, eR, eB⟩ := HE.out
      refine ⟨_, results_ccc_row rfl _ _ _ b2 b3 b4 _ _ _ rfl rfl rfl (load_int17 (x := T.sh i) ((hF5 _).keep hfin.c2 (by simp; omega))) (load_req T.r ((hF5 _).keep hfin.c3 (by simp; omega))) (load_bool17 (x := true) ((hF5 _).keep hfin.c4 (by simp; omega))), ?_⟩
      exact ⟨by rw [eS, eR, eB], hfin.fr.on (hF5 _) (fun x hx => by simp at hx; omega)⟩
theorem qnext_any {w : World} {t : Nat} {T : Tk} (h : TkM w t T) (hn : T.n < 0) (hm : Cf.may ⟨T.l, T.s, T.x, T.q⟩) (hc : okC T.k T.key T.en) (hak : T.ak ≤ 16) :
    Calls Tryz.prog 24 #[.pointer (some ⟨t, 0, none⟩)] w fun e w' => e = .returned (.tuple #[.int .i64 T.nxS, T.nxR.v, .bool T.nxB]) ∧ Fr [] w w' := by
  cases hb : T.bg with
  | true => exact callsIn_wide.1 (qnext_in h hn hb hm hc hak)
  | false =>
    have hno : ¬ (T.bg = true ∧ T.ak < T.nR) := fun hh => by rw [hb] at hh; cases hh.1
    have eS : T.nxS = 0 := if_neg hno
    have eR : T.nxR = Rv.zero := if_neg hno
    have eB : T.nxB = false := decide_eq_false hno
    rw [eS, eR, eB]
    exact qnext_un h hn hb
end Go.Proofs.YtpdkdgmaofhlkaaGreatDoor

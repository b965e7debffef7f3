/- Texts of this claim laid together, one behind the other: contracts and plain lemmas; conditions as each names them. -/
import Derived.Test.YtaaghcimfcjehaaGreatDoorGp33
/- The events followed as far as each can be next. Conditions as each names them. -/
namespace Go.Proofs.YtaaghcimfcjehaaGreatDoor
open Go.ChangeShapes Go.WideShapes Go.ChangeAt Go.RowKit Go.Lib Go.Maps
set_option linter.unusedVariables false
set_option linter.unusedSimpArgs false

/-- Behind i events. -/
structure Fol (wS w : World) (sb : Nat) (c : Cf) (s : Sy) (k : Nat) (ts : List Tm) (es : List Ev) (Q b i : Nat) : Prop where
  gone : (goes c (txs ts) s (es.take i)).1 = i
  at_ : ∃ Z, At wS w Z c (goes c (txs ts) s (es.take i)).2 (k + i) ts ∧ Z.sb = sb ∧ ∀ x ∈ [Q, b], x ∉ Z.own ∧ x < w.heap.size
  q : w.heap[Q]? = some (.cells #[.pointer (some ⟨sb, 0, none⟩)] 71 (0, 0))
  b : w.heap[b]? = some (.cells (kdA Q) 118 (0, 0))
section
variable {w w' wS : World} {sb : Nat} {c : Cf} {s : Sy} {k Q b i : Nat} {ts : List Tm} {es : List Ev}
theorem Fol.fr (h : Fol wS w sb c s k ts es Q b i) : Fr [] wS w := by
  obtain ⟨Z, hA, _⟩ := h.at_
  exact hA.cx.fr
theorem Fol.quiet (h : Fol wS w sb c s k ts es Q b i) (hf : Fr [] w w') : Fol wS w' sb c s k ts es Q b i := by
  obtain ⟨Z, hA, hz, hx⟩ := h.at_
  exact ⟨h.gone, ⟨Z, hA.quiet hf, hz, fun x hh => ⟨(hx x hh).1, Nat.lt_of_lt_of_le (hx x hh).2 hf.size⟩⟩, hf.keep h.q (by simp), hf.keep h.b (by simp)⟩
/-- What a step behind i events answers. -/
def FolP (wS : World) (sb : Nat) (c : Cf) (s : Sy) (k : Nat) (ts : List Tm) (es : List Ev) (Q b i g : Nat) (e : Ending) (w' : World) : Prop :=
  ∃ t : Ev, e = .returned (.agg (evA t.t t.k t.n t.s t.c t.m)) ∧ Fr [] wS w' ∧ w'.heap[g]? = some (.cells (evA (es.getD i Ev.no).t (es.getD i Ev.no).k (es.getD i Ev.no).n (es.getD i Ev.no).s (es.getD i Ev.no).c (es.getD i Ev.no).m) 62 (0, 0)) ∧
  ((t.k ≠ 0 ∧ t = es.getD i Ev.no → Fol wS w' sb c s k ts es Q b (i + 1)) ∧ (¬ (t.k ≠ 0 ∧ t = es.getD i Ev.no) → (goes c (txs ts) s es).1 = i))
theorem Fol.step (h : Fol wS w sb c s k ts es Q b i) (hi : i < es.length) (hN : Nms wS) (hE : ∀ x ∈ es, EEach x) (hk : k + i + 1 ≤ 4194304) (w4 : World) (hf : Fr [] w w4)
    (hg : w4.heap[w.heap.size]? = some (.cells (evA (es.getD i Ev.no).t (es.getD i Ev.no).k (es.getD i Ev.no).n (es.getD i Ev.no).s (es.getD i Ev.no).c (es.getD i Ev.no).m) 62 (0, 0))) :
    Calls Tryz.prog 78 #[.pointer (some ⟨sb, 0, none⟩), .agg (kdA Q), .agg (evA (es.getD i Ev.no).t (es.getD i Ev.no).k (es.getD i Ev.no).n (es.getD i Ev.no).s (es.getD i Ev.no).c (es.getD i Ev.no).m)] w4 (FolP wS sb c s k ts es Q b i w.heap.size) := by
  obtain ⟨Z, hA, rfl, hx⟩ := h.at_
  have hA4 := hA.quiet hf
  have he := hE _ (egetD_mem es i hi)
  have hc := step_any hA4 (hN.keep hA4.cx.fr (by simp)) _ he Q (hf.keep h.q (by simp))
  refine hc.mono ?_
  rintro e w5 ⟨Z', rfl, hS, hM⟩
  have hAn := At.next (s' := s) hA4 he hS hM (by omega)
  have hown : w.heap.size ∉ Z.own := fun hh => by have := hA.st.lt _ hh; omega
  have hks := hM.keep (S := [Q, b]) (fun x hh => ⟨(hx x hh).1, Nat.lt_of_lt_of_le (hx x hh).2 hf.size⟩)
  refine ⟨_, rfl, hAn.cx.fr, hM.fr.keep hg hown, fun hc1 => ⟨?_, ⟨Z', ?_, hM.at_, hks⟩, hM.fr.keep (hf.keep h.q (by simp)) (hx Q (by simp)).1, hM.fr.keep (hf.keep h.b (by simp)) (hx b (by simp)).1⟩, fun hc1 => ?_⟩
  · rw [etake_snoc es i hi, goes_snoc _ _ _ (by rw [h.gone]; simp; omega) hc1]
    simp
    omega
  · rw [etake_snoc es i hi, goes_snoc _ _ _ (by rw [h.gone]; simp; omega) hc1]
    exact hAn
  · have e1 := goes_stop (es.take i) s (es.getD i Ev.no) (es.drop (i + 1)) (by rw [h.gone]; simp; omega) hc1
    rw [← edrop_cons es i hi] at e1
    rw [e1]
    simp
    omega
/-- What follow answers. -/
noncomputable def folC (c : Cf) (T : List Tx) (s : Sy) (es : List Ev) : Int := if (goes c T s es).1 = es.length then 0 else 14
set_option maxHeartbeats 4000000 in
set_option maxRecDepth 100000 in
theorem follow_any {Z : Zs} {ao : Option Addr} {cap : Nat} (h : At wS w Z c s k ts) (hN : Nms wS) (hE : ERs wS ao es) (hcap : es.length ≤ cap) (hk : k + es.length ≤ 4194304) :
    Calls Tryz.prog 26 #[.pointer (some ⟨Z.sb, 0, none⟩), .slice ao es.length cap] w fun e w' => e = .returned (.tuple #[.int .i64 ((goes c (txs ts) s es).1 : Int), .int .i64 (folC c (txs ts) s es)]) ∧ Fr [] wS w' := by
  have HH : Hid (At wS w Z c s k ts) := h
  have HK : Hid (∀ W, Calls _ _ _ W _) := fun W => kinds_any Z.sb W
  have HE : Hid (ERs wS ao es) := hE
  have HN : Hid (Nms wS) := hN
  clear h hE hN
  obtain ⟨sb, hsb⟩ : ∃ sb, sb = Z.sb := ⟨_, rfl⟩
  have HSb : Hid (sb = Z.sb) := hsb
  rw [← hsb] at HK ⊢
  clear hsb
  go_enter Tryz.func26, Tryz.ntmps26
  go_wp2_with fail
  go_step3
  go_wp2_with fail
  refine Calls.mono (HK.out _) ?_
  rintro e w1 ⟨Q, rfl, hQl, hQ, hf1⟩
  have hr : (w1.alloc (.cells #[.string ⟨#[]⟩, .nilFunc, .string ⟨#[]⟩, .nilFunc, .string ⟨#[]⟩, .nilFunc, .string ⟨#[]⟩, .nilFunc, .string ⟨#[]⟩, .nilFunc] 118)).heap[w1.heap.size]? = some (.cells #[.string ⟨#[]⟩, .nilFunc, .string ⟨#[]⟩, .nilFunc, .string ⟨#[]⟩, .nilFunc, .string ⟨#[]⟩, .nilFunc, .string ⟨#[]⟩, .nilFunc] 118 (0, 0)) := heap_alloc_new _ _
  have HF1 : Hid (w.heap.size ≤ Q ∧ w1.heap[Q]? = some (.cells #[.pointer (some ⟨sb, 0, none⟩)] 71 (0, 0)) ∧ Fr [] w w1) := ⟨hQl, hQ, hf1⟩
  clear hQl hQ hf1 HK
  go_wp2_with (first
    | (refine wpList_storeRow rfl 118 _ _ rfl w1.heap.size (kdA Q) rfl rfl 118 _ hr (by kernel_rfl) rfl (kdA_one _) ?_; intro w2 HR2 hf2)
    | fail)
  have HL2 : Hid (Fol wS w2 sb c s k ts es Q w1.heap.size 0) := by
    obtain ⟨h1, h2, h3⟩ := HF1.out
    have f12 : Fr [] w1 w2 := (Fr.alloc [] w1 _).on hf2 (by intro y hy; simp at hy; omega)
    have hA := HH.out.quiet (h3.then f12)
    refine ⟨rfl, ⟨Z, hA, HSb.out.symm, fun x hx => ?_⟩, f12.keep h2 (by simp), HR2.out⟩
    have hlt := HH.out.st.lt
    have h4 := h3.size
    simp only [List.mem_cons, List.not_mem_nil, or_false] at hx
    rcases hx with rfl | rfl
    · exact ⟨fun hh => by have := hlt _ hh; omega, Nat.lt_of_lt_of_le (lt_of_block h2) f12.size⟩
    · exact ⟨fun hh => by have := hlt _ hh; omega, lt_of_block HR2.out⟩
  clear HH HSb HF1 HR2 hr hf2
  obtain ⟨b, hb⟩ : ∃ b, b = w1.heap.size := ⟨_, rfl⟩
  rw [← hb] at HL2 ⊢
  clear hb
  have hlen : es.length ≤ 4194304 := by omega
  go_step3
  go_wp2_with fail
  simp only [Act.put]
  go_loopw [6, 7] (fun ii jj wr => ∃ (i : Nat), ii = .int .i64 i ∧ jj = .int .i64 0 ∧ i ≤ es.length ∧ Hid (Fol wS wr sb c s k ts es Q b i)) (fun ii _ _ => es.length - (RowKit.intOf ii).toNat)
  case atStart => exact ⟨0, rfl, rfl, by omega, HL2⟩
  case round =>
    obtain ⟨i, rfl, rfl, hil, HFr⟩ := hrel
    by_cases hi : i < es.length
    · have hii : (i : Int) < (es.length : Int) := by omega
      obtain ⟨eb, off, rfl, hbl, hcs⟩ := HE.out.lies (by omega)
      have hf := HFr.out.fr
      have hk2 : ∀ o, wr.cell? ⟨eb, o, none⟩ = wS.cell? ⟨eb, o, none⟩ := fun o => World.cell?_of_block (hf.block eb hbl (by simp))
      have hA := hcs i hi
      have HC : Hid (∀ w4, Fr [] wr w4 → _ → _) := fun w4 hf4 hg => HFr.out.step hi HN.out HE.out.each (by omega) w4 hf4 hg
      obtain ⟨x, hx⟩ : ∃ x, es.getD i Ev.no = x := ⟨_, rfl⟩
      rw [hx] at hA HC
      have c0 := (hk2 _).trans hA.c0
      have c1 := (hk2 _).trans hA.c1
      have c2 := (hk2 _).trans hA.c2
      have c3 := (hk2 _).trans hA.c3
      have c4 := (hk2 _).trans hA.c4
      have c5 := (hk2 _).trans hA.c5
      have Hx : Hid (es.getD i Ev.no = x) := hx
      obtain ⟨et, ek, en, ee, ec, em⟩ := x
      simp only at c0 c1 c2 c3 c4 c5
      clear hx hcs hbl hf hk2 hA HL2
      obtain ⟨w4, hw4⟩ : ∃ w4, w4 = wr.alloc (.cells (evA et ek en ee ec em) 62) := ⟨_, rfl⟩
      have f4 : Fr [] wr w4 := by rw [hw4]; exact Fr.alloc _ _ _
      have r4 : w4.heap[wr.heap.size]? = some (.cells (evA et ek en ee ec em) 62 (0, 0)) := by rw [hw4]; exact heap_alloc_new _ _
      have HC4 : Hid (Calls _ _ _ _ _) := HC.out w4 f4 r4
      obtain ⟨k0, k1, k2, k3, k4, k5, k6, k7, k8, k9⟩ := kd_cells (f4.keep HFr.out.b (by simp))
      obtain ⟨e0, e1, e2, e3, e4, e5⟩ := evt_cells r4
      have HF4 : Hid (Fr [] wr w4) := f4
      have HW : Hid (wr.alloc (.cells #[.int .i64 et, .int .u8 ek, .int .i64 en, .int .i64 ee, .int .i64 ec, .int .i64 em] 62) = w4) := by show _ = _; rw [hw4]; rfl
      clear hw4 f4 r4 HC
      obtain ⟨g, hg⟩ : ∃ g, g = wr.heap.size := ⟨_, rfl⟩
      rw [← hg] at e0 e1 e2 e3 e4 e5 HC4
      have HG : Hid (wr.heap.size = g) := hg.symm
      clear hg
      simp only [kdA, evA] at HC4
      go_upto_region 5 with fail
      rw [HW.out, HG.out]
      clear c0 c1 c2 c3 c4 c5
      go_wp2_with fail
      refine Calls.mono HC4.out ?_
      rintro e w5 ⟨⟨tt, tk, tn, t2, tc, tm⟩, rfl, hf5, hr5, hyes, hno⟩
      rw [Hx.out] at hr5
      clear e0 e1 e2 e3 e4 e5 k0 k1 k2 k3 k4 k5 k6 k7 k8 k9 HC4 HW HF4 HG
      have f6 := Fr.alloc [] w5 (.cells (evA tt tk tn t2 tc tm) 62)
      obtain ⟨e0, e1, e2, e3, e4, e5⟩ := evt_cells (f6.keep hr5 (by simp))
      simp only at e0 e1 e2 e3 e4 e5
      have HX : Hid ((⟨tt, tk, tn, t2, tc, tm⟩ : Ev).k ≠ 0 ∧ (⟨tt, tk, tn, t2, tc, tm⟩ : Ev) = es.getD i Ev.no → Fol wS (w5.alloc (.cells (evA tt tk tn t2 tc tm) 62)) sb c s k ts es Q b (i + 1)) := fun hh => (hyes hh).quiet f6
      have HY : Hid (¬ ((⟨tt, tk, tn, t2, tc, tm⟩ : Ev).k ≠ 0 ∧ (⟨tt, tk, tn, t2, tc, tm⟩ : Ev) = es.getD i Ev.no) → (goes c (txs ts) s es).1 = i) := hno
      have HF6 : Hid (Fr [] wS (w5.alloc (.cells (evA tt tk tn t2 tc tm) 62))) := hf5.then f6
      rw [Hx.out] at HX HY
      clear hyes hno hf5 hr5 f6
      simp only [evA] at HX HF6 e0 e1 e2 e3 e4 e5 ⊢
      by_cases h0 : tk = 0
      · subst h0
        go_wp2_with fail
        go_ret2
        have hg1 := HY.out (fun hh => hh.1 rfl)
        exact ⟨by rw [hg1, folC, hg1, if_neg (by omega)]; rfl, HF6.out⟩
      · have hgu := Tryz.guardEvt
        have heq : ∀ W, (Op.equalIn 10000 62 (.agg #[.int .i64 tt, .int .u8 tk, .int .i64 tn, .int .i64 t2, .int .i64 tc, .int .i64 tm]) (.agg #[.int .i64 et, .int .u8 ek, .int .i64 en, .int .i64 ee, .int .i64 ec, .int .i64 em])).run Tryz.prog W = .ok (sameEv ⟨tt, tk, tn, t2, tc, tm⟩ ⟨et, ek, en, ee, ec, em⟩) W := fun W => ev_fields W ⟨tt, tk, tn, t2, tc, tm⟩ ⟨et, ek, en, ee, ec, em⟩
        obtain ⟨sm, hsm⟩ : ∃ sm, sm = sameEv ⟨tt, tk, tn, t2, tc, tm⟩ ⟨et, ek, en, ee, ec, em⟩ := ⟨_, rfl⟩
        have HSm : Hid (sm = true ↔ (⟨tt, tk, tn, t2, tc, tm⟩ : Ev) = ⟨et, ek, en, ee, ec, em⟩) := by show _ ↔ _; rw [hsm]; exact sameEv_iff _ _
        rw [← hsm] at heq
        clear hsm
        cases sm
        · go_wp2_with fail
          go_ret2
          have hg1 := HY.out (fun hh => by have := HSm.out.2 hh.2; simp at this)
          exact ⟨by rw [hg1, folC, hg1, if_neg (by omega)]; rfl, HF6.out⟩
        · go_wp2_with fail
          exact ⟨⟨i + 1, by simp, rfl, by omega, HX.out ⟨h0, HSm.out.1 rfl⟩⟩, by simp [RowKit.intOf]; omega⟩
    · have hie : i = es.length := by omega
      have HG1 : Hid ((goes c (txs ts) s es).1 = es.length) := by
        have h1 := HFr.out.gone
        rw [hie, List.take_length] at h1
        exact h1
      have HF6 : Hid (Fr [] wS wr) := HFr.out.fr
      have hii : ¬ (i : Int) < (es.length : Int) := by omega
      have HI : Hid (i = es.length) := hie
      clear hie hil hi
      go_wp2_with fail
      go_ret2
      exact ⟨by rw [folC, if_pos HG1.out, HG1.out, HI.out]; rfl, HF6.out⟩
end
end Go.Proofs.YtaaghcimfcjehaaGreatDoor

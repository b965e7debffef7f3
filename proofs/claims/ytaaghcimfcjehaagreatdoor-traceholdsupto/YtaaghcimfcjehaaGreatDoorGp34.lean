/- Texts of this claim laid together, one behind the other: contracts and plain lemmas; conditions as each names them. -/
import Derived.Test.YtaaghcimfcjehaaGreatDoorGp33
import Derived.Orders
/- The events followed as far as each can be next. Conditions as each names them. -/
namespace Go.Proofs.YtaaghcimfcjehaaGreatDoor
open Go.ChangeShapes Go.WideShapes Go.ChangeAt Go.RowKit Go.Lib Go.Maps
set_option linter.unusedVariables false
set_option linter.unusedSimpArgs false

/-- Behind i events. -/
structure Fol (wS w : World) (sb : Nat) (c : Cf) (s : Sy) (k : Nat) (ts : List Tm) (es : List Ev) (Q b i : Nat) : Prop where
  gone : (goes c (txs ts) s (es.take i)).1 = i
  at_ : ∃ Z, At wS w Z c (goes c (txs ts) s (es.take i)).2 (k + i) ts ∧ Z.sb = sb ∧ ∀ x ∈ [Q, b], x ∉ Z.own ∧ x < w.heap.size
  q : w.heap[Q]? = some (.cells #[.pointer (some ⟨sb, 0, none⟩)] 71 (0, 0))
  b : w.heap[b]? = some (.cells (kdA Q) 118 (0, 0))
section
variable {w w' wS : World} {sb : Nat} {c : Cf} {s : Sy} {k Q b i : Nat} {ts : List Tm} {es : List Ev}
theorem Fol.fr (h : Fol wS w sb c s k ts es Q b i) : Fr [] wS w := by
  obtain ⟨Z, hA, _⟩ := h.at_
  exact hA.cx.fr
theorem Fol.quiet (h : Fol wS w sb c s k ts es Q b i) (hf : Fr [] w w') : Fol wS w' sb c s k ts es Q b i := by
  obtain ⟨Z, hA, hz, hx⟩ := h.at_
  exact ⟨h.gone, ⟨Z, hA.quiet hf, hz, fun x hh => ⟨(hx x hh).1, Nat.lt_of_lt_of_le (hx x hh).2 hf.size⟩⟩, hf.keep h.q (by simp), hf.keep h.b (by simp)⟩
/-- What a step behind i events answers. -/
def FolP (wS : World) (sb : Nat) (c : Cf) (s : Sy) (k : Nat) (ts : List Tm) (es : List Ev) (Q b i g : Nat) (e : Ending) (w' : World) : Prop :=
  ∃ t : Ev, e = .returned (.agg (evA t.t t.k t.n t.s t.c t.m)) ∧ Fr [] wS w' ∧ w'.heap[g]? = some (.cells (evA (es.getD i Ev.no).t (es.getD i Ev.no).k (es.getD i Ev.no).n (es.getD i Ev.no).s (es.getD i Ev.no).c (es.getD i Ev.no).m) 62 (0, 0)) ∧
  ((t.k ≠ 0 ∧ t = es.getD i Ev.no → Fol wS w' sb c s k ts es Q b (i + 1)) ∧ (¬ (t.k ≠ 0 ∧ t = es.getD i Ev.no) → (goes c (txs ts) s es).1 = i))
theorem Fol.step (h : Fol wS w sb c s k ts es Q b i) (hi : i < es.length) (hN : Nms wS) (hE : ∀ x ∈ es, EEach x) (hk : k + i + 1 ≤ 4194304) (w4 : World) (hf : Fr [] w w4)
    (hg : w4.heap[w.heap.size]? = some (.cells (evA (es.getD i Ev.no).t (es.getD i Ev.no).k (es.getD i Ev.no).n (es.getD i Ev.no).s (es.getD i Ev.no).c (es.getD i Ev.no).m) 62 (0, 0))) :
    Calls Tryz.prog 78 #[.pointer (some ⟨sb, 0, none⟩), .agg (kdA Q), .agg (evA (es.getD i Ev.no).t (es.getD i Ev.no).k (es.getD i Ev.no).n (es.getD i Ev.no).s (es.getD i Ev.no).c (es.getD i Ev.no).m)] w4 (FolP wS sb c s k ts es Q b i w.heap.size) := by
  obtain ⟨Z, hA, rfl, hx⟩ := h.at_
  have hA4 := hA.quiet hf
  have he := hE _ (egetD_mem es i hi)
  have hc := step_any hA4 (hN.keep hA4.cx.fr (by simp)) _ he Q (hf.keep h.q (by simp))
  refine hc.mono ?_
  rintro e w5 ⟨Z', rfl, hS, hM⟩
  have hAn := At.next (s' := s) hA4 he hS hM (by omega)
  have hown : w.heap.size ∉ Z.own := fun hh => by have := hA.st.lt _ hh; omega
  have hks := hM.keep (S := [Q, b]) (fun x hh => ⟨(hx x hh).1, Nat.lt_of_lt_of_le (hx x hh).2 hf.size⟩)
  refine ⟨_, rfl, hAn.cx.fr, hM.fr.keep hg hown, fun hc1 => ⟨?_, ⟨Z', ?_, hM.at_, hks⟩, hM.fr.keep (hf.keep h.q (by simp)) (hx Q (by simp)).1, hM.fr.keep (hf.keep h.b (by simp)) (hx b (by simp)).1⟩, fun hc1 => ?_⟩
  · rw [etake_snoc es i hi, goes_snoc _ _ _ (by rw [h.gone]; simp; omega) hc1]
    simp
    omega
  · rw [etake_snoc es i hi, goes_snoc _ _ _ (by rw [h.gone]; simp; omega) hc1]
    exact hAn
  · have e1 := goes_stop (es.take i) s (es.getD i Ev.no) (es.drop (i + 1)) (by rw [h.gone]; simp; omega) hc1
    rw [← edrop_cons es i hi] at e1
    rw [e1]
    simp
    omega
/-- What follow answers. -/
noncomputable def folC (c : Cf) (T : List Tx) (s : Sy) (es : List Ev) : Int := if (goes c T s es).1 = es.length then 0 else 14
set_option maxHeartbeats 4000000 in
set_option maxRecDepth 100000 in
theorem follow_any {Z : Zs} {ao : Option Addr} {cap : Nat} (h : At wS w Z c s k ts) (hN : Nms wS) (hE : ERs wS ao es) (hcap : es.length ≤ cap) (hk : k + es.length ≤ 4194304) :
    Calls Tryz.prog 26 #[.pointer (some ⟨Z.sb, 0, none⟩), .slice ao es.length cap] w fun e w' => e = .returned (.tuple #[.int .i64 ((goes c (txs ts) s es).1 : Int), .int .i64 (folC c (txs ts) s es)]) ∧ Fr [] wS w' := by
  have HH : Hid (At wS w Z c s k ts) := h
  have HK : Hid (∀ W, Calls _ _ _ W _) := fun W => kinds_any Z.sb W
  have HE : Hid (ERs wS ao es) := hE
  have HN : Hid (Nms wS) := hN
  clear h hE hN
  obtain ⟨sb, hsb⟩ : ∃ sb, sb = Z.sb := ⟨_, rfl⟩
  have HSb : Hid (sb = Z.sb) := hsb
  rw [← hsb] at HK ⊢
  clear hsb
  go_enter Tryz.func26, Tryz.ntmps26
  go_wp2_with fail
  go_step3
  go_wp2_with fail
  refine Calls.mono (HK.out _) ?_
  rintro e w1 ⟨Q, rfl, hQl, hQ, hf1⟩
  have hr : (w1.alloc (.cells #[.string ⟨#[]⟩, .nilFunc, .string ⟨#[]⟩, .nilFunc, .string ⟨#[]⟩, .nilFunc, .string ⟨#[]⟩, .nilFunc, .string ⟨#[]⟩, .nilFunc] 118)).heap[w1.heap.size]? = some (.cells #[.string ⟨#[]⟩, .nilFunc, .string ⟨#[]⟩, .nilFunc, .string ⟨#[]⟩, .nilFunc, .string ⟨#[]⟩, .nilFunc, .string ⟨#[]⟩, .nilFunc] 118 (0, 0)) := heap_alloc_new _ _
  have HF1 : Hid (w.heap.size ≤ Q ∧ w1.heap[Q]? = some (.cells #[.pointer (some ⟨sb, 0, none⟩)] 71 (0, 0)) ∧ Fr [] w w1) := ⟨hQl, hQ, hf1⟩
  clear hQl hQ hf1 HK
  go_wp2_with (first
    | (refine wpList_storeRow rfl 118 _ _ rfl w1.heap.size (kdA Q) rfl rfl 118 _ hr (by kernel_rfl) rfl (kdA_one _) ?_; intro w2 HR2 hf2)
    | fail)
  have HL2 : Hid (Fol wS w2 sb c s k ts es Q w1.heap.size 0) := by
    obtain ⟨h1, h2, h3⟩ := HF1.out
    have f12 : Fr [] w1 w2 := (Fr.alloc [] w1 _).on hf2 (by intro y hy; simp at hy; omega)
    have hA := HH.out.quiet (h3.then f12)
    refine ⟨rfl, ⟨Z, hA, HSb.out.symm, fun x hx => ?_⟩, f12.keep h2 (by simp), HR2.out⟩
    have hlt := HH.out.st.lt
    have h4 := h3.size
    simp only [List.mem_cons, List.not_mem_nil, or_false] at hx
    rcases hx with rfl | rfl
    · exact ⟨fun hh => by have := hlt _ hh; omega, Nat.lt_of_lt_of_le (lt_of_block h2) f12.size⟩
    · exact ⟨fun hh => by have := hlt _ hh; omega, lt_of_block HR2.out⟩
  clear HH HSb HF1 HR2 hr hf2
  obtain ⟨b, hb⟩ : ∃ b, b = w1.heap.size := ⟨_, rfl⟩
  rw [← hb] at HL2 ⊢
  clear hb
  have hlen : es.length ≤ 4194304 := by omega
  go_step3
  go_wp2_with fail
  simp only [Act.put]
  go_loopw [6, 7] (fun ii jj wr => ∃ (i : Nat), ii = .int .i64 i ∧ jj = .int .i64 0 ∧ i ≤ es.length ∧ Hid (Fol wS wr sb c s k ts es Q b i)) (fun ii _ _ => es.length - (RowKit.intOf ii).toNat)
  case atStart => exact ⟨0, rfl, rfl, by omega, HL2⟩
  case round =>
    obtain ⟨i, rfl, rfl, hil, HFr⟩ := hrel
    by_cases hi : i < es.length
    · have hii : (i : Int) < (es.length : Int) := by omega
      obtain ⟨eb, off, rfl, hbl, hcs⟩ := HE.out.lies (by omega)
      have hf := HFr.out.fr
      have hk2 : ∀ o, wr.cell? ⟨eb, o, none⟩ = wS.cell? ⟨eb, o, none⟩ := fun o => World.cell?_of_block (hf.block eb hbl (by simp))
      have hA := hcs i hi
      have HC : Hid (∀ w4, Fr [] wr w4 → _ → _) := fun w4 hf4 hg => HFr.out.step hi HN.out HE.out.each (by omega) w4 hf4 hg
      obtain ⟨x, hx⟩ : ∃ x, es.getD i Ev.no = x := ⟨_, rfl⟩
      rw [hx] at hA HC
      have c0 := (hk2 _).trans hA.c0
      have c1 := (hk2 _).trans hA.c1
      have c2 := (hk2 _).trans hA.c2
      have c3 := (hk2 _).trans hA.c3
      have c4 := (hk2 _).trans hA.c4
      have c5 := (hk2 _).trans hA.c5
      have Hx : Hid (es.getD i Ev.no = x) := hx
      obtain ⟨et, ek, en, ee, ec, em⟩ := x
      simp only at c0 c1 c2 c3 c4 c5
      clear hx hcs hbl hf hk2 hA HL2
      obtain ⟨w4, hw4⟩ : ∃ w4, w4 = wr.alloc (.cells (evA et ek en ee ec em) 62) := ⟨_, rfl⟩
      have f4 : Fr [] wr w4 := by rw [hw4]; exact Fr.alloc _ _ _
      have r4 : w4.heap[wr.heap.size]? = some (.cells (evA et ek en ee ec em) 62 (0, 0)) := by rw [hw4]; exact heap_alloc_new _ _
      have HC4 : Hid (Calls _ _ _ _ _) := HC.out w4 f4 r4
      obtain ⟨k0, k1, k2, k3, k4, k5, k6, k7, k8, k9⟩ := kd_cells (f4.keep HFr.out.b (by simp))
      obtain ⟨e0, e1, e2, e3, e4, e5⟩ := evt_cells r4
      have HF4 : Hid (Fr [] wr w4) := f4
      have HW : Hid (wr.alloc (.cells #[.int .i64 et, .int .u8 ek, .int .i64 en, .int .i64 ee, .int .i64 ec, .int .i64 em] 62) = w4) := by show _ = _; rw [hw4]; rfl
      clear hw4 f4 r4 HC
      obtain ⟨g, hg⟩ : ∃ g, g = wr.heap.size := ⟨_, rfl⟩
      rw [← hg] at e0 e1 e2 e3 e4 e5 HC4
      have HG : Hid (wr.heap.size = g) := hg.symm
      clear hg
      simp only [kdA, evA] at HC4
      go_upto_region 5 with fail
      rw [HW.out, HG.out]
      clear c0 c1 c2 c3 c4 c5
      go_wp2_with fail
      refine Calls.mono HC4.out ?_
      rintro e w5 ⟨⟨tt, tk, tn, t2, tc, tm⟩, rfl, hf5, hr5, hyes, hno⟩
      rw [Hx.out] at hr5
      clear e0 e1 e2 e3 e4 e5 k0 k1 k2 k3 k4 k5 k6 k7 k8 k9 HC4 HW HF4 HG
      have f6 := Fr.alloc [] w5 (.cells (evA tt tk tn t2 tc tm) 62)
      obtain ⟨e0, e1, e2, e3, e4, e5⟩ := evt_cells (f6.keep hr5 (by simp))
      simp only at e0 e1 e2 e3 e4 e5
      have HX : Hid ((⟨tt, tk, tn, t2, tc, tm⟩ : Ev).k ≠ 0 ∧ (⟨tt, tk, tn, t2, tc, tm⟩ : Ev) = es.getD i Ev.no → Fol wS (w5.alloc (.cells (evA tt tk tn t2 tc tm) 62)) sb c s k ts es Q b (i + 1)) := fun hh => (hyes hh).quiet f6
      have HY : Hid (¬ ((⟨tt, tk, tn, t2, tc, tm⟩ : Ev).k ≠ 0 ∧ (⟨tt, tk, tn, t2, tc, tm⟩ : Ev) = es.getD i Ev.no) → (goes c (txs ts) s es).1 = i) := hno
      have HF6 : Hid (Fr [] wS (w5.alloc (.cells (evA tt tk tn t2 tc tm) 62))) := hf5.then f6
      rw [Hx.out] at HX HY
      clear hyes hno hf5 hr5 f6
      simp only [evA] at HX HF6 e0 e1 e2 e3 e4 e5 ⊢
      by_cases h0 : tk = 0
      · subst h0
        go_wp2_with fail
        go_ret2
        have hg1 := HY.out (fun hh => hh.1 rfl)
        exact ⟨by rw [hg1, folC, hg1, if_neg (by omega)]; rfl, HF6.out⟩
      · have hgu := Tryz.guardEvt
        have heq : ∀ W, (Op.equalIn 10000 62 (.agg #[.int .i64 tt, .int .u8 tk, .int .i64 tn, .int .i64 t2, .int .i64 tc, .int .i64 tm]) (.agg #[.int .i64 et, .int .u8 ek, .int .i64 en, .int .i64 ee, .int .i64 ec, .int .i64 em])).run Tryz.prog W = .ok (sameEv ⟨tt, tk, tn, t2, tc, tm⟩ ⟨et, ek, en, ee, ec, em⟩) W := fun W => ev_fields W ⟨tt, tk, tn, t2, tc, tm⟩ ⟨et, ek, en, ee, ec, em⟩
        obtain ⟨sm, hsm⟩ : ∃ sm, sm = sameEv ⟨tt, tk, tn, t2, tc, tm⟩ ⟨et, ek, en, ee, ec, em⟩ := ⟨_, rfl⟩
        have HSm : Hid (sm = true ↔ (⟨tt, tk, tn, t2, tc, tm⟩ : Ev) = ⟨et, ek, en, ee, ec, em⟩) := by show _ ↔ _; rw [hsm]; exact sameEv_iff _ _
        rw [← hsm] at heq
        clear hsm
        cases sm
        · go_wp2_with fail
          go_ret2
          have hg1 := HY.out (fun hh => by have := HSm.out.2 hh.2; simp at this)
          exact ⟨by rw [hg1, folC, hg1, if_neg (by omega)]; rfl, HF6.out⟩
        · go_wp2_with fail
          exact ⟨⟨i + 1, by simp, rfl, by omega, HX.out ⟨h0, HSm.out.1 rfl⟩⟩, by simp [RowKit.intOf]; omega⟩
    · have hie : i = es.length := by omega
      have HG1 : Hid ((goes c (txs ts) s es).1 = es.length) := by
        have h1 := HFr.out.gone
        rw [hie, List.take_length] at h1
        exact h1
      have HF6 : Hid (Fr [] wS wr) := HFr.out.fr
      have hii : ¬ (i : Int) < (es.length : Int) := by omega
      have HI : Hid (i = es.length) := hie
      clear hie hil hi
      go_wp2_with fail
      go_ret2
      exact ⟨by rw [folC, if_pos HG1.out, HG1.out, HI.out]; rfl, HF6.out⟩
end
end Go.Proofs.YtaaghcimfcjehaaGreatDoor
/- A region that draws its order and whose operations only make memory: each tells of its value what stays so; what each made lies apart. Plain lemmas. -/
namespace Go.Proofs.YtaaghcimfcjehaaGreatDoor
open Go.ChangeShapes Go.WideShapes Go.ChangeAt Go.RowKit Go.Lib
set_option linter.unusedVariables false
set_option linter.unusedSimpArgs false

def dstOf (ops : Array Oper) (j : Nat) : Option Nat := (ops[j]?).bind (·.dst)
/-- What stands in the slots. -/
def env (a : Act) : Nat → Value := fun t => a.eval (.tmp t)
/-- Operation i must come behind j. -/
def dep (ops : Array Oper) (i j : Nat) : Bool := match ops[i]? with
  | some o => o.after.any fun e => Region.binds .any e && e.on == j
  | none => false
/-- How far a region is. -/
structure Rel (ops : Array Oper) (a0 : Act) (w0 : World) (Φ : Nat → (Nat → Value) → List Nat → World → Prop) (listed : Array Bool) (B : Nat → List Nat) (a : Act) (w : World) : Prop where
  sz : listed.size = ops.size
  fr : Fr [] w0 w
  tsz : a.tmps.size = a0.tmps.size
  dfr : a.defers = a0.defers
  same : ∀ t, (∀ j, dstOf ops j ≠ some t) → env a t = env a0 t
  done : ∀ i, listed[i]? = some true → Φ i (env a) (B i) w
  cl : ∀ i, listed[i]? = some true → ∀ j, dep ops i j = true → listed[j]? = some true
  new : ∀ i, listed[i]? = some true → ∀ x ∈ B i, w0.heap.size ≤ x ∧ x < w.heap.size
  apart : ∀ i j, i ≠ j → listed[i]? = some true → listed[j]? = some true → ∀ x ∈ B i, x ∉ B j
section
variable {P : Program} {ops : Array Oper} {Q : Exit → Act → World → Prop} {a0 : Act} {w0 : World} {Φ : Nat → (Nat → Value) → List Nat → World → Prop}
/-- What is asked of each operation. -/
def Mkg (P : Program) (ops : Array Oper) (Q : Exit → Act → World → Prop) (a0 : Act) (w0 : World) (Φ : Nat → (Nat → Value) → List Nat → World → Prop) : Prop :=
  ∀ (i : Nat) (o : Oper), ops[i]? = some o → ∀ (a : Act) (w : World), a.tmps.size = a0.tmps.size → Fr [] w0 w → (∀ t, (∀ j, dstOf ops j ≠ some t) → env a t = env a0 t) → (∀ j, dep ops i j = true → ∃ B, Φ j (env a) B w) →
    o.wp P a w (fun a' w' => ∃ v B, a' = a.put o.dst v ∧ Fr [] w w' ∧ Φ i (env (a.put o.dst v)) B w' ∧ ∀ x ∈ B, w.heap.size ≤ x ∧ x < w'.heap.size) Q
theorem ready_at {md : Region.Mode} {listed : Array Bool} {i : Nat} (h : i ∈ Region.ready md ops listed) : i < ops.size ∧ listed.getD i true = false ∧ ∀ o, ops[i]? = some o → ∀ e ∈ o.after, Region.binds md e = true → listed.getD e.on false = true := by
  unfold Region.ready at h
  rw [List.mem_filter, List.mem_range] at h
  obtain ⟨h1, h2⟩ := h
  simp only [Bool.and_eq_true, Bool.not_eq_true'] at h2
  refine ⟨h1, h2.1, fun o ho e he hb => ?_⟩
  have h3 := h2.2
  rw [ho] at h3
  simp only [Option.map_some, Option.getD_some, Array.all_eq_true_iff_forall_mem] at h3
  have h4 := h3 e he
  rw [hb] at h4
  simpa using h4
theorem ready_all (hlex : ∀ (i : Nat) (o : Oper), ops[i]? = some o → ∀ e ∈ o.after, Region.binds .any e = true → e.on < i) (listed : Array Bool) (hz : listed.size = ops.size) (he : Region.ready .any ops listed = []) : ∀ i, i < ops.size → listed[i]? = some true := by
  intro i
  induction i using Nat.strongRecOn with
  | ind i ih =>
    intro hi
    have hl : i < listed.size := by rw [hz]; exact hi
    rw [Array.getElem?_eq_getElem hl]
    cases hc : listed[i] with
    | true => rfl
    | false =>
      exfalso
      have hm : i ∈ Region.ready .any ops listed := by
        unfold Region.ready
        rw [List.mem_filter, List.mem_range]
        refine ⟨hi, ?_⟩
        rw [Array.getD_eq_getD_getElem?, Array.getElem?_eq_getElem hl, hc, Array.getElem?_eq_getElem hi]
        simp only [Option.getD_some, Bool.not_false, Bool.true_and, Option.map_some, Array.all_eq_true_iff_forall_mem]
        intro e hee
        by_cases hb : Region.binds .any e = true
        · have h1 := hlex i _ (Array.getElem?_eq_getElem hi) e hee hb
          have h2 := ih e.on h1 (by omega)
          rw [Array.getD_eq_getD_getElem?, h2]
          simp
        · simp only [Bool.not_eq_true] at hb
          simp [hb]
      rw [he] at hm
      simp at hm
theorem Rel.go (hN : ∀ i j d, dstOf ops i = some d → dstOf ops j = some d → i = j) (hg : ∀ (i : Nat) (o : Oper), ops[i]? = some o → o.guard = none ∧ ∃ d, o.dst = some d ∧ d < a0.tmps.size) (hΦ : ∀ i ρ ρ' B w w', Fr [] w w' → (∀ t, (dstOf ops i = some t ∨ ∃ j, dep ops i j = true ∧ dstOf ops j = some t) → ρ' t = ρ t) → Φ i ρ B w → Φ i ρ' B w')
    (hs : Mkg P ops Q a0 w0 Φ) (hlex : ∀ (i : Nat) (o : Oper), ops[i]? = some o → ∀ e ∈ o.after, Region.binds .any e = true → e.on < i)
    (hend : ∀ a w (B : Nat → List Nat), Fr [] w0 w → a.tmps.size = a0.tmps.size → a.defers = a0.defers → (∀ t, (∀ j, dstOf ops j ≠ some t) → env a t = env a0 t) → (∀ i, i < ops.size → Φ i (env a) (B i) w) → (∀ i, i < ops.size → ∀ x ∈ B i, w0.heap.size ≤ x ∧ x < w.heap.size) → (∀ i j, i ≠ j → i < ops.size → j < ops.size → ∀ x ∈ B i, x ∉ B j) → Q .normal a w) :
    ∀ (fuel : Nat) (listed : Array Bool) (B : Nat → List Nat) (a : Act) (w : World), Rel ops a0 w0 Φ listed B a w → listed.toList.count false ≤ fuel → wpAny P .any ops Q fuel listed a w
  | 0, listed, B, a, w, h, hf => by
    have hall : ∀ i, i < ops.size → listed[i]? = some true := by
      intro i hi
      have hl : i < listed.size := by rw [h.sz]; exact hi
      have h0 : listed.toList.count false = 0 := by omega
      have := List.count_eq_zero.1 h0
      have hm : listed[i] ∈ listed.toList := by simp
      rw [Array.getElem?_eq_getElem hl]
      cases hc : listed[i] with
      | true => rfl
      | false => rw [hc] at hm; exact absurd hm this
    have he : Region.ready .any ops listed = [] := by
      refine List.eq_nil_iff_forall_not_mem.2 fun i hi => ?_
      obtain ⟨h1, h2, _⟩ := ready_at hi
      have := hall i h1
      rw [Array.getD_eq_getD_getElem?, this] at h2
      simp at h2
    exact ⟨he, hend a w B h.fr h.tsz h.dfr h.same (fun i hi => h.done i (hall i hi)) (fun i hi => h.new i (hall i hi)) (fun i j hij hi hj => h.apart i j hij (hall i hi) (hall j hj))⟩
  | fuel + 1, listed, B, a, w, h, hf => by
    refine ⟨fun he => ?_, fun i hi => ?_⟩
    · have hall := ready_all hlex listed h.sz he
      exact hend a w B h.fr h.tsz h.dfr h.same (fun i hi => h.done i (hall i hi)) (fun i hi => h.new i (hall i hi)) (fun i j hij hi hj => h.apart i j hij (hall i hi) (hall j hj))
    · obtain ⟨h1, h2, h3⟩ := ready_at hi
      have ho : ops[i]? = some ops[i] := Array.getElem?_eq_getElem h1
      obtain ⟨o, hoo⟩ : ∃ o, o = ops[i] := ⟨_, rfl⟩
      rw [← hoo] at ho
      obtain ⟨hg1, d, hd, hdl⟩ := hg i o ho
      have hdi : dstOf ops i = some d := by simp [dstOf, ho, hd]
      have hil : i < listed.size := by rw [h.sz]; exact h1
      have hli : listed[i] = false := by rw [Array.getD_eq_getD_getElem?, Array.getElem?_eq_getElem hil] at h2; simpa using h2
      have hdl2 : ∀ j : Nat, dep ops i j = true → listed[j]? = some true := by
        intro j hj
        simp only [dep, ho] at hj
        rw [Array.any_eq_true] at hj
        obtain ⟨n, hn, he⟩ := hj
        simp only [Bool.and_eq_true, beq_iff_eq] at he
        have h4 := h3 o ho o.after[n] (by simp) he.1
        rw [he.2, Array.getD_eq_getD_getElem?] at h4
        cases hl : listed[j]? with
        | none => rw [hl] at h4; simp at h4
        | some b => rw [hl] at h4; simp at h4; rw [h4]
      unfold wpOp
      rw [ho]
      simp only
      rw [if_pos (by simp [Region.wanted, hg1])]
      refine Or.inl (Oper.wp_mono (K := fun a' w' => ∃ v B, a' = a.put o.dst v ∧ Fr [] w w' ∧ Φ i (env (a.put o.dst v)) B w' ∧ ∀ x ∈ B, w.heap.size ≤ x ∧ x < w'.heap.size) ?_ (hs i o ho a w h.tsz h.fr h.same (fun j hj => ⟨B j, h.done j (hdl2 j hj)⟩)))
      rintro a' w' ⟨v, Bi, rfl, hf', hv, hB⟩
      refine Rel.go hN hg hΦ hs hlex hend fuel _ (fun j => if j = i then Bi else B j) _ w' ?_ ?_
      · have hlist : ∀ j : Nat, (listed.setIfInBounds i true)[j]? = some true → j = i ∨ (j ≠ i ∧ listed[j]? = some true) := by
          intro j hj
          by_cases hji : j = i
          · exact Or.inl hji
          · exact Or.inr ⟨hji, by rw [Array.getElem?_setIfInBounds_ne (fun e => hji e.symm)] at hj; exact hj⟩
        have hlisted : ∀ j : Nat, listed[j]? = some true → (listed.setIfInBounds i true)[j]? = some true := by
          intro j hj
          by_cases hji : i = j
          · subst hji
            simp [hil]
          · rw [Array.getElem?_setIfInBounds_ne hji]; exact hj
        have hput : ∀ t, t ≠ d → env (a.put o.dst v) t = env a t := fun t ht => by
          rw [hd]
          exact Act.eval_put (fun x hx => by cases hx; intro e; cases e; exact ht rfl)
        have hnot : ∀ j : Nat, listed[j]? = some true → j ≠ i := fun j hj e => by
          subst e
          rw [Array.getElem?_eq_getElem hil, hli] at hj
          cases hj
        refine ⟨by simp [h.sz], h.fr.then hf', by rw [hd]; simp [Act.put, h.tsz], by rw [hd]; simp [Act.put, h.dfr], fun t ht => ?_, fun j hl => ?_, fun j hl m hm => ?_, fun j hl x hx => ?_, fun j k hjk hj hk x hx => ?_⟩
        · rw [hput t (fun e => ht i (by rw [hdi, e]))]
          exact h.same t ht
        · rcases hlist j hl with rfl | ⟨hji, hlj⟩
          · rw [if_pos rfl]
            exact hv
          · rw [if_neg hji]
            refine hΦ _ _ _ _ _ _ hf' (fun t ht => hput t (fun e => ?_)) (h.done j hlj)
            rcases ht with ht | ⟨m, hm, ht⟩
            · exact hji (hN j i d (by rw [ht, e]) hdi)
            · exact hnot m (h.cl j hlj m hm) (hN m i d (by rw [ht, e]) hdi)
        · rcases hlist j hl with rfl | ⟨hji, hlj⟩
          · exact hlisted m (hdl2 m hm)
          · exact hlisted m (h.cl j hlj m hm)
        · rcases hlist j hl with rfl | ⟨hji, hlj⟩
          · rw [if_pos rfl] at hx
            exact ⟨Nat.le_trans h.fr.size (hB x hx).1, (hB x hx).2⟩
          · rw [if_neg hji] at hx
            exact ⟨(h.new j hlj x hx).1, Nat.lt_of_lt_of_le (h.new j hlj x hx).2 hf'.size⟩
        · rcases hlist j hj with rfl | ⟨hji, hlj⟩
          · rcases hlist k hk with rfl | ⟨hki, hlk⟩
            · exact absurd rfl hjk
            · rw [if_pos rfl] at hx
              rw [if_neg hki]
              intro hh
              have e1 := (hB x hx).1
              have e2 := (h.new k hlk x hh).2
              omega
          · rw [if_neg hji] at hx
            rcases hlist k hk with rfl | ⟨hki, hlk⟩
            · rw [if_pos rfl]
              intro hh
              have e1 := (hB x hh).1
              have e2 := (h.new j hlj x hx).2
              omega
            · rw [if_neg hki]
              exact h.apart j k hjk hlj hlk x hx
      · have e : (listed.setIfInBounds i true).toList = listed.toList.set i true := by simp
        rw [e, List.count_set (by simpa using hil)]
        have hmem : listed.toList[i]'(by simpa using hil) = false := by simpa using hli
        rw [hmem, if_pos (by rfl), if_neg (by decide)]
        omega
/-- The region. -/
theorem wp_region_made {id : Nat} (hm : P.follows .mixedOrders = true) (hN : ∀ i j d, dstOf ops i = some d → dstOf ops j = some d → i = j) (hg : ∀ (i : Nat) (o : Oper), ops[i]? = some o → o.guard = none ∧ ∃ d, o.dst = some d ∧ d < a0.tmps.size) (hΦ : ∀ i ρ ρ' B w w', Fr [] w w' → (∀ t, (dstOf ops i = some t ∨ ∃ j, dep ops i j = true ∧ dstOf ops j = some t) → ρ' t = ρ t) → Φ i ρ B w → Φ i ρ' B w')
    (hs : Mkg P ops Q a0 w0 Φ) (hlex : ∀ (i : Nat) (o : Oper), ops[i]? = some o → ∀ e ∈ o.after, Region.binds .any e = true → e.on < i)
    (hend : ∀ a w (B : Nat → List Nat), Fr [] w0 w → a.tmps.size = a0.tmps.size → a.defers = a0.defers → (∀ t, (∀ j, dstOf ops j ≠ some t) → env a t = env a0 t) → (∀ i, i < ops.size → Φ i (env a) (B i) w) → (∀ i, i < ops.size → ∀ x ∈ B i, w0.heap.size ≤ x ∧ x < w.heap.size) → (∀ i j, i ≠ j → i < ops.size → j < ops.size → ∀ x ∈ B i, x ∉ B j) → Q .normal a w) :
    (Code.region id ops true).wp P Q a0 w0 := by
  refine wp_region_any hm (Rel.go (w0 := w0) hN hg hΦ hs hlex hend _ _ (fun _ => []) _ _ ⟨by simp, Fr.drew [] w0, rfl, rfl, fun _ _ => rfl, fun i hi => ?_, fun i hi => ?_, fun i hi => ?_, fun i j hij hi => ?_⟩ ?_)
  · exact absurd hi (by rw [Array.getElem?_replicate]; split <;> simp)
  · exact absurd hi (by rw [Array.getElem?_replicate]; split <;> simp)
  · exact absurd hi (by rw [Array.getElem?_replicate]; split <;> simp)
  · exact absurd hi (by rw [Array.getElem?_replicate]; split <;> simp)
  · simp
end
end Go.Proofs.YtaaghcimfcjehaaGreatDoor

/- A region that draws its order and may write memory: what each operation yields, and what the world is once some are done. Plain lemmas. -/
import Derived.Test.YtakbodlicfmkjaaGreatMem
import Derived.Orders
import Derived.Great.Frames
namespace Go.Proofs.YtakbodlicfmkjaaGreat
open Go.ChangeShapes Go.WideShapes Go.ChangeAt Go.RowKit Go.Lib
set_option linter.unusedVariables false
set_option linter.unusedSimpArgs false

def dstOf (ops : Array Oper) (j : Nat) : Option Nat := (ops[j]?).bind (·.dst)
/-- What stands in the slots. -/
def env (a : Act) : Nat → Value := fun t => a.eval (.tmp t)
/-- Operation i must come behind j. -/
def dep (ops : Array Oper) (i j : Nat) : Bool := match ops[i]? with
  | some o => o.after.any fun e => Region.binds .any e && e.on == j
  | none => false
section
variable {ops : Array Oper}
theorem ready_at {md : Region.Mode} {listed : Array Bool} {i : Nat} (h : i ∈ Region.ready md ops listed) : i < ops.size ∧ listed.getD i true = false ∧ ∀ o, ops[i]? = some o → ∀ e ∈ o.after, Region.binds md e = true → listed.getD e.on false = true := by
  unfold Region.ready at h
  rw [List.mem_filter, List.mem_range] at h
  obtain ⟨h1, h2⟩ := h
  simp only [Bool.and_eq_true, Bool.not_eq_true'] at h2
  refine ⟨h1, h2.1, fun o ho e he hb => ?_⟩
  have h3 := h2.2
  rw [ho] at h3
  simp only [Option.map_some, Option.getD_some, Array.all_eq_true_iff_forall_mem] at h3
  have h4 := h3 e he
  rw [hb] at h4
  simpa using h4
theorem ready_all (hlex : ∀ (i : Nat) (o : Oper), ops[i]? = some o → ∀ e ∈ o.after, Region.binds .any e = true → e.on < i) (listed : Array Bool) (hz : listed.size = ops.size) (he : Region.ready .any ops listed = []) : ∀ i, i < ops.size → listed[i]? = some true := by
  intro i
  induction i using Nat.strongRecOn with
  | ind i ih =>
    intro hi
    have hl : i < listed.size := by rw [hz]; exact hi
    rw [Array.getElem?_eq_getElem hl]
    cases hc : listed[i] with
    | true => rfl
    | false =>
      exfalso
      have hm : i ∈ Region.ready .any ops listed := by
        unfold Region.ready
        rw [List.mem_filter, List.mem_range]
        refine ⟨hi, ?_⟩
        rw [Array.getD_eq_getD_getElem?, Array.getElem?_eq_getElem hl, hc, Array.getElem?_eq_getElem hi]
        simp only [Option.getD_some, Bool.not_false, Bool.true_and, Option.map_some, Array.all_eq_true_iff_forall_mem]
        intro e hee
        by_cases hb : Region.binds .any e = true
        · have h1 := hlex i _ (Array.getElem?_eq_getElem hi) e hee hb
          have h2 := ih e.on h1 (by omega)
          rw [Array.getD_eq_getD_getElem?, h2]
          simp
        · simp only [Bool.not_eq_true] at hb
          simp [hb]
      rw [he] at hm
      simp at hm
end
/-- One more is done. -/
def updB (L : Nat → Bool) (i : Nat) : Nat → Bool := fun j => if j = i then true else L j
theorem updB_same (L : Nat → Bool) (i : Nat) : updB L i i = true := if_pos rfl
theorem updB_ne (L : Nat → Bool) {i j : Nat} (h : j ≠ i) : updB L i j = L j := if_neg h
/-- Slots with their values, put one behind the other. -/
def puts (a : Act) : List (Nat × Value) → Act
  | [] => a
  | p :: r => puts (a.put (some p.1) p.2) r
theorem puts_size (a : Act) : ∀ l : List (Nat × Value), (puts a l).tmps.size = a.tmps.size
  | [] => rfl
  | p :: r => by
    rw [puts, puts_size _ r]
    simp [Act.put]
theorem puts_defers (a : Act) : ∀ l : List (Nat × Value), (puts a l).defers = a.defers
  | [] => rfl
  | p :: r => by
    rw [puts, puts_defers _ r]
    rfl
theorem env_put_ne {a : Act} {d j : Nat} {v : Value} (h : d ≠ j) : env (a.put (some d) v) j = env a j := Act.eval_put_ne a d j v h
theorem env_put_same {a : Act} {d : Nat} {v : Value} (h : d < a.tmps.size) : env (a.put (some d) v) d = v := Act.eval_put_same a d v h
theorem puts_other (a : Act) : ∀ (l : List (Nat × Value)) (t : Nat), (∀ p ∈ l, p.1 ≠ t) → env (puts a l) t = env a t
  | [], _, _ => rfl
  | p :: r, t, h => by
    rw [puts, puts_other _ r t (fun q hq => h q (List.mem_cons_of_mem _ hq))]
    exact env_put_ne (h p List.mem_cons_self)
theorem puts_at (a : Act) : ∀ (l : List (Nat × Value)) (d : Nat) (v : Value), (l.map (·.1)).Nodup → (d, v) ∈ l → d < a.tmps.size → env (puts a l) d = v
  | [], _, _, _, h, _ => by cases h
  | p :: r, d, v, hn, h, hd => by
    simp only [List.map_cons, List.nodup_cons] at hn
    rcases List.mem_cons.1 h with e | e
    · subst e
      rw [puts, puts_other _ r d (fun q hq e => hn.1 (List.mem_map.2 ⟨q, hq, e⟩))]
      exact env_put_same hd
    · rw [puts]
      exact puts_at _ r d v hn.2 e (by simpa [Act.put] using hd)
theorem act_ext {a b : Act} (h1 : a.tmps.size = b.tmps.size) (h2 : a.defers = b.defers) (h : ∀ t, t < a.tmps.size → env a t = env b t) : a = b := by
  obtain ⟨at_, ad⟩ := a
  obtain ⟨bt, bd⟩ := b
  simp only at h1 h2
  subst h2
  have : at_ = bt := by
    refine Array.ext h1 fun i hi hj => ?_
    have := h i hi
    simp only [env, Act.eval] at this
    simpa [Array.getD, hi, hj] using this
  rw [this]
/-- How far a region is. -/
structure Hst (ops : Array Oper) (a0 : Act) {X : Type} (val : X → Nat → Value) (W : X → (Nat → Bool) → World → Prop) (listed : Array Bool) (x : X) (a : Act) (w : World) : Prop where
  sz : listed.size = ops.size
  tsz : a.tmps.size = a0.tmps.size
  dfr : a.defers = a0.defers
  same : ∀ t, (∀ j, dstOf ops j ≠ some t) → env a t = env a0 t
  done : ∀ i d, listed[i]? = some true → dstOf ops i = some d → env a d = val x i
  cl : ∀ i, listed[i]? = some true → ∀ j, dep ops i j = true → listed[j]? = some true
  wd : W x (fun i => listed.getD i false) w
section
variable {P : Program} {ops : Array Oper} {Q : Exit → Act → World → Prop} {a0 : Act} {w0 : World} {X : Type} {val : X → Nat → Value} {W : X → (Nat → Bool) → World → Prop}
/-- What is asked of each operation. -/
def Mst (P : Program) (ops : Array Oper) (Q : Exit → Act → World → Prop) (a0 : Act) {X : Type} (val : X → Nat → Value) (W : X → (Nat → Bool) → World → Prop) : Prop :=
  ∀ (i : Nat) (o : Oper), ops[i]? = some o → ∀ (x : X) (L : Nat → Bool) (a : Act) (w : World), L i = false → (∀ j, dep ops i j = true → L j = true) → (∀ j k, L j = true → dep ops j k = true → L k = true) → (∀ j d, dep ops i j = true → dstOf ops j = some d → env a d = val x j) → (∀ t, (∀ j, dstOf ops j ≠ some t) → env a t = env a0 t) → a.tmps.size = a0.tmps.size → W x L w →
    o.wp P a w (fun a' w' => ∃ x', a' = a.put o.dst (val x' i) ∧ (∀ j, L j = true → val x' j = val x j) ∧ W x' (updB L i) w') Q
theorem listed_upd {listed : Array Bool} {i : Nat} (h : i < listed.size) : (fun j => (listed.setIfInBounds i true).getD j false) = updB (fun j => listed.getD j false) i := by
  funext j
  unfold updB
  by_cases e : j = i
  · subst e
    rw [if_pos rfl, Array.getD_eq_getD_getElem?, Array.getElem?_setIfInBounds_self_of_lt h]
    rfl
  · rw [if_neg e, Array.getD_eq_getD_getElem?, Array.getElem?_setIfInBounds_ne (fun q => e q.symm)]
    show _ = listed.getD j false
    rw [Array.getD_eq_getD_getElem?]
theorem getD_some {listed : Array Bool} {j : Nat} : listed.getD j false = true ↔ listed[j]? = some true := by
  rw [Array.getD_eq_getD_getElem?]
  cases listed[j]? with
  | none => simp
  | some b => simp
theorem Hst.go (hN : ∀ i j d, dstOf ops i = some d → dstOf ops j = some d → i = j) (hg : ∀ (i : Nat) (o : Oper), ops[i]? = some o → o.guard = none ∧ ∀ d, o.dst = some d → d < a0.tmps.size)
    (hs : Mst P ops Q a0 val W) (hlex : ∀ (i : Nat) (o : Oper), ops[i]? = some o → ∀ e ∈ o.after, Region.binds .any e = true → e.on < i)
    (hend : ∀ x L a w, (∀ i, i < ops.size → L i = true) → a.tmps.size = a0.tmps.size → a.defers = a0.defers → (∀ t, (∀ j, dstOf ops j ≠ some t) → env a t = env a0 t) → (∀ i d, dstOf ops i = some d → env a d = val x i) → W x L w → Q .normal a w) :
    ∀ (fuel : Nat) (listed : Array Bool) (x : X) (a : Act) (w : World), Hst ops a0 val W listed x a w → listed.toList.count false ≤ fuel → wpAny P .any ops Q fuel listed a w := by
  have hfin : ∀ (listed : Array Bool) (x : X) (a : Act) (w : World), Hst ops a0 val W listed x a w → (∀ i, i < ops.size → listed[i]? = some true) → Q .normal a w := fun listed x a w h hall =>
    hend x _ a w (fun i hi => getD_some.2 (hall i hi)) h.tsz h.dfr h.same (fun i d hd => h.done i d (hall i (by
      unfold dstOf at hd
      cases ho : ops[i]? with
      | none => rw [ho] at hd; cases hd
      | some o => exact (Array.getElem?_eq_some_iff.1 ho).1)) hd) h.wd
  intro fuel
  induction fuel with
  | zero =>
    intro listed x a w h hf
    have hall : ∀ i, i < ops.size → listed[i]? = some true := by
      intro i hi
      have hl : i < listed.size := by rw [h.sz]; exact hi
      have h0 : listed.toList.count false = 0 := by omega
      have := List.count_eq_zero.1 h0
      have hm : listed[i] ∈ listed.toList := by simp
      rw [Array.getElem?_eq_getElem hl]
      cases hc : listed[i] with
      | true => rfl
      | false => rw [hc] at hm; exact absurd hm this
    have he : Region.ready .any ops listed = [] := by
      refine List.eq_nil_iff_forall_not_mem.2 fun i hi => ?_
      obtain ⟨h1, h2, _⟩ := ready_at hi
      have := hall i h1
      rw [Array.getD_eq_getD_getElem?, this] at h2
      simp at h2
    exact ⟨he, hfin listed x a w h hall⟩
  | succ fuel ih =>
    intro listed x a w h hf
    refine ⟨fun he => hfin listed x a w h (ready_all hlex listed h.sz he), fun i hi => ?_⟩
    obtain ⟨h1, h2, h3⟩ := ready_at hi
    have ho : ops[i]? = some ops[i] := Array.getElem?_eq_getElem h1
    obtain ⟨o, hoo⟩ : ∃ o, o = ops[i] := ⟨_, rfl⟩
    rw [← hoo] at ho
    obtain ⟨hg1, hdl⟩ := hg i o ho
    have hdi : dstOf ops i = o.dst := by simp [dstOf, ho]
    have hil : i < listed.size := by rw [h.sz]; exact h1
    have hli : listed[i] = false := by rw [Array.getD_eq_getD_getElem?, Array.getElem?_eq_getElem hil] at h2; simpa using h2
    have hlf : listed.getD i false = false := by rw [Array.getD_eq_getD_getElem?, Array.getElem?_eq_getElem hil, hli]; rfl
    have hdl2 : ∀ j : Nat, dep ops i j = true → listed[j]? = some true := by
      intro j hj
      simp only [dep, ho] at hj
      rw [Array.any_eq_true] at hj
      obtain ⟨n, hn, he⟩ := hj
      simp only [Bool.and_eq_true, beq_iff_eq] at he
      have h4 := h3 o ho o.after[n] (by simp) he.1
      rw [he.2, Array.getD_eq_getD_getElem?] at h4
      cases hl : listed[j]? with
      | none => rw [hl] at h4; simp at h4
      | some b => rw [hl] at h4; simp at h4; rw [h4]
    unfold wpOp
    rw [ho]
    simp only
    rw [if_pos (by simp [Region.wanted, hg1])]
    refine Or.inl (Oper.wp_mono (K := fun a' w' => ∃ x', a' = a.put o.dst (val x' i) ∧ (∀ j, listed.getD j false = true → val x' j = val x j) ∧ W x' (updB (fun j => listed.getD j false) i) w') ?_ (hs i o ho x _ a w hlf (fun j hj => getD_some.2 (hdl2 j hj)) (fun j k hj hk => getD_some.2 (h.cl j (getD_some.1 hj) k hk)) (fun j d hj hd => h.done j d (hdl2 j hj) hd) h.same h.tsz h.wd))
    rintro a' w' ⟨x', rfl, hv, hW⟩
    have hlist : ∀ j : Nat, (listed.setIfInBounds i true)[j]? = some true → j = i ∨ (j ≠ i ∧ listed[j]? = some true) := by
      intro j hj
      by_cases hji : j = i
      · exact Or.inl hji
      · exact Or.inr ⟨hji, by rw [Array.getElem?_setIfInBounds_ne (fun e => hji e.symm)] at hj; exact hj⟩
    have hlisted : ∀ j : Nat, listed[j]? = some true → (listed.setIfInBounds i true)[j]? = some true := by
      intro j hj
      by_cases hji : i = j
      · subst hji
        simp [hil]
      · rw [Array.getElem?_setIfInBounds_ne hji]; exact hj
    have hput : ∀ t, o.dst ≠ some t → env (a.put o.dst (val x' i)) t = env a t := fun t ht => by
      cases hd : o.dst with
      | none => rfl
      | some d => exact env_put_ne (fun e => ht (by rw [hd, e]))
    refine ih _ x' _ w' ⟨by simpa using h.sz, ?_, ?_, fun t ht => ?_, fun j d hj hd => ?_, fun j hj k hk => ?_, ?_⟩ ?_
    · rw [← h.tsz]
      cases o.dst <;> simp [Act.put]
    · rw [← h.dfr]
      cases o.dst <;> rfl
    · rw [hput t (by rw [← hdi]; exact ht i)]
      exact h.same t ht
    · rcases hlist j hj with rfl | ⟨hji, hj'⟩
      · rw [hdi] at hd
        rw [hd]
        exact env_put_same (by rw [h.tsz]; exact hdl d hd)
      · rw [hput d (fun e => hji (hN j i d hd (by rw [hdi]; exact e))), h.done j d hj' hd, hv j (getD_some.2 hj')]
    · rcases hlist j hj with rfl | ⟨hji, hj'⟩
      · exact hlisted k (hdl2 k hk)
      · exact hlisted k (h.cl j hj' k hk)
    · rw [listed_upd hil]
      exact hW
    · have e : (listed.setIfInBounds i true).toList = listed.toList.set i true := by simp
      rw [e, List.count_set (by simpa using hil)]
      have hmem : listed.toList[i]'(by simpa using hil) = false := by simpa using hli
      rw [hmem, if_pos (by rfl), if_neg (by decide)]
      omega
theorem wp_region_hst {id : Nat} (D : X → List (Nat × Value)) (x0 : X) (hm : P.follows .mixedOrders = true) (hN : ∀ i j d, dstOf ops i = some d → dstOf ops j = some d → i = j) (hg : ∀ (i : Nat) (o : Oper), ops[i]? = some o → o.guard = none ∧ ∀ d, o.dst = some d → d < a0.tmps.size)
    (hs : Mst P ops Q a0 val W) (hlex : ∀ (i : Nat) (o : Oper), ops[i]? = some o → ∀ e ∈ o.after, Region.binds .any e = true → e.on < i)
    (hD : ∀ x, ((D x).map (·.1)).Nodup ∧ (∀ p ∈ D x, ∃ i, dstOf ops i = some p.1 ∧ p.2 = val x i) ∧ ∀ i d, dstOf ops i = some d → (d, val x i) ∈ D x)
    (h0 : W x0 (fun _ => false) w0.drew)
    (hend : ∀ x L w, (∀ i, i < ops.size → L i = true) → W x L w → Q .normal (puts a0 (D x)) w) :
    (Code.region id ops true).wp P Q a0 w0 := by
  refine wp_region_any hm (Hst.go hN hg hs hlex (fun x L a w hL hz hd hsame hv hW => ?_) _ _ x0 _ _ ⟨by simp, rfl, rfl, fun _ _ => rfl, fun i d hi => ?_, fun i hi => ?_, ?_⟩ ?_)
  · have e : a = puts a0 (D x) := by
      refine act_ext (by rw [puts_size]; exact hz) (by rw [puts_defers]; exact hd) fun t ht => ?_
      by_cases h : ∃ i, dstOf ops i = some t
      · obtain ⟨i, hi⟩ := h
        rw [hv i t hi, puts_at a0 (D x) t (val x i) (hD x).1 ((hD x).2.2 i t hi) (by rw [← hz]; exact ht)]
      · have h' : ∀ j, dstOf ops j ≠ some t := fun j hj => h ⟨j, hj⟩
        rw [hsame t h', puts_other a0 (D x) t (fun p hp e => by
          obtain ⟨i, hi, _⟩ := (hD x).2.1 p hp
          rw [e] at hi
          exact h' i hi)]
    rw [e]
    exact hend x L w hL hW
  · exact absurd hi (by rw [Array.getElem?_replicate]; split <;> simp)
  · exact absurd hi (by rw [Array.getElem?_replicate]; split <;> simp)
  · have : (fun i => (Array.replicate ops.size false).getD i false) = fun _ => false := by
      funext i
      rw [Array.getD_eq_getD_getElem?, Array.getElem?_replicate]
      split <;> rfl
    rw [this]
    exact h0
  · simp
end
/-- An operation that leaves the world as it is. -/
theorem quiet_hst {P : Program} {o : Oper} {i : Nat} {X : Type} {val : X → Nat → Value} {W : X → (Nat → Bool) → World → Prop} {Q : Exit → Act → World → Prop} {x : X} {L : Nat → Bool} {a : Act} {w : World} (hr : (execOp a.eval o).run P w = .ok (.value (val x i)) w) (hW : W x (updB L i) w) : o.wp P a w (fun a' w' => ∃ x', a' = a.put o.dst (val x' i) ∧ (∀ j, L j = true → val x' j = val x j) ∧ W x' (updB L i) w') Q := by
  unfold Oper.wp
  rw [hr]
  exact ⟨x, rfl, fun _ _ => rfl, hW⟩
end Go.Proofs.YtakbodlicfmkjaaGreat

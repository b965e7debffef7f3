/- A region that draws its order and whose operations only make memory: each tells of its value what stays so; what each made lies apart. Plain lemmas. -/
import Derived.Test.YtakbodlicfmkjaaGreatMem
import Derived.Orders
namespace Go.Proofs.YtakbodlicfmkjaaGreat.Mk
open Go.ChangeShapes Go.WideShapes Go.ChangeAt Go.RowKit Go.Lib
set_option linter.unusedVariables false
set_option linter.unusedSimpArgs false

def dstOf (ops : Array Oper) (j : Nat) : Option Nat := (ops[j]?).bind (·.dst)
/-- What stands in the slots. -/
def env (a : Act) : Nat → Value := fun t => a.eval (.tmp t)
/-- Operation i must come behind j. -/
def dep (ops : Array Oper) (i j : Nat) : Bool := match ops[i]? with
  | some o => o.after.any fun e => Region.binds .any e && e.on == j
  | none => false
/-- How far a region is. -/
structure RelM (ops : Array Oper) (a0 : Act) (w0 : World) (Φ : Nat → (Nat → Value) → List Nat → World → Prop) (listed : Array Bool) (B : Nat → List Nat) (a : Act) (w : World) : Prop where
  sz : listed.size = ops.size
  fr : Fr [] w0 w
  tsz : a.tmps.size = a0.tmps.size
  dfr : a.defers = a0.defers
  same : ∀ t, (∀ j, dstOf ops j ≠ some t) → env a t = env a0 t
  done : ∀ i, listed[i]? = some true → Φ i (env a) (B i) w
  cl : ∀ i, listed[i]? = some true → ∀ j, dep ops i j = true → listed[j]? = some true
  new : ∀ i, listed[i]? = some true → ∀ x ∈ B i, w0.heap.size ≤ x ∧ x < w.heap.size
  apart : ∀ i j, i ≠ j → listed[i]? = some true → listed[j]? = some true → ∀ x ∈ B i, x ∉ B j
section
variable {P : Program} {ops : Array Oper} {Q : Exit → Act → World → Prop} {a0 : Act} {w0 : World} {Φ : Nat → (Nat → Value) → List Nat → World → Prop}
/-- What is asked of each operation. -/
def Mkg (P : Program) (ops : Array Oper) (Q : Exit → Act → World → Prop) (a0 : Act) (w0 : World) (Φ : Nat → (Nat → Value) → List Nat → World → Prop) : Prop :=
  ∀ (i : Nat) (o : Oper), ops[i]? = some o → ∀ (a : Act) (w : World), a.tmps.size = a0.tmps.size → Fr [] w0 w → (∀ t, (∀ j, dstOf ops j ≠ some t) → env a t = env a0 t) → (∀ j, dep ops i j = true → ∃ B, Φ j (env a) B w) →
    o.wp P a w (fun a' w' => ∃ v B, a' = a.put o.dst v ∧ Fr [] w w' ∧ Φ i (env (a.put o.dst v)) B w' ∧ ∀ x ∈ B, w.heap.size ≤ x ∧ x < w'.heap.size) Q
theorem ready_at {md : Region.Mode} {listed : Array Bool} {i : Nat} (h : i ∈ Region.ready md ops listed) : i < ops.size ∧ listed.getD i true = false ∧ ∀ o, ops[i]? = some o → ∀ e ∈ o.after, Region.binds md e = true → listed.getD e.on false = true := by
  unfold Region.ready at h
  rw [List.mem_filter, List.mem_range] at h
  obtain ⟨h1, h2⟩ := h
  simp only [Bool.and_eq_true, Bool.not_eq_true'] at h2
  refine ⟨h1, h2.1, fun o ho e he hb => ?_⟩
  have h3 := h2.2
  rw [ho] at h3
  simp only [Option.map_some, Option.getD_some, Array.all_eq_true_iff_forall_mem] at h3
  have h4 := h3 e he
  rw [hb] at h4
  simpa using h4
theorem ready_all (hlex : ∀ (i : Nat) (o : Oper), ops[i]? = some o → ∀ e ∈ o.after, Region.binds .any e = true → e.on < i) (listed : Array Bool) (hz : listed.size = ops.size) (he : Region.ready .any ops listed = []) : ∀ i, i < ops.size → listed[i]? = some true := by
  intro i
  induction i using Nat.strongRecOn with
  | ind i ih =>
    intro hi
    have hl : i < listed.size := by rw [hz]; exact hi
    rw [Array.getElem?_eq_getElem hl]
    cases hc : listed[i] with
    | true => rfl
    | false =>
      exfalso
      have hm : i ∈ Region.ready .any ops listed := by
        unfold Region.ready
        rw [List.mem_filter, List.mem_range]
        refine ⟨hi, ?_⟩
        rw [Array.getD_eq_getD_getElem?, Array.getElem?_eq_getElem hl, hc, Array.getElem?_eq_getElem hi]
        simp only [Option.getD_some, Bool.not_false, Bool.true_and, Option.map_some, Array.all_eq_true_iff_forall_mem]
        intro e hee
        by_cases hb : Region.binds .any e = true
        · have h1 := hlex i _ (Array.getElem?_eq_getElem hi) e hee hb
          have h2 := ih e.on h1 (by omega)
          rw [Array.getD_eq_getD_getElem?, h2]
          simp
        · simp only [Bool.not_eq_true] at hb
          simp [hb]
      rw [he] at hm
      simp at hm
theorem RelM.go (hN : ∀ i j d, dstOf ops i = some d → dstOf ops j = some d → i = j) (hg : ∀ (i : Nat) (o : Oper), ops[i]? = some o → o.guard = none ∧ ∃ d, o.dst = some d ∧ d < a0.tmps.size) (hΦ : ∀ i ρ ρ' B w w', Fr [] w w' → (∀ t, (dstOf ops i = some t ∨ ∃ j, dep ops i j = true ∧ dstOf ops j = some t) → ρ' t = ρ t) → Φ i ρ B w → Φ i ρ' B w')
    (hs : Mkg P ops Q a0 w0 Φ) (hlex : ∀ (i : Nat) (o : Oper), ops[i]? = some o → ∀ e ∈ o.after, Region.binds .any e = true → e.on < i)
    (hend : ∀ a w (B : Nat → List Nat), Fr [] w0 w → a.tmps.size = a0.tmps.size → a.defers = a0.defers → (∀ t, (∀ j, dstOf ops j ≠ some t) → env a t = env a0 t) → (∀ i, i < ops.size → Φ i (env a) (B i) w) → (∀ i, i < ops.size → ∀ x ∈ B i, w0.heap.size ≤ x ∧ x < w.heap.size) → (∀ i j, i ≠ j → i < ops.size → j < ops.size → ∀ x ∈ B i, x ∉ B j) → Q .normal a w) :
    ∀ (fuel : Nat) (listed : Array Bool) (B : Nat → List Nat) (a : Act) (w : World), RelM ops a0 w0 Φ listed B a w → listed.toList.count false ≤ fuel → wpAny P .any ops Q fuel listed a w
  | 0, listed, B, a, w, h, hf => by
    have hall : ∀ i, i < ops.size → listed[i]? = some true := by
      intro i hi
      have hl : i < listed.size := by rw [h.sz]; exact hi
      have h0 : listed.toList.count false = 0 := by omega
      have := List.count_eq_zero.1 h0
      have hm : listed[i] ∈ listed.toList := by simp
      rw [Array.getElem?_eq_getElem hl]
      cases hc : listed[i] with
      | true => rfl
      | false => rw [hc] at hm; exact absurd hm this
    have he : Region.ready .any ops listed = [] := by
      refine List.eq_nil_iff_forall_not_mem.2 fun i hi => ?_
      obtain ⟨h1, h2, _⟩ := ready_at hi
      have := hall i h1
      rw [Array.getD_eq_getD_getElem?, this] at h2
      simp at h2
    exact ⟨he, hend a w B h.fr h.tsz h.dfr h.same (fun i hi => h.done i (hall i hi)) (fun i hi => h.new i (hall i hi)) (fun i j hij hi hj => h.apart i j hij (hall i hi) (hall j hj))⟩
  | fuel + 1, listed, B, a, w, h, hf => by
    refine ⟨fun he => ?_, fun i hi => ?_⟩
    · have hall := ready_all hlex listed h.sz he
      exact hend a w B h.fr h.tsz h.dfr h.same (fun i hi => h.done i (hall i hi)) (fun i hi => h.new i (hall i hi)) (fun i j hij hi hj => h.apart i j hij (hall i hi) (hall j hj))
    · obtain ⟨h1, h2, h3⟩ := ready_at hi
      have ho : ops[i]? = some ops[i] := Array.getElem?_eq_getElem h1
      obtain ⟨o, hoo⟩ : ∃ o, o = ops[i] := ⟨_, rfl⟩
      rw [← hoo] at ho
      obtain ⟨hg1, d, hd, hdl⟩ := hg i o ho
      have hdi : dstOf ops i = some d := by simp [dstOf, ho, hd]
      have hil : i < listed.size := by rw [h.sz]; exact h1
      have hli : listed[i] = false := by rw [Array.getD_eq_getD_getElem?, Array.getElem?_eq_getElem hil] at h2; simpa using h2
      have hdl2 : ∀ j : Nat, dep ops i j = true → listed[j]? = some true := by
        intro j hj
        simp only [dep, ho] at hj
        rw [Array.any_eq_true] at hj
        obtain ⟨n, hn, he⟩ := hj
        simp only [Bool.and_eq_true, beq_iff_eq] at he
        have h4 := h3 o ho o.after[n] (by simp) he.1
        rw [he.2, Array.getD_eq_getD_getElem?] at h4
        cases hl : listed[j]? with
        | none => rw [hl] at h4; simp at h4
        | some b => rw [hl] at h4; simp at h4; rw [h4]
      unfold wpOp
      rw [ho]
      simp only
      rw [if_pos (by simp [Region.wanted, hg1])]
      refine Or.inl (Oper.wp_mono (K := fun a' w' => ∃ v B, a' = a.put o.dst v ∧ Fr [] w w' ∧ Φ i (env (a.put o.dst v)) B w' ∧ ∀ x ∈ B, w.heap.size ≤ x ∧ x < w'.heap.size) ?_ (hs i o ho a w h.tsz h.fr h.same (fun j hj => ⟨B j, h.done j (hdl2 j hj)⟩)))
      rintro a' w' ⟨v, Bi, rfl, hf', hv, hB⟩
      refine RelM.go hN hg hΦ hs hlex hend fuel _ (fun j => if j = i then Bi else B j) _ w' ?_ ?_
      · have hlist : ∀ j : Nat, (listed.setIfInBounds i true)[j]? = some true → j = i ∨ (j ≠ i ∧ listed[j]? = some true) := by
          intro j hj
          by_cases hji : j = i
          · exact Or.inl hji
          · exact Or.inr ⟨hji, by rw [Array.getElem?_setIfInBounds_ne (fun e => hji e.symm)] at hj; exact hj⟩
        have hlisted : ∀ j : Nat, listed[j]? = some true → (listed.setIfInBounds i true)[j]? = some true := by
          intro j hj
          by_cases hji : i = j
          · subst hji
            simp [hil]
          · rw [Array.getElem?_setIfInBounds_ne hji]; exact hj
        have hput : ∀ t, t ≠ d → env (a.put o.dst v) t = env a t := fun t ht => by
          rw [hd]
          exact Act.eval_put (fun x hx => by cases hx; intro e; cases e; exact ht rfl)
        have hnot : ∀ j : Nat, listed[j]? = some true → j ≠ i := fun j hj e => by
          subst e
          rw [Array.getElem?_eq_getElem hil, hli] at hj
          cases hj
        refine ⟨by simp [h.sz], h.fr.then hf', by rw [hd]; simp [Act.put, h.tsz], by rw [hd]; simp [Act.put, h.dfr], fun t ht => ?_, fun j hl => ?_, fun j hl m hm => ?_, fun j hl x hx => ?_, fun j k hjk hj hk x hx => ?_⟩
        · rw [hput t (fun e => ht i (by rw [hdi, e]))]
          exact h.same t ht
        · rcases hlist j hl with rfl | ⟨hji, hlj⟩
          · rw [if_pos rfl]
            exact hv
          · rw [if_neg hji]
            refine hΦ _ _ _ _ _ _ hf' (fun t ht => hput t (fun e => ?_)) (h.done j hlj)
            rcases ht with ht | ⟨m, hm, ht⟩
            · exact hji (hN j i d (by rw [ht, e]) hdi)
            · exact hnot m (h.cl j hlj m hm) (hN m i d (by rw [ht, e]) hdi)
        · rcases hlist j hl with rfl | ⟨hji, hlj⟩
          · exact hlisted m (hdl2 m hm)
          · exact hlisted m (h.cl j hlj m hm)
        · rcases hlist j hl with rfl | ⟨hji, hlj⟩
          · rw [if_pos rfl] at hx
            exact ⟨Nat.le_trans h.fr.size (hB x hx).1, (hB x hx).2⟩
          · rw [if_neg hji] at hx
            exact ⟨(h.new j hlj x hx).1, Nat.lt_of_lt_of_le (h.new j hlj x hx).2 hf'.size⟩
        · rcases hlist j hj with rfl | ⟨hji, hlj⟩
          · rcases hlist k hk with rfl | ⟨hki, hlk⟩
            · exact absurd rfl hjk
            · rw [if_pos rfl] at hx
              rw [if_neg hki]
              intro hh
              have e1 := (hB x hx).1
              have e2 := (h.new k hlk x hh).2
              omega
          · rw [if_neg hji] at hx
            rcases hlist k hk with rfl | ⟨hki, hlk⟩
            · rw [if_pos rfl]
              intro hh
              have e1 := (hB x hh).1
              have e2 := (h.new j hlj x hx).2
              omega
            · rw [if_neg hki]
              exact h.apart j k hjk hlj hlk x hx
      · have e : (listed.setIfInBounds i true).toList = listed.toList.set i true := by simp
        rw [e, List.count_set (by simpa using hil)]
        have hmem : listed.toList[i]'(by simpa using hil) = false := by simpa using hli
        rw [hmem, if_pos (by rfl), if_neg (by decide)]
        omega
/-- The region. -/
theorem wp_region_made {id : Nat} (hm : P.follows .mixedOrders = true) (hN : ∀ i j d, dstOf ops i = some d → dstOf ops j = some d → i = j) (hg : ∀ (i : Nat) (o : Oper), ops[i]? = some o → o.guard = none ∧ ∃ d, o.dst = some d ∧ d < a0.tmps.size) (hΦ : ∀ i ρ ρ' B w w', Fr [] w w' → (∀ t, (dstOf ops i = some t ∨ ∃ j, dep ops i j = true ∧ dstOf ops j = some t) → ρ' t = ρ t) → Φ i ρ B w → Φ i ρ' B w')
    (hs : Mkg P ops Q a0 w0 Φ) (hlex : ∀ (i : Nat) (o : Oper), ops[i]? = some o → ∀ e ∈ o.after, Region.binds .any e = true → e.on < i)
    (hend : ∀ a w (B : Nat → List Nat), Fr [] w0 w → a.tmps.size = a0.tmps.size → a.defers = a0.defers → (∀ t, (∀ j, dstOf ops j ≠ some t) → env a t = env a0 t) → (∀ i, i < ops.size → Φ i (env a) (B i) w) → (∀ i, i < ops.size → ∀ x ∈ B i, w0.heap.size ≤ x ∧ x < w.heap.size) → (∀ i j, i ≠ j → i < ops.size → j < ops.size → ∀ x ∈ B i, x ∉ B j) → Q .normal a w) :
    (Code.region id ops true).wp P Q a0 w0 := by
  refine wp_region_any hm (RelM.go (w0 := w0) hN hg hΦ hs hlex hend _ _ (fun _ => []) _ _ ⟨by simp, Fr.drew [] w0, rfl, rfl, fun _ _ => rfl, fun i hi => ?_, fun i hi => ?_, fun i hi => ?_, fun i j hij hi => ?_⟩ ?_)
  · exact absurd hi (by rw [Array.getElem?_replicate]; split <;> simp)
  · exact absurd hi (by rw [Array.getElem?_replicate]; split <;> simp)
  · exact absurd hi (by rw [Array.getElem?_replicate]; split <;> simp)
  · exact absurd hi (by rw [Array.getElem?_replicate]; split <;> simp)
  · simp
end
end Go.Proofs.YtakbodlicfmkjaaGreat.Mk

/- Texts of this claim laid together, one behind the other: contracts and plain lemmas; conditions as each names them. -/
import Derived.Test.YtaaghcimfcjehaaGreatDoorGp26
import Derived.Orders
import Derived.Test.YtaaghcimfcjehaaGreatDoorGp12
import Derived.Deep.RegionLaw
import Derived.Deep.RegionWith
import Derived.Deep.RegionHeld3
import Derived.Deep.CutRange
/- A region that draws its order and whose operations only make memory: each tells of its value what stays so; what each made lies apart. Plain lemmas. -/
namespace Go.Proofs.YtaaghcimfcjehaaGreatDoor
open Go.ChangeShapes Go.WideShapes Go.ChangeAt Go.RowKit Go.Lib
set_option linter.unusedVariables false
set_option linter.unusedSimpArgs false

def dstOf (ops : Array Oper) (j : Nat) : Option Nat := (ops[j]?).bind (·.dst)
/-- What stands in the slots. -/
def env (a : Act) : Nat → Value := fun t => a.eval (.tmp t)
/-- Operation i must come behind j. -/
def dep (ops : Array Oper) (i j : Nat) : Bool := match ops[i]? with
  | some o => o.after.any fun e => Region.binds .any e && e.on == j
  | none => false
/-- How far a region is. -/
structure Rel (ops : Array Oper) (a0 : Act) (w0 : World) (Φ : Nat → (Nat → Value) → List Nat → World → Prop) (listed : Array Bool) (B : Nat → List Nat) (a : Act) (w : World) : Prop where
  sz : listed.size = ops.size
  fr : Fr [] w0 w
  tsz : a.tmps.size = a0.tmps.size
  dfr : a.defers = a0.defers
  same : ∀ t, (∀ j, dstOf ops j ≠ some t) → env a t = env a0 t
  done : ∀ i, listed[i]? = some true → Φ i (env a) (B i) w
  cl : ∀ i, listed[i]? = some true → ∀ j, dep ops i j = true → listed[j]? = some true
  new : ∀ i, listed[i]? = some true → ∀ x ∈ B i, w0.heap.size ≤ x ∧ x < w.heap.size
  apart : ∀ i j, i ≠ j → listed[i]? = some true → listed[j]? = some true → ∀ x ∈ B i, x ∉ B j
section
variable {P : Program} {ops : Array Oper} {Q : Exit → Act → World → Prop} {a0 : Act} {w0 : World} {Φ : Nat → (Nat → Value) → List Nat → World → Prop}
/-- What is asked of each operation. -/
def Mkg (P : Program) (ops : Array Oper) (Q : Exit → Act → World → Prop) (a0 : Act) (w0 : World) (Φ : Nat → (Nat → Value) → List Nat → World → Prop) : Prop :=
  ∀ (i : Nat) (o : Oper), ops[i]? = some o → ∀ (a : Act) (w : World), a.tmps.size = a0.tmps.size → Fr [] w0 w → (∀ t, (∀ j, dstOf ops j ≠ some t) → env a t = env a0 t) → (∀ j, dep ops i j = true → ∃ B, Φ j (env a) B w) →
    o.wp P a w (fun a' w' => ∃ v B, a' = a.put o.dst v ∧ Fr [] w w' ∧ Φ i (env (a.put o.dst v)) B w' ∧ ∀ x ∈ B, w.heap.size ≤ x ∧ x < w'.heap.size) Q
theorem ready_at {md : Region.Mode} {listed : Array Bool} {i : Nat} (h : i ∈ Region.ready md ops listed) : i < ops.size ∧ listed.getD i true = false ∧ ∀ o, ops[i]? = some o → ∀ e ∈ o.after, Region.binds md e = true → listed.getD e.on false = true := by
  unfold Region.ready at h
  rw [List.mem_filter, List.mem_range] at h
  obtain ⟨h1, h2⟩ := h
  simp only [Bool.and_eq_true, Bool.not_eq_true'] at h2
  refine ⟨h1, h2.1, fun o ho e he hb => ?_⟩
  have h3 := h2.2
  rw [ho] at h3
  simp only [Option.map_some, Option.getD_some, Array.all_eq_true_iff_forall_mem] at h3
  have h4 := h3 e he
  rw [hb] at h4
  simpa using h4
theorem ready_all (hlex : ∀ (i : Nat) (o : Oper), ops[i]? = some o → ∀ e ∈ o.after, Region.binds .any e = true → e.on < i) (listed : Array Bool) (hz : listed.size = ops.size) (he : Region.ready .any ops listed = []) : ∀ i, i < ops.size → listed[i]? = some true := by
  intro i
  induction i using Nat.strongRecOn with
  | ind i ih =>
    intro hi
    have hl : i < listed.size := by rw [hz]; exact hi
    rw [Array.getElem?_eq_getElem hl]
    cases hc : listed[i] with
    | true => rfl
    | false =>
      exfalso
      have hm : i ∈ Region.ready .any ops listed := by
        unfold Region.ready
        rw [List.mem_filter, List.mem_range]
        refine ⟨hi, ?_⟩
        rw [Array.getD_eq_getD_getElem?, Array.getElem?_eq_getElem hl, hc, Array.getElem?_eq_getElem hi]
        simp only [Option.getD_some, Bool.not_false, Bool.true_and, Option.map_some, Array.all_eq_true_iff_forall_mem]
        intro e hee
        by_cases hb : Region.binds .any e = true
        · have h1 := hlex i _ (Array.getElem?_eq_getElem hi) e hee hb
          have h2 := ih e.on h1 (by omega)
          rw [Array.getD_eq_getD_getElem?, h2]
          simp
        · simp only [Bool.not_eq_true] at hb
          simp [hb]
      rw [he] at hm
      simp at hm
theorem Rel.go (hN : ∀ i j d, dstOf ops i = some d → dstOf ops j = some d → i = j) (hg : ∀ (i : Nat) (o : Oper), ops[i]? = some o → o.guard = none ∧ ∃ d, o.dst = some d ∧ d < a0.tmps.size) (hΦ : ∀ i ρ ρ' B w w', Fr [] w w' → (∀ t, (dstOf ops i = some t ∨ ∃ j, dep ops i j = true ∧ dstOf ops j = some t) → ρ' t = ρ t) → Φ i ρ B w → Φ i ρ' B w')
    (hs : Mkg P ops Q a0 w0 Φ) (hlex : ∀ (i : Nat) (o : Oper), ops[i]? = some o → ∀ e ∈ o.after, Region.binds .any e = true → e.on < i)
    (hend : ∀ a w (B : Nat → List Nat), Fr [] w0 w → a.tmps.size = a0.tmps.size → a.defers = a0.defers → (∀ t, (∀ j, dstOf ops j ≠ some t) → env a t = env a0 t) → (∀ i, i < ops.size → Φ i (env a) (B i) w) → (∀ i, i < ops.size → ∀ x ∈ B i, w0.heap.size ≤ x ∧ x < w.heap.size) → (∀ i j, i ≠ j → i < ops.size → j < ops.size → ∀ x ∈ B i, x ∉ B j) → Q .normal a w) :
    ∀ (fuel : Nat) (listed : Array Bool) (B : Nat → List Nat) (a : Act) (w : World), Rel ops a0 w0 Φ listed B a w → listed.toList.count false ≤ fuel → wpAny P .any ops Q fuel listed a w
  | 0, listed, B, a, w, h, hf => by
    have hall : ∀ i, i < ops.size → listed[i]? = some true := by
      intro i hi
      have hl : i < listed.size := by rw [h.sz]; exact hi
      have h0 : listed.toList.count false = 0 := by omega
      have := List.count_eq_zero.1 h0
      have hm : listed[i] ∈ listed.toList := by simp
      rw [Array.getElem?_eq_getElem hl]
      cases hc : listed[i] with
      | true => rfl
      | false => rw [hc] at hm; exact absurd hm this
    have he : Region.ready .any ops listed = [] := by
      refine List.eq_nil_iff_forall_not_mem.2 fun i hi => ?_
      obtain ⟨h1, h2, _⟩ := ready_at hi
      have := hall i h1
      rw [Array.getD_eq_getD_getElem?, this] at h2
      simp at h2
    exact ⟨he, hend a w B h.fr h.tsz h.dfr h.same (fun i hi => h.done i (hall i hi)) (fun i hi => h.new i (hall i hi)) (fun i j hij hi hj => h.apart i j hij (hall i hi) (hall j hj))⟩
  | fuel + 1, listed, B, a, w, h, hf => by
    refine ⟨fun he => ?_, fun i hi => ?_⟩
    · have hall := ready_all hlex listed h.sz he
      exact hend a w B h.fr h.tsz h.dfr h.same (fun i hi => h.done i (hall i hi)) (fun i hi => h.new i (hall i hi)) (fun i j hij hi hj => h.apart i j hij (hall i hi) (hall j hj))
    · obtain ⟨h1, h2, h3⟩ := ready_at hi
      have ho : ops[i]? = some ops[i] := Array.getElem?_eq_getElem h1
      obtain ⟨o, hoo⟩ : ∃ o, o = ops[i] := ⟨_, rfl⟩
      rw [← hoo] at ho
      obtain ⟨hg1, d, hd, hdl⟩ := hg i o ho
      have hdi : dstOf ops i = some d := by simp [dstOf, ho, hd]
      have hil : i < listed.size := by rw [h.sz]; exact h1
      have hli : listed[i] = false := by rw [Array.getD_eq_getD_getElem?, Array.getElem?_eq_getElem hil] at h2; simpa using h2
      have hdl2 : ∀ j : Nat, dep ops i j = true → listed[j]? = some true := by
        intro j hj
        simp only [dep, ho] at hj
        rw [Array.any_eq_true] at hj
        obtain ⟨n, hn, he⟩ := hj
        simp only [Bool.and_eq_true, beq_iff_eq] at he
        have h4 := h3 o ho o.after[n] (by simp) he.1
        rw [he.2, Array.getD_eq_getD_getElem?] at h4
        cases hl : listed[j]? with
        | none => rw [hl] at h4; simp at h4
        | some b => rw [hl] at h4; simp at h4; rw [h4]
      unfold wpOp
      rw [ho]
      simp only
      rw [if_pos (by simp [Region.wanted, hg1])]
      refine Or.inl (Oper.wp_mono (K := fun a' w' => ∃ v B, a' = a.put o.dst v ∧ Fr [] w w' ∧ Φ i (env (a.put o.dst v)) B w' ∧ ∀ x ∈ B, w.heap.size ≤ x ∧ x < w'.heap.size) ?_ (hs i o ho a w h.tsz h.fr h.same (fun j hj => ⟨B j, h.done j (hdl2 j hj)⟩)))
      rintro a' w' ⟨v, Bi, rfl, hf', hv, hB⟩
      refine Rel.go hN hg hΦ hs hlex hend fuel _ (fun j => if j = i then Bi else B j) _ w' ?_ ?_
      · have hlist : ∀ j : Nat, (listed.setIfInBounds i true)[j]? = some true → j = i ∨ (j ≠ i ∧ listed[j]? = some true) := by
          intro j hj
          by_cases hji : j = i
          · exact Or.inl hji
          · exact Or.inr ⟨hji, by rw [Array.getElem?_setIfInBounds_ne (fun e => hji e.symm)] at hj; exact hj⟩
        have hlisted : ∀ j : Nat, listed[j]? = some true → (listed.setIfInBounds i true)[j]? = some true := by
          intro j hj
          by_cases hji : i = j
          · subst hji
            simp [hil]
          · rw [Array.getElem?_setIfInBounds_ne hji]; exact hj
        have hput : ∀ t, t ≠ d → env (a.put o.dst v) t = env a t := fun t ht => by
          rw [hd]
          exact Act.eval_put (fun x hx => by cases hx; intro e; cases e; exact ht rfl)
        have hnot : ∀ j : Nat, listed[j]? = some true → j ≠ i := fun j hj e => by
          subst e
          rw [Array.getElem?_eq_getElem hil, hli] at hj
          cases hj
        refine ⟨by simp [h.sz], h.fr.then hf', by rw [hd]; simp [Act.put, h.tsz], by rw [hd]; simp [Act.put, h.dfr], fun t ht => ?_, fun j hl => ?_, fun j hl m hm => ?_, fun j hl x hx => ?_, fun j k hjk hj hk x hx => ?_⟩
        · rw [hput t (fun e => ht i (by rw [hdi, e]))]
          exact h.same t ht
        · rcases hlist j hl with rfl | ⟨hji, hlj⟩
          · rw [if_pos rfl]
            exact hv
          · rw [if_neg hji]
            refine hΦ _ _ _ _ _ _ hf' (fun t ht => hput t (fun e => ?_)) (h.done j hlj)
            rcases ht with ht | ⟨m, hm, ht⟩
            · exact hji (hN j i d (by rw [ht, e]) hdi)
            · exact hnot m (h.cl j hlj m hm) (hN m i d (by rw [ht, e]) hdi)
        · rcases hlist j hl with rfl | ⟨hji, hlj⟩
          · exact hlisted m (hdl2 m hm)
          · exact hlisted m (h.cl j hlj m hm)
        · rcases hlist j hl with rfl | ⟨hji, hlj⟩
          · rw [if_pos rfl] at hx
            exact ⟨Nat.le_trans h.fr.size (hB x hx).1, (hB x hx).2⟩
          · rw [if_neg hji] at hx
            exact ⟨(h.new j hlj x hx).1, Nat.lt_of_lt_of_le (h.new j hlj x hx).2 hf'.size⟩
        · rcases hlist j hj with rfl | ⟨hji, hlj⟩
          · rcases hlist k hk with rfl | ⟨hki, hlk⟩
            · exact absurd rfl hjk
            · rw [if_pos rfl] at hx
              rw [if_neg hki]
              intro hh
              have e1 := (hB x hx).1
              have e2 := (h.new k hlk x hh).2
              omega
          · rw [if_neg hji] at hx
            rcases hlist k hk with rfl | ⟨hki, hlk⟩
            · rw [if_pos rfl]
              intro hh
              have e1 := (hB x hh).1
              have e2 := (h.new j hlj x hx).2
              omega
            · rw [if_neg hki]
              exact h.apart j k hjk hlj hlk x hx
      · have e : (listed.setIfInBounds i true).toList = listed.toList.set i true := by simp
        rw [e, List.count_set (by simpa using hil)]
        have hmem : listed.toList[i]'(by simpa using hil) = false := by simpa using hli
        rw [hmem, if_pos (by rfl), if_neg (by decide)]
        omega
/-- The region. -/
theorem wp_region_made {id : Nat} (hm : P.follows .mixedOrders = true) (hN : ∀ i j d, dstOf ops i = some d → dstOf ops j = some d → i = j) (hg : ∀ (i : Nat) (o : Oper), ops[i]? = some o → o.guard = none ∧ ∃ d, o.dst = some d ∧ d < a0.tmps.size) (hΦ : ∀ i ρ ρ' B w w', Fr [] w w' → (∀ t, (dstOf ops i = some t ∨ ∃ j, dep ops i j = true ∧ dstOf ops j = some t) → ρ' t = ρ t) → Φ i ρ B w → Φ i ρ' B w')
    (hs : Mkg P ops Q a0 w0 Φ) (hlex : ∀ (i : Nat) (o : Oper), ops[i]? = some o → ∀ e ∈ o.after, Region.binds .any e = true → e.on < i)
    (hend : ∀ a w (B : Nat → List Nat), Fr [] w0 w → a.tmps.size = a0.tmps.size → a.defers = a0.defers → (∀ t, (∀ j, dstOf ops j ≠ some t) → env a t = env a0 t) → (∀ i, i < ops.size → Φ i (env a) (B i) w) → (∀ i, i < ops.size → ∀ x ∈ B i, w0.heap.size ≤ x ∧ x < w.heap.size) → (∀ i j, i ≠ j → i < ops.size → j < ops.size → ∀ x ∈ B i, x ∉ B j) → Q .normal a w) :
    (Code.region id ops true).wp P Q a0 w0 := by
  refine wp_region_any hm (Rel.go (w0 := w0) hN hg hΦ hs hlex hend _ _ (fun _ => []) _ _ ⟨by simp, Fr.drew [] w0, rfl, rfl, fun _ _ => rfl, fun i hi => ?_, fun i hi => ?_, fun i hi => ?_, fun i j hij hi => ?_⟩ ?_)
  · exact absurd hi (by rw [Array.getElem?_replicate]; split <;> simp)
  · exact absurd hi (by rw [Array.getElem?_replicate]; split <;> simp)
  · exact absurd hi (by rw [Array.getElem?_replicate]; split <;> simp)
  · exact absurd hi (by rw [Array.getElem?_replicate]; split <;> simp)
  · simp
end
end Go.Proofs.YtaaghcimfcjehaaGreatDoor
/- The document's Check of a transaction, and what it leans on. Conditions as each names them. -/
namespace Go.Proofs.YtaaghcimfcjehaaGreatDoor
open Go.ChangeShapes Go.WideShapes Go.ChangeAt Go.RowKit Go.Lib
set_option linter.unusedVariables false
set_option linter.unusedSimpArgs false

theorem xKey_any (s : ByteArray) (B : Bool) (w : World) (hs : s.size ≤ 140737488355328) (hB : B = true ↔ 1 ≤ s.size ∧ s.size ≤ 64) : Calls Tryz.prog 155 #[.string s] w fun e w' => e = .returned (.bool B) ∧ w = w' := by
  have HB : Hid (B = true ↔ 1 ≤ s.size ∧ s.size ≤ 64) := hB
  clear hB
  by_cases h1 : 1 ≤ s.size
  · have h1' : (1 : Int) ≤ s.size := by omega
    by_cases h2 : s.size ≤ 64
    · have h2' : (s.size : Int) ≤ 64 := by omega
      have HR : Hid (B = true) := HB.out.2 ⟨h1, h2⟩
      go_enter Tryz.func155, Tryz.ntmps155
      go_wp2
      go_ret
      rw [HR.out]
      simp [h2']
    · have h2' : decide ((s.size : Int) ≤ 64) = false := by simp; omega
      have HR : Hid (B = false) := by show B = false; simpa using fun h : B = true => h2 (HB.out.1 h).2
      clear h2
      go_enter Tryz.func155, Tryz.ntmps155
      go_wp2
      go_ret
      rw [HR.out]
      simp [h2']
  · have h1' : decide ((1 : Int) ≤ s.size) = false := by simp; omega
    have h1'' : (s.size : Int) < 1 := by omega
    have HR : Hid (B = false) := by show B = false; simpa using fun h : B = true => h1 (HB.out.1 h).1
    clear h1
    go_enter Tryz.func155, Tryz.ntmps155
    go_wp2
    go_ret
    rw [HR.out]
    simp
theorem xVal_any (s : ByteArray) (B : Bool) (w : World) (hs : s.size ≤ 140737488355328) (hB : B = true ↔ s.size ≤ 1024) : Calls Tryz.prog 156 #[.string s] w fun e w' => e = .returned (.bool B) ∧ w = w' := by
  have HB : Hid (decide ((s.size : Int) ≤ 1024) = B) := by
    show _ = _
    cases B with
    | true => have := hB.1 rfl; simp; omega
    | false => have : ¬ s.size ≤ 1024 := fun h => by have := hB.2 h; simp at this
               simp; omega
  clear hB
  go_enter Tryz.func156, Tryz.ntmps156
  go_wp2
  go_ret
  rw [← HB.out]
  exact ⟨rfl, rfl⟩
/-- It tells whether the write may be. -/
def TellsY (e : Ending) (x : Wt) : Prop := ∃ B : Bool, e = .returned (.bool B) ∧ (B = true ↔ okW x)
set_option maxHeartbeats 2000000 in
set_option maxRecDepth 100000 in
theorem xWrite_any (key val : ByteArray) (drop : Bool) (w : World) (hk : key.size ≤ 140737488355328) (hv : val.size ≤ 140737488355328) :
    Calls Tryz.prog 128 #[.agg #[.string key, .string val, .bool drop]] w fun e w' => TellsY e ⟨key, val, drop⟩ ∧ Fr [] w w' := by
  have hF0 : Fr [] w (w.alloc (.cells #[.string key, .string val, .bool drop] 92)) := Fr.alloc [] w _
  have HO : Hid (okW ⟨key, val, drop⟩ ↔ (1 ≤ key.size ∧ key.size ≤ 64) ∧ val.size ≤ 1024 ∧ (drop = true → val.size = 0)) := by
    show _ ↔ _
    unfold okW
    rw [← noS_iff]
    simp only
    constructor
    · rintro ⟨a, b, c, d⟩; exact ⟨⟨a, b⟩, c, d⟩
    · rintro ⟨⟨a, b⟩, c, d⟩; exact ⟨a, b, c, d⟩
  by_cases h1 : 1 ≤ key.size ∧ key.size ≤ 64
  · by_cases h2 : val.size ≤ 1024
    · cases drop with
      | true =>
        by_cases h3 : val.size = 0
        · have h3' : ((val.size : Int) == 0) = true := by rw [h3]; rfl
          have HA : Hid (okW ⟨key, val, true⟩) := HO.out.2 ⟨h1, h2, fun _ => h3⟩
          go_enter Tryz.func128, Tryz.ntmps128
          go_wp2_with fail
          refine (xKey_any key true _ hk (by simpa using h1)).mono ?_
          rintro e w1 ⟨rfl, rfl⟩
          go_wp2_with fail
          refine (xVal_any val true _ hv (by simpa using h2)).mono ?_
          rintro e w1 ⟨rfl, rfl⟩
          go_wp2
          go_ret
          exact ⟨⟨true, by simp [h3'], by simp [HA.out]⟩, hF0⟩
        · have h3' : ((val.size : Int) == 0) = false := by rw [beq_eq_false_iff_ne]; omega
          have HA : Hid (¬ okW ⟨key, val, true⟩) := fun h => h3 ((HO.out.1 h).2.2 rfl)
          clear h3
          go_enter Tryz.func128, Tryz.ntmps128
          go_wp2_with fail
          refine (xKey_any key true _ hk (by simpa using h1)).mono ?_
          rintro e w1 ⟨rfl, rfl⟩
          go_wp2_with fail
          refine (xVal_any val true _ hv (by simpa using h2)).mono ?_
          rintro e w1 ⟨rfl, rfl⟩
          go_wp2
          go_ret
          exact ⟨⟨false, by simp [h3'], by simp [HA.out]⟩, hF0⟩
      | false =>
        have HA : Hid (okW ⟨key, val, false⟩) := HO.out.2 ⟨h1, h2, fun h => by simp at h⟩
        go_enter Tryz.func128, Tryz.ntmps128
        go_wp2_with fail
        refine (xKey_any key true _ hk (by simpa using h1)).mono ?_
        rintro e w1 ⟨rfl, rfl⟩
        go_wp2_with fail
        refine (xVal_any val true _ hv (by simpa using h2)).mono ?_
        rintro e w1 ⟨rfl, rfl⟩
        go_wp2
        go_ret
        exact ⟨⟨true, by simp, by simp [HA.out]⟩, hF0⟩
    · have HA : Hid (¬ okW ⟨key, val, drop⟩) := fun h => h2 (HO.out.1 h).2.1
      go_enter Tryz.func128, Tryz.ntmps128
      go_wp2_with fail
      refine (xKey_any key true _ hk (by simpa using h1)).mono ?_
      rintro e w1 ⟨rfl, rfl⟩
      go_wp2_with fail
      refine (xVal_any val false _ hv (by simpa using h2)).mono ?_
      rintro e w1 ⟨rfl, rfl⟩
      go_wp2
      go_ret
      exact ⟨⟨false, by simp, by simp [HA.out]⟩, hF0⟩
  · have HA : Hid (¬ okW ⟨key, val, drop⟩) := fun h => h1 (HO.out.1 h).1
    have HB : Hid (false = true ↔ 1 ≤ key.size ∧ key.size ≤ 64) := ⟨fun h => by simp at h, fun h => absurd h h1⟩
    clear h1
    go_enter Tryz.func128, Tryz.ntmps128
    go_wp2_with fail
    refine (xKey_any key false _ hk HB.out).mono ?_
    rintro e w1 ⟨rfl, rfl⟩
    go_wp2
    go_ret
    exact ⟨⟨false, by simp, by simp [HA.out]⟩, hF0⟩
theorem xNumber_any (n : Int) (B : Bool) (w : World) (hB : B = true ↔ 1 ≤ n ∧ n ≤ 65536) : Calls Tryz.prog 127 #[.int .i64 n] w fun e w' => e = .returned (.bool B) ∧ w = w' := by
  have HB : Hid (B = true ↔ 1 ≤ n ∧ n ≤ 65536) := hB
  clear hB
  by_cases h1 : 1 ≤ n
  · have HR : Hid (decide (n ≤ 65536) = B) := by
      show _ = _
      cases B with
      | true => have := HB.out.1 rfl; simp; omega
      | false => have : ¬ n ≤ 65536 := fun h => by have := HB.out.2 ⟨h1, h⟩; simp at this
                 simp; omega
    go_enter Tryz.func127, Tryz.ntmps127
    go_wp2
    go_ret
    rw [← HR.out]
    exact ⟨by simp, rfl⟩
  · have h1' : n < 1 := by omega
    have HR : Hid (B = false) := by show B = false; simpa using fun h : B = true => h1 (HB.out.1 h).1
    clear h1
    go_enter Tryz.func127, Tryz.ntmps127
    go_wp2
    go_ret
    rw [HR.out]
    simp

set_option maxHeartbeats 4000000 in
set_option maxRecDepth 100000 in
theorem xCheck_any (n : Int) (ao : Option Addr) (L cap c : Nat) (ws : List Wt) (w : World) (hW : WRs w ao ws) (hL : L = ws.length) (hn0 : -9223372036854775808 ≤ n) (hn1 : n ≤ 9223372036854775807)
    (hc : (okT n ws ∧ c = 0) ∨ (¬ okT n ws ∧ c = 1)) :
    Calls Tryz.prog 80 #[.agg #[.int .i64 n, .slice ao L cap]] w fun e w' => e = .returned (.int .i64 (c : Int)) ∧ Fr [] w w' := by
  have HC : Hid (_ ∨ _) := hc
  have HL : Hid (L = ws.length) := hL
  have hLm : L ≤ 140737488355328 := by have := hW.few; omega
  have hF0 : Fr [] w (w.alloc (.cells #[.int .i64 n, .slice ao L cap] 66)) := Fr.alloc _ _ _
  have hW1 := hW.keep hF0
  clear hc hL
  by_cases h1 : 1 ≤ n ∧ n ≤ 65536
  · have hN := fun w => xNumber_any n true w (by simpa using h1)
    by_cases h3 : 32 < L
    · have hc1 : c = 1 := by rcases HC.out with ⟨h, _⟩ | ⟨_, h⟩; · exact absurd h.2.2.1 (by rw [← HL.out]; omega)
                             · exact h
      subst hc1
      clear HC
      have h3' : (32 : Int) < L := by omega
      go_enter Tryz.func80, Tryz.ntmps80
      go_wp2_with fail
      refine (hN _).mono ?_
      rintro e w1 ⟨rfl, rfl⟩
      clear hN
      go_wp2
      go_ret
      exact ⟨rfl, hF0⟩
    · have h3' : (L : Int) ≤ 32 := by omega
      have hd3 : decide ((32 : Int) < L) = false := by simp; omega
      clear h3
      have c1 : (w.alloc (.cells #[.int .i64 n, .slice ao L cap] 66)).cell? ⟨w.heap.size, 1, none⟩ = some (.slice ao L cap) := cell_of_row _ _ _ _ _ _ (heap_alloc_new w _)
      go_enter Tryz.func80, Tryz.ntmps80
      go_wp2_with fail
      refine (hN _).mono ?_
      rintro e w1 ⟨rfl, rfl⟩
      clear hN
      go_wp2_with fail
      obtain ⟨w1, HW1⟩ : ∃ w1, Hid (w.alloc (.cells #[.int .i64 n, .slice ao L cap] 66) = w1) := ⟨_, rfl⟩
      rw [HW1.out] at c1 hF0 hW1 ⊢
      have hlt : w.heap.size < w1.heap.size := by rw [← HW1.out]; simp
      go_loopw [3] (fun ii wr => ∃ (i : Nat), ii = .int .i64 i ∧ i ≤ L ∧ Hid (∀ j, j < i → okW (ws.getD j Wt.zero)) ∧ Fr [] w1 wr) (fun ii _ => L - (RowKit.intOf ii).toNat)
      case atStart => exact ⟨0, rfl, Nat.zero_le _, fun j hj => by omega, Fr.refl _ _⟩
      case round =>
        obtain ⟨i, rfl, hiL, HE, hFr⟩ := hrel
        have c1r : wr.cell? ⟨w.heap.size, 1, none⟩ = some (.slice ao L cap) := (World.cell?_of_block (hFr.block _ hlt (by simp))).trans c1
        by_cases hi : i < L
        · have hi' : i < ws.length := by rw [← HL.out]; exact hi
          obtain ⟨b, off, rfl, _, hc⟩ := (hW1.keep hFr).lies (by omega)
          obtain ⟨d0, d1, d2⟩ := hc i hi'
          have hm := hW.each _ (wgetD_mem ws i hi')
          obtain ⟨x, hxx⟩ : ∃ x, x = ws.getD i Wt.zero := ⟨_, rfl⟩
          rw [← hxx] at d0 d1 d2 hm
          have HX : Hid (x = ws.getD i Wt.zero) := hxx
          clear hxx hc
          obtain ⟨key, val, drop⟩ := x
          simp only at d0 d1 d2 hm
          go_wp2_with fail
          refine (xWrite_any key val drop _ hm.1 hm.2).mono ?_
          rintro e w2 ⟨⟨B, rfl, hB⟩, hF2⟩
          cases B with
          | false =>
            have hno : ¬ okW ⟨key, val, drop⟩ := fun h => by have := hB.2 h; simp at this
            have hc1 : c = 1 := by rcases HC.out with ⟨h, _⟩ | ⟨_, h⟩; · exact absurd h (okT_no hi' (HX.out ▸ hno))
                                   · exact h
            subst hc1
            clear HC hB hno
            go_wp2
            go_ret
            exact ⟨rfl, hF0.then (hFr.then hF2)⟩
          | true =>
            have HE2 : Hid (∀ j, j < i + 1 → okW (ws.getD j Wt.zero)) := by
              intro j hj
              by_cases hji : j = i
              · subst hji
                rw [← HX.out]
                exact hB.1 rfl
              · exact HE.out j (by omega)
            clear hB
            go_wp2
            go_roundw
            case rel => exact ⟨i + 1, by simp, by omega, HE2, hFr.then hF2⟩
            case measure => simp [RowKit.intOf]; omega
        · have hc0 : c = 0 := by
            rcases HC.out with ⟨_, h⟩ | ⟨h, _⟩
            · exact h
            · refine absurd ⟨h1.1, h1.2, by rw [← HL.out]; omega, ?_⟩ h
              intro x hx
              obtain ⟨j, hj, rfl⟩ := List.getElem_of_mem hx
              have := HE.out j (by have := HL.out; omega)
              simpa [List.getD, hj] using this
          subst hc0
          clear HC
          go_wp2
          go_ret
          exact ⟨rfl, hF0.then hFr⟩
  · have hN := fun w => xNumber_any n false w ⟨fun h => by simp at h, fun h => absurd h h1⟩
    have hc1 : c = 1 := by rcases HC.out with ⟨h, _⟩ | ⟨_, h⟩; · exact absurd ⟨h.1, h.2.1⟩ h1
                           · exact h
    subst hc1
    clear HC h1
    go_enter Tryz.func80, Tryz.ntmps80
    go_wp2_with fail
    refine (hN _).mono ?_
    rintro e w1 ⟨rfl, rfl⟩
    clear hN
    go_wp2
    go_ret
    exact ⟨rfl, hF0⟩
end Go.Proofs.YtaaghcimfcjehaaGreatDoor

/- A region that draws its order, whose last operation waits for all others: the others are quiet in a class of worlds, the last one may do what it does. Plain lemmas. -/
import Derived.Test.YtfhfjplhfjlpaaaDoorSx26
import Derived.Deep.Quiet
namespace Go.Proofs.YtfhfjplhfjlpaaaDoor
open Go.ChangeShapes Go.WideShapes Go.ChangeAt Go.RowKit Go.Lib
set_option linter.unusedVariables false
set_option linter.unusedSimpArgs false

section
variable {P : Program} {Q : Exit → Act → World → Prop} {C : World → Prop} {l : List Oper} {st : Oper}
theorem wl_at (l : List Oper) (st : Oper) (i : Nat) (h : i < l.length) : (l ++ [st]).toArray[i]? = l.toArray[i]? := by simp [List.getElem?_append_left h]
theorem wl_end (l : List Oper) (st : Oper) : (l ++ [st]).toArray[l.length]? = some st := by simp
theorem push_getD {listed : Array Bool} (j : Nat) : (listed.push false).getD j false = listed.getD j false := by
  simp only [Array.getD_eq_getD_getElem?, Array.getElem?_push]
  split
  · rename_i h
    subst h
    simp
  · rfl
theorem ready_none {ops : Array Oper} {listed : Array Bool} (h : ∀ i, i < ops.size → listed.getD i true = true) : Region.ready .any ops listed = [] := by
  refine List.eq_nil_iff_forall_not_mem.2 fun i hi => ?_
  obtain ⟨h1, o, ho, _⟩ := mem_ready.1 hi
  have := h i (by
    rcases Nat.lt_or_ge i ops.size with h2 | h2
    · exact h2
    · rw [Array.getElem?_eq_none h2] at ho; cases ho)
  rw [h1] at this
  cases this
theorem wpAny_none {ops : Array Oper} {listed : Array Bool} (h : Region.ready .any ops listed = []) {a : Act} {w : World} (hq : Q .normal a w) : ∀ fuel, wpAny P .any ops Q fuel listed a w
  | 0 => ⟨h, hq⟩
  | _ + 1 => ⟨fun _ => hq, fun i hi => by rw [h] at hi; cases hi⟩
/-- Are the others all listed where none of them may come up? -/
theorem all_listed (hlex : ∀ (i : Nat) (o : Oper), l[i]? = some o → ∀ e ∈ o.after, Region.binds .any e = true → e.on < i) (listed : Array Bool) (hz : listed.size = l.length) (he : Region.ready .any l.toArray listed = []) : ∀ i, i < l.length → listed.getD i false = true := by
  intro i
  induction i using Nat.strongRecOn with
  | _ i ih =>
    intro hi
    cases hl : listed.getD i false with
    | true => rfl
    | false =>
      exfalso
      have hn : i ∈ Region.ready .any l.toArray listed := by
        refine mem_ready.2 ⟨?_, l[i], by simp [hi], fun e he hb => ih e.on (hlex i l[i] (by simp [hi]) e he hb) (by have := hlex i l[i] (by simp [hi]) e he hb; omega)⟩
        simp only [Array.getD_eq_getD_getElem?] at hl ⊢
        rw [Array.getElem?_eq_getElem (by omega)] at hl ⊢
        exact hl
      rw [he] at hn
      cases hn
theorem set_all {listed : Array Bool} {n : Nat} (hz : listed.size = n) (h : ∀ i, i < n → listed.getD i false = true) : ∀ i, i < n + 1 → ((listed.push false).setIfInBounds n true).getD i true = true := by
  intro i hi
  simp only [Array.getD_eq_getD_getElem?]
  by_cases e : i = n
  · subst e
    rw [Array.getElem?_setIfInBounds_self_of_lt (by simp; omega)]
    rfl
  · rw [Array.getElem?_setIfInBounds_ne (fun q => e q.symm), Array.getElem?_push, if_neg (by omega)]
    have := h i (by omega)
    simp only [Array.getD_eq_getD_getElem?] at this
    rw [Array.getElem?_eq_getElem (by omega)] at this ⊢
    exact this
theorem wl_last (hst : st.guard = none) {listed : Array Bool} (hz : listed.size = l.length) (hall : ∀ i, i < l.length → listed.getD i false = true) {a : Act} {w : World} (h : st.wp P a w (fun a'' w'' => Q .normal a'' w'') Q ∨ (st.asks P a w ∧ LetsOut Q)) (fuel : Nat) :
    wpOp P (l ++ [st]).toArray Q l.length (wpAny P .any (l ++ [st]).toArray Q fuel ((listed.push false).setIfInBounds l.length true)) a w := by
  unfold wpOp
  rw [wl_end]
  simp only [Region.wanted, hst, if_true]
  refine h.imp (Oper.wp_mono (fun a'' w'' hq => wpAny_none (ready_none ?_) hq fuel)) id
  intro i hi
  exact set_all hz hall i (by simpa using hi)
theorem push_set {listed : Array Bool} {i : Nat} (h : i < listed.size) : (listed.push false).setIfInBounds i true = (listed.setIfInBounds i true).push false := by
  apply Array.ext_getElem?
  intro j
  by_cases e : i = j
  · subst e
    rw [Array.getElem?_setIfInBounds_self_of_lt (by simp; omega), Array.getElem?_push, if_neg (by simp; omega), Array.getElem?_setIfInBounds_self_of_lt h]
  · rw [Array.getElem?_setIfInBounds_ne e, Array.getElem?_push, Array.getElem?_push, Array.getElem?_setIfInBounds_ne e]
    simp
theorem wl_key (hlex : ∀ (i : Nat) (o : Oper), l[i]? = some o → ∀ e ∈ o.after, Region.binds .any e = true → e.on < i) (hg : ∀ o ∈ l, o.guard = none) (hst : st.guard = none)
    (hcov : ∀ j, j < l.length → ∃ e ∈ st.after, Region.binds .any e = true ∧ e.on = j) (hstl : ∀ e ∈ st.after, Region.binds .any e = true → e.on < l.length) :
    ∀ (fuel : Nat) (listed : Array Bool) (a : Act) (w : World), listed.size = l.length → C w →
      wpAnyQ P .any l.toArray C (fun a' => ∀ w', C w' → (st.wp P a' w' (fun a'' w'' => Q .normal a'' w'') Q ∨ (st.asks P a' w' ∧ LetsOut Q))) fuel listed a →
      wpAny P .any (l ++ [st]).toArray Q (fuel + 1) (listed.push false) a w := by
  have hready : ∀ (listed : Array Bool), listed.size = l.length → Region.ready .any l.toArray listed = [] → l.length ∈ Region.ready .any (l ++ [st]).toArray (listed.push false) := fun listed hz h =>
    mem_ready.2 ⟨by simp [Array.getD_eq_getD_getElem?, ← hz], st, wl_end l st, fun e he hb => by
      rw [push_getD]
      exact all_listed hlex listed hz h _ (hstl e he hb)⟩
  have hend : ∀ (listed : Array Bool), l.length ∈ Region.ready .any (l ++ [st]).toArray (listed.push false) → ∀ i, i < l.length → listed.getD i false = true := by
    intro listed h i hi
    obtain ⟨_, o, ho, h2⟩ := mem_ready.1 h
    rw [wl_end] at ho
    cases ho
    obtain ⟨e, he, hb, rfl⟩ := hcov i hi
    have := h2 e he hb
    rwa [push_getD] at this
  have hno : ∀ (listed : Array Bool), listed.size = l.length → (∀ i, i < l.length → listed.getD i false = true) → Region.ready .any l.toArray listed = [] := fun listed hz h => ready_none fun i hi => by
    have h1 : i < l.length := by simpa using hi
    have h2 := h i h1
    simp only [Array.getD_eq_getD_getElem?] at h2 ⊢
    rw [Array.getElem?_eq_getElem (by omega)] at h2 ⊢
    exact h2
  have hlt : ∀ (listed : Array Bool) (i : Nat), listed.size = l.length → i ∈ Region.ready .any (l ++ [st]).toArray (listed.push false) → i ≠ l.length → i < l.length ∧ i ∈ Region.ready .any l.toArray listed := by
    intro listed i hz h hi
    obtain ⟨h1, o, ho, h2⟩ := mem_ready.1 h
    have hil : i < l.length := by
      rcases Nat.lt_or_ge i (l.length + 1) with h3 | h3
      · omega
      · rw [Array.getElem?_eq_none (by simp; omega)] at ho; cases ho
    rw [wl_at l st i hil] at ho
    refine ⟨hil, mem_ready.2 ⟨?_, o, ho, fun e he hb => by have := h2 e he hb; rwa [push_getD] at this⟩⟩
    simp only [Array.getD_eq_getD_getElem?, Array.getElem?_push] at h1 ⊢
    rw [if_neg (by omega)] at h1
    exact h1
  intro fuel
  induction fuel with
  | zero =>
    intro listed a w hz hC h
    refine ⟨fun h0 => (by have := hready listed hz h.1; rw [h0] at this; cases this), fun i hi => ?_⟩
    by_cases e : i = l.length
    · subst e
      exact wl_last hst hz (hend listed hi) (h.2 w hC) 0
    · have := (hlt listed i hz hi e).2
      rw [h.1] at this
      cases this
  | succ fuel ih =>
    intro listed a w hz hC h
    refine ⟨fun h0 => ?_, fun i hi => ?_⟩
    · cases hr : Region.ready .any l.toArray listed with
      | nil => have := hready listed hz hr; rw [h0] at this; cases this
      | cons i r =>
        have hi : i ∈ Region.ready .any l.toArray listed := by rw [hr]; exact List.mem_cons_self
        obtain ⟨h1, o, ho, h2⟩ := mem_ready.1 hi
        have hil : i < l.length := by
          rcases Nat.lt_or_ge i l.length with h3 | h3
          · exact h3
          · rw [Array.getElem?_eq_none (by simpa using h3)] at ho; cases ho
        have : i ∈ Region.ready .any (l ++ [st]).toArray (listed.push false) := by
          refine mem_ready.2 ⟨?_, o, by rw [wl_at l st i hil]; exact ho, fun e he hb => by rw [push_getD]; exact h2 e he hb⟩
          simp only [Array.getD_eq_getD_getElem?, Array.getElem?_push] at h1 ⊢
          rw [if_neg (by omega)]
          exact h1
        rw [h0] at this
        cases this
    · by_cases e : i = l.length
      · subst e
        exact wl_last hst hz (hend listed hi) (h.1 (hno listed hz (hend listed hi)) w hC) (fuel + 1)
      · obtain ⟨hil, hi2⟩ := hlt listed i hz hi e
        have hq := h.2 i hi2
        have ho : l.toArray[i]? = some l[i] := by simp [hil]
        have hgi : (l[i]).guard = none := hg _ (List.getElem_mem hil)
        unfold qOp at hq
        unfold wpOp
        rw [wl_at l st i hil]
        simp only [ho, Region.wanted, hgi, if_true] at hq ⊢
        refine .inl (Oper.wp_of_quiet hC (fun a' w' hC' K => ?_) hq)
        rw [push_set (by omega)]
        exact ih _ a' w' (by simpa using hz) hC' K
end
theorem wp_region_last {P : Program} {C : World → Prop} {id : Nat} {Q : Exit → Act → World → Prop} {a : Act} {w : World} {l : List Oper} {st : Oper} (hm : P.follows .mixedOrders = true) (hB : Region.lexB .any l.toArray = true)
    (hlex : ((List.range l.length).zip l).all (fun p => p.2.guard.isNone && p.2.after.all fun e => !Region.binds .any e || decide (e.on < p.1)) = true)
    (hlst : (st.guard.isNone && (st.after.all fun e => !Region.binds .any e || decide (e.on < l.length)) && (List.range l.length).all fun j => st.after.any fun e => Region.binds .any e && decide (e.on = j)) = true)
    (hC : C { w with drawn := w.drawn + 1 })
    (h : wpQuiet P l.toArray C (fun a' => ∀ w', C w' → (st.wp P a' w' (fun a'' w'' => Q .normal a'' w'') Q ∨ (st.asks P a' w' ∧ LetsOut Q))) l a) : (Code.region id (l ++ [st]).toArray true).wp P Q a w := by
  have hz : ∀ (i : Nat) (o : Oper), l[i]? = some o → (i, o) ∈ (List.range l.length).zip l := by
    intro i o ho
    obtain ⟨hi, he⟩ := List.getElem?_eq_some_iff.1 ho
    rw [List.mem_iff_getElem?]
    exact ⟨i, by simp [List.getElem?_zip_eq_some, hi, he]⟩
  rw [List.all_eq_true] at hlex
  simp only [Bool.and_eq_true, Option.isNone_iff_eq_none] at hlst hlex
  obtain ⟨⟨s1, s2⟩, s3⟩ := hlst
  rw [Array.all_eq_true_iff_forall_mem] at s2
  rw [List.all_eq_true] at s3
  simp only [Region.lexB, Bool.and_eq_true] at hB
  have hq := wpAnyQ_lex (C := C) (md := .any) (P := P) (Q := fun a' => ∀ w', C w' → (st.wp P a' w' (fun a'' w'' => Q .normal a'' w'') Q ∨ (st.asks P a' w' ∧ LetsOut Q))) hB.1 l 0 (Array.replicate l.length false) a (by simp) (by simpa using hB.2) h
  have hk := wl_key (P := P) (Q := Q) (C := C) (l := l) (st := st) (fun i o ho e he hb => by
    have h2 := (hlex _ (hz i o ho)).2
    rw [Array.all_eq_true_iff_forall_mem] at h2
    have h3 := h2 e he
    rw [hb] at h3
    simpa using h3) (fun o ho => by
    obtain ⟨i, hi⟩ := List.mem_iff_getElem?.1 ho
    exact (hlex _ (hz i o hi)).1) s1 (fun j hj => by
    have h3 := s3 j (List.mem_range.2 hj)
    rw [Array.any_eq_true] at h3
    obtain ⟨n, hn, h4⟩ := h3
    simp only [Bool.and_eq_true, decide_eq_true_eq] at h4
    exact ⟨_, Array.getElem_mem hn, h4.1, h4.2⟩) (fun e he hb => by
    have h3 := s2 e he
    rw [hb] at h3
    simpa using h3) l.length (Array.replicate l.length false) a _ (by simp) hC hq
  refine wp_region_any hm ?_
  have e1 : (l ++ [st]).toArray.size = l.length + 1 := by simp
  rw [e1, Array.replicate_succ]
  exact hk
theorem wp_region_last2 {P : Program} {C : World → Prop} {id : Nat} {Q : Exit → Act → World → Prop} {a : Act} {w : World} {os l : List Oper} {st : Oper} (h1 : os.dropLast = l) (h2 : os.getLast? = some st) (hm : P.follows .mixedOrders = true) (hB : Region.lexB .any l.toArray = true)
    (hlex : ((List.range l.length).zip l).all (fun p => p.2.guard.isNone && p.2.after.all fun e => !Region.binds .any e || decide (e.on < p.1)) = true)
    (hlst : (st.guard.isNone && (st.after.all fun e => !Region.binds .any e || decide (e.on < l.length)) && (List.range l.length).all fun j => st.after.any fun e => Region.binds .any e && decide (e.on = j)) = true)
    (hC : C { w with drawn := w.drawn + 1 })
    (h : wpQuiet P l.toArray C (fun a' => ∀ w', C w' → wpList P os.toArray Q [st] a' w') l a) : (Code.region id os.toArray true).wp P Q a w := by
  have e : os = l ++ [st] := by
    obtain ⟨h3, h4⟩ := List.getLast?_eq_some_iff.1 h2
    rw [h4] at h1
    simp at h1
    rw [h4, h1]
  subst e
  refine wp_region_last hm hB hlex hlst hC ?_
  have hg : st.guard = none := by
    simp only [Bool.and_eq_true, Option.isNone_iff_eq_none] at hlst
    exact hlst.1.1
  have e2 : (fun a' => ∀ w', C w' → wpList P (l ++ [st]).toArray Q [st] a' w') = fun a' => ∀ w', C w' → (st.wp P a' w' (fun a'' w'' => Q .normal a'' w'') Q ∨ (st.asks P a' w' ∧ LetsOut Q)) := by
    funext a'
    simp [wpList, Region.wanted, hg]
  rw [e2] at h
  exact h
end Go.Proofs.YtfhfjplhfjlpaaaDoor

/- What is read of a key's versions at a mark; what an install makes; what goes in of parts: mathematics alone. -/
import Derived.Test.YtakbodlicfmkjaaGreatPt9
namespace Go.Proofs.YtakbodlicfmkjaaGreat.O
set_option linter.unusedVariables false
set_option linter.unusedSimpArgs false

/-- The newest version at a mark. -/
def vAt (vs : List Vn) (k : Int) : Option Vn := (vs.filter fun v => decide (v.num ≤ k)).getLast?
/-- The value at a mark: none, if the newest is a Drop. -/
def valOf (o : Option Vn) : Option ByteArray :=
  match o with
  | none => none
  | some x => if x.drop = true then none else some x.val
def valAt (vs : List Vn) (k : Int) : Option ByteArray := valOf (vAt vs k)
theorem filt_upTo {vs : List Vn} {k : Int} {d : Nat} (h : UpTo vs k d) : vs.filter (fun v => decide (v.num ≤ k)) = vs.take d := by
  rw [← List.take_append_drop d vs, List.filter_append]
  have hle := h.le
  have h1 : (vs.take d).filter (fun v => decide (v.num ≤ k)) = vs.take d := by
    refine List.filter_eq_self.2 fun p hp => ?_
    obtain ⟨j, hj, e⟩ := List.mem_iff_getElem.1 hp
    have hj' : j < d ∧ j < vs.length := by simp at hj; omega
    have := h.lo j hj'.1
    simp only [List.getD, List.getElem?_eq_getElem hj'.2, Option.getD_some] at this
    rw [← e]
    simpa using this
  have h2 : (vs.drop d).filter (fun v => decide (v.num ≤ k)) = [] := by
    refine List.filter_eq_nil_iff.2 fun p hp => ?_
    obtain ⟨j, hj, e⟩ := List.mem_iff_getElem.1 hp
    have hj' : d + j < vs.length := by simp at hj; omega
    have := h.hi (d + j) (by omega) hj'
    simp only [List.getD, List.getElem?_eq_getElem hj', Option.getD_some] at this
    rw [← e]
    simp
    omega
  rw [h1, h2, List.append_nil, List.take_append_drop]
theorem vAt_upTo {vs : List Vn} {k : Int} {d : Nat} (h : UpTo vs k d) : vAt vs k = if d = 0 then none else some (atV vs d) := by
  unfold vAt
  rw [filt_upTo h]
  have hle := h.le
  by_cases h0 : d = 0
  · subst h0; simp
  · rw [if_neg h0, List.getLast?_eq_getElem?]
    unfold atV
    rw [if_neg h0]
    have e : (vs.take d).length - 1 = d - 1 := by simp; omega
    have hl : d - 1 < vs.length := by omega
    rw [e, List.getElem?_take_of_lt (by omega), List.getElem?_eq_getElem hl]
    simp [List.getD, hl]
theorem atV_mem {vs : List Vn} {d : Nat} (h0 : 0 < d) (hd : d ≤ vs.length) : atV vs d ∈ vs := by
  unfold atV
  rw [if_neg (by omega)]
  exact vgetD_mem vs (d - 1) (by omega)
/-- What Get says. -/
theorem get_told {vs : List Vn} {k : Int} {x : Vn} {ok : Bool} {c : Nat} (hok : okV vs) (h : AtTold vs k x ok c) : (ok && !x.drop) = (valAt vs k).isSome ∧ x.val = (valAt vs k).getD noS ∧ c = 0 := by
  rcases h with ⟨_, h, _⟩ | ⟨hc, _, d, hd, h1, h2⟩
  · exact absurd hok h
  · have hv := vAt_upTo hd
    unfold valAt valOf
    by_cases h0 : d = 0
    · rw [if_pos h0] at hv
      rw [hv, h1, h2]
      subst h0
      exact ⟨rfl, rfl, hc⟩
    · rw [if_neg h0] at hv
      rw [hv, h2]
      simp only
      rw [← h1]
      have hm : x ∈ vs := by rw [h1]; exact atV_mem (by omega) hd.le
      have hx := hok.1 x hm
      have hd0 : decide (0 < d) = true := by simp; omega
      rw [hd0]
      cases hdr : x.drop with
      | true => exact ⟨rfl, by simpa using hx.2.2.2 hdr, hc⟩
      | false => exact ⟨rfl, by simp, hc⟩
theorem valAt_nil (k : Int) : valAt [] k = none := rfl
/-- What putting a version makes of what the keys have. -/
def PutM (M : ByteArray → List Vn) (key : ByteArray) (v : Vn) (M' : ByteArray → List Vn) (ok : Bool) : Prop :=
  (ok = false ∧ M' = M ∧ ∃ y ∈ M key, y.num = v.num) ∨ (ok = true ∧ (∀ y ∈ M key, y.num ≠ v.num) ∧ ∃ us, M' = updM M key us ∧ okV us ∧ ∀ x, x ∈ us ↔ x ∈ M key ∨ x = v)
theorem putM_of {M : ByteArray → List Vn} {key : ByteArray} {v : Vn} {us : List Vn} {ok : Bool} {c : Nat} (hM : okV (M key)) (hv : okX v) (h : PuTold (M key) v us ok c) : c = 0 ∧ ((ok = false ∧ PutM M key v M false) ∨ (ok = true ∧ okV us ∧ 0 < us.length ∧ PutM M key v (updM M key us) true)) := by
  rcases h with ⟨_, h, _⟩ | ⟨hc, _, _, d, hd, h⟩
  · exact absurd ⟨hM, hv⟩ h
  refine ⟨hc, ?_⟩
  have ht := there_iff (v := v) hM.2 hd
  rcases h with ⟨h1, h2, h3⟩ | ⟨h1, h2, h3⟩
  · exact Or.inl ⟨h3, Or.inl ⟨rfl, rfl, ht.1 h1⟩⟩
  · have hus : okV us := by rw [h2]; exact okV_ins hM hv hd h1
    refine Or.inr ⟨h3, hus, by rw [h2, len_ins hd.le]; omega, Or.inr ⟨rfl, fun y hy e => h1 (ht.2 ⟨y, hy, e⟩), us, rfl, hus, fun x => ?_⟩⟩
    rw [h2, mem_ins]
    exact ⟨fun h => h.symm, fun h => h.symm⟩
theorem putM_snoc {M : ByteArray → List Vn} {key : ByteArray} {v : Vn} (hM : okV (M key)) (hv : okX v) (hl : ∀ y ∈ M key, y.num < v.num) : okV (M key ++ [v]) ∧ PutM M key v (updM M key (M key ++ [v])) true := by
  have h1 : okV (M key ++ [v]) := okV_snoc.2 ⟨hM, hv, hl⟩
  exact ⟨h1, Or.inr ⟨rfl, fun y hy e => by have := hl y hy; omega, _, rfl, h1, fun x => by simp⟩⟩
theorem last_lt {vs : List Vn} {k : Int} (h : Ris vs) (h0 : 0 < vs.length) (hl : (vs.getD (vs.length - 1) Vn.zero).num < k) : ∀ y ∈ vs, y.num < k := by
  intro y hy
  obtain ⟨j, hj, e⟩ := mem_get hy
  rw [← e]
  by_cases hjl : j = vs.length - 1
  · rw [hjl]; exact hl
  · have := ris_get h (show j < vs.length - 1 by omega) (by omega)
    omega
/-- May a part be? -/
def okP (p : Pt) : Prop := okK9 p.key ∧ okX p.v
/-- What an install tells, and makes of what the keys have. -/
def InTold (M : ByteArray → List Vn) (p : Pt) (M' : ByteArray → List Vn) (ok : Bool) (c : Nat) : Prop :=
  (c = 1 ∧ ok = false ∧ ¬ okP p ∧ M' = M) ∨ (c = 0 ∧ okP p ∧ PutM M p.key p.v M' ok)
/-- What goes in of parts, one behind the other. -/
inductive Goes : List Pt → List Pt → Prop
  | nil : Goes [] []
  | inn {ps ins : List Pt} {p : Pt} : Goes ps ins → okP p → (∀ q ∈ ins, q.key = p.key → q.num ≠ p.num) → Goes (ps ++ [p]) (ins ++ [p])
  | out {ps ins : List Pt} {p : Pt} : Goes ps ins → ¬ (okP p ∧ ∀ q ∈ ins, q.key = p.key → q.num ≠ p.num) → Goes (ps ++ [p]) ins
def DisP (ins : List Pt) : Prop := ins.Pairwise fun p q => p.key = q.key → p.num ≠ q.num
theorem Goes.dis {ps ins : List Pt} (h : Goes ps ins) : DisP ins := by
  induction h with
  | nil => exact List.Pairwise.nil
  | inn _ _ hq ih =>
    unfold DisP
    rw [List.pairwise_append]
    exact ⟨ih, List.pairwise_singleton _ _, fun a ha b hb e => by simp at hb; subst hb; exact hq a ha e⟩
  | out _ _ ih => exact ih
theorem Goes.ok {ps ins : List Pt} (h : Goes ps ins) : ∀ p ∈ ins, okP p := by
  induction h with
  | nil => simp
  | inn _ hp _ ih => intro q hq; rcases List.mem_append.1 hq with h | h; exact ih q h; simp at h; subst h; exact hp
  | out _ _ ih => exact ih
theorem Goes.len {ps ins : List Pt} (h : Goes ps ins) : ins.length ≤ ps.length := by
  induction h with
  | nil => simp
  | inn _ _ _ ih => simp; omega
  | out _ _ ih => simp; omega
theorem Goes.mem {ps ins : List Pt} (h : Goes ps ins) : ∀ p ∈ ins, p ∈ ps := by
  induction h with
  | nil => simp
  | inn _ _ _ ih =>
    intro q hq
    rcases List.mem_append.1 hq with h | h
    · exact List.mem_append_left _ (ih q h)
    · exact List.mem_append_right _ h
  | out _ _ ih => intro q hq; exact List.mem_append_left _ (ih q hq)
theorem Goes.all {ps ins : List Pt} (h : Goes ps ins) (ho : ∀ p ∈ ps, okP p) (hd : DisP ps) : ins = ps := by
  induction h with
  | nil => rfl
  | @inn ps ins p h1 h2 h3 ih =>
    unfold DisP at hd
    rw [List.pairwise_append] at hd
    rw [ih (fun q hq => ho q (List.mem_append_left _ hq)) hd.1]
  | @out ps ins p h1 h2 ih =>
    unfold DisP at hd
    rw [List.pairwise_append] at hd
    have e := ih (fun q hq => ho q (List.mem_append_left _ hq)) hd.1
    exact absurd ⟨ho p (by simp), fun q hq hk => hd.2.2 q (by rw [← e]; exact hq) p (by simp) hk⟩ h2
/-- The keys have what went in. -/
def HoldsP (M : ByteArray → List Vn) (ins : List Pt) : Prop := ∀ k x, x ∈ M k ↔ ∃ p ∈ ins, p.key = k ∧ x = p.v
theorem HoldsP.nil : HoldsP (fun _ => []) [] := fun k x => by simp
theorem HoldsP.step {M M' : ByteArray → List Vn} {ins : List Pt} {p : Pt} {ok : Bool} {c : Nat} (h : HoldsP M ins) (hI : InTold M p M' ok c) :
    (ok = true ∧ c = 0 ∧ HoldsP M' (ins ++ [p]) ∧ okP p ∧ ∀ q ∈ ins, q.key = p.key → q.num ≠ p.num) ∨ (ok = false ∧ HoldsP M' ins ∧ ¬ (okP p ∧ ∀ q ∈ ins, q.key = p.key → q.num ≠ p.num)) := by
  rcases hI with ⟨_, h1, h2, h3⟩ | ⟨h0, hp, h1⟩
  · exact Or.inr ⟨h1, by rw [h3]; exact h, fun e => h2 e.1⟩
  rcases h1 with ⟨h1, h2, y, hy, e⟩ | ⟨h1, h2, us, h3, _, h4⟩
  · refine Or.inr ⟨h1, by rw [h2]; exact h, fun e2 => ?_⟩
    obtain ⟨q, hq, hk, hv⟩ := (h p.key y).1 hy
    exact e2.2 q hq hk (by rw [hv] at e; exact e)
  · refine Or.inl ⟨h1, h0, fun k x => ?_, hp, fun q hq hk e => h2 q.v ((h p.key q.v).2 ⟨q, hq, hk, rfl⟩) e⟩
    rw [h3]
    unfold updM
    by_cases hk : k = p.key
    · rw [if_pos hk, h4, h p.key x, hk]
      constructor
      · rintro (⟨q, hq, e1, e2⟩ | e)
        · exact ⟨q, List.mem_append_left _ hq, e1, e2⟩
        · exact ⟨p, by simp, rfl, e⟩
      · rintro ⟨q, hq, e1, e2⟩
        rcases List.mem_append.1 hq with h5 | h5
        · exact Or.inl ⟨q, h5, e1, e2⟩
        · simp at h5; subst h5; exact Or.inr e2
    · rw [if_neg hk, h k x]
      constructor
      · rintro ⟨q, hq, e1, e2⟩
        exact ⟨q, List.mem_append_left _ hq, e1, e2⟩
      · rintro ⟨q, hq, e1, e2⟩
        rcases List.mem_append.1 hq with h5 | h5
        · exact ⟨q, h5, e1, e2⟩
        · simp at h5; subst h5; exact absurd e1.symm hk
theorem HoldsP.one {M M' : ByteArray → List Vn} {ins ins' : List Pt} (h : HoldsP M ins) (h' : HoldsP M' ins') (ho : ∀ k, okV (M k)) (ho' : ∀ k, okV (M' k)) (he : ∀ p, p ∈ ins ↔ p ∈ ins') : M = M' := by
  funext k
  refine ris_unique _ _ (ho k).2 (ho' k).2 fun v => ?_
  rw [h k v, h' k v]
  constructor
  · rintro ⟨p, hp, e⟩; exact ⟨p, (he p).1 hp, e⟩
  · rintro ⟨p, hp, e⟩; exact ⟨p, (he p).2 hp, e⟩
/-- How many versions. -/
def SzT (M : ByteArray → List Vn) (S : Nat) : Prop := ∃ ks : List ByteArray, ks.Nodup ∧ (∀ k, k ∈ ks ↔ M k ≠ []) ∧ S = (ks.map fun k => (M k).length).sum
theorem ris_nodup {vs : List Vn} (h : Ris vs) : vs.Nodup := List.Pairwise.imp (fun {a b} hab e => by rw [e] at hab; omega) h
theorem SzT.holds {M : ByteArray → List Vn} {ins : List Pt} {S : Nat} (h : SzT M S) (hM : HoldsP M ins) (ho : ∀ k, okV (M k)) (hd : DisP ins) : S = ins.length := by
  obtain ⟨ks, hn, hk, rfl⟩ := h
  have e1 : (ks.map fun k => (M k).length).sum = (ks.flatMap fun k => (M k).map fun v => (k, v)).length := by
    rw [List.length_flatMap]
    simp
  have e2 : ins.length = (ins.map fun p => (p.key, p.v)).length := by simp
  rw [e1, e2]
  refine List.Perm.length_eq ((List.perm_ext_iff_of_nodup ?_ ?_).2 fun x => ?_)
  · unfold List.Nodup
    rw [List.pairwise_flatMap]
    refine ⟨fun k _ => ?_, hn.imp fun {a b} hab x hx y hy e => ?_⟩
    · rw [List.pairwise_map]
      exact (ris_nodup (ho k).2).imp fun hne e => hne (by simpa using e)
    · obtain ⟨_, _, rfl⟩ := List.mem_map.1 hx
      obtain ⟨_, _, rfl⟩ := List.mem_map.1 hy
      simp at e
      exact hab e.1
  · unfold List.Nodup
    rw [List.pairwise_map]
    refine List.Pairwise.imp (fun {p q} hpq e => ?_) hd
    simp only [Prod.mk.injEq] at e
    exact hpq e.1 (congrArg Vn.num e.2)
  · obtain ⟨k, v⟩ := x
    rw [List.mem_flatMap, List.mem_map]
    constructor
    · rintro ⟨k', _, hx⟩
      obtain ⟨v', hv', e⟩ := List.mem_map.1 hx
      simp only [Prod.mk.injEq] at e
      obtain ⟨rfl, rfl⟩ := e
      obtain ⟨p, hp, e3, e4⟩ := (hM k' v').1 hv'
      exact ⟨p, hp, by rw [e3, e4]⟩
    · rintro ⟨p, hp, e⟩
      simp only [Prod.mk.injEq] at e
      have hv : v ∈ M k := (hM k v).2 ⟨p, hp, e.1, e.2.symm⟩
      exact ⟨k, (hk k).2 (List.ne_nil_of_mem hv), List.mem_map.2 ⟨v, hv, rfl⟩⟩
end Go.Proofs.YtakbodlicfmkjaaGreat.O

/- Texts of this claim laid together, one behind the other: contracts and plain lemmas; conditions as each names them. -/
import Derived.Test.YtpdkdgmaofhlkaaGreatDoorGp1
import Derived.Sort.LotA
import Derived.Lib.Bytealg
import Derived.Sort.Walk0
import Derived.ShutString
import Derived.ChangeOld
import Derived.Below
/- A stable order as a plain thing: rows told by their places, exchanging two neighbouring stretches, merging; of what is sorted and has of each key the same in the same order there is but one. No conditions but those each lemma names. -/
namespace Go.Proofs.YtpdkdgmaofhlkaaGreatDoor
open Go.Sort
set_option linter.unusedVariables false
set_option linter.unusedSimpArgs false

section
variable {α : Type} {κ : Type} [DecidableEq κ]
/-- An order by keys. -/
structure KO (lt : α → α → Bool) (k : α → κ) : Prop where
  swo : SWO lt
  ne : ∀ x y, lt x y = true → k x ≠ k y
  eq : ∀ x y, lt x y = false → lt y x = false → k x = k y
/-- Those of one key, in their order. -/
def fl (k : α → κ) (c : κ) (l : List α) : List α := l.filter fun x => decide (k x = c)
theorem fl_append (k : α → κ) (c : κ) (l m : List α) : fl k c (l ++ m) = fl k c l ++ fl k c m := by simp [fl]
theorem fl_mem {k : α → κ} {c : κ} {l : List α} {x : α} : x ∈ fl k c l ↔ x ∈ l ∧ k x = c := by simp [fl]
/-- n things from the place a on. -/
def seg (f : Nat → α) (a n : Nat) : List α := (List.range n).map fun i => f (a + i)
theorem seg_length (f : Nat → α) (a n : Nat) : (seg f a n).length = n := by simp [seg]
theorem seg_add (f : Nat → α) (a n m : Nat) : seg f a (n + m) = seg f a n ++ seg f (a + n) m := by
  simp [seg, List.range_add, Function.comp_def, Nat.add_assoc]
theorem seg_congr {f g : Nat → α} {a b n : Nat} (h : ∀ i, i < n → f (a + i) = g (b + i)) : seg f a n = seg g b n := by
  simp only [seg]
  apply List.map_congr_left
  intro i hi
  exact h i (List.mem_range.1 hi)
theorem seg_mem {f : Nat → α} {a n : Nat} {x : α} : x ∈ seg f a n ↔ ∃ i, i < n ∧ f (a + i) = x := by simp [seg]
/-- Of each key the same, in the same order. -/
def St (k : α → κ) (f f' : Nat → α) (a n : Nat) : Prop := ∀ c, fl k c (seg f' a n) = fl k c (seg f a n)
theorem St.refl (k : α → κ) (f : Nat → α) (a n : Nat) : St k f f a n := fun _ => rfl
theorem St.trans {k : α → κ} {f g h : Nat → α} {a n : Nat} (h1 : St k f g a n) (h2 : St k g h a n) : St k f h a n := fun c => (h2 c).trans (h1 c)
theorem St.same {k : α → κ} {f f' : Nat → α} {a n : Nat} (h : ∀ i, i < n → f' (a + i) = f (a + i)) : St k f f' a n := fun c => by rw [seg_congr h]
theorem St.join {k : α → κ} {f f' : Nat → α} {a n m : Nat} (h1 : St k f f' a n) (h2 : St k f f' (a + n) m) : St k f f' a (n + m) := fun c => by
  rw [seg_add, seg_add, fl_append, fl_append, h1 c, h2 c]
theorem St.wide {k : α → κ} {f f' : Nat → α} {a b a' b' : Nat} (h : St k f f' a (b - a)) (hab : a ≤ b) (ha : a' ≤ a) (hb : b ≤ b') (ho : ∀ x, x < a ∨ b ≤ x → f' x = f x) : St k f f' a' (b' - a') := by
  have e : b' - a' = (a - a') + ((b - a) + (b' - b)) := by omega
  rw [e]
  refine St.join (St.same fun i hi => ho _ (by omega)) ?_
  have e2 : a' + (a - a') = a := by omega
  rw [e2]
  refine St.join h (St.same fun i hi => ho _ (by omega))
theorem St.mem {k : α → κ} {f f' : Nat → α} {a n : Nat} (h : St k f f' a n) {i : Nat} (hi : i < n) : ∃ j, j < n ∧ f' (a + i) = f (a + j) := by
  have h1 : f' (a + i) ∈ fl k (k (f' (a + i))) (seg f' a n) := fl_mem.2 ⟨seg_mem.2 ⟨i, hi, rfl⟩, rfl⟩
  rw [h] at h1
  obtain ⟨j, hj, e⟩ := seg_mem.1 (fl_mem.1 h1).1
  exact ⟨j, hj, e.symm⟩
/-- Rises from a to b. -/
def Srt (lt : α → α → Bool) (f : Nat → α) (a b : Nat) : Prop := ∀ x y, a ≤ x → x < y → y < b → lt (f y) (f x) = false
theorem Srt.sub {lt : α → α → Bool} {f : Nat → α} {a b a' b' : Nat} (h : Srt lt f a b) (ha : a ≤ a') (hb : b' ≤ b) : Srt lt f a' b' := fun x y h1 h2 h3 => h x y (by omega) h2 (by omega)
theorem Srt.le {lt : α → α → Bool} (ho : SWO lt) {f : Nat → α} {a b x y : Nat} (h : Srt lt f a b) (hx : a ≤ x) (hxy : x ≤ y) (hy : y < b) : lt (f y) (f x) = false := by
  rcases Nat.lt_or_ge x y with hlt | hge
  · exact h x y hx hlt hy
  · obtain rfl : x = y := by omega
    exact ho.irrefl _
theorem lt_le {lt : α → α → Bool} (ho : SWO lt) {x y z : α} (h1 : lt x y = true) (h2 : lt z y = false) : lt x z = true := by
  cases h : lt x z with
  | true => rfl
  | false => have := ho.ntrans x z y h h2; rw [h1] at this; cases this
theorem le_lt {lt : α → α → Bool} (ho : SWO lt) {x y z : α} (h1 : lt y x = false) (h2 : lt y z = true) : lt x z = true := by
  cases h : lt x z with
  | true => rfl
  | false => have := ho.ntrans y x z h1 h; rw [h2] at this; cases this
theorem lt_asymm {lt : α → α → Bool} (ho : SWO lt) {x y : α} (h1 : lt x y = true) : lt y x = false := by
  cases h : lt y x with
  | false => rfl
  | true => have := ho.trans x y x h1 h; rw [ho.irrefl] at this; cases this
/-- The stretches from s to m and from m to e, exchanged. -/
def rotF (s m e : Nat) (f : Nat → α) : Nat → α := fun x => if s ≤ x ∧ x < s + (e - m) then f (x + (m - s)) else if s + (e - m) ≤ x ∧ x < e then f (x - (e - m)) else f x
theorem rotF_out {s m e : Nat} (hsm : s ≤ m) (hme : m ≤ e) (f : Nat → α) {x : Nat} (h : x < s ∨ e ≤ x) : rotF s m e f x = f x := by
  unfold rotF
  rw [if_neg (by omega), if_neg (by omega)]
theorem rotF_l {s m e : Nat} (f : Nat → α) {x : Nat} (h : s ≤ x ∧ x < s + (e - m)) : rotF s m e f x = f (x + (m - s)) := by
  unfold rotF
  rw [if_pos h]
theorem rotF_r {s m e : Nat} (f : Nat → α) {x : Nat} (h : s + (e - m) ≤ x ∧ x < e) : rotF s m e f x = f (x - (e - m)) := by
  unfold rotF
  rw [if_neg (by omega), if_pos h]
theorem rotF_none {s m e : Nat} (hsm : s ≤ m) (hme : m ≤ e) (h : s = m ∨ m = e) (f : Nat → α) : rotF s m e f = f := by
  funext x
  by_cases h1 : x < s ∨ e ≤ x
  · exact rotF_out hsm hme f h1
  · by_cases h2 : x < s + (e - m)
    · rw [rotF_l f ⟨by omega, h2⟩]
      congr 1
      omega
    · rw [rotF_r f ⟨by omega, by omega⟩]
      congr 1
      omega
theorem rotF_seg {s m e : Nat} (hsm : s ≤ m) (hme : m ≤ e) (f : Nat → α) : seg (rotF s m e f) s (e - s) = seg f m (e - m) ++ seg f s (m - s) := by
  have h : e - s = (e - m) + (m - s) := by omega
  rw [h, seg_add]
  congr 1
  · refine seg_congr fun i hi => ?_
    rw [rotF_l f ⟨by omega, by omega⟩]
    congr 1
    omega
  · refine seg_congr fun i hi => ?_
    rw [rotF_r f ⟨by omega, by omega⟩]
    congr 1
    omega
theorem rotF_st {lt : α → α → Bool} {k : α → κ} (ho : KO lt k) {s m e : Nat} (hsm : s ≤ m) (hme : m ≤ e) (f : Nat → α) (hst : ∀ x y, s ≤ x → x < m → m ≤ y → y < e → lt (f y) (f x) = true) : St k f (rotF s m e f) s (e - s) := by
  intro c
  have h : e - s = (m - s) + (e - m) := by omega
  rw [rotF_seg hsm hme]
  rw [h, seg_add, fl_append, fl_append, show s + (m - s) = m by omega]
  by_cases h1 : fl k c (seg f m (e - m)) = []
  · rw [h1]; simp
  · by_cases h2 : fl k c (seg f s (m - s)) = []
    · rw [h2]; simp
    · obtain ⟨y, hy⟩ := List.exists_mem_of_ne_nil _ h1
      obtain ⟨x, hx⟩ := List.exists_mem_of_ne_nil _ h2
      obtain ⟨hy1, hy2⟩ := fl_mem.1 hy
      obtain ⟨hx1, hx2⟩ := fl_mem.1 hx
      obtain ⟨j, hj, rfl⟩ := seg_mem.1 hy1
      obtain ⟨i, hi, rfl⟩ := seg_mem.1 hx1
      exact absurd (hy2.trans hx2.symm) (ho.ne _ _ (hst (s + i) (m + j) (by omega) (by omega) (by omega) (by omega)))
/-- f' is what a stable merge makes of f between a and b. -/
structure Mg (lt : α → α → Bool) (k : α → κ) (f f' : Nat → α) (a b : Nat) : Prop where
  out : ∀ x, x < a ∨ b ≤ x → f' x = f x
  srt : Srt lt f' a b
  st : St k f f' a (b - a)
theorem Mg.refl {lt : α → α → Bool} {k : α → κ} {f : Nat → α} {a b : Nat} (h : Srt lt f a b) : Mg lt k f f a b := ⟨fun _ _ => rfl, h, St.refl _ _ _ _⟩
/-- What stands behind the exchange of the middle: four runs, and nothing of the right half is less than what is in the left one. -/
structure Sy (lt : α → α → Bool) (f : Nat → α) (a s m e b : Nat) : Prop where
  o : a ≤ s ∧ s ≤ m ∧ m ≤ e ∧ e ≤ b
  l : Srt lt f a m
  r : Srt lt f m b
  mid : ∀ x y, s ≤ x → x < m → m ≤ y → y < e → lt (f y) (f x) = true
  far : ∀ x y, a ≤ x → x < s → e ≤ y → y < b → lt (f y) (f x) = false
section
variable {lt : α → α → Bool} {f : Nat → α} {a s m e b : Nat}
theorem Sy.s1 (h : Sy lt f a s m e b) : Srt lt (rotF s m e f) a s := fun x y h1 h2 h3 => by
  have := h.o
  rw [rotF_out h.o.2.1 h.o.2.2.1 f (by omega), rotF_out h.o.2.1 h.o.2.2.1 f (by omega)]
  exact h.l x y h1 h2 (by omega)
theorem Sy.s2 (h : Sy lt f a s m e b) : Srt lt (rotF s m e f) s (s + (e - m)) := fun x y h1 h2 h3 => by
  have := h.o
  rw [rotF_l f (by omega), rotF_l f (by omega)]
  exact h.r _ _ (by omega) (by omega) (by omega)
theorem Sy.s3 (h : Sy lt f a s m e b) : Srt lt (rotF s m e f) (s + (e - m)) e := fun x y h1 h2 h3 => by
  have := h.o
  rw [rotF_r f (by omega), rotF_r f (by omega)]
  exact h.l _ _ (by omega) (by omega) (by omega)
theorem Sy.s4 (h : Sy lt f a s m e b) : Srt lt (rotF s m e f) e b := fun x y h1 h2 h3 => by
  have := h.o
  rw [rotF_out h.o.2.1 h.o.2.2.1 f (by omega), rotF_out h.o.2.1 h.o.2.2.1 f (by omega)]
  exact h.r x y (by omega) h2 (by omega)
theorem Sy.lr (ho : SWO lt) (h : Sy lt f a s m e b) {x y : Nat} (h1 : a ≤ x) (h2 : x < s + (e - m)) (h3 : s + (e - m) ≤ y) (h4 : y < b) : lt (rotF s m e f y) (rotF s m e f x) = false := by
  have := h.o
  by_cases hx : x < s
  · rw [rotF_out h.o.2.1 h.o.2.2.1 f (x := x) (by omega)]
    by_cases hy : y < e
    · rw [rotF_r f (by omega)]
      exact h.l _ _ (by omega) (by omega) (by omega)
    · rw [rotF_out h.o.2.1 h.o.2.2.1 f (by omega)]
      exact h.far x y (by omega) hx (by omega) h4
  · rw [rotF_l f (x := x) (by omega)]
    by_cases hy : y < e
    · rw [rotF_r f (by omega)]
      exact lt_asymm ho (h.mid _ _ (by omega) (by omega) (by omega) (by omega))
    · rw [rotF_out h.o.2.1 h.o.2.2.1 f (by omega)]
      exact h.r _ _ (by omega) (by omega) (by omega)
theorem Sy.merged {k : α → κ} (ho : KO lt k) (h : Sy lt f a s m e b) {g1 g2 : Nat → α} (h1 : Mg lt k (rotF s m e f) g1 a (s + (e - m))) (h2 : Mg lt k g1 g2 (s + (e - m)) b) : Mg lt k f g2 a b := by
  have ho' := h.o
  have e1 : ∀ x, a ≤ x → x < s + (e - m) → ∃ x', a ≤ x' ∧ x' < s + (e - m) ∧ g2 x = rotF s m e f x' := fun x hx1 hx2 => by
    obtain ⟨j, hj, he⟩ := h1.st.mem (i := x - a) (by omega)
    rw [show a + (x - a) = x by omega] at he
    exact ⟨a + j, by omega, by omega, (h2.out x (by omega)).trans he⟩
  have e2 : ∀ y, s + (e - m) ≤ y → y < b → ∃ y', s + (e - m) ≤ y' ∧ y' < b ∧ g2 y = rotF s m e f y' := fun y hy1 hy2 => by
    obtain ⟨j, hj, he⟩ := h2.st.mem (i := y - (s + (e - m))) (by omega)
    rw [show s + (e - m) + (y - (s + (e - m))) = y by omega] at he
    exact ⟨s + (e - m) + j, by omega, by omega, he.trans (h1.out _ (by omega))⟩
  refine ⟨fun x hx => ?_, fun x y hx hxy hy => ?_, ?_⟩
  · rw [h2.out x (by omega), h1.out x (by omega), rotF_out h.o.2.1 h.o.2.2.1 f (by omega)]
  · by_cases hym : y < s + (e - m)
    · rw [h2.out x (by omega), h2.out y (by omega)]
      exact h1.srt x y hx hxy hym
    · by_cases hxm : x < s + (e - m)
      · obtain ⟨x', a1, a2, a3⟩ := e1 x hx hxm
        obtain ⟨y', b1, b2, b3⟩ := e2 y (by omega) hy
        rw [a3, b3]
        exact h.lr ho.swo a1 a2 b1 b2
      · exact h2.srt x y (by omega) hxy hy
  · have t1 : St k f (rotF s m e f) a (b - a) := (rotF_st ho h.o.2.1 h.o.2.2.1 f h.mid).wide (by omega) h.o.1 h.o.2.2.2 (fun x hx => rotF_out h.o.2.1 h.o.2.2.1 f hx)
    exact (t1.trans (h1.st.wide (by omega) (Nat.le_refl _) (by omega) h1.out)).trans (h2.st.wide (by omega) (by omega) (Nat.le_refl _) h2.out)
end
/-- Two runs of which one is nothing. -/
theorem srt_none {lt : α → α → Bool} {f : Nat → α} {a s m : Nat} (h1 : Srt lt f a s) (h2 : Srt lt f s m) (h : ¬ (a < s ∧ s < m)) (ha : a ≤ s) : Srt lt f a m := fun x y hx hxy hy => by
  by_cases hs : a < s
  · exact h1 x y hx hxy (by omega)
  · exact h2 x y (by omega) hxy hy
end
section
variable {α : Type} {κ : Type} [DecidableEq κ] {lt : α → α → Bool} {k : α → κ}
/-- What is sorted and has of each key the same in the same order is the same. -/
theorem stable_unique (ho : KO lt k) : ∀ l l' : List α, l.Pairwise (fun x y => lt y x = false) → l'.Pairwise (fun x y => lt y x = false) → (∀ c, fl k c l = fl k c l') → l = l'
  | [], l', _, _, h => by
    cases l' with
    | nil => rfl
    | cons y ys =>
      have := h (k y)
      simp [fl] at this
  | x :: xs, [], _, _, h => by
    have := h (k x)
    simp [fl] at this
  | x :: xs, y :: ys, h1, h2, h => by
    have hk : k x = k y := by
      have hx : x ∈ y :: ys := by
        have : x ∈ fl k (k x) (y :: ys) := by rw [← h]; exact fl_mem.2 ⟨by simp, rfl⟩
        exact (fl_mem.1 this).1
      have hy : y ∈ x :: xs := by
        have : y ∈ fl k (k y) (x :: xs) := by rw [h]; exact fl_mem.2 ⟨by simp, rfl⟩
        exact (fl_mem.1 this).1
      have a1 : lt y x = false := by
        rcases List.mem_cons.1 hy with e | e
        · rw [e]; exact ho.swo.irrefl _
        · exact List.rel_of_pairwise_cons h1 e
      have a2 : lt x y = false := by
        rcases List.mem_cons.1 hx with e | e
        · rw [e]; exact ho.swo.irrefl _
        · exact List.rel_of_pairwise_cons h2 e
      exact ho.eq _ _ a2 a1
    have h3 := h (k x)
    simp only [fl, List.filter_cons, decide_true, hk, if_true] at h3
    have hxy : x = y := by simpa using (List.cons.inj h3).1
    subst hxy
    congr 1
    refine stable_unique ho xs ys h1.of_cons h2.of_cons fun c => ?_
    have h4 := h c
    simp only [fl, List.filter_cons] at h4 ⊢
    by_cases hc : k x = c
    · simpa [hc] using h4
    · simpa [hc] using h4
/-- Laid into its place, behind those of the same key. -/
def insK (lt : α → α → Bool) (x : α) : List α → List α
  | [] => [x]
  | y :: ys => if lt x y then x :: y :: ys else y :: insK lt x ys
theorem insK_mem {x z : α} : ∀ {l : List α}, z ∈ insK lt x l → z = x ∨ z ∈ l
  | [], h => by simp [insK] at h; exact Or.inl h
  | y :: ys, h => by
    unfold insK at h
    split at h
    · simp at h; simpa using h
    · rcases List.mem_cons.1 h with e | e
      · exact Or.inr (by simp [e])
      · rcases insK_mem e with e | e
        · exact Or.inl e
        · exact Or.inr (by simp [e])
theorem insK_sorted (ho : SWO lt) (x : α) : ∀ l : List α, l.Pairwise (fun x y => lt y x = false) → (insK lt x l).Pairwise (fun x y => lt y x = false)
  | [], _ => by simp [insK]
  | y :: ys, h => by
    unfold insK
    split
    · rename_i hlt
      refine List.Pairwise.cons (fun z hz => ?_) h
      rcases List.mem_cons.1 hz with e | e
      · rw [e]; exact lt_asymm ho hlt
      · exact lt_asymm ho (lt_le ho hlt (List.rel_of_pairwise_cons h e))
    · rename_i hlt
      have hlt' : lt x y = false := by simpa using hlt
      refine List.Pairwise.cons (fun z hz => ?_) (insK_sorted ho x ys h.of_cons)
      rcases insK_mem hz with e | e
      · rw [e]; exact hlt'
      · exact List.rel_of_pairwise_cons h e
theorem insK_fl (ho : KO lt k) (x : α) (c : κ) : ∀ l : List α, l.Pairwise (fun x y => lt y x = false) → fl k c (insK lt x l) = fl k c (l ++ [x])
  | [], _ => by simp [insK]
  | y :: ys, h => by
    unfold insK
    split
    · rename_i hlt
      rw [show x :: y :: ys = [x] ++ (y :: ys) from rfl, fl_append, fl_append]
      by_cases hc : k x = c
      · have e : fl k c (y :: ys) = [] := by
          unfold fl
          rw [List.filter_eq_nil_iff]
          intro z hz
          have : lt x z = true := by
            rcases List.mem_cons.1 hz with e | e
            · rw [e]; exact hlt
            · exact lt_le ho.swo hlt (List.rel_of_pairwise_cons h e)
          have := ho.ne _ _ this
          simp only [decide_eq_true_eq]
          intro e
          exact this (hc.trans e.symm)
        rw [e]; simp
      · have e : fl k c [x] = [] := by simp [fl, hc]
        rw [e]; simp
    · have ih := insK_fl ho x c ys h.of_cons
      rw [show y :: insK lt x ys = [y] ++ insK lt x ys from rfl, show y :: ys ++ [x] = [y] ++ (ys ++ [x]) from rfl, fl_append, fl_append, ih]
end
section
variable {α : Type} [Inhabited α] {κ : Type} [DecidableEq κ] {lt : α → α → Bool} {k : α → κ}
/-- An array by its places. -/
def fA (d : Array α) : Nat → α := fun i => d[i]!
theorem fA_swp (d : Array α) (i j : Nat) (hi : i < d.size) (hj : j < d.size) (x : Nat) : fA (swp d i j) x = if x = j then d[i]! else if x = i then d[j]! else d[x]! := by
  unfold fA swp
  by_cases hxj : x = j
  · subst hxj
    simp [hj]
  · rw [if_neg hxj]
    by_cases hxi : x = i
    · subst hxi
      rw [if_pos rfl, getElem!_pos _ _ (by simpa using hi)]
      rw [Array.getElem_setIfInBounds_ne (by simpa using hi) (by omega)]
      simp
    · rw [if_neg hxi]
      by_cases hx : x < d.size
      · rw [getElem!_pos _ x (by simpa using hx), Array.getElem_setIfInBounds_ne (by simpa using hx) (by omega), Array.getElem_setIfInBounds_ne hx (by omega), getElem!_pos d x hx]
      · rw [getElem!_neg _ x (by simpa using hx), getElem!_neg d x hx]
theorem fA_swp_adj (d : Array α) (j : Nat) (hj : j + 1 < d.size) : fA (swp d (j + 1) j) = rotF j (j + 1) (j + 2) (fA d) := by
  funext x
  rw [fA_swp d (j + 1) j hj (by omega)]
  by_cases h1 : x = j
  · rw [if_pos h1, rotF_l _ (by omega), h1]
    unfold fA
    congr 1
    omega
  · rw [if_neg h1]
    by_cases h2 : x = j + 1
    · rw [if_pos h2, rotF_r _ (by omega), h2]
      unfold fA
      congr 1
      omega
    · rw [if_neg h2, rotF_out (by omega) (by omega) _ (by omega)]
      rfl
theorem insInner_st (ho : KO lt k) (a : Nat) : ∀ (j : Nat) (d : Array α) (b : Nat), j < b → b ≤ d.size → St k (fA d) (fA (insInner lt a j d)) a (b - a)
  | 0, d, b, _, _ => St.refl _ _ _ _
  | j + 1, d, b, hj, hb => by
    unfold insInner
    split
    · rename_i h
      simp only [gt_iff_lt, Bool.and_eq_true, decide_eq_true_eq] at h
      obtain ⟨h1, h2⟩ := h
      refine St.trans ?_ (insInner_st ho a j (swp d (j + 1) j) b (by omega) (by rw [size_swp]; exact hb))
      rw [fA_swp_adj d j (by omega)]
      have t := rotF_st ho (s := j) (m := j + 1) (e := j + 2) (by omega) (by omega) (fA d) (fun x y x1 x2 y1 y2 => by
        obtain rfl : x = j := by omega
        obtain rfl : y = x + 1 := by omega
        exact h2)
      exact t.wide (by omega) (by omega) (by omega) (fun x hx => rotF_out (by omega) (by omega) _ hx)
    · exact St.refl _ _ _ _
theorem insInner_size (a : Nat) : ∀ (j : Nat) (d : Array α), (insInner lt a j d).size = d.size
  | 0, d => rfl
  | j + 1, d => by
    unfold insInner
    split
    · rw [insInner_size a j, size_swp]
    · rfl
theorem insOuter_st (ho : KO lt k) (a b : Nat) : ∀ (n i : Nat) (d : Array α), b - i = n → b ≤ d.size → St k (fA d) (fA (insOuter lt a b i d)) a (b - a)
  | n, i, d, hn, hb => by
    unfold insOuter
    split
    · rename_i hi
      cases n with
      | zero => omega
      | succ n => exact (insInner_st ho a i d b hi hb).trans (insOuter_st ho a b n (i + 1) _ (by omega) (by rw [insInner_size]; exact hb))
    · exact St.refl _ _ _ _
/-- What insertion makes is a stable merge. -/
theorem ins_mg (ho : KO lt k) (d : Array α) (a b : Nat) (hab : a ≤ b) (hb : b ≤ d.size) : Mg lt k (fA d) (fA (insertionSort lt d a b)) a b ∧ (insertionSort lt d a b).size = d.size := by
  obtain ⟨hp, hs⟩ := insertionSort_holds ho.swo d a b hab hb
  exact ⟨⟨fun x hx => hp.2.1 x hx, hs, insOuter_st ho a b _ _ d rfl hb⟩, hp.1⟩
end
end Go.Proofs.YtpdkdgmaofhlkaaGreatDoor
/- The order of keys, byte by byte: strict and total; what comparing tells. No conditions. -/
namespace Go.Proofs.YtpdkdgmaofhlkaaGreatDoor
set_option linter.unusedVariables false

theorem bl_irrefl : ∀ a : List UInt8, Op.bytesLess a a = false
  | [] => rfl
  | x :: xs => by simp [Op.bytesLess, bl_irrefl xs]
theorem bl_cmp : ∀ a b : List UInt8, (Lib.compareBytes a b < 0 ↔ Op.bytesLess a b = true)
  | [], [] => by simp [Lib.compareBytes, Op.bytesLess]
  | [], _ :: _ => by simp [Lib.compareBytes, Op.bytesLess]
  | _ :: _, [] => by simp [Lib.compareBytes, Op.bytesLess]
  | x :: xs, y :: ys => by
    have ih := bl_cmp xs ys
    unfold Lib.compareBytes Op.bytesLess
    by_cases h1 : x < y
    · simp [h1]
    · by_cases h2 : y < x
      · simp [h1, h2]
        intro e
        subst e
        exact absurd h2 h1
      · simp [h1, h2]
        have e : x = y := UInt8.le_antisymm (UInt8.not_lt.1 h2) (UInt8.not_lt.1 h1)
        simp [e, ih]
theorem bl_lt (a b : List UInt8) : Op.bytesLess a b = true ↔ a < b := by rw [bytesLess_eq]; simp
theorem bl_trans {a b c : List UInt8} (h1 : Op.bytesLess a b = true) (h2 : Op.bytesLess b c = true) : Op.bytesLess a c = true := by
  rw [bl_lt] at *
  exact List.lt_trans h1 h2
theorem bl_ntrans {a b c : List UInt8} (h1 : Op.bytesLess a b = false) (h2 : Op.bytesLess b c = false) : Op.bytesLess a c = false := by
  rw [bytesLess_eq] at *
  simp only [decide_eq_false_iff_not, List.not_lt] at *
  exact List.le_trans h2 h1
theorem bl_eq {a b : List UInt8} (h1 : Op.bytesLess a b = false) (h2 : Op.bytesLess b a = false) : a = b := by
  rw [bytesLess_eq] at *
  simp only [decide_eq_false_iff_not, List.not_lt] at *
  exact List.le_antisymm h2 h1
theorem bl_asymm {a b : List UInt8} (h1 : Op.bytesLess a b = true) : Op.bytesLess b a = false := by
  cases h : Op.bytesLess b a with
  | false => rfl
  | true => have := bl_trans h1 h; rw [bl_irrefl] at this; cases this
end Go.Proofs.YtpdkdgmaofhlkaaGreatDoor
/- Things in the stable order of their keys, as mathematics: there is one such row; laying each into its place makes it. No conditions but those each lemma names. -/
namespace Go.Proofs.YtpdkdgmaofhlkaaGreatDoor
open Go.Sort
set_option linter.unusedVariables false
set_option linter.unusedSimpArgs false

section
variable {α β : Type}
/-- One key is below another one. -/
def ltB (key : α → ByteArray) (x y : α) : Bool := Op.bytesLess (key x).toList (key y).toList
theorem swoB (key : α → ByteArray) : SWO (ltB key) where
  irrefl x := bl_irrefl _
  trans x y z h1 h2 := bl_trans h1 h2
  ntrans x y z h1 h2 := bl_ntrans h1 h2
theorem koB (key : α → ByteArray) : KO (ltB key) (fun x => (key x).toList) where
  swo := swoB key
  ne x y h e := by
    unfold ltB at h
    have e2 : (key x).toList = (key y).toList := e
    rw [e2, bl_irrefl] at h
    cases h
  eq x y h1 h2 := bl_eq h1 h2
/-- In the order of their keys, each laid into its place behind those of the same key. -/
def sortB (key : α → ByteArray) (l : List α) : List α := l.foldl (fun acc x => insK (ltB key) x acc) []
theorem foldB_sorted (key : α → ByteArray) : ∀ (l acc : List α), acc.Pairwise (fun x y => ltB key y x = false) → (l.foldl (fun acc x => insK (ltB key) x acc) acc).Pairwise (fun x y => ltB key y x = false)
  | [], acc, h => h
  | x :: l, acc, h => foldB_sorted key l _ (insK_sorted (swoB key) x acc h)
theorem sortB_sorted (key : α → ByteArray) (l : List α) : (sortB key l).Pairwise (fun x y => ltB key y x = false) := foldB_sorted key l [] List.Pairwise.nil
theorem foldB_fl (key : α → ByteArray) (c : List UInt8) : ∀ (l acc : List α), acc.Pairwise (fun x y => ltB key y x = false) → fl (fun x => (key x).toList) c (l.foldl (fun acc x => insK (ltB key) x acc) acc) = fl (fun x => (key x).toList) c (acc ++ l)
  | [], acc, h => by simp
  | x :: l, acc, h => by
    rw [List.foldl_cons, foldB_fl key c l _ (insK_sorted (swoB key) x acc h), fl_append, insK_fl (koB key) x c acc h, ← fl_append]
    simp
theorem sortB_fl (key : α → ByteArray) (c : List UInt8) (l : List α) : fl (fun x => (key x).toList) c (sortB key l) = fl (fun x => (key x).toList) c l := by
  have := foldB_fl key c l [] List.Pairwise.nil
  rw [List.nil_append] at this
  exact this
theorem sort_is (key : α → ByteArray) {l l' : List α} (hs : l'.Pairwise (fun x y => ltB key y x = false)) (hf : ∀ c, fl (fun x => (key x).toList) c l' = fl (fun x => (key x).toList) c l) : l' = sortB key l :=
  stable_unique (koB key) l' (sortB key l) hs (sortB_sorted key l) (fun c => (hf c).trans (sortB_fl key c l).symm)
theorem insK_map (ka : α → ByteArray) (kb : β → ByteArray) (g : α → β) (hk : ∀ x, kb (g x) = ka x) (x : α) : ∀ l : List α, (insK (ltB ka) x l).map g = insK (ltB kb) (g x) (l.map g)
  | [] => rfl
  | y :: l => by
    have e : ltB kb (g x) (g y) = ltB ka x y := by unfold ltB; rw [hk, hk]
    simp only [insK, List.map_cons, e]
    cases h : ltB ka x y with
    | true => simp
    | false => simp [insK_map ka kb g hk x l]
theorem foldB_map (ka : α → ByteArray) (kb : β → ByteArray) (g : α → β) (hk : ∀ x, kb (g x) = ka x) : ∀ (l acc : List α), (l.foldl (fun acc x => insK (ltB ka) x acc) acc).map g = (l.map g).foldl (fun acc x => insK (ltB kb) x acc) (acc.map g)
  | [], acc => rfl
  | x :: l, acc => by rw [List.foldl_cons, foldB_map ka kb g hk l, insK_map ka kb g hk, List.map_cons, List.foldl_cons]
theorem sortB_map (ka : α → ByteArray) (kb : β → ByteArray) (g : α → β) (hk : ∀ x, kb (g x) = ka x) (l : List α) : (sortB ka l).map g = sortB kb (l.map g) := foldB_map ka kb g hk l []
theorem insK_length (lt : α → α → Bool) (x : α) : ∀ l : List α, (insK lt x l).length = l.length + 1
  | [] => rfl
  | y :: l => by
    unfold insK
    split
    · simp
    · simp [insK_length lt x l]
theorem foldB_length (key : α → ByteArray) : ∀ (l acc : List α), (l.foldl (fun acc x => insK (ltB key) x acc) acc).length = acc.length + l.length
  | [], acc => by simp
  | x :: l, acc => by rw [List.foldl_cons, foldB_length key l, insK_length, List.length_cons]; omega
theorem sortB_length (key : α → ByteArray) (l : List α) : (sortB key l).length = l.length := by
  have := foldB_length key l []
  simpa [sortB] using this
theorem foldB_mem (key : α → ByteArray) : ∀ (l acc : List α) (z : α), z ∈ l.foldl (fun acc x => insK (ltB key) x acc) acc → z ∈ acc ∨ z ∈ l
  | [], acc, z, h => Or.inl h
  | x :: l, acc, z, h => by
    rcases foldB_mem key l _ z h with e | e
    · rcases insK_mem e with e | e
      · exact Or.inr (by simp [e])
      · exact Or.inl e
    · exact Or.inr (by simp [e])
theorem sortB_mem (key : α → ByteArray) {l : List α} {z : α} (h : z ∈ sortB key l) : z ∈ l := by
  rcases foldB_mem key l [] z h with e | e
  · cases e
  · exact e
theorem sortB_snoc (key : α → ByteArray) (l : List α) (x : α) : sortB key (l ++ [x]) = insK (ltB key) x (sortB key l) := by unfold sortB; rw [List.foldl_append]; rfl
theorem sortB_one (key : α → ByteArray) (x : α) : sortB key [x] = [x] := rfl
theorem sortB_nil (key : α → ByteArray) : sortB key ([] : List α) = [] := rfl
/-- What stands ahead of the place of x, and what behind it. -/
theorem insK_split (lt : α → α → Bool) (x : α) : ∀ l : List α, ∃ a b, l = a ++ b ∧ insK lt x l = a ++ x :: b
  | [] => ⟨[], [], rfl, rfl⟩
  | y :: l => by
    unfold insK
    split
    · exact ⟨[], y :: l, rfl, rfl⟩
    · obtain ⟨a, b, h1, h2⟩ := insK_split lt x l
      exact ⟨y :: a, b, by rw [h1]; rfl, by rw [h2]; rfl⟩
end
section
variable {α : Type} [Inhabited α]
theorem seg_arr (d : Array α) : seg (fA d) 0 d.size = d.toList := by
  apply List.ext_getElem?
  intro i
  by_cases h : i < d.size
  · simp [seg, fA, h]
  · rw [List.getElem?_eq_none (by rw [seg_length]; omega), List.getElem?_eq_none (by simp; omega)]
theorem srt_arr {lt : α → α → Bool} {d : Array α} (h : Srt lt (fA d) 0 d.size) : d.toList.Pairwise (fun x y => lt y x = false) := by
  rw [List.pairwise_iff_getElem]
  intro i j hi hj hij
  have := h i j (Nat.zero_le _) hij (by simpa using hj)
  have h1 : i < d.size := by simpa using hi
  have h2 : j < d.size := by simpa using hj
  simpa [fA, h1, h2] using this
theorem sorted_is (key : α → ByteArray) {d d' : Array α} (hz : d'.size = d.size) (hs : Srt (ltB key) (fA d') 0 d.size) (ht : St (fun x => (key x).toList) (fA d) (fA d') 0 d.size) : d'.toList = sortB key d.toList := by
  refine sort_is key (srt_arr (by rw [hz]; exact hs)) fun c => ?_
  have := ht c
  rw [seg_arr d] at this
  rw [← hz, seg_arr d'] at this
  exact this
end
end Go.Proofs.YtpdkdgmaofhlkaaGreatDoor
/- A slice of bytes that came in, and the statements' own test of sizes. Conditions as each lemma names them. -/
namespace Go.Proofs.YtpdkdgmaofhlkaaGreatDoor
open Go.ChangeShapes Go.WideShapes Go.ChangeAt Go.RowKit Go.Lib
end Go.Proofs.YtpdkdgmaofhlkaaGreatDoor

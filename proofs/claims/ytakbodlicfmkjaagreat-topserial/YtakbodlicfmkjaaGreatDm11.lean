/- Who waits for whom, as plain mathematics: the last writer of a key, who waits for whom, what a table keeps of it. Plain lemmas. -/
import Derived.Test.YtakbodlicfmkjaaGreatMem
namespace Go.Proofs.YtakbodlicfmkjaaGreat
set_option linter.unusedVariables false
set_option linter.unusedSimpArgs false

/-- Numbers rise. -/
def Ris (xs : List Int) : Prop := xs.Pairwise fun a b => a < b
theorem Ris.one : ∀ {xs ys : List Int}, Ris xs → Ris ys → (∀ x, x ∈ xs ↔ x ∈ ys) → xs = ys
  | [], [], _, _, _ => rfl
  | [], y :: r, _, _, h => absurd ((h y).2 (by simp)) (by simp)
  | x :: r, [], _, _, h => absurd ((h x).1 (by simp)) (by simp)
  | x :: r, y :: s, hx, hy, h => by
    have hx' := List.pairwise_cons.1 hx
    have hy' := List.pairwise_cons.1 hy
    have e : x = y := by
      rcases List.mem_cons.1 ((h x).1 (by simp)) with e | e
      · exact e
      · rcases List.mem_cons.1 ((h y).2 (by simp)) with e2 | e2
        · exact e2.symm
        · have := hy'.1 x e
          have := hx'.1 y e2
          omega
    subst e
    have e2 : r = s := Ris.one hx'.2 hy'.2 (fun z => by
      have hz := h z
      simp only [List.mem_cons] at hz
      constructor
      · intro h1
        rcases hz.1 (Or.inr h1) with e | e
        · have := hx'.1 z h1; omega
        · exact e
      · intro h1
        rcases hz.2 (Or.inr h1) with e | e
        · have := hy'.1 z h1; omega
        · exact e)
    rw [e2]
theorem Ris.snoc {xs : List Int} {n : Int} (h : Ris xs) (hn : ∀ x ∈ xs, x < n) : Ris (xs ++ [n]) :=
  List.pairwise_append.2 ⟨h, List.pairwise_singleton _ _, fun a ha b hb => by simp at hb; subst hb; exact hn a ha⟩
theorem Ris.filter {xs : List Int} (h : Ris xs) (p : Int → Bool) : Ris (xs.filter p) := List.Pairwise.sublist List.filter_sublist h
theorem Ris.few {xs : List Int} (h : Ris xs) {a : Int} {n : Nat} (hb : ∀ x ∈ xs, a ≤ x ∧ x < a + n) : xs.length ≤ n := by
  induction xs generalizing a n with
  | nil => simp
  | cons x r ih =>
    have h' := List.pairwise_cons.1 h
    obtain ⟨h1, h2⟩ := hb x (by simp)
    have := ih h'.2 (a := x + 1) (n := n - 1) (fun y hy => by
      have := h'.1 y hy
      have := hb y (by simp [hy])
      omega)
    simp only [List.length_cons]
    omega
abbrev Lg := List (Int × List ByteArray)
open Classical in
/-- Who wrote a key last; 0: nobody. -/
noncomputable def lst (L : Lg) (k : ByteArray) : Int := L.foldl (fun a p => if k ∈ p.2 then p.1 else a) 0
theorem lst_nil (k : ByteArray) : lst [] k = 0 := rfl
open Classical in
theorem lst_snoc (L : Lg) (p : Int × List ByteArray) (k : ByteArray) : lst (L ++ [p]) k = if k ∈ p.2 then p.1 else lst L k := by
  simp [lst, List.foldl_append]
/-- The numbers of a log rise, from 1 on. -/
structure RisL (L : Lg) : Prop where
  ris : Ris (L.map (·.1))
  pos : ∀ p ∈ L, 1 ≤ p.1
theorem RisL.init {L : Lg} {p : Int × List ByteArray} (h : RisL (L ++ [p])) : RisL L ∧ (∀ q ∈ L, q.1 < p.1) ∧ 1 ≤ p.1 := by
  have hr := h.ris
  rw [List.map_append] at hr
  obtain ⟨h1, _, h3⟩ := List.pairwise_append.1 hr
  exact ⟨⟨h1, fun q hq => h.pos q (by simp [hq])⟩, fun q hq => h3 q.1 (List.mem_map.2 ⟨q, hq, rfl⟩) p.1 (by simp), h.pos p (by simp)⟩
theorem RisL.nil : RisL [] := ⟨List.Pairwise.nil, by simp⟩
theorem RisL.snoc {L : Lg} {p : Int × List ByteArray} (h : RisL L) (h1 : ∀ q ∈ L, q.1 < p.1) (h2 : 1 ≤ p.1) : RisL (L ++ [p]) := by
  refine ⟨?_, fun q hq => ?_⟩
  · rw [List.map_append]
    exact Ris.snoc h.ris (fun x hx => by obtain ⟨q, hq, rfl⟩ := List.mem_map.1 hx; exact h1 q hq)
  · rcases List.mem_append.1 hq with h3 | h3
    · exact h.pos q h3
    · simp at h3; subst h3; exact h2
theorem snocI {P : Lg → Prop} (h0 : P []) (h1 : ∀ L p, P L → P (L ++ [p])) (L : Lg) : P L := by
  have : ∀ n (L : Lg), L.length = n → P L := by
    intro n
    induction n with
    | zero => intro L hL; rw [List.eq_nil_of_length_eq_zero hL]; exact h0
    | succ n ih =>
      intro L hL
      have hne : L ≠ [] := fun e => by rw [e] at hL; cases hL
      rw [← List.dropLast_concat_getLast hne]
      exact h1 _ _ (ih _ (by rw [List.length_dropLast, hL]; rfl))
  exact this _ L rfl
/-- It wrote the key; none behind it did. -/
theorem lst_some (L : Lg) (k : ByteArray) : RisL L → lst L k ≠ 0 → (∃ ks, (lst L k, ks) ∈ L ∧ k ∈ ks) := by
  refine snocI (P := fun L => RisL L → lst L k ≠ 0 → (∃ ks, (lst L k, ks) ∈ L ∧ k ∈ ks)) ?_ ?_ L
  · intro _ h; exact absurd rfl h
  · intro L p ih hr h
    rw [lst_snoc] at h ⊢
    by_cases hk : k ∈ p.2
    · rw [if_pos hk]
      exact ⟨p.2, by simp, hk⟩
    · rw [if_neg hk] at h ⊢
      obtain ⟨ks, h1, h2⟩ := ih hr.init.1 h
      exact ⟨ks, by simp [h1], h2⟩
theorem lst_ge (L : Lg) (k : ByteArray) : RisL L → ∀ q ∈ L, k ∈ q.2 → q.1 ≤ lst L k := by
  refine snocI (P := fun L => RisL L → ∀ q ∈ L, k ∈ q.2 → q.1 ≤ lst L k) (by simp) ?_ L
  intro L p ih hr q hq hk
  rw [lst_snoc]
  obtain ⟨h1, h2, h3⟩ := hr.init
  rcases List.mem_append.1 hq with h4 | h4
  · split
    · have := h2 q h4; omega
    · exact ih h1 q h4 hk
  · simp at h4
    subst h4
    rw [if_pos hk]
    exact Int.le_refl _
theorem lst_none (L : Lg) (k : ByteArray) (hr : RisL L) (h : ∀ q ∈ L, k ∉ q.2) : lst L k = 0 := by
  by_cases h0 : lst L k = 0
  · exact h0
  · obtain ⟨ks, h1, h2⟩ := lst_some L k hr h0
    exact absurd h2 (h _ h1)
/-- The first was added when the second one was the last writer of one of its keys. -/
def Dep (L : Lg) (n m : Int) : Prop := ∃ A ks C, L = A ++ (n, ks) :: C ∧ m ≠ 0 ∧ ∃ k ∈ ks, lst A k = m
theorem dep_snoc (L : Lg) (p : Int × List ByteArray) (a m : Int) : Dep (L ++ [p]) a m ↔ Dep L a m ∨ (a = p.1 ∧ m ≠ 0 ∧ ∃ k ∈ p.2, lst L k = m) := by
  constructor
  · rintro ⟨A, ks, C, e, h1, h2⟩
    rcases List.eq_nil_or_concat C with rfl | ⟨C', q, rfl⟩
    · have := List.append_inj' e rfl
      obtain ⟨rfl, e2⟩ := this
      simp at e2
      subst e2
      exact Or.inr ⟨rfl, h1, h2⟩
    · have e' : L ++ [p] = (A ++ (a, ks) :: C') ++ [q] := by simp [e]
      obtain ⟨rfl, _⟩ := List.append_inj' e' rfl
      exact Or.inl ⟨A, ks, C', rfl, h1, h2⟩
  · rintro (⟨A, ks, C, rfl, h1, h2⟩ | ⟨rfl, h1, h2⟩)
    · exact ⟨A, ks, C ++ [p], by simp, h1, h2⟩
    · exact ⟨L, p.2, [], rfl, h1, h2⟩
/-- A key is written by both. -/
def Nr (L : Lg) (a b : Int) : Prop := ∃ p ∈ L, ∃ q ∈ L, p.1 = a ∧ q.1 = b ∧ ∃ k, k ∈ p.2 ∧ k ∈ q.2
theorem RisL.front {A C : Lg} {p : Int × List ByteArray} (h : RisL (A ++ p :: C)) : RisL A ∧ (∀ q ∈ A, q.1 < p.1) ∧ (∀ q ∈ C, p.1 < q.1) := by
  have hr := h.ris
  rw [List.map_append, List.map_cons] at hr
  obtain ⟨h1, h2, h3⟩ := List.pairwise_append.1 hr
  refine ⟨⟨h1, fun q hq => h.pos q (by simp [hq])⟩, fun q hq => h3 q.1 (List.mem_map.2 ⟨q, hq, rfl⟩) p.1 (by simp), fun q hq => ?_⟩
  exact (List.pairwise_cons.1 h2).1 q.1 (List.mem_map.2 ⟨q, hq, rfl⟩)
theorem RisL.same {L : Lg} (h : RisL L) {n : Int} {ks js : List ByteArray} (h1 : (n, ks) ∈ L) (h2 : (n, js) ∈ L) : ks = js := by
  obtain ⟨A, C, rfl⟩ := List.append_of_mem h1
  obtain ⟨_, h3, h4⟩ := h.front
  rcases List.mem_append.1 h2 with h5 | h5
  · have := h3 _ h5; simp at this
  · rcases List.mem_cons.1 h5 with h6 | h6
    · cases h6; rfl
    · have := h4 _ h6; simp at this
theorem Dep.lt {L : Lg} (hr : RisL L) {n m : Int} (h : Dep L n m) : 1 ≤ m ∧ m < n ∧ Nr L m n := by
  obtain ⟨A, ks, C, rfl, h1, k, hk, rfl⟩ := h
  obtain ⟨ha, h2, _⟩ := hr.front
  obtain ⟨js, h3, h4⟩ := lst_some A k ha h1
  exact ⟨ha.pos _ h3, h2 _ h3, (lst A k, js), by simp [h3], (n, ks), by simp, rfl, rfl, k, h4, hk⟩
/-- Two that write one key: the later one waits for the earlier one, or for one between them that writes the key too. -/
theorem nr_dep {L : Lg} (hr : RisL L) {i n : Int} (h : Nr L i n) (hlt : i < n) : ∃ m, i ≤ m ∧ Dep L n m ∧ (i = m ∨ (i < m ∧ Nr L i m)) := by
  obtain ⟨⟨i', is⟩, hp, ⟨n', ks⟩, hq, rfl, rfl, k, h1, h2⟩ := h
  simp only at *
  obtain ⟨A, C, rfl⟩ := List.append_of_mem hq
  obtain ⟨ha, h3, h4⟩ := hr.front
  have hpA : (i', is) ∈ A := by
    rcases List.mem_append.1 hp with h5 | h5
    · exact h5
    · rcases List.mem_cons.1 h5 with h6 | h6
      · cases h6; omega
      · have := h4 _ h6; simp only at this; omega
  have hge := lst_ge A k ha _ hpA h1
  have hpos := ha.pos _ hpA
  simp only at hge hpos
  refine ⟨lst A k, hge, ⟨A, ks, C, rfl, by omega, k, h2, rfl⟩, ?_⟩
  rcases Int.lt_or_eq_of_le hge with h5 | h5
  · obtain ⟨js, h6, h7⟩ := lst_some A k ha (by omega)
    exact Or.inr ⟨h5, (i', is), by simp [hpA], (lst A k, js), by simp [h6], rfl, rfl, k, h1, h7⟩
  · exact Or.inl h5
/-- What a table keeps. -/
structure Dt where
  last : ByteArray → Int
  newest : Int
  op : Int → Prop
  ah : Int → List Int
  bh : Int → List Int
  wt : Int → Int → Prop
def Dt.none : Dt := ⟨fun _ => 0, 0, fun _ => False, fun _ => [], fun _ => [], fun _ _ => False⟩
/-- What a table keeps of a log of which some have ended. -/
structure Inv (D : Dt) (L : Lg) (en : Int → Prop) : Prop where
  ris : RisL L
  last : ∀ k, D.last k = lst L k
  new : (∀ p ∈ L, p.1 ≤ D.newest) ∧ 0 ≤ D.newest
  tip : D.newest = 0 ∨ ∃ p ∈ L, p.1 = D.newest
  op : ∀ n, D.op n ↔ (∃ p ∈ L, p.1 = n) ∧ ¬ en n
  ah : ∀ n, D.op n → Ris (D.ah n) ∧ (∀ m ∈ D.ah n, Dep L n m) ∧ ∀ m, Dep L n m → D.op m → m ∈ D.ah n
  bh : ∀ m, D.op m → Ris (D.bh m) ∧ ∀ n, n ∈ D.bh m ↔ D.op n ∧ Dep L n m
  wt : ∀ n m, D.wt n m ↔ D.op n ∧ D.op m ∧ Dep L n m
  ended : ∀ n, en n → ∃ p ∈ L, p.1 = n
  order : ∀ n, en n → ∀ i, i < n → Nr L i n → en i
theorem Inv.none : Inv Dt.none [] (fun _ => False) :=
  ⟨RisL.nil, fun k => rfl, ⟨by simp, Int.le_refl _⟩, Or.inl rfl, fun n => by simp [Dt.none], fun n h => h.elim, fun n h => h.elim, fun n m => by simp [Dt.none], fun n h => h.elim, fun n h => h.elim⟩
/-- These are just those that one waits for. -/
def WtT (L : Lg) (op : Int → Prop) (n : Int) (xs : List Int) : Prop := Ris xs ∧ ∀ m, m ∈ xs ↔ op m ∧ Dep L n m
open Classical in
theorem Inv.await {D : Dt} {L : Lg} {en : Int → Prop} (h : Inv D L en) {n : Int} (hn : D.op n) : WtT L D.op n ((D.ah n).filter fun m => decide (D.wt n m)) := by
  obtain ⟨h1, h2, h3⟩ := h.ah n hn
  refine ⟨h1.filter _, fun m => ?_⟩
  rw [List.mem_filter]
  simp only [decide_eq_true_eq, h.wt]
  constructor
  · rintro ⟨_, _, h5, h6⟩; exact ⟨h5, h6⟩
  · rintro ⟨h5, h6⟩; exact ⟨h3 m h6 h5, hn, h5, h6⟩
/-- An open one that waits for none: no open one ahead of it writes a key of its. -/
theorem Inv.free {D : Dt} {L : Lg} {en : Int → Prop} (h : Inv D L en) {n : Int} (hn : D.op n) (hf : ∀ m, D.op m → ¬ Dep L n m) {i : Int} (hi : i < n) (hr : Nr L i n) : en i := by
  obtain ⟨m, h1, h2, h3⟩ := nr_dep h.ris hr hi
  have hme : en m := Classical.byContradiction fun hm => hf m ((h.op m).2 ⟨by obtain ⟨_, _, p, hp, _, _, e, _⟩ := h2.lt h.ris; exact ⟨p, hp, e⟩, hm⟩) h2
  rcases h3 with rfl | ⟨h3, h4⟩
  · exact hme
  · exact h.order m hme i h3 h4
/-- What Add tells: for whom it waits. -/
def AhT (D : Dt) (ks : List ByteArray) (xs : List Int) : Prop := Ris xs ∧ ∀ m, m ∈ xs ↔ D.op m ∧ ∃ k ∈ ks, D.last k = m
open Classical in
/-- What Add leaves. -/
noncomputable def Dt.add (D : Dt) (n : Int) (ks : List ByteArray) (xs : List Int) : Dt where
  last := fun k => if k ∈ ks then n else D.last k
  newest := n
  op := fun m => D.op m ∨ m = n
  ah := fun m => if m = n then xs else D.ah m
  bh := fun m => if m = n then [] else if m ∈ xs then D.bh m ++ [n] else D.bh m
  wt := fun a m => D.wt a m ∨ (a = n ∧ m ∈ xs)
theorem Nr.mono {L : Lg} {p : Int × List ByteArray} {a b : Int} (h : Nr L a b) : Nr (L ++ [p]) a b := by
  obtain ⟨x, hx, y, hy, h⟩ := h
  exact ⟨x, by simp [hx], y, by simp [hy], h⟩
open Classical in
theorem Inv.add {D : Dt} {L : Lg} {en : Int → Prop} (h : Inv D L en) {n : Int} {ks : List ByteArray} {xs : List Int} (hn : D.newest < n) (hx : AhT D ks xs) : Inv (D.add n ks xs) (L ++ [(n, ks)]) en := by
  have hlt : ∀ q ∈ L, q.1 < n := fun q hq => by have := h.new.1 q hq; omega
  have hr : RisL (L ++ [(n, ks)]) := h.ris.snoc hlt (by have := h.new.2; show 1 ≤ n; omega)
  have hnop : ¬ D.op n := fun ho => by
    obtain ⟨⟨p, hp, e⟩, _⟩ := (h.op n).1 ho
    have := hlt p hp
    omega
  have hnen : ¬ en n := fun he => by
    obtain ⟨p, hp, e⟩ := h.ended n he
    have := hlt p hp
    omega
  have hopne : ∀ m, D.op m → m ≠ n := fun m hm e => hnop (e ▸ hm)
  have hopn : ∀ m, D.op m → m < n := fun m hm => by
    obtain ⟨⟨p, hp, e⟩, _⟩ := (h.op m).1 hm
    have := hlt p hp
    omega
  have hdepL : ∀ a m, Dep L a m → a ≠ n := fun a m hd e => by
    obtain ⟨A, js, C, e2, _⟩ := hd
    have := hlt (a, js) (by rw [e2]; simp)
    simp only at this
    omega
  have hop : ∀ m, D.op m → 1 ≤ m := fun m hm => by
    obtain ⟨⟨p, hp, e⟩, _⟩ := (h.op m).1 hm
    have := h.ris.pos p hp
    omega
  have hxs : ∀ m, m ∈ xs ↔ D.op m ∧ m ≠ 0 ∧ ∃ k ∈ ks, lst L k = m := fun m => by
    rw [hx.2 m]
    constructor
    · rintro ⟨h1, k, h2, h3⟩
      exact ⟨h1, by have := hop m h1; omega, k, h2, by rw [← h.last]; exact h3⟩
    · rintro ⟨h1, _, k, h2, h3⟩
      exact ⟨h1, k, h2, by rw [h.last]; exact h3⟩
  refine ⟨hr, fun k => ?_, ⟨fun p hp => ?_, by have := h.new.2; show 0 ≤ n; omega⟩, Or.inr ⟨(n, ks), by simp, rfl⟩, fun m => ?_, fun m hm => ?_, fun m hm => ?_, fun a m => ?_, fun m hm => ?_, fun m hm i hi hN => ?_⟩
  · rw [lst_snoc]
    show (if k ∈ ks then n else D.last k) = _
    rw [h.last]
  · rcases List.mem_append.1 hp with h1 | h1
    · have := hlt p h1; show p.1 ≤ n; omega
    · simp at h1; subst h1; exact Int.le_refl _
  · show D.op m ∨ m = n ↔ _
    rw [h.op m]
    constructor
    · rintro (⟨⟨p, hp, e⟩, h2⟩ | rfl)
      · exact ⟨⟨p, by simp [hp], e⟩, h2⟩
      · exact ⟨⟨(m, ks), by simp, rfl⟩, hnen⟩
    · rintro ⟨⟨p, hp, e⟩, h2⟩
      rcases List.mem_append.1 hp with h1 | h1
      · exact Or.inl ⟨⟨p, h1, e⟩, h2⟩
      · simp at h1; subst h1; exact Or.inr e.symm
  · show Ris (if m = n then xs else D.ah m) ∧ (∀ y ∈ (if m = n then xs else D.ah m), _) ∧ ∀ y, _ → (D.op y ∨ y = n) → y ∈ (if m = n then xs else D.ah m)
    by_cases e : m = n
    · subst e
      rw [if_pos rfl]
      refine ⟨hx.1, fun y hy => (dep_snoc _ _ _ _).2 (Or.inr ⟨rfl, ((hxs y).1 hy).2⟩), fun y hy ho => ?_⟩
      rcases (dep_snoc _ _ _ _).1 hy with h1 | ⟨_, h1⟩
      · exact absurd rfl (hdepL _ _ h1)
      · rcases ho with ho | rfl
        · exact (hxs y).2 ⟨ho, h1⟩
        · have := (hy.lt hr).2.1; omega
    · rw [if_neg e]
      have hm' : D.op m := by
        rcases hm with h1 | h1
        · exact h1
        · exact absurd h1 e
      obtain ⟨h1, h2, h3⟩ := h.ah m hm'
      refine ⟨h1, fun y hy => (dep_snoc _ _ _ _).2 (Or.inl (h2 y hy)), fun y hy ho => ?_⟩
      rcases (dep_snoc _ _ _ _).1 hy with h4 | ⟨h4, _⟩
      · rcases ho with ho | rfl
        · exact h3 y h4 ho
        · have h5 := (hy.lt hr).2.1
          have := hopn m hm'
          omega
      · exact absurd h4 e
  · show Ris (if m = n then [] else if m ∈ xs then D.bh m ++ [n] else D.bh m) ∧ ∀ y, y ∈ (if m = n then [] else if m ∈ xs then D.bh m ++ [n] else D.bh m) ↔ (D.op y ∨ y = n) ∧ _
    by_cases e : m = n
    · subst e
      rw [if_pos rfl]
      refine ⟨List.Pairwise.nil, fun y => ⟨fun hy => (by simp at hy), fun ⟨h1, h2⟩ => ?_⟩⟩
      have h3 := (h2.lt hr).2.1
      rcases h1 with h1 | h1
      · have := hopn y h1; omega
      · omega
    · rw [if_neg e]
      have hm' : D.op m := by
        rcases hm with h1 | h1
        · exact h1
        · exact absurd h1 e
      obtain ⟨h1, h2⟩ := h.bh m hm'
      have hD : ∀ y, Dep (L ++ [(n, ks)]) y m ↔ Dep L y m ∨ (y = n ∧ m ∈ xs) := fun y => by
        rw [dep_snoc, hxs m]
        constructor
        · rintro (h4 | ⟨h4, h5⟩)
          · exact Or.inl h4
          · exact Or.inr ⟨h4, hm', h5⟩
        · rintro (h4 | ⟨h4, _, h5⟩)
          · exact Or.inl h4
          · exact Or.inr ⟨h4, h5⟩
      by_cases hin : m ∈ xs
      · rw [if_pos hin]
        refine ⟨h1.snoc (fun y hy => hopn y ((h2 y).1 hy).1), fun y => ?_⟩
        rw [List.mem_append, h2 y, hD y]
        simp only [List.mem_singleton]
        constructor
        · rintro (⟨h4, h5⟩ | h4)
          · exact ⟨Or.inl h4, Or.inl h5⟩
          · exact ⟨Or.inr h4, Or.inr ⟨h4, hin⟩⟩
        · rintro ⟨h4, h5⟩
          rcases h4 with h4 | h4
          · rcases h5 with h5 | ⟨h5, _⟩
            · exact Or.inl ⟨h4, h5⟩
            · exact Or.inr h5
          · exact Or.inr h4
      · rw [if_neg hin]
        refine ⟨h1, fun y => ?_⟩
        rw [h2 y, hD y]
        constructor
        · rintro ⟨h4, h5⟩; exact ⟨Or.inl h4, Or.inl h5⟩
        · rintro ⟨h4, h5⟩
          rcases h5 with h5 | ⟨_, h5⟩
          · refine ⟨?_, h5⟩
            rcases h4 with h4 | h4
            · exact h4
            · exact absurd h4 (hdepL _ _ h5)
          · exact absurd h5 hin
  · show (D.wt a m ∨ (a = n ∧ m ∈ xs)) ↔ (D.op a ∨ a = n) ∧ (D.op m ∨ m = n) ∧ _
    rw [h.wt a m, dep_snoc]
    constructor
    · rintro (⟨h1, h2, h3⟩ | ⟨h1, h2⟩)
      · exact ⟨Or.inl h1, Or.inl h2, Or.inl h3⟩
      · have := (hxs m).1 h2
        exact ⟨Or.inr h1, Or.inl this.1, Or.inr ⟨h1, this.2⟩⟩
    · rintro ⟨h1, h2, h3⟩
      have hmn : m ≠ n := fun e => by
        have hd : Dep (L ++ [(n, ks)]) a m := (dep_snoc _ _ _ _).2 h3
        have h4 := (hd.lt hr).2.1
        rcases h1 with h1 | h1
        · have := hopn a h1; omega
        · omega
      have h2' : D.op m := by
        rcases h2 with h2 | h2
        · exact h2
        · exact absurd h2 hmn
      rcases h3 with h3 | ⟨h3, h4⟩
      · rcases h1 with h1 | h1
        · exact Or.inl ⟨h1, h2', h3⟩
        · exact absurd h1 (hdepL _ _ h3)
      · exact Or.inr ⟨h3, (hxs m).2 ⟨h2', h4⟩⟩
  · obtain ⟨p, hp, e⟩ := h.ended m hm
    exact ⟨p, by simp [hp], e⟩
  · obtain ⟨p, hp, e⟩ := h.ended m hm
    have hmn := hlt p hp
    refine h.order m hm i hi ?_
    obtain ⟨x, hx', y, hy, e1, e2, hk⟩ := hN
    have f : ∀ z : Int × List ByteArray, z ∈ L ++ [(n, ks)] → z.1 < n → z ∈ L := fun z hz hl => by
      rcases List.mem_append.1 hz with h1 | h1
      · exact h1
      · simp at h1; subst h1; simp at hl
    exact ⟨x, f x hx' (by omega), y, f y hy (by omega), e1, e2, hk⟩
/-- What Done leaves. -/
def Dt.done (D : Dt) (n : Int) : Dt where
  last := D.last
  newest := D.newest
  op := fun m => D.op m ∧ m ≠ n
  ah := D.ah
  bh := D.bh
  wt := fun a m => D.wt a m ∧ m ≠ n
theorem Inv.done {D : Dt} {L : Lg} {en : Int → Prop} (h : Inv D L en) {n : Int} (hn : D.op n) (hf : ∀ m, D.op m → ¬ Dep L n m) : Inv (D.done n) L (fun m => en m ∨ m = n) := by
  have hL := ((h.op n).1 hn).1
  refine ⟨h.ris, h.last, h.new, h.tip, fun m => ?_, fun m hm => ?_, fun m hm => ?_, fun a m => ?_, fun m hm => ?_, fun m hm i hi hN => ?_⟩
  · show D.op m ∧ m ≠ n ↔ _
    rw [h.op m, not_or, and_assoc]
  · obtain ⟨h1, h2, h3⟩ := h.ah m hm.1
    exact ⟨h1, h2, fun y hy ho => h3 y hy ho.1⟩
  · obtain ⟨h1, h2⟩ := h.bh m hm.1
    refine ⟨h1, fun y => ?_⟩
    rw [show (D.done n).bh m = D.bh m from rfl, h2 y]
    constructor
    · rintro ⟨h3, h4⟩
      exact ⟨⟨h3, fun e => hf m hm.1 (e ▸ h4)⟩, h4⟩
    · rintro ⟨h3, h4⟩; exact ⟨h3.1, h4⟩
  · show D.wt a m ∧ m ≠ n ↔ (D.op a ∧ a ≠ n) ∧ (D.op m ∧ m ≠ n) ∧ _
    rw [h.wt a m]
    constructor
    · rintro ⟨⟨h1, h2, h3⟩, h4⟩
      exact ⟨⟨h1, fun e => hf m h2 (e ▸ h3)⟩, ⟨h2, h4⟩, h3⟩
    · rintro ⟨h1, h2, h3⟩
      exact ⟨⟨h1.1, h2.1, h3⟩, h2.2⟩
  · rcases hm with hm | rfl
    · exact h.ended m hm
    · exact hL
  · rcases hm with hm | rfl
    · exact Or.inl (h.order m hm i hi hN)
    · exact Or.inl (h.free hn hf hi hN)
/-- What Done tells: who waits for none any more. -/
def DoT (L : Lg) (op : Int → Prop) (n : Int) (xs : List Int) : Prop := Ris xs ∧ ∀ o, o ∈ xs ↔ op o ∧ Dep L o n ∧ ∀ m, op m → m ≠ n → ¬ Dep L o m
end Go.Proofs.YtakbodlicfmkjaaGreat

/- Texts of this claim laid together, one behind the other: contracts and plain lemmas; conditions as each names them. -/
import Derived.Test.YtdojhkgnnbdfkaaGreatGp45
import Derived.Test.YtdojhkgnnbdfkaaGreatGp1
import Derived.Maps.OwnOps
import Derived.Maps.OwnSet
import Derived.Maps.Views
import Derived.DeepKeys4
import Derived.WideLaws
import Derived.Test.YtdojhkgnnbdfkaaGreatGp9
/- The writes that count of a transaction, as mathematics: those that no later one of their key follows. No conditions. -/
namespace Go.Proofs.YtdojhkgnnbdfkaaGreat.Q
set_option linter.unusedVariables false
set_option linter.unusedSimpArgs false

/-- The key of the write i. -/
def kAt (ws : List Wt) (i : Nat) : ByteArray := (ws.getD i Wt.zero).key
/-- No later one of its key follows. -/
def Kept (ws : List Wt) (i : Nat) : Prop := ∀ m, i < m → m < ws.length → kAt ws m ≠ kAt ws i
open Classical in
/-- Those that count, of the first i. -/
noncomputable def ddTo (ws : List Wt) : Nat → List Wt
  | 0 => []
  | i + 1 => if Kept ws i then ddTo ws i ++ [ws.getD i Wt.zero] else ddTo ws i
/-- Those that count. -/
noncomputable def dd (ws : List Wt) : List Wt := ddTo ws ws.length
theorem ddTo_yes {ws : List Wt} {i : Nat} (h : Kept ws i) : ddTo ws (i + 1) = ddTo ws i ++ [ws.getD i Wt.zero] := by
  simp only [ddTo, if_pos h]
theorem ddTo_no {ws : List Wt} {i : Nat} (h : ¬ Kept ws i) : ddTo ws (i + 1) = ddTo ws i := by
  simp only [ddTo, if_neg h]
theorem ddTo_len (ws : List Wt) : ∀ i, (ddTo ws i).length ≤ i
  | 0 => Nat.le_refl _
  | i + 1 => by
    have ih := ddTo_len ws i
    by_cases h : Kept ws i
    · rw [ddTo_yes h, List.length_append]; simp; omega
    · rw [ddTo_no h]; omega
theorem dd_len (ws : List Wt) : (dd ws).length ≤ ws.length := ddTo_len ws _
theorem ddTo_mem (ws : List Wt) : ∀ i, i ≤ ws.length → ∀ x ∈ ddTo ws i, x ∈ ws
  | 0, _, x, hx => by cases hx
  | i + 1, hi, x, hx => by
    by_cases h : Kept ws i
    · rw [ddTo_yes h, List.mem_append] at hx
      rcases hx with hx | hx
      · exact ddTo_mem ws i (by omega) x hx
      · simp only [List.mem_singleton] at hx
        rw [hx]
        exact wgetD_mem ws i (by omega)
    · rw [ddTo_no h] at hx
      exact ddTo_mem ws i (by omega) x hx
theorem dd_mem (ws : List Wt) : ∀ x ∈ dd ws, x ∈ ws := ddTo_mem ws _ (Nat.le_refl _)
/-- The first ones are the first ones of all. -/
theorem ddTo_pre (ws : List Wt) (i : Nat) : ∀ d, ∃ r, ddTo ws (i + d) = ddTo ws i ++ r
  | 0 => ⟨[], by simp⟩
  | d + 1 => by
    obtain ⟨r, hr⟩ := ddTo_pre ws i d
    by_cases h : Kept ws (i + d)
    · exact ⟨r ++ [ws.getD (i + d) Wt.zero], by rw [← Nat.add_assoc, ddTo_yes h, hr, List.append_assoc]⟩
    · exact ⟨r, by rw [← Nat.add_assoc, ddTo_no h, hr]⟩
/-- The rest behind the first i. -/
noncomputable def ddFrom (ws : List Wt) (i : Nat) : List Wt := (dd ws).drop (ddTo ws i).length
theorem dd_split (ws : List Wt) (i : Nat) (h : i ≤ ws.length) : dd ws = ddTo ws i ++ ddFrom ws i := by
  obtain ⟨r, hr⟩ := ddTo_pre ws i (ws.length - i)
  rw [show i + (ws.length - i) = ws.length by omega] at hr
  unfold ddFrom dd
  rw [hr, List.drop_left]
theorem ddFrom_zero (ws : List Wt) : ddFrom ws 0 = dd ws := rfl
theorem ddFrom_yes {ws : List Wt} {i : Nat} (hi : i < ws.length) (h : Kept ws i) : ddFrom ws i = ws.getD i Wt.zero :: ddFrom ws (i + 1) := by
  have h1 := dd_split ws i (by omega)
  have h2 := dd_split ws (i + 1) (by omega)
  rw [h1, ddTo_yes h, List.append_assoc] at h2
  exact List.append_cancel_left h2
theorem ddFrom_no {ws : List Wt} {i : Nat} (h : ¬ Kept ws i) : ddFrom ws i = ddFrom ws (i + 1) := by
  unfold ddFrom
  rw [ddTo_no h]
theorem ddFrom_end (ws : List Wt) : ddFrom ws ws.length = [] := by
  unfold ddFrom dd
  simp
open Classical in
/-- The last one of a key among the first i. -/
noncomputable def lastIx (ws : List Wt) : Nat → ByteArray → Option Int
  | 0 => fun _ => none
  | i + 1 => fun k => if k = kAt ws i then some (i : Int) else lastIx ws i k
theorem lastIx_lt (ws : List Wt) : ∀ i k j, lastIx ws i k = some j → ∃ m : Nat, j = m ∧ m < i ∧ kAt ws m = k ∧ ∀ p, m < p → p < i → kAt ws p ≠ k
  | 0, k, j, h => by cases h
  | i + 1, k, j, h => by
    by_cases e : k = kAt ws i
    · have h' : some (i : Int) = some j := by rw [← h]; simp only [lastIx, if_pos e]
      cases h'
      exact ⟨i, rfl, by omega, e.symm, fun p h1 h2 => by omega⟩
    · have h' : lastIx ws i k = some j := by rw [← h]; simp only [lastIx, if_neg e]
      obtain ⟨m, h1, h2, h3, h4⟩ := lastIx_lt ws i k j h'
      refine ⟨m, h1, by omega, h3, fun p hp hq => ?_⟩
      by_cases hpi : p = i
      · rw [hpi]; exact fun e2 => e e2.symm
      · exact h4 p hp (by omega)
theorem lastIx_some (ws : List Wt) : ∀ i m, m < i → lastIx ws i (kAt ws m) ≠ none
  | 0, m, h => by omega
  | i + 1, m, h => by
    by_cases e : kAt ws m = kAt ws i
    · simp only [lastIx, if_pos e]; simp
    · simp only [lastIx, if_neg e]
      have : m ≠ i := fun h' => e (by rw [h'])
      exact lastIx_some ws i m (by omega)
/-- It is the last one of its key just if it counts. -/
theorem lastIx_kept (ws : List Wt) (i : Nat) (hi : i < ws.length) : ((lastIx ws ws.length (kAt ws i)).getD 0 = (i : Int)) ↔ Kept ws i := by
  cases h : lastIx ws ws.length (kAt ws i) with
  | none => exact absurd h (lastIx_some ws _ i hi)
  | some j =>
    obtain ⟨m, h1, h2, h3, h4⟩ := lastIx_lt ws _ _ _ h
    show j = (i : Int) ↔ _
    rw [h1]
    constructor
    · intro e p hp hq
      have : m = i := by omega
      exact h4 p (by omega) hq
    · intro hk
      have h5 : ¬ (i < m) := fun h5 => hk m h5 h2 h3
      have h6 : ¬ (m < i) := fun h6 => h4 i h6 hi rfl
      omega
end Go.Proofs.YtdojhkgnnbdfkaaGreat.Q
/- How many writes of a transaction count, as mathematics: as many as there are keys. No conditions. -/
namespace Go.Proofs.YtdojhkgnnbdfkaaGreat.Q
set_option linter.unusedVariables false
set_option linter.unusedSimpArgs false

theorem nd_len22 {α : Type} : ∀ (a b : List α), a.Nodup → (∀ x ∈ a, x ∈ b) → a.length ≤ b.length
  | [], b, _, _ => Nat.zero_le _
  | x :: r, b, h, hs => by
    obtain ⟨h1, h2⟩ := List.nodup_cons.1 h
    obtain ⟨p, q, rfl⟩ := List.append_of_mem (hs x List.mem_cons_self)
    have ih := nd_len22 r (p ++ q) h2 (fun y hy => by
      have := hs y (List.mem_cons_of_mem _ hy)
      simp only [List.mem_append, List.mem_cons] at this ⊢
      rcases this with h3 | rfl | h3
      · exact .inl h3
      · exact absurd hy h1
      · exact .inr h3)
    simp only [List.length_append, List.length_cons] at ih ⊢
    omega
open Classical in
/-- The keys of the first i writes, each once. -/
noncomputable def fl22 (ws : List Wt) : Nat → List ByteArray
  | 0 => []
  | i + 1 => if kAt ws i ∈ fl22 ws i then fl22 ws i else fl22 ws i ++ [kAt ws i]
theorem fl22_yes {ws : List Wt} {i : Nat} (h : kAt ws i ∈ fl22 ws i) : fl22 ws (i + 1) = fl22 ws i := by simp only [fl22, if_pos h]
theorem fl22_no {ws : List Wt} {i : Nat} (h : kAt ws i ∉ fl22 ws i) : fl22 ws (i + 1) = fl22 ws i ++ [kAt ws i] := by simp only [fl22, if_neg h]
theorem fl22_len (ws : List Wt) : ∀ i, (fl22 ws i).length ≤ i
  | 0 => Nat.le_refl _
  | i + 1 => by
    have ih := fl22_len ws i
    by_cases h : kAt ws i ∈ fl22 ws i
    · rw [fl22_yes h]; omega
    · rw [fl22_no h, List.length_append]; simp; omega
theorem fl22_mem (ws : List Wt) : ∀ i k, k ∈ fl22 ws i ↔ ∃ j, j < i ∧ kAt ws j = k
  | 0, k => by simp [fl22]
  | i + 1, k => by
    have ih := fl22_mem ws i k
    by_cases h : kAt ws i ∈ fl22 ws i
    · rw [fl22_yes h, ih]
      constructor
      · rintro ⟨j, h1, h2⟩; exact ⟨j, by omega, h2⟩
      · rintro ⟨j, h1, h2⟩
        by_cases e : j = i
        · subst e; rw [h2] at h; exact (fl22_mem ws j k).1 h
        · exact ⟨j, by omega, h2⟩
    · rw [fl22_no h, List.mem_append, ih, List.mem_singleton]
      constructor
      · rintro (⟨j, h1, h2⟩ | rfl)
        · exact ⟨j, by omega, h2⟩
        · exact ⟨i, by omega, rfl⟩
      · rintro ⟨j, h1, h2⟩
        by_cases e : j = i
        · subst e; exact .inr h2.symm
        · exact .inl ⟨j, by omega, h2⟩
theorem fl22_nodup (ws : List Wt) : ∀ i, (fl22 ws i).Nodup
  | 0 => List.nodup_nil
  | i + 1 => by
    have ih := fl22_nodup ws i
    by_cases h : kAt ws i ∈ fl22 ws i
    · rw [fl22_yes h]; exact ih
    · rw [fl22_no h, List.nodup_append]
      refine ⟨ih, by simp, fun x hx y hy => ?_⟩
      simp only [List.mem_singleton] at hy
      subst hy
      exact fun e => h (e ▸ hx)
theorem ddk_mem (ws : List Wt) : ∀ i k, k ∈ (ddTo ws i).map (·.key) ↔ ∃ j, j < i ∧ Kept ws j ∧ kAt ws j = k
  | 0, k => by simp [ddTo]
  | i + 1, k => by
    have ih := ddk_mem ws i k
    by_cases h : Kept ws i
    · rw [ddTo_yes h, List.map_append, List.mem_append, ih]
      simp only [List.map_cons, List.map_nil, List.mem_singleton]
      constructor
      · rintro (⟨j, h1, h2⟩ | rfl)
        · exact ⟨j, by omega, h2⟩
        · exact ⟨i, by omega, h, rfl⟩
      · rintro ⟨j, h1, h2, h3⟩
        by_cases e : j = i
        · subst e; exact .inr h3.symm
        · exact .inl ⟨j, by omega, h2, h3⟩
    · rw [ddTo_no h, ih]
      constructor
      · rintro ⟨j, h1, h2⟩; exact ⟨j, by omega, h2⟩
      · rintro ⟨j, h1, h2, h3⟩
        by_cases e : j = i
        · subst e; exact absurd h2 h
        · exact ⟨j, by omega, h2, h3⟩
theorem ddk_nodup (ws : List Wt) : ∀ i, i ≤ ws.length → ((ddTo ws i).map (·.key)).Nodup
  | 0, _ => List.nodup_nil
  | i + 1, hi => by
    have ih := ddk_nodup ws i (by omega)
    by_cases h : Kept ws i
    · rw [ddTo_yes h, List.map_append, List.nodup_append]
      refine ⟨ih, by simp, fun x hx y hy => ?_⟩
      simp only [List.map_cons, List.map_nil, List.mem_singleton] at hy
      obtain ⟨j, h1, h2, h3⟩ := (ddk_mem ws i x).1 hx
      intro e
      exact h2 i h1 (by omega) (by rw [h3, e, hy]; rfl)
    · rw [ddTo_no h]; exact ih
theorem kept_of22 (ws : List Wt) : ∀ d j, j < ws.length → ws.length - j ≤ d → ∃ m, m < ws.length ∧ Kept ws m ∧ kAt ws m = kAt ws j
  | 0, j, h, hd => by omega
  | d + 1, j, h, hd => by
    by_cases hk : Kept ws j
    · exact ⟨j, h, hk, rfl⟩
    · have : ∃ m, j < m ∧ m < ws.length ∧ kAt ws m = kAt ws j := by
        apply Classical.byContradiction
        intro hn
        exact hk (fun m h1 h2 h3 => hn ⟨m, h1, h2, h3⟩)
      obtain ⟨m, h1, h2, h3⟩ := this
      obtain ⟨p, q1, q2, q3⟩ := kept_of22 ws d m h2 (by omega)
      exact ⟨p, q1, q2, q3.trans h3⟩
/-- As many keys as writes that count. -/
theorem fl22_dd (ws : List Wt) : (fl22 ws ws.length).length = (dd ws).length := by
  have e : (dd ws).length = ((ddTo ws ws.length).map (·.key)).length := by simp [dd]
  rw [e]
  apply Nat.le_antisymm
  · refine nd_len22 _ _ (fl22_nodup ws _) fun k hk => ?_
    obtain ⟨j, h1, h2⟩ := (fl22_mem ws _ k).1 hk
    obtain ⟨m, q1, q2, q3⟩ := kept_of22 ws _ j h1 (Nat.le_refl _)
    exact (ddk_mem ws _ k).2 ⟨m, q1, q2, q3.trans h2⟩
  · refine nd_len22 _ _ (ddk_nodup ws _ (Nat.le_refl _)) fun k hk => ?_
    obtain ⟨j, h1, h2, h3⟩ := (ddk_mem ws _ k).1 hk
    exact (fl22_mem ws _ k).2 ⟨j, h1, h3⟩
end Go.Proofs.YtdojhkgnnbdfkaaGreat.Q
/- Maps as functions, whatever their keys and elements; the three maps of a table. Conditions as each names them. -/
namespace Go.Proofs.YtdojhkgnnbdfkaaGreat.Q
open Go.ChangeShapes Go.WideShapes Go.ChangeAt Go.RowKit Go.Lib Go.Maps
set_option linter.unusedVariables false
set_option linter.unusedSimpArgs false

/-- A kind of map: how its keys and its elements read. -/
structure Kn (P : Program) (κ α : Type) where
  k : TypeId
  t : TypeId
  e : TypeId
  kv : κ → Value
  kl : κ → Lit
  ok : κ → Prop
  ev : α → Value
  ed : α → DataW Unit
  R : Value → Option (DataW Unit × List MemPlace)
  z0 : α
  und : P.underlying t = some (.map k e)
  keyed : Keyed P k
  key : ∀ x, ok x → keyOf P k (kv x) = some (kl x)
  kvinj : ∀ x y, kv x = kv y → x = y
  em : ∀ a, R (ev a) = some (ed a, [])
  inv : ∀ v y, R v = some y → ∃ a, v = ev a ∧ y = (ed a, [])
  edinj : ∀ a b, ed a = ed b → a = b
  zero : ∀ w, (zeroValue e).run P w = .ok (ev z0) w
section
variable {P : Program} {κ α : Type} (K : Kn P κ α)
theorem Kn.klinj {x y : κ} (hx : K.ok x) (hy : K.ok y) (h : K.kl x = K.kl y) : x = y := K.kvinj x y (K.keyed.inj (K.key x hx) (by rw [h]; exact K.key y hy))
/-- Block b is a map of at most n entries that says at each key what F says. -/
def MapG (w : World) (b n : Nat) (F : κ → Option α) : Prop :=
  ∃ D : DataW Unit, w.ownsMap P K.k K.R b n D ∧ ∀ x, K.ok x → (has D (K.kl x) = (F x).isSome ∧ ∀ a, F x = some a → ∀ z, D.atKey (K.kl x) z = K.ed a)
variable {K} {w : World} {b n : Nat} {F : κ → Option α}
theorem MapG.lt (h : MapG K w b n F) : b < w.heap.size := by
  obtain ⟨D, hD, _⟩ := h
  exact hD.lt
theorem MapG.block (h : MapG K w b n F) : ∃ es c, w.heap[b]? = some (.map es c) := by
  obtain ⟨D, ⟨es, clock, hb, hr⟩, h2⟩ := h
  exact ⟨es, clock, hb⟩
theorem MapG.keep {S : List Nat} {w' : World} (h : MapG K w b n F) (hf : Fr S w w') (hn : b ∉ S) : MapG K w' b n F := by
  have hlt := h.lt
  obtain ⟨D, ⟨es, clock, hb, hr⟩, h2⟩ := h
  exact ⟨D, ⟨es, clock, (hf.block b hlt hn).trans hb, hr⟩, h2⟩
theorem MapG.mono {m : Nat} (h : MapG K w b n F) (hn : n ≤ m) : MapG K w b m F := by
  obtain ⟨D, hD, h2⟩ := h
  exact ⟨D, hD.mono hn, h2⟩
theorem MapG.made (w : World) : MapG K (w.alloc (.map #[] 0)) w.heap.size 0 (fun _ => none) :=
  ⟨.map [], World.ownsMap_made w _ _ _, fun s _ => ⟨rfl, fun a h => by cases h⟩⟩
theorem MapG.look (h : MapG K w b n F) (x : κ) (hx : K.ok x) : (Instr.lookup K.t (.map (some b)) (K.kv x) false).run P w = .ok (K.ev ((F x).getD K.z0)) w := by
  obtain ⟨D, hD, hA⟩ := h
  obtain ⟨v, ps, hrun, hv⟩ := hD.lookup K.keyed K.und (K.zero _) (K.em K.z0) (K.key x hx)
  rw [hrun]
  obtain ⟨a, rfl, e⟩ := K.inv _ _ hv
  simp only [Prod.mk.injEq] at e
  obtain ⟨h1, h2⟩ := hA x hx
  cases hF : F x with
  | some y =>
    rw [h2 y hF] at e
    rw [K.edinj _ _ e.1]
    rfl
  | none =>
    rw [hF] at h1
    rw [atKey_of_not_has h1] at e
    rw [K.edinj _ _ e.1]
    rfl
theorem MapG.lookOk (h : MapG K w b n F) (x : κ) (hx : K.ok x) : (Instr.lookup K.t (.map (some b)) (K.kv x) true).run P w = .ok (.tuple #[K.ev ((F x).getD K.z0), .bool (F x).isSome]) w := by
  obtain ⟨D, hD, hA⟩ := h
  obtain ⟨v, ps, hrun, hv⟩ := hD.look_ok K.keyed K.und (K.zero _) (K.em K.z0) (K.key x hx)
  rw [hrun]
  obtain ⟨a, rfl, e⟩ := K.inv _ _ hv
  simp only [Prod.mk.injEq] at e
  obtain ⟨h1, h2⟩ := hA x hx
  rw [h1]
  cases hF : F x with
  | some y =>
    rw [h2 y hF] at e
    rw [K.edinj _ _ e.1]
    rfl
  | none =>
    rw [hF] at h1
    rw [atKey_of_not_has h1] at e
    rw [K.edinj _ _ e.1]
    rfl
open Classical in
/-- One entry more, or another one. -/
noncomputable def updF (F : κ → Option α) (x : κ) (a : Option α) : κ → Option α := fun y => if y = x then a else F y
theorem updF_same (F : κ → Option α) (x : κ) (a : Option α) : updF F x a x = a := by simp [updF]
theorem updF_other (F : κ → Option α) {x y : κ} (a : Option α) (h : y ≠ x) : updF F x a y = F y := by simp [updF, h]
theorem MapG.store (h : MapG K w b n F) (x : κ) (a : α) (hx : K.ok x) (hn : n < maxLen) :
    ∃ w', (Instr.mapUpdate K.t (.map (some b)) (K.kv x) (K.ev a)).run P w = .ok () w' ∧ MapG K w' b (n + 1) (updF F x (some a)) ∧ Fr [b] w w' := by
  obtain ⟨D, hD, hA⟩ := h
  have hI := hD.isMap
  obtain ⟨w', hrun, hO, hg⟩ := hD.update K.keyed K.und hn (K.key x hx) (K.em a)
  refine ⟨w', hrun, ⟨_, hO, fun y hy => ?_⟩, Fr.grown hg (by intro k hk _; cases hk; simp)⟩
  by_cases he : y = x
  · subst he
    rw [updF_same]
    refine ⟨by rw [has_put_same hI (K.keyed.key (K.key y hx))]; rfl, fun a' ha z => ?_⟩
    cases ha
    exact atKey_put_same hI (K.keyed.key (K.key y hx)) _ _
  · rw [updF_other _ _ he]
    have hne : K.kl y ≠ K.kl x := fun e => he (K.klinj hy hx e)
    refine ⟨by rw [has_put_other hne, (hA y hy).1], fun a' ha z => ?_⟩
    rw [atKey_put_other hne]
    exact (hA y hy).2 a' ha z
theorem MapG.drop (h : MapG K w b n F) (x : κ) (hx : K.ok x) (ty : TypeId) :
    ∃ w', (Builtin.delete_ #[K.t, K.k] ty #[.map (some b), K.kv x]).run P w = .ok (.tuple #[]) w' ∧ MapG K w' b n (updF F x none) ∧ Fr [b] w w' := by
  obtain ⟨D, hD, hA⟩ := h
  obtain ⟨w', hrun, hO, hg⟩ := hD.drop K.keyed K.und (K.key x hx) ty
  refine ⟨w', hrun, ⟨_, hO, fun y hy => ?_⟩, Fr.grown hg.grown (by intro k hk _; cases hk; simp)⟩
  by_cases he : y = x
  · subst he
    rw [updF_same]
    exact ⟨by rw [has_del_same]; rfl, fun a' ha => by cases ha⟩
  · rw [updF_other _ _ he]
    have hne : K.kl y ≠ K.kl x := fun e => he (K.klinj hy hx e)
    refine ⟨by rw [has_del_other hne, (hA y hy).1], fun a' ha z => ?_⟩
    rw [atKey_del_other hne]
    exact (hA y hy).2 a' ha z
end

theorem Tryz.undI11 : Tryz.prog.underlying 3 = some (.int .i64) := by kernel_rfl
theorem Tryz.cellsI11 : Tryz.prog.cellsOf 3 = 1 := by kernel_rfl
theorem Tryz.laid11 : laidOutB Tryz.prog = true := by kernel_rfl
/-- A number of 64 bits. -/
def i64 (x : Int) : Prop := -9223372036854775808 ≤ x ∧ x ≤ 9223372036854775807
theorem i64.wf {x : Int} (h : i64 x) : (Lit.int .i64 x).wf = true := WalkArith.wf_i64 ⟨h.1, h.2⟩
def intElem (v : Value) : Option (DataW Unit × List MemPlace) :=
  match v with
  | .int .i64 a => some (.lit (.int .i64 a), [])
  | _ => none
def ptV : Option Nat → Value
  | none => .pointer none
  | some g => .pointer (some ⟨g, 0, none⟩)
def ptD : Option Nat → DataW Unit
  | none => .agg []
  | some g => .lit (.int .i64 g)
def ptElem (v : Value) : Option (DataW Unit × List MemPlace) :=
  match v with
  | .pointer none => some (ptD none, [])
  | .pointer (some ⟨g, 0, none⟩) => some (ptD (some g), [])
  | _ => none
def unElem (v : Value) : Option (DataW Unit × List MemPlace) :=
  match v with
  | .agg ⟨[]⟩ => some (.agg [], [])
  | _ => none
end Go.Proofs.YtdojhkgnnbdfkaaGreat.Q
/- How many writes of a transaction count: the program's counting. Conditions: at most 32 writes, keys of 64 letters at most. -/
namespace Go.Proofs.YtdojhkgnnbdfkaaGreat.Q
open Go.ChangeShapes Go.WideShapes Go.ChangeAt Go.RowKit Go.Lib Go.Maps
set_option linter.unusedVariables false
set_option linter.unusedSimpArgs false

theorem Tryz.undSSet : Tryz.prog.underlying 146 = some (.map 9 147) := by kernel_rfl
theorem Tryz.undStr22 : Tryz.prog.underlying 9 = some .string := by kernel_rfl
/-- Block b is a set of the texts ks. -/
def SetN (w : World) (b n : Nat) (ks : List ByteArray) : Prop :=
  ∃ D : DataW Unit, w.ownsMap Tryz.prog 9 unElem b n D ∧ (∀ x : ByteArray, x.size ≤ maxLen → (has D (.string x.data.toList) = true ↔ x ∈ ks)) ∧ Maps.size D = ks.length
theorem SetN.lt {w : World} {b n : Nat} {ks : List ByteArray} (h : SetN w b n ks) : b < w.heap.size := by
  obtain ⟨D, hD, _⟩ := h
  exact hD.lt
theorem SetN.keep {S : List Nat} {w w' : World} {b n : Nat} {ks : List ByteArray} (h : SetN w b n ks) (hf : Fr S w w') (hn : b ∉ S) : SetN w' b n ks := by
  have hlt := h.lt
  obtain ⟨D, ⟨es, clock, hb, hr⟩, h2⟩ := h
  exact ⟨D, ⟨es, clock, (hf.block b hlt hn).trans hb, hr⟩, h2⟩
theorem SetN.made (w : World) : SetN (w.alloc (.map #[] 0)) w.heap.size 0 [] :=
  ⟨.map [], World.ownsMap_made w _ _ _, fun s _ => by simp [has], rfl⟩
theorem SetN.len {w : World} {b n : Nat} {ks : List ByteArray} (h : SetN w b n ks) (ty : TypeId) : (Builtin.len_ #[146] ty #[.map (some b)]).run Tryz.prog w = .ok (.int .i64 (ks.length : Int)) w := by
  obtain ⟨D, hD, _, h3⟩ := h
  rw [hD.len Tryz.undSSet, h3]
open Classical in
theorem SetN.store {w : World} {b n : Nat} {ks : List ByteArray} (h : SetN w b n ks) (x : ByteArray) (hx : x.size ≤ maxLen) (hn : n < maxLen) :
    ∃ w', (Instr.mapUpdate 146 (.map (some b)) (.string x) (.agg #[])).run Tryz.prog w = .ok () w' ∧ SetN w' b (n + 1) (if x ∈ ks then ks else ks ++ [x]) ∧ Fr [b] w w' := by
  obtain ⟨D, hD, hA, hS⟩ := h
  have K := string_keyed (P := Tryz.prog) Tryz.undStr22
  have hI := hD.isMap
  have hk := Go.WideMaps.keyOf_string_mk (P := Tryz.prog) Tryz.undStr22 hx
  obtain ⟨w', hrun, hO, hg⟩ := hD.update K Tryz.undSSet hn hk (val := .agg #[]) (d := .agg []) (ps := []) rfl
  refine ⟨w', hrun, ⟨_, hO, fun y hy => ?_, ?_⟩, Fr.grown hg (by intro k hk _; cases hk; simp)⟩
  · by_cases he : y = x
    · subst he
      rw [has_put_same hI (K.key hk)]
      split <;> simp_all
    · have hne : Lit.string y.data.toList ≠ Lit.string x.data.toList := fun e => he (by
        have : y.data.toList = x.data.toList := by simpa using e
        have h2 : y.data = x.data := Array.toList_inj.1 this
        cases y; cases x; simp_all)
      rw [has_put_other hne, hA y hy]
      split
      · exact Iff.rfl
      · simp [he]
  · rw [size_put (hD.tidy K)]
    by_cases hm : x ∈ ks
    · rw [if_pos ((hA x hx).2 hm), if_pos hm, hS]
    · rw [if_neg (fun h => hm ((hA x hx).1 h)), if_neg hm, hS, List.length_append]
      rfl
theorem run_makeSet (w : World) : (Instr.makeMap 146 Option.none).run Tryz.prog w = .ok (.map (some w.heap.size)) (w.alloc (.map #[] 0)) := by
  simp [Instr.makeMap, run_underlying Tryz.undSSet]
open Classical in
theorem fl22_succ (ws : List Wt) (i : Nat) : fl22 ws (i + 1) = if kAt ws i ∈ fl22 ws i then fl22 ws i else fl22 ws i ++ [kAt ws i] := by simp only [fl22]

set_option maxHeartbeats 8000000 in
set_option maxRecDepth 100000 in
theorem ncounting_any (ao : Option Addr) (L cap : Nat) (ws : List Wt) (w : World) (hW : WRs w ao ws) (hL : L = ws.length) (hLb : L ≤ 32) (hks : ∀ x ∈ ws, x.key.size ≤ 64) :
    Calls Tryz.prog 67 #[.slice ao L cap] w fun e w' => e = .returned (.int .i64 ((dd ws).length : Int)) ∧ Fr [] w w' := by
  have HL : Hid (L = ws.length) := hL
  have HKs : Hid (∀ x ∈ ws, x.key.size ≤ 64) := hks
  have hmm := fun w => run_makeSet w
  have HI : Hid (∀ W, Fr [] w W → WRs W ao ws) := fun W hf => hW.keep hf
  have hM0 : SetN (w.alloc (.map #[] 0)) w.heap.size 0 (fl22 ws 0) := SetN.made w
  have hF0 : Fr [] w (w.alloc (.map #[] 0)) := Fr.alloc [] w _
  clear hL hW hks
  go_enter Tryz.func67, Tryz.ntmps67
  go_wp2_with fail
  obtain ⟨b, hb⟩ : ∃ b, b = w.heap.size := ⟨_, rfl⟩
  rw [← hb] at hM0 ⊢
  have hbw : w.heap.size ≤ b := by omega
  clear hb
  go_loopw [9] (fun ii wr => ∃ (i : Nat), ii = .int .i64 i ∧ i ≤ L ∧ Hid (SetN wr b i (fl22 ws i)) ∧ Fr [] w wr) (fun ii _ => L - (RowKit.intOf ii).toNat)
  case atStart => exact ⟨0, rfl, Nat.zero_le _, hM0, hF0⟩
  case round =>
    obtain ⟨i, rfl, hiL, HM, hFr⟩ := hrel
    by_cases hi : i < L
    · have hi' : i < ws.length := by rw [← HL.out]; exact hi
      obtain ⟨bb, off, rfl, _, hc⟩ := (HI.out _ hFr).lies (by omega)
      obtain ⟨d0, d1, d2⟩ := hc i hi'
      have hkz := HKs.out _ (wgetD_mem ws i hi')
      have HKa : Hid (kAt ws i = (ws.getD i Wt.zero).key) := rfl
      obtain ⟨y, hyy⟩ : ∃ y, y = ws.getD i Wt.zero := ⟨_, rfl⟩
      rw [← hyy] at d0 d1 d2 hkz HKa
      clear hyy hc
      obtain ⟨key, val, drop⟩ := y
      simp only at d0 d1 d2 hkz HKa
      obtain ⟨w3, HW3⟩ : ∃ w3, Hid (wr.alloc (.cells #[.string key, .string val, .bool drop] 51) = w3) := ⟨_, rfl⟩
      obtain ⟨B9, HB9⟩ : ∃ B9, Hid (B9 = wr.heap.size) := ⟨_, rfl⟩
      have hF3 : Fr [] wr w3 := by rw [← HW3.out]; exact Fr.alloc [] wr _
      have hby : w3.heap[B9]? = some (.cells #[.string key, .string val, .bool drop] 51 (0, 0)) := by rw [← HW3.out, HB9.out]; exact heap_alloc_new wr _
      have e0 : w3.cell? ⟨B9, 0, none⟩ = some (.string key) := by rw [cell_of_row _ _ _ _ _ _ hby]; rfl
      have hG3 : Fr [] w w3 := hFr.then hF3
      have hM3 := HM.out.keep hF3 (by simp)
      obtain ⟨w4, hst, hM4, hF4⟩ := hM3.store key (by unfold maxLen; omega) (by unfold maxLen; omega)
      have HM4 : Hid (SetN w4 b (i + 1) (fl22 ws (i + 1))) := by
        show SetN _ _ _ _
        rw [fl22_succ, HKa.out]
        exact hM4
      have hG4 : Fr [] w w4 := hG3.on hF4 (by intro x hx; simp at hx; omega)
      clear hM3 hM4 hF4 HM hF3 hG3 hby
      go_upto_region 5 with fail
      rw [HW3.out, ← HB9.out]
      clear HW3 HB9 d0 d1 d2
      go_wp2_with fail
      go_roundw
      case rel => exact ⟨i + 1, by simp, by omega, HM4, hG4⟩
      case measure => simp [RowKit.intOf]; omega
    · obtain rfl : i = L := by omega
      clear hi hiL
      have hlen := fun ty => HM.out.len ty
      have HE : Hid ((fl22 ws i).length = (dd ws).length) := by
        show _ = _
        rw [HL.out]; exact fl22_dd ws
      rw [HE.out] at hlen
      have HF1 : Hid (Fr [] w wr) := hFr
      clear hFr
      go_wp2_with fail
      go_ret
      exact ⟨rfl, HF1.out⟩
end Go.Proofs.YtdojhkgnnbdfkaaGreat.Q
/- Sums, and how many steps a transaction takes: the program's total, ofTxn and Txn, the document's Txn. Conditions as each names them. -/
namespace Go.Proofs.YtdojhkgnnbdfkaaGreat.Q
open Go.ChangeShapes Go.WideShapes Go.ChangeAt Go.RowKit Go.Lib
set_option linter.unusedVariables false
set_option linter.unusedSimpArgs false

def sumI : List Int → Int
  | [] => 0
  | x :: r => x + sumI r
theorem sumI_app : ∀ (a b : List Int), sumI (a ++ b) = sumI a + sumI b
  | [], b => by simp [sumI]
  | x :: r, b => by simp [sumI, sumI_app r b]; omega
theorem sumI_snoc (a : List Int) (x : Int) : sumI (a ++ [x]) = sumI a + x := by rw [sumI_app]; simp [sumI]
theorem sumI_bound {M : Nat} : ∀ (a : List Int), (∀ x ∈ a, 0 ≤ x ∧ x ≤ (M : Int)) → 0 ≤ sumI a ∧ sumI a ≤ (a.length * M : Nat)
  | [], _ => by simp [sumI]
  | x :: r, h => by
    obtain ⟨h1, h2⟩ := sumI_bound r fun y hy => h y (List.mem_cons_of_mem _ hy)
    have h3 := h x List.mem_cons_self
    simp only [sumI, List.length_cons, Nat.add_mul, Nat.one_mul]
    omega
theorem igetD_mem (xs : List Int) (i : Nat) (h : i < xs.length) : xs.getD i 0 ∈ xs := by
  simp [List.getD, h]
set_option maxHeartbeats 4000000 in
set_option maxRecDepth 100000 in
theorem ntotal_any (ao : Option Addr) (L cap : Nat) (xs : List Int) (w : World) (hI : IRs w ao xs) (hL : L = xs.length) (hb : ∀ x ∈ xs, 0 ≤ x ∧ x ≤ ((1048576 : Nat) : Int)) (hLb : L ≤ 4194304) :
    Calls Tryz.prog 14 #[.slice ao L cap] w fun e w' => e = .returned (.int .i64 (sumI xs)) ∧ Fr [] w w' := by
  have HL : Hid (L = xs.length) := hL
  have HI : Hid (∀ W, Fr [] w W → IRs W ao xs) := fun W hf => hI.keep hf
  have HB : Hid (∀ i, i < L → (0 ≤ xs.getD i 0 ∧ xs.getD i 0 ≤ 1048576) ∧ sumI (xs.take (i + 1)) = sumI (xs.take i) + xs.getD i 0 ∧ 0 ≤ sumI (xs.take i) ∧ sumI (xs.take i) ≤ 4398046511104) := fun i hi => by
    refine ⟨by have := hb _ (igetD_mem xs i (by omega)); omega, by rw [itake_snoc xs i (by omega), sumI_snoc], ?_⟩
    have h2 := sumI_bound (M := 1048576) (xs.take i) (fun x hx => hb x (List.mem_of_mem_take hx))
    have h3 : (xs.take i).length ≤ 4194304 := by rw [List.length_take]; omega
    have h4 : (xs.take i).length * 1048576 ≤ 4194304 * 1048576 := Nat.mul_le_mul_right _ h3
    omega
  clear hI hb hL
  go_enter Tryz.func14, Tryz.ntmps14
  go_wp2_with fail
  go_loopw [3, 8] (fun ss ii wr => ∃ (i : Nat), ss = .int .i64 (sumI (xs.take i)) ∧ ii = .int .i64 i ∧ i ≤ L ∧ Fr [] w wr) (fun _ ii _ => L - (RowKit.intOf ii).toNat)
  case atStart => exact ⟨0, rfl, rfl, Nat.zero_le _, Fr.refl _ _⟩
  case round =>
    obtain ⟨i, rfl, rfl, hiL, hF⟩ := hrel
    by_cases hi : i < L
    · obtain ⟨bb, off, rfl, _, hc⟩ := (HI.out _ hF).lies (by rw [← HL.out]; omega)
      have d0 := hc i (by rw [← HL.out]; exact hi)
      obtain ⟨⟨x0, x1⟩, HE, s0, s1⟩ := HB.out i hi
      have HE' : Hid (_ = _) := HE
      clear HE
      generalize xs.getD i 0 = x at d0 x0 x1 HE'
      generalize hS : sumI (xs.take i) = S at s0 s1 HE' ⊢
      clear hc hS
      go_wp2_with fail
      go_roundw
      case rel => exact ⟨i + 1, by rw [HE'.out], by simp, by omega, hF⟩
      case measure => simp [RowKit.intOf]; omega
    · obtain rfl : i = L := by omega
      have HE : Hid (sumI (xs.take i) = sumI xs) := by
        show _ = _
        rw [HL.out, List.take_length]
      rw [HE.out]
      clear HE hi hiL
      go_wp2_with fail
      go_ret
      exact ⟨rfl, hF⟩

/-- How many steps a transaction takes. -/
noncomputable def tnC (ws : List Wt) (sk : Bool) : Nat := if sk then 2 else 5 + 2 * (dd ws).length
theorem tnC_le {ws : List Wt} (h : ws.length ≤ 32) (sk : Bool) : tnC ws sk ≤ 69 := by
  have := dd_len ws
  unfold tnC
  split <;> omega
/-- What a call of Txn answers. -/
def TnP (n : Int) (ws : List Wt) (sk : Bool) (r e : Int) : Prop := (okT n ws ∧ r = (tnC ws sk : Int) ∧ e = 0) ∨ (¬ okT n ws ∧ r = 0 ∧ e = 1)
theorem TnP.uniq {n : Int} {ws : List Wt} {sk : Bool} {r e r' e' : Int} (h : TnP n ws sk r e) (h' : TnP n ws sk r' e') : r = r' ∧ e = e' := by
  rcases h with ⟨h1, h2, h3⟩ | ⟨h1, h2, h3⟩ <;> rcases h' with ⟨g1, g2, g3⟩ | ⟨g1, g2, g3⟩ <;> first | (exact ⟨by omega, by omega⟩) | (exact absurd g1 h1) | (exact absurd h1 g1)
set_option maxHeartbeats 4000000 in
set_option maxRecDepth 100000 in
theorem noftxn_any (n : Int) (ao : Option Addr) (L cap : Nat) (ws : List Wt) (sk : Bool) (w : World) (hT : TArg w n ao L cap ws) (hok : okT n ws) :
    Calls Tryz.prog 42 #[.agg #[.int .i64 n, .slice ao L cap], .bool sk] w fun e w' => e = .returned (.int .i64 (tnC ws sk : Int)) ∧ Fr [] w w' := by
  have HQ : Hid (∀ W, Fr [] w W → Calls Tryz.prog 67 #[.slice ao L cap] W fun e w' => e = .returned (.int .i64 ((dd ws).length : Int)) ∧ Fr [] W w') := fun W hf => ncounting_any ao L cap ws W (hT.rs.keep hf) hT.len (by have := hok.2.2.1; have := hT.len; omega) (fun y hy => (hok.2.2.2 y hy).2.1)
  have hdl : (dd ws).length ≤ 32 := by have := hok.2.2.1; have := dd_len ws; omega
  have hF0 : Fr [] w (w.alloc (.cells #[.int .i64 n, .slice ao L cap] 54)) := Fr.alloc _ _ _
  have hrow0 := heap_alloc_new w (.cells #[.int .i64 n, .slice ao L cap] 54)
  obtain ⟨w1, HW1⟩ : ∃ w1, Hid (w.alloc (.cells #[.int .i64 n, .slice ao L cap] 54) = w1) := ⟨_, rfl⟩
  obtain ⟨B, HB⟩ : ∃ B, Hid (w.heap.size = B) := ⟨_, rfl⟩
  rw [HW1.out] at hF0 hrow0
  rw [HB.out] at hrow0
  have b1 : w1.cell? ⟨B, 1, none⟩ = some (.slice ao L cap) := by rw [cell_of_row _ _ _ _ _ _ hrow0]; rfl
  have HF0 : Hid (Fr [] w w1) := hF0
  have HE : Hid (tnC ws true = 2 ∧ tnC ws false = 5 + 2 * (dd ws).length) := ⟨rfl, rfl⟩
  generalize (dd ws).length = D at HQ hdl HE
  clear hT hok hF0 hrow0
  cases sk with
  | true =>
    go_enter Tryz.func42, Tryz.ntmps42
    go_upto_region 1 with fail
    rw [HW1.out, HB.out]
    go_wp2_with fail
    go_ret
    exact ⟨by rw [HE.out.1]; rfl, HF0.out⟩
  | false =>
    go_enter Tryz.func42, Tryz.ntmps42
    go_upto_region 1 with fail
    rw [HW1.out, HB.out]
    go_wp2_with fail
    refine (HQ.out _ HF0.out).mono ?_
    rintro e w2 ⟨rfl, hF2⟩
    have HF2 : Hid (Fr [] w w2) := HF0.out.then hF2
    have HT : Hid (∀ W, Fr [] (w2.alloc (.cells #[.int .i64 5, .int .i64 (2 * (D : Int))] 3)) W → Calls Tryz.prog 14 #[.slice (some ⟨w2.heap.size, 0, none⟩) 2 2] W fun e w' => e = .returned (.int .i64 (5 + 2 * (D : Int))) ∧ Fr [] W w') := fun W hf => by
      have hr := hf.keep (heap_alloc_new w2 (.cells #[.int .i64 5, .int .i64 (2 * (D : Int))] 3)) (by simp)
      refine (ntotal_any (some ⟨w2.heap.size, 0, none⟩) 2 2 [5, 2 * (D : Int)] W ⟨fun _ => ⟨_, 0, rfl, lt_of_block hr, fun i hi => ?_⟩, by simp⟩ rfl ?_ (by omega)).mono ?_
      · have : i = 0 ∨ i = 1 := by simp at hi; omega
        rcases this with rfl | rfl <;> (rw [cell_of_row _ _ _ _ _ _ hr]; rfl)
      · intro x hx
        simp at hx
        rcases hx with rfl | rfl <;> omega
      · rintro e w3 ⟨rfl, h3⟩
        exact ⟨by simp [sumI], h3⟩
    go_wp2_with fail
    refine (HT.out _ (Fr.refl _ _)).mono ?_
    rintro e w3 ⟨rfl, hF3⟩
    go_wp2_with fail
    go_ret
    exact ⟨by rw [HE.out.2]; simp, (HF2.out.then (Fr.alloc _ _ _)).then hF3⟩
end Go.Proofs.YtdojhkgnnbdfkaaGreat.Q

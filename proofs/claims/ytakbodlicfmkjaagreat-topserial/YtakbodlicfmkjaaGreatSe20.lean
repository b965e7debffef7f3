/- What Store answers where nothing can be done any more: the entries of the fold. Mathematics. Conditions as each names them. -/
import Derived.Test.YtakbodlicfmkjaaGreatSr20
import Derived.Test.YtakbodlicfmkjaaGreatWh20
import Derived.Test.YtakbodlicfmkjaaGreatCol
import Derived.Test.YtakbodlicfmkjaaGreatSto7
namespace Go.Proofs.YtakbodlicfmkjaaGreat
open Go.ChangeShapes Go.WideShapes Go.ChangeAt Go.RowKit Go.Lib Go.Maps Go.Sort Go.Shelf
set_option linter.unusedVariables false
set_option linter.unusedSimpArgs false
section
variable {c : Cf} {T : List Tx} {s : Ms}
theorem shW_key (c : Cf) (x y : Wt) (h : x.key = y.key) : shW c x = shW c y := by unfold shW; rw [h]
theorem enOf_is {mark : Int} {h : O.Hd} {p : O.Pr} : enOf mark h = some p ↔ h.key = p.1 ∧ O.valAt h.vs mark = some p.2 := by
  unfold enOf
  obtain ⟨a, b⟩ := p
  cases O.valAt h.vs mark with
  | none => simp
  | some v => simp
theorem pk_nodup {M : ByteArray → List O.Vn} {hs : List O.Hd} (h : O.PkT M M hs) : (hs.map (·.key)).Nodup := by
  rw [List.nodup_iff_pairwise_ne, List.pairwise_map]
  refine h.inc.imp fun {a b} hab e => ?_
  rw [e] at hab
  rw [bl_irrefl] at hab
  cases hab
theorem cat_shard (hW : Wf c T s) {j : Nat} (hj : j < c.s.toNat) {hs : List O.Hd} (hp : O.PkT (s.M j) (s.M j) hs) {x : O.Hd} (hx : x ∈ hs) : ∃ y : Wt, y.key = x.key ∧ shW c y = j := by
  obtain ⟨_, e2, _⟩ := hp.is x hx
  obtain ⟨v, hv⟩ := List.exists_mem_of_ne_nil _ e2
  obtain ⟨_, y, _, hk, hsh, _⟩ := hW.ver j x.key v hj hv
  exact ⟨y, hk, hsh⟩
theorem cat_nodup (hW : Wf c T s) : ∀ (n : Nat) (acc : List O.Hd), n ≤ c.s.toNat → CatH s.M n acc → (acc.map (·.key)).Nodup := by
  intro n acc hn ⟨f, h1, e⟩
  subst e
  induction n with
  | zero => simp
  | succ n ih =>
    rw [List.range_succ, List.flatMap_append, List.map_append, List.nodup_append]
    refine ⟨ih (by omega) (fun i hi => h1 i (by omega)), by simpa using pk_nodup (h1 n (by omega)), fun a ha b hb e => ?_⟩
    obtain ⟨x, hx, rfl⟩ := List.mem_map.1 ha
    obtain ⟨y, hy, rfl⟩ := List.mem_map.1 hb
    obtain ⟨i, hi, hxi⟩ := List.mem_flatMap.1 hx
    have hi' := List.mem_range.1 hi
    have hy' : y ∈ f n := by simpa using hy
    obtain ⟨u, hu1, hu2⟩ := cat_shard hW (by omega) (h1 i (by omega)) hxi
    obtain ⟨v, hv1, hv2⟩ := cat_shard hW (by omega) (h1 n (by omega)) hy'
    have := shW_key c u v (by rw [hu1, hv1]; exact e)
    omega
theorem store_fold (hW : Wf c T s) {m : Nat} (hma : s.ma = (m : Int)) (hall : ∀ n : Int, 1 ≤ n → n ≤ (m : Int) → s.en n) (hm : m ≤ T.length) {hs acc : List O.Hd} (hc : CatH s.M c.s.toNat acc) (hp : hs.Perm acc) : Fo.AllP (Fo.fo (T.take m)) (hs.filterMap (enOf s.ma)) := by
  have hnd : (hs.map (·.key)).Nodup := (hp.map _).nodup_iff.2 (cat_nodup hW _ acc (Nat.le_refl _) hc)
  obtain ⟨f, h1, e⟩ := hc
  refine ⟨?_, fun p => ?_⟩
  · have key : ∀ l : List O.Hd, (l.map (·.key)).Nodup → ((l.filterMap (enOf s.ma)).map (·.1)).Sublist (l.map (·.key)) := by
      intro l
      induction l with
      | nil => intro _; simp
      | cons x l ih =>
        intro h
        have := ih (List.nodup_cons.1 h).2
        rw [List.filterMap_cons]
        cases hx : enOf s.ma x with
        | none => simp only; exact List.Sublist.cons _ this
        | some q =>
          simp only [List.map_cons]
          rw [← (enOf_is.1 hx).1]
          exact List.Sublist.cons_cons _ this
    exact (key hs hnd).nodup hnd
  · rw [List.mem_filterMap]
    constructor
    · rintro ⟨x, hx, hxe⟩
      obtain ⟨k1, k2⟩ := enOf_is.1 hxe
      have hxa := hp.mem_iff.1 hx
      rw [e] at hxa
      obtain ⟨j, hj, hxj⟩ := List.mem_flatMap.1 hxa
      have hj' := List.mem_range.1 hj
      obtain ⟨y, hy1, hy2⟩ := cat_shard hW hj' (h1 j hj') hxj
      have := hW.vals hall hm x.key (fun a b h => shW_key c a b h) y hy1 (by rw [hy2]; exact hj')
      rw [hy2, ← ((h1 j hj').is x hxj).1, ← hma, k2, k1] at this
      exact this.symm
    · intro hE
      have hlt := shW_lt hW.may ⟨p.1, p.2, false⟩
      have := hW.vals hall hm p.1 (fun a b h => shW_key c a b h) ⟨p.1, p.2, false⟩ rfl hlt
      rw [hE, ← hma] at this
      have hne : s.M (shW c ⟨p.1, p.2, false⟩) p.1 ≠ [] := fun e0 => by
        rw [e0] at this
        simp [O.valAt, O.vAt, O.valOf] at this
      obtain ⟨x, hx, hxk⟩ := (h1 _ hlt).all p.1 hne hne
      refine ⟨x, hp.mem_iff.2 (by rw [e]; exact List.mem_flatMap.2 ⟨_, List.mem_range.2 hlt, hx⟩), enOf_is.2 ⟨hxk, ?_⟩⟩
      rw [((h1 _ hlt).is x hx).1, hxk]
      exact this
/-- By rising keys: the one list that the fold's entries make. -/
theorem store_is (hW : Wf c T s) {m : Nat} (hma : s.ma = (m : Int)) (hall : ∀ n : Int, 1 ≤ n → n ≤ (m : Int) → s.en n) (hm : m ≤ T.length) {hs acc : List O.Hd} (hsd : So.Sd hs) (hc : CatH s.M c.s.toNat acc) (hp : hs.Perm acc) : Fo.Is (Fo.fo (T.take m)) (hs.filterMap (enOf s.ma)) := by
  refine Fo.is_sorted (store_fold hW hma hall hm hc hp) (List.Perm.refl _) ?_
  rw [List.pairwise_filterMap]
  refine hsd.imp fun {a b} hab x hx y hy => ?_
  rw [← (enOf_is.1 hx).1, ← (enOf_is.1 hy).1]
  exact hab
end
end Go.Proofs.YtakbodlicfmkjaaGreat

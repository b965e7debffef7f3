/- What a checkpoint keeps reads the same. Plain lemmas, and a row of numbers of one's own. -/
import Derived.Test.YtlikpcbiogfgcaaVd
import Derived.Test.YtlikpcbiogfgcaaVo
namespace Go.Proofs.Ytlikpcbiogfgcaa
open Go.ChangeShapes Go.WideShapes Go.ChangeAt Go.RowKit Go.Lib
set_option linter.unusedVariables false
/-- What Dump tells, as a list. -/
def dumpL (vs : List Vn) (d : Nat) (ns : List Int) : List Vn := headD vs d ++ (vs.drop d).filter fun v => decide (v.num ∈ ns)
theorem headD_sub (vs : List Vn) (d : Nat) (hd : d ≤ vs.length) : (headD vs d).Sublist (vs.take d) := by
  unfold headD
  split
  · rename_i h
    have hm : vs.getD (d - 1) Vn.zero ∈ vs.take d := by
      have : (vs.take d).getD (d - 1) Vn.zero = vs.getD (d - 1) Vn.zero := by simp [List.getD, List.getElem?_take_of_lt (show d - 1 < d by omega)]
      rw [← this]
      exact vgetD_mem _ _ (by simp; omega)
    exact List.singleton_sublist.2 hm
  · exact List.nil_sublist _
theorem dump_sub {vs : List Vn} {d : Nat} (ns : List Int) (hd : d ≤ vs.length) : (dumpL vs d ns).Sublist vs := by
  have h1 := headD_sub vs d hd
  have h2 : ((vs.drop d).filter fun v => decide (v.num ∈ ns)).Sublist (vs.drop d) := List.filter_sublist
  have := List.Sublist.append h1 h2
  rwa [List.take_append_drop] at this
theorem headD_len (vs : List Vn) (d : Nat) : (headD vs d).length ≤ 1 := by unfold headD; split <;> simp
theorem mem_drop_gt {vs : List Vn} {k : Int} {d : Nat} (hU : UpTo vs k d) {v : Vn} (h : v ∈ vs.drop d) : k < v.num := by
  obtain ⟨j, hj, e⟩ := mem_get h
  rw [getD_drop] at e
  have := hU.hi (d + j) (by omega) (by simp at hj; omega)
  rwa [e] at this
theorem dump_up {vs : List Vn} {k : Int} {d : Nat} (ns : List Int) (hU : UpTo vs k d) : UpTo (dumpL vs d ns) k (headD vs d).length := by
  refine ⟨by unfold dumpL; simp, fun j hj => ?_, fun j h1 h2 => ?_⟩
  · have e : (dumpL vs d ns).getD j Vn.zero = (headD vs d).getD j Vn.zero := by unfold dumpL; simp [List.getD, List.getElem?_append_left hj]
    rw [e]
    have hm := vgetD_mem _ j hj
    revert hm
    generalize (headD vs d).getD j Vn.zero = y
    intro hm
    unfold headD at hm
    split at hm
    · rename_i h
      rw [List.mem_singleton] at hm
      rw [hm]
      exact hU.lo (d - 1) (by omega)
    · simp at hm
  · have hm : (dumpL vs d ns).getD j Vn.zero ∈ (vs.drop d).filter fun v => decide (v.num ∈ ns) := by
      have h2' : j < (headD vs d).length + ((vs.drop d).filter fun v => decide (v.num ∈ ns)).length := by unfold dumpL at h2; rwa [List.length_append] at h2
      have e : (dumpL vs d ns).getD j Vn.zero = ((vs.drop d).filter fun v => decide (v.num ∈ ns)).getD (j - (headD vs d).length) Vn.zero := by
        unfold dumpL
        simp only [List.getD, List.getElem?_append_right h1]
      rw [e]
      exact vgetD_mem _ _ (by omega)
    exact mem_drop_gt hU (List.mem_filter.1 hm).1
/-- How both read at a mark. -/
def Alike (vs us : List Vn) (m : Int) : Prop := ∀ x ok c x' ok' c', AtTold vs m x ok c → AtTold us m x' ok' c' → c = 0 ∧ c' = 0 ∧ ((ok = true ∧ ok' = true ∧ x = x') ∨ (ok' = false ∧ ok = false) ∨ (ok' = false ∧ ok = true ∧ x.drop = true))
theorem alike_mark {vs : List Vn} {k : Int} {d : Nat} (ns : List Int) (hok : okV vs) (hU : UpTo vs k d) : Alike vs (dumpL vs d ns) k := by
  intro x ok c x' ok' c' h h'
  have hok' := okV_sub hok (dump_sub ns hU.le)
  rcases h with ⟨_, h, _⟩ | ⟨rfl, _, d1, hd1, rfl, rfl⟩
  · exact absurd hok h
  rcases h' with ⟨_, h, _⟩ | ⟨rfl, _, e1, he1, rfl, rfl⟩
  · exact absurd hok' h
  obtain rfl := hd1.one hU
  obtain rfl := he1.one (dump_up ns hU)
  refine ⟨rfl, rfl, ?_⟩
  by_cases hc : 0 < d1 ∧ (vs.getD (d1 - 1) Vn.zero).drop = false
  · have hh : headD vs d1 = [vs.getD (d1 - 1) Vn.zero] := by unfold headD; rw [if_pos hc]
    refine Or.inl ⟨by simpa using hc.1, by rw [hh]; rfl, ?_⟩
    unfold atV dumpL
    rw [hh, if_neg (by omega), if_neg (by simp)]
    simp
  · have hh : headD vs d1 = [] := by unfold headD; rw [if_neg hc]
    by_cases h0 : d1 = 0
    · exact Or.inr (Or.inl ⟨by rw [hh]; rfl, by simp [h0]⟩)
    · refine Or.inr (Or.inr ⟨by rw [hh]; rfl, by simp; omega, ?_⟩)
      unfold atV
      rw [if_neg h0]
      cases hdr : (vs.getD (d1 - 1) Vn.zero).drop with
      | true => rfl
      | false => exact absurd ⟨by omega, hdr⟩ hc
theorem alike_last {vs : List Vn} {k m : Int} {d : Nat} {ns : List Int} (hok : okV vs) (hU : UpTo vs k d) (hkm : k < m) (hm : m ∈ ns) (hv : ∃ v ∈ vs, v.num = m) : Alike vs (dumpL vs d ns) m := by
  intro x ok c x' ok' c' h h'
  have hok' := okV_sub hok (dump_sub ns hU.le)
  obtain ⟨v, hv, rfl⟩ := hv
  rcases h with ⟨_, h, _⟩ | ⟨rfl, _, d1, hd1, rfl, rfl⟩
  · exact absurd hok h
  rcases h' with ⟨_, h, _⟩ | ⟨rfl, _, e1, he1, rfl, rfl⟩
  · exact absurd hok' h
  have hvu : v ∈ dumpL vs d ns := by
    unfold dumpL
    refine List.mem_append.2 (Or.inr (List.mem_filter.2 ⟨?_, by simpa using hm⟩))
    obtain ⟨j, hj, e⟩ := mem_get hv
    have hdj : d ≤ j := by
      by_cases h : d ≤ j
      · exact h
      · have := hU.lo j (by omega); rw [e] at this; omega
    have : vs.getD j Vn.zero = (vs.drop d).getD (j - d) Vn.zero := by rw [getD_drop]; congr 1; omega
    rw [← e, this]
    exact vgetD_mem _ _ (by simp; omega)
  obtain ⟨h1, h2⟩ := upTo_mem hok.2 hv hd1
  obtain ⟨h3, h4⟩ := upTo_mem hok'.2 hvu he1
  exact ⟨rfl, rfl, Or.inl ⟨by simpa using h1, by simpa using h3, by rw [h2, h4]⟩⟩
theorem dump_low {vs : List Vn} {k : Int} {d : Nat} (ns : List Int) (hU : UpTo vs k d) {i : Nat} (hi : i < (dumpL vs d ns).length) (h : ((dumpL vs d ns).getD i Vn.zero).num ≤ k) : i = 0 ∧ ((dumpL vs d ns).getD i Vn.zero).drop = false := by
  have hu := dump_up ns hU
  have hlt : i < (headD vs d).length := by
    by_cases h1 : i < (headD vs d).length
    · exact h1
    · have := hu.hi i (by omega) hi; omega
  have hl := headD_len vs d
  obtain rfl : i = 0 := by omega
  refine ⟨rfl, ?_⟩
  have e : (dumpL vs d ns).getD 0 Vn.zero = (headD vs d).getD 0 Vn.zero := by unfold dumpL; simp [List.getD, List.getElem?_append_left hlt]
  rw [e]
  unfold headD at hlt ⊢
  split
  · rename_i hc; exact hc.2
  · rename_i hc; rw [if_neg hc] at hlt; simp at hlt
/-- Numbers as cells. -/
def ints (ns : List Int) : List Value := ns.map fun n => Value.int .i64 n
theorem IRs.of_own {w : World} {base : Nat} {ro : Option Addr} {N rc : Nat} {ns : List Int} (h : w.ownsRow base 3 1 (.slice ro N rc) N (ints ns)) (hN : N = ns.length) (hl : ns.length ≤ 17592186044416) : IRs w ro ns := by
  refine ⟨fun h0 => ?_, hl⟩
  rcases h.2 with ⟨_, h1⟩ | ⟨g, cap, cur, hv, _, hg, _, _, _, ht⟩
  · omega
  · cases hv
    refine ⟨g, 0, rfl, lt_of_block hg, fun i hi => ?_⟩
    have hx : (ints ns)[i]? = some (.int .i64 (ns.getD i 0)) := by simp [ints, List.getD, hi]
    rw [cell_of_row _ _ _ _ _ _ hg, Nat.zero_add, ← Array.getElem?_toList, ← hx, ← ht, List.getElem?_take_of_lt (by omega)]
theorem Try.undInts : Try.prog.underlying 40 = some (.slice 3) := by kernel_rfl
theorem Try.infoIntF : (Try.prog.info? 3).map (fun i => (i.zero, i.size, i.bytes)) = some (some (.int .i64 0), 1, 8) := by kernel_rfl
theorem infoInt_parts : ∃ i, Try.prog.info? 3 = some i ∧ i.zero = some (.int .i64 0) ∧ i.size = 1 ∧ i.bytes = 8 := by
  have h := Try.infoIntF
  cases hi : Try.prog.info? 3 with
  | none => rw [hi] at h; cases h
  | some i =>
    rw [hi] at h
    simp only [Option.map_some, Option.some.injEq, Prod.mk.injEq] at h
    exact ⟨i, rfl, h.1, h.2.1, h.2.2⟩
/-- What the statement's first loop keeps. -/
structure K1 (w wr : World) (bo : Option Addr) (bn bc : Nat) (vs : List Vn) (ns : List Int) (k r last : Int) (p : Nat) : Prop where
  fr : Fr [] w wr
  own : wr.ownsRow 0 3 1 (.slice bo bn bc) bn (ints ns)
  bnl : bn = ns.length
  base : ∀ q, (Value.slice bo bn bc).ownBlock = some q → w.heap.size ≤ q
  mem : ∀ n, n ∈ ns ↔ ∃ j, p ≤ j ∧ j < vs.length ∧ (vs.getD j Vn.zero).num = n ∧ k < n ∧ n ≤ k + r
  top : last = k ∨ last ∈ ns
theorem K1.skip {w wr : World} {bo : Option Addr} {bn bc : Nat} {vs : List Vn} {ns : List Int} {k r last : Int} {p : Nat} (h : K1 w wr bo bn bc vs ns k r last (p + 1)) (hx : ¬ (k < (vs.getD p Vn.zero).num ∧ (vs.getD p Vn.zero).num ≤ k + r)) : K1 w wr bo bn bc vs ns k r last p := by
  refine ⟨h.fr, h.own, h.bnl, h.base, fun n => ?_, h.top⟩
  rw [h.mem]
  constructor
  · rintro ⟨j, h1, h2⟩; exact ⟨j, by omega, h2⟩
  · rintro ⟨j, h1, h2, h3, h4⟩
    by_cases e : j = p
    · subst e; rw [← h3] at h4; exact absurd h4 hx
    · exact ⟨j, by omega, h2, h3, h4⟩
theorem K1.more {w wr W' : World} {bo : Option Addr} {bn bc : Nat} {vs : List Vn} {ns : List Int} {k r last : Int} {p : Nat} (h : K1 w wr bo bn bc vs ns k r last (p + 1)) {x : Int} (ex : (vs.getD p Vn.zero).num = x) (hp : p < vs.length) (hx : k < x ∧ x ≤ k + r)
    {g cap : Nat} {B : World} (hB : Fr [] wr B) (hown : W'.ownsRow 0 3 1 (.slice (some ⟨g, 0, none⟩) (bn + 1) cap) (bn + 1) (ints ns ++ [.int .i64 x])) (hgr : B.grownBy W' (Value.slice bo bn bc).ownBlock) (hmv : Moved B.heap.size (.slice bo bn bc) (.slice (some ⟨g, 0, none⟩) (bn + 1) cap))
    {last' : Int} (hl : last' = last ∨ last' = x) : K1 w W' (some ⟨g, 0, none⟩) (bn + 1) cap vs (ns ++ [x]) k r last' p := by
  have hS : Fr (Value.slice bo bn bc).ownBlock.toList B W' := Fr.grown hgr (fun y hy _ => Option.mem_toList.2 hy)
  refine ⟨(h.fr.then hB).on hS (fun y hy => h.base y (Option.mem_toList.1 hy)), by simpa [ints] using hown, by simp [h.bnl], ?_, fun n => ?_, ?_⟩
  · intro q hq
    rcases hmv with hm | ⟨y, h1, h2⟩
    · exact h.base q (by rw [← hm]; exact hq)
    · rw [h1] at hq
      cases hq
      have := (h.fr.then hB).size
      omega
  · rw [List.mem_append, List.mem_singleton, h.mem]
    constructor
    · rintro (⟨j, h1, h2⟩ | rfl)
      · exact ⟨j, by omega, h2⟩
      · exact ⟨p, Nat.le_refl _, hp, ex, hx⟩
    · rintro ⟨j, h1, h2, h3, h4⟩
      by_cases e : j = p
      · subst e; exact Or.inr (by rw [← h3, ex])
      · exact Or.inl ⟨j, by omega, h2, h3, h4⟩
  · rcases hl with rfl | rfl
    · rcases h.top with e | e
      · exact Or.inl e
      · exact Or.inr (List.mem_append.2 (Or.inl e))
    · exact Or.inr (List.mem_append.2 (Or.inr (by simp)))
end Go.Proofs.Ytlikpcbiogfgcaa

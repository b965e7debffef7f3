/- What the law of parts keeps: how many keys of each home came by; where each stands in its list. Plain lemmas and memory. -/
import Derived.Test.YtldghdbfhikcoaaSo18
import Derived.Test.YtldghdbfhikcoaaSy18
import Derived.Test.YtldghdbfhikcoaaAl18
import Derived.Test.YtldghdbfhikcoaaIn18
namespace Go.Proofs.Ytldghdbfhikcoaa
open Go.ChangeShapes Go.WideShapes Go.ChangeAt Go.RowKit Go.Lib Go.Maps
set_option linter.unusedVariables false
set_option linter.unusedSimpArgs false

/-- How many of the first i are of home n. -/
def cnt (s : Int) (hs : List Hd) (i : Nat) (n : Nat) : Nat := (livK s (n : Int) (hs.take i)).length
theorem cnt_zero (s : Int) (hs : List Hd) (n : Nat) : cnt s hs 0 n = 0 := by simp [cnt, livK]
theorem cnt_in {s : Int} {hs : List Hd} {i n : Nat} (hi : i < hs.length) (h : homeOf s (hs.getD i Hd.zero) = (n : Int)) : cnt s hs (i + 1) n = cnt s hs i n + 1 := by
  unfold cnt
  rw [livK_in hi h]
  simp
theorem cnt_out {s : Int} {hs : List Hd} {i n : Nat} (hi : i < hs.length) (h : homeOf s (hs.getD i Hd.zero) ≠ (n : Int)) : cnt s hs (i + 1) n = cnt s hs i n := by
  unfold cnt
  rw [livK_out hi h]
theorem cnt_all (s : Int) (hs : List Hd) (n : Nat) (i : Nat) (hi : hs.length ≤ i) : cnt s hs i n = (livK s (n : Int) hs).length := by
  unfold cnt
  rw [List.take_of_length_le hi]
/-- Where the i-th stands in its list. -/
theorem liv_at {s : Int} {hs : List Hd} {i n : Nat} (hi : i < hs.length) (h : homeOf s (hs.getD i Hd.zero) = (n : Int)) : (livK s (n : Int) hs)[cnt s hs i n]? = some (hs.getD i Hd.zero).kv := by
  have e : livK s (n : Int) hs = livK s (n : Int) (hs.take (i + 1)) ++ livK s (n : Int) (hs.drop (i + 1)) := by
    unfold livK
    rw [← List.map_append, ← List.filter_append, List.take_append_drop]
  rw [e, livK_in hi h]
  unfold cnt
  rw [List.append_assoc, List.getElem?_append_right (Nat.le_refl _)]
  simp
theorem row_kv {rs : List Hd} {ps : List Kv} (h : rs.map Hd.kv = ps) {k : Nat} {p : Kv} (hp : ps[k]? = some p) : k < rs.length ∧ (rs.getD k Hd.zero).kv = p := by
  rw [← h, List.getElem?_map] at hp
  cases hr : rs[k]? with
  | none => rw [hr] at hp; cases hp
  | some y =>
    rw [hr] at hp
    simp only [Option.map_some, Option.some.injEq] at hp
    have hk := (List.getElem?_eq_some_iff.1 hr).1
    exact ⟨hk, by simp only [List.getD, hr, Option.getD_some]; exact hp⟩
theorem livK_lo {s : Int} {n : Int} {hs : List Hd} (h : LoK (hs.map Hd.kv)) : LoK (livK s n hs) := by
  have hsub : (livK s n hs).Sublist (hs.map Hd.kv) := List.Sublist.map _ List.filter_sublist
  exact ⟨h.1.sublist hsub, fun p hp => h.2 p (hsub.subset hp)⟩
theorem livK_mem {s : Int} {n : Int} {hs : List Hd} {p : Kv} (h : p ∈ livK s n hs) : ∃ y ∈ hs, y.kv = p := by
  obtain ⟨y, hy, e⟩ := List.mem_map.1 h
  exact ⟨y, (List.mem_filter.1 hy).1, e⟩
/-- A key of a list reads the same there and in the whole. -/
theorem read_both {s n : Int} {hs rs : List Hd} (hl : LoOk hs) (hr : rs.map Hd.kv = livK s n hs) {x : Hd} (hx : x ∈ rs) : mOf rs x.key = mOf hs x.key := by
  have hlr : LoOk rs := (LoOk_iff rs).2 (by rw [hr]; exact livK_lo ((LoOk_iff hs).1 hl))
  rw [mOf_mem hlr hx]
  obtain ⟨y, hy, e⟩ := livK_mem (by rw [← hr]; exact List.mem_map.2 ⟨x, hx, rfl⟩)
  have e1 : y.key = x.key := congrArg Prod.fst e
  have e2 : y.vs = x.vs := congrArg Prod.snd e
  rw [← e1, mOf_mem hl hy, e2]
/-- A row of counts. -/
structure At (w : World) (ab S : Nat) (f : Nat → Nat) : Prop where
  blk : ∃ cs : Array Value, w.heap[ab]? = some (.cells cs 3 (0, 0)) ∧ cs.size = S ∧ ∀ j, j < S → cs[j]? = some (.int .i64 ((f j : Nat) : Int))
theorem At.keep {T : List Nat} {w w' : World} {ab S : Nat} {f : Nat → Nat} (h : At w ab S f) (hf : Fr T w w') (hn : ab ∉ T) : At w' ab S f := by
  obtain ⟨cs, h1, h2, h3⟩ := h.blk
  exact ⟨cs, hf.keep h1 hn, h2, h3⟩
theorem At.cell {w : World} {ab S : Nat} {f : Nat → Nat} (h : At w ab S f) (j : Nat) (hj : j < S) : w.cell? ⟨ab, j, none⟩ = some (.int .i64 ((f j : Nat) : Int)) ∧ w.frozen? ⟨ab, j, none⟩ = false := by
  obtain ⟨cs, h1, h2, h3⟩ := h.blk
  exact ⟨by rw [cell_of_row _ _ _ _ _ _ h1]; exact h3 j hj, vfrozen h1 j⟩
theorem At.put {w : World} {ab S : Nat} {f g : Nat → Nat} (h : At w ab S f) (j : Nat) (hj : j < S) (hg : g j = f j + 1) (ho : ∀ k, k < S → k ≠ j → g k = f k) : At (w.setCell ⟨ab, j, none⟩ (.int .i64 ((f j + 1 : Nat) : Int))) ab S g := by
  obtain ⟨cs, h1, h2, h3⟩ := h.blk
  refine ⟨_, row_put18 _ h1, by simpa using h2, fun k hk => ?_⟩
  by_cases e : k = j
  · subst e
    simp [h2, hk, hg]
  · rw [Array.getElem?_setIfInBounds_ne (by omega), h3 k hk, ho k hk e]
theorem made_at {w' : World} {b C : Nat} (h : w'.ownsRow 0 3 1 (.slice (some ⟨b, 0, none⟩) C C) C (madeCells #[Value.int .i64 0] C).toList) : At w' b C (fun _ => 0) := by
  rcases h.2 with ⟨hh, _⟩ | ⟨g', cap', cur, hh, hb, hg, hnc, hcm, hcs, ht⟩
  · cases hh
  · cases hh
    refine ⟨cur, hg, by simpa using hcs, fun j hj => ?_⟩
    have h1 : (cur.toList.take (C * 1))[j]? = ((madeCells #[Value.int .i64 0] C).toList)[j]? := by rw [ht]
    rw [List.getElem?_take_of_lt (by omega), Array.getElem?_toList] at h1
    rw [h1]
    simp [madeCells, Value.cells, hj, Nat.mod_one]
theorem SpI.off {w wr w' : World} {lb S Lh ab : Nat} {hs : List Hd} {rs : List Lr} {f : Nat → Nat} (h : SpI w wr lb S Lh hs rs) (ha : At wr ab S f) (hb : w.heap.size ≤ ab) (hf : Fr [ab] wr w') : SpI w w' lb S Lh hs rs := by
  obtain ⟨cs, hc, _⟩ := ha.blk
  obtain ⟨ls, hl, _⟩ := h.lm.blk
  refine ⟨h.lm.keep hf (fun hm => ?_), h.fr.on hf (by intro k hk; simp at hk; omega), h.nb, fun j hj => ⟨(h.each j hj).1.keepS hf (fun k hk hm => ?_) (fun k cur hcur hm => ?_), (h.each j hj).2⟩, h.far⟩
  · simp at hm
    subst hm
    rw [hl] at hc
    simp only [Option.some.injEq, Obj.cells.injEq] at hc
    exact absurd hc.2.1 (by decide)
  · obtain ⟨_, cur, hcur⟩ := owns_cells (h.each j hj).1.row hk
    simp at hm
    subst hm
    rw [hc] at hcur
    simp only [Option.some.injEq, Obj.cells.injEq] at hcur
    exact absurd hcur.2.1 (by decide)
  · simp at hm
    subst hm
    rw [hc] at hcur
    simp only [Option.some.injEq, Obj.cells.injEq] at hcur
    exact absurd hcur.2.1 (by decide)
end Go.Proofs.Ytldghdbfhikcoaa

/- A ring as a plain thing, and in memory: where its things stand, what a put, a take and more places make of that. Conditions as each names them. -/
import Derived.Test.YtakbodlicfmkjaaGreatArg
import Derived.Laws.CopyOwn
import Derived.Deep.RegionLaw
import Derived.Deep.RegionHeld3
import Derived.WalkSpells
import Derived.OwnWalk
namespace Go.Proofs.YtakbodlicfmkjaaGreat.GI
open Go.ChangeShapes Go.WideShapes Go.ChangeAt Go.RowKit Go.Lib
set_option linter.unusedVariables false
set_option linter.unusedSimpArgs false

/-- Things as cells. -/
def vals (xs : List Int) : List Value := xs.map fun x => (.int .i64 x : Value)
theorem vals_length (xs : List Int) : (vals xs).length = xs.length := by simp [vals]
theorem vals_append (xs ys : List Int) : vals (xs ++ ys) = vals xs ++ vals ys := by simp [vals]
theorem vals_get (xs : List Int) (j : Nat) (h : j < xs.length) : (vals xs)[j]? = some (.int .i64 (xs.getD j 0)) := by simp [vals, List.getD, h]
theorem vals_set (xs : List Int) (j : Nat) (x : Int) : (vals xs).set j (.int .i64 x) = vals (xs.set j x) := by simp [vals, List.map_set]
theorem vals_take (xs : List Int) (n : Nat) : (vals xs).take n = vals (xs.take n) := by simp [vals, List.map_take]
theorem vals_drop (xs : List Int) (n : Nat) : (vals xs).drop n = vals (xs.drop n) := by simp [vals, List.map_drop]
theorem vals_one (xs : List Int) : ∀ u ∈ vals xs, u.oneCell' = true := by
  intro u hu
  obtain ⟨_, _, rfl⟩ := List.mem_map.1 hu
  rfl
/-- The place of the thing that has i ahead of it. -/
def atN (F i N : Nat) : Nat := if F + i < N then F + i else F + i - N
theorem atN_mod {F i N : Nat} (hF : F < N) (hi : i ≤ N) : (F + i) % N = atN F i N := by
  unfold atN
  split
  · exact Nat.mod_eq_of_lt (by assumption)
  · rw [Nat.mod_eq_sub_mod (by omega), Nat.mod_eq_of_lt (by omega)]
theorem atN_lt {F i N : Nat} (hF : F < N) (hi : i ≤ N) : atN F i N < N := by
  unfold atN
  split <;> omega
/-- The places ps, of which the first thing stands at F, hold the things xs. -/
structure Pl (N F K : Nat) (ps xs : List Int) : Prop where
  len : ps.length = N
  cnt : xs.length = K
  fit : K ≤ N
  f0 : N = 0 → F = 0
  f1 : 0 < N → F < N
  at_ : ∀ i, i < K → ps.getD (atN F i N) 0 = xs.getD i 0
theorem getD_set (ps : List Int) (i j : Nat) (x : Int) (hi : i < ps.length) : (ps.set i x).getD j 0 = if i = j then x else ps.getD j 0 := by
  simp only [List.getD, List.getElem?_set]
  split
  · subst_vars
    simp [hi]
  · rfl
theorem getD_snoc (xs : List Int) (x : Int) (j : Nat) : (xs ++ [x]).getD j 0 = if j < xs.length then xs.getD j 0 else if j = xs.length then x else 0 := by
  simp only [List.getD]
  split
  · rw [List.getElem?_append_left (by assumption)]
  · rw [List.getElem?_append_right (by omega)]
    split
    · subst_vars; simp
    · rw [List.getElem?_eq_none (by simp; omega)]; rfl
theorem Pl.put {N F K : Nat} {ps xs : List Int} (h : Pl N F K ps xs) (hK : K < N) (x : Int) : Pl N F (K + 1) (ps.set (atN F K N) x) (xs ++ [x]) := by
  have hF := h.f1 (by omega)
  refine ⟨by rw [List.length_set]; exact h.len, by rw [List.length_append, h.cnt]; rfl, by omega, h.f0, h.f1, fun i hi => ?_⟩
  rw [getD_set _ _ _ _ (by rw [h.len]; exact atN_lt hF (by omega)), getD_snoc, h.cnt]
  by_cases hiK : i < K
  · rw [if_neg (by unfold atN; split <;> split <;> omega), if_pos hiK]
    exact h.at_ i hiK
  · obtain rfl : i = K := by omega
    rw [if_pos rfl, if_neg (by omega), if_pos rfl]
theorem Pl.take {N F K : Nat} {ps xs : List Int} {x : Int} (h : Pl N F (K + 1) ps (x :: xs)) : ps.getD F 0 = x ∧ Pl N (atN F 1 N) K (ps.set F 0) xs := by
  have hN : 0 < N := by have := h.fit; omega
  have hF := h.f1 hN
  have h0 := h.at_ 0 (by omega)
  have e0 : atN F 0 N = F := by unfold atN; rw [if_pos (by omega)]; rfl
  rw [e0] at h0
  refine ⟨by simpa using h0, by rw [List.length_set]; exact h.len, by have := h.cnt; simp at this; exact this, by have := h.fit; omega, fun e => by omega, fun _ => atN_lt hF (by omega), fun i hi => ?_⟩
  have hi1 := h.at_ (i + 1) (by omega)
  have hfit := h.fit
  have e1 : atN (atN F 1 N) i N = atN F (i + 1) N := by unfold atN; split <;> split <;> (try split) <;> omega
  rw [e1, getD_set _ _ _ _ (by rw [h.len]; exact hF), if_neg (by unfold atN; split <;> omega), hi1]
  rfl
/-- The places unrolled to n of them. -/
def unr (F n : Nat) (ps : List Int) : List Int := (ps.drop F ++ ps.take F).take n ++ List.replicate (n - ps.length) 0
theorem unr_length (F n : Nat) (ps : List Int) : (unr F n ps).length = n := by
  simp [unr]
  omega
theorem unr_get {F n N i : Nat} {ps : List Int} (hN : ps.length = N) (hF : F < N) (hi : i < n) (hiN : i < N) : (unr F n ps).getD i 0 = ps.getD (atN F i N) 0 := by
  simp only [unr, List.getD]
  congr 1
  rw [List.getElem?_append_left (by simp; omega), List.getElem?_take_of_lt hi]
  unfold atN
  split
  · rw [List.getElem?_append_left (by simp; omega), List.getElem?_drop]
  · rw [List.getElem?_append_right (by simp; omega), List.getElem?_take_of_lt (by simp; omega)]
    congr 1
    simp
    omega
theorem Pl.wide {N F K n : Nat} {ps xs : List Int} (h : Pl N F K ps xs) (hn : N ≤ n) (hn0 : 0 < n) : Pl n 0 K (unr F n ps) xs := by
  refine ⟨unr_length _ _ _, h.cnt, by have := h.fit; omega, fun _ => rfl, fun h => h, fun i hi => ?_⟩
  have hfit := h.fit
  have e0 : atN 0 i n = i := by unfold atN; rw [if_pos (by omega)]; omega
  rw [e0, unr_get h.len (h.f1 (by omega)) (by omega) (by omega)]
  exact h.at_ i hi
theorem Pl.all {N F K : Nat} {ps xs : List Int} (h : Pl N F K ps xs) : unr F K ps = xs := by
  apply List.ext_getElem
  · rw [unr_length, h.cnt]
  · intro i h1 h2
    rw [unr_length] at h1
    have hfit := h.fit
    have e := unr_get (n := K) h.len (h.f1 (by omega)) h1 (by omega)
    rw [h.at_ i h1] at e
    simp [List.getD, unr_length, h1, h.cnt] at e
    exact e
theorem Pl.nil : Pl 0 0 0 [] [] := ⟨rfl, rfl, Nat.le_refl _, fun _ => rfl, fun h => absurd h (by omega), fun i h => absurd h (by omega)⟩

/-- A ring in memory: its struct lies in block g, its places in block pb (none: there are none). -/
structure RgM (w : World) (g : Nat) (pb : Option Nat) (C N F K : Nat) (ps xs : List Int) (cl : Bool) : Prop where
  box : w.heap[g]? = some (.cells #[.int .i64 (C : Int), .slice (pb.map fun b => ⟨b, 0, none⟩) N N, .int .i64 (F : Int), .int .i64 (K : Int), .bool cl] 203 (0, 0))
  pl : Pl N F K ps xs
  row : ∀ b, pb = some b → w.heap[b]? = some (.cells (vals ps).toArray 3 (0, 0))
  none_ : pb = none ↔ N = 0
  cap : 1 ≤ C ∧ C ≤ 65536 ∧ N ≤ C
/-- A ring with these things. -/
def Rg (w : World) (g : Nat) (pb : Option Nat) (C : Nat) (xs : List Int) (cl : Bool) : Prop := ∃ N F K ps, RgM w g pb C N F K ps xs cl
section
variable {w w' : World} {g C N F K : Nat} {pb : Option Nat} {ps xs : List Int} {cl : Bool}
theorem RgM.lt (h : RgM w g pb C N F K ps xs cl) : g < w.heap.size := lt_of_block h.box
theorem RgM.ne (h : RgM w g pb C N F K ps xs cl) : pb ≠ some g := by
  intro e
  have h1 := h.row g e
  rw [h.box] at h1
  simp at h1
theorem RgM.plt (h : RgM w g pb C N F K ps xs cl) {b : Nat} (hb : pb = some b) : b < w.heap.size := lt_of_block (h.row b hb)
theorem RgM.keep {S : List Nat} (h : RgM w g pb C N F K ps xs cl) (hf : Fr S w w') (hg : g ∉ S) (hb : ∀ b, pb = some b → b ∉ S) : RgM w' g pb C N F K ps xs cl :=
  ⟨hf.keep h.box hg, h.pl, fun b e => hf.keep (h.row b e) (hb b e), h.none_, h.cap⟩
theorem RgM.c0 (h : RgM w g pb C N F K ps xs cl) : w.cell? ⟨g, 0, none⟩ = some (.int .i64 (C : Int)) := by rw [cell_of_row _ _ _ _ _ _ h.box]; rfl
theorem RgM.c1 (h : RgM w g pb C N F K ps xs cl) : w.cell? ⟨g, 1, none⟩ = some (.slice (pb.map fun b => ⟨b, 0, none⟩) N N) := by rw [cell_of_row _ _ _ _ _ _ h.box]; rfl
theorem RgM.c2 (h : RgM w g pb C N F K ps xs cl) : w.cell? ⟨g, 2, none⟩ = some (.int .i64 (F : Int)) := by rw [cell_of_row _ _ _ _ _ _ h.box]; rfl
theorem RgM.c3 (h : RgM w g pb C N F K ps xs cl) : w.cell? ⟨g, 3, none⟩ = some (.int .i64 (K : Int)) := by rw [cell_of_row _ _ _ _ _ _ h.box]; rfl
theorem RgM.c4 (h : RgM w g pb C N F K ps xs cl) : w.cell? ⟨g, 4, none⟩ = some (.bool cl) := by rw [cell_of_row _ _ _ _ _ _ h.box]; rfl
theorem RgM.fz (h : RgM w g pb C N F K ps xs cl) (i : Nat) : w.frozen? ⟨g, i, none⟩ = false := by simp [World.frozen?, h.box]
theorem RgM.pc (h : RgM w g pb C N F K ps xs cl) {b i : Nat} (hb : pb = some b) (hi : i < N) : w.cell? ⟨b, i, none⟩ = some (.int .i64 (ps.getD i 0)) := by
  rw [cell_of_row _ _ _ _ _ _ (h.row b hb), List.getElem?_toArray]
  exact vals_get ps i (by rw [h.pl.len]; exact hi)
theorem RgM.pz (h : RgM w g pb C N F K ps xs cl) {b : Nat} (hb : pb = some b) (i : Nat) : w.frozen? ⟨b, i, none⟩ = false := by simp [World.frozen?, h.row b hb]
theorem Rg.keep {S : List Nat} (h : Rg w g pb C xs cl) (hf : Fr S w w') (hg : g ∉ S) (hb : ∀ b, pb = some b → b ∉ S) : Rg w' g pb C xs cl := by
  obtain ⟨N, F, K, ps, h⟩ := h
  exact ⟨N, F, K, ps, h.keep hf hg hb⟩
theorem Rg.same (h : Rg w g pb C xs cl) (hf : Fr [] w w') : Rg w' g pb C xs cl := h.keep hf (by simp) (by simp)
theorem Rg.lt (h : Rg w g pb C xs cl) : g < w.heap.size := by obtain ⟨N, F, K, ps, h⟩ := h; exact h.lt
theorem Rg.plt (h : Rg w g pb C xs cl) {b : Nat} (hb : pb = some b) : b < w.heap.size := by obtain ⟨N, F, K, ps, h⟩ := h; exact h.plt hb
theorem Rg.ne (h : Rg w g pb C xs cl) : pb ≠ some g := by obtain ⟨N, F, K, ps, h⟩ := h; exact h.ne
theorem Rg.few (h : Rg w g pb C xs cl) : xs.length ≤ C ∧ 1 ≤ C ∧ C ≤ 65536 := by
  obtain ⟨N, F, K, ps, h⟩ := h
  have := h.pl.cnt
  have := h.pl.fit
  have := h.cap
  omega
end
theorem vrow_setCell {w : World} {b j : Nat} {cs : Array Value} {t : TypeId} (x : Value) (h : w.heap[b]? = some (.cells cs t (0, 0))) : (w.setCell ⟨b, j, none⟩ x).heap[b]? = some (.cells (cs.setIfInBounds j x) t (0, 0)) := by
  have hlt := lt_of_block h
  have h' : w.heap[b] = .cells cs t (0, 0) := by simpa [Array.getElem?_eq_getElem hlt] using h
  show (w.heap.modify b _)[b]? = _
  rw [Array.getElem?_eq_getElem (by simpa using hlt), Array.getElem_modify_self, h']
  rfl
/-- What belongs to a ring. -/
def Rg.own (g : Nat) (pb : Option Nat) : List Nat := g :: pb.toList
/-- The places stayed where they were, or are new. -/
def Mv (n : Nat) (pb pb' : Option Nat) : Prop := pb' = pb ∨ ∃ k, pb' = some k ∧ n ≤ k
theorem Mv.refl (n : Nat) (pb : Option Nat) : Mv n pb pb := Or.inl rfl
theorem Mv.trans {n m : Nat} {a b c : Option Nat} (h : Mv n a b) (k : Mv m b c) (hnm : n ≤ m) : Mv n a c := by
  rcases k with rfl | ⟨x, rfl, hx⟩
  · exact h
  · exact Or.inr ⟨x, rfl, by omega⟩
end Go.Proofs.YtakbodlicfmkjaaGreat.GI

/- A ring as a plain thing, and in memory: where its things stand, what a put, a take and more places make of that. Conditions as each names them. -/
import Derived.Test.YtakbodlicfmkjaaGreatVn2
import Derived.Deep.MidRow
import Derived.Laws.CopyOwn
import Derived.Laws.MakeOwn
import Derived.Deep.RegionLaw
import Derived.Deep.RegionHeld3
import Derived.WalkSpells
import Derived.OwnWalk
namespace Go.Proofs.YtakbodlicfmkjaaGreat.O
open Go.ChangeShapes Go.WideShapes Go.ChangeAt Go.RowKit Go.Lib
set_option linter.unusedVariables false
set_option linter.unusedSimpArgs false

/-- A request as it lies in memory. -/
structure Rv where
  k : Int
  f : Int
  n : Int
  wk : ByteArray
  wv : ByteArray
  wd : Bool
  key : ByteArray
  en : ByteArray
  bo : Option Addr
  bl : Nat
  bc : Nat
def Rv.cs (r : Rv) : List Value := [.int .u8 r.k, .int .i64 r.f, .int .i64 r.n, .string r.wk, .string r.wv, .bool r.wd, .string r.key, .string r.en, .slice r.bo r.bl r.bc]
def Rv.v (r : Rv) : Value := .agg #[.int .u8 r.k, .int .i64 r.f, .int .i64 r.n, .string r.wk, .string r.wv, .bool r.wd, .string r.key, .string r.en, .slice r.bo r.bl r.bc]
def Rv.zero : Rv := ⟨0, 0, 0, ⟨#[]⟩, ⟨#[]⟩, false, ⟨#[]⟩, ⟨#[]⟩, none, 0, 0⟩
theorem Rv.cs_length (r : Rv) : r.cs.length = 9 := rfl
/-- Things as cells. -/
def vals (xs : List Rv) : List Value := xs.flatMap Rv.cs
theorem vals_cons (x : Rv) (xs : List Rv) : vals (x :: xs) = x.cs ++ vals xs := rfl
theorem vals_length (xs : List Rv) : (vals xs).length = 9 * xs.length := by
  induction xs with
  | nil => rfl
  | cons x xs ih => rw [vals_cons, List.length_append, ih, Rv.cs_length, List.length_cons]; omega
theorem vals_append (xs ys : List Rv) : vals (xs ++ ys) = vals xs ++ vals ys := by simp [vals]
theorem vals_take (xs : List Rv) (n : Nat) : (vals xs).take (9 * n) = vals (xs.take n) := by
  induction n generalizing xs with
  | zero => simp [vals]
  | succ n ih =>
    cases xs with
    | nil => simp [vals]
    | cons x xs =>
      rw [vals_cons, List.take_succ_cons, vals_cons, List.take_append, List.take_of_length_le (by rw [Rv.cs_length]; omega), Rv.cs_length, show 9 * (n + 1) - 9 = 9 * n by omega, ih]
theorem vals_drop (xs : List Rv) (n : Nat) : (vals xs).drop (9 * n) = vals (xs.drop n) := by
  induction n generalizing xs with
  | zero => simp
  | succ n ih =>
    cases xs with
    | nil => simp [vals]
    | cons x xs =>
      rw [vals_cons, List.drop_succ_cons, List.drop_append, List.drop_of_length_le (by rw [Rv.cs_length]; omega), List.nil_append, Rv.cs_length, show 9 * (n + 1) - 9 = 9 * n by omega, ih]
theorem vals_get (xs : List Rv) (j i : Nat) (h : j < xs.length) (hi : i < 9) : (vals xs)[9 * j + i]? = (xs.getD j Rv.zero).cs[i]? := by
  induction j generalizing xs with
  | zero =>
    cases xs with
    | nil => simp at h
    | cons x xs =>
      rw [vals_cons, Nat.mul_zero, Nat.zero_add, List.getElem?_append_left (by rw [Rv.cs_length]; exact hi)]
      rfl
  | succ j ih =>
    cases xs with
    | nil => simp at h
    | cons x xs =>
      rw [vals_cons, List.getElem?_append_right (by rw [Rv.cs_length]; omega), Rv.cs_length, show 9 * (j + 1) + i - 9 = 9 * j + i by omega, ih xs (by simpa using h)]
      rfl
theorem vals_set (xs : List Rv) (j : Nat) (x : Rv) (h : j < xs.length) : splice (vals xs) (9 * j) x.cs = vals (xs.set j x) := by
  unfold splice
  rw [vals_take, Rv.cs_length, show 9 * j + 9 = 9 * (j + 1) by omega, vals_drop, List.set_eq_take_append_cons_drop, if_pos h, vals_append, vals_cons]
theorem vals_one (xs : List Rv) : ∀ u ∈ vals xs, u.oneCell' = true := by
  intro u hu
  obtain ⟨x, _, hx⟩ := List.mem_flatMap.1 hu
  simp only [Rv.cs, List.mem_cons, List.not_mem_nil, or_false] at hx
  rcases hx with rfl | rfl | rfl | rfl | rfl | rfl | rfl | rfl | rfl <;> rfl
theorem vals_zero (n : Nat) : (madeCells Rv.zero.v.cells (n * 9)).toList = vals (List.replicate n Rv.zero) := by
  apply List.ext_getElem?
  intro q
  have hl : (vals (List.replicate n Rv.zero)).length = 9 * n := by rw [vals_length, List.length_replicate]
  by_cases hq : q < 9 * n
  · have h1 : 9 * (q / 9) + q % 9 = q := Nat.div_add_mod q 9
    have h2 : q % 9 < 9 := Nat.mod_lt _ (by omega)
    have h3 : q / 9 < n := by omega
    have e := vals_get (List.replicate n Rv.zero) (q / 9) (q % 9) (by simpa using h3) h2
    rw [h1] at e
    rw [e]
    have e2 : (List.replicate n Rv.zero).getD (q / 9) Rv.zero = Rv.zero := by simp [List.getD, h3]
    rw [e2]
    have h4 : q < n * 9 := by omega
    have e3 : (madeCells Rv.zero.v.cells (n * 9)).toList[q]? = some (Rv.zero.v.cells[q % 9]!) := by
      simp [madeCells, h4, Value.cells, Rv.v]
    rw [e3]
    have h5 : q % 9 = 0 ∨ q % 9 = 1 ∨ q % 9 = 2 ∨ q % 9 = 3 ∨ q % 9 = 4 ∨ q % 9 = 5 ∨ q % 9 = 6 ∨ q % 9 = 7 ∨ q % 9 = 8 := by omega
    rcases h5 with h | h | h | h | h | h | h | h | h <;> rw [h] <;> rfl
  · rw [List.getElem?_eq_none (by simp [size_madeCells]; omega), List.getElem?_eq_none (by omega)]
/-- The place of the thing that has i ahead of it. -/
def atN (F i N : Nat) : Nat := if F + i < N then F + i else F + i - N
theorem atN_mod {F i N : Nat} (hF : F < N) (hi : i ≤ N) : (F + i) % N = atN F i N := by
  unfold atN
  split
  · exact Nat.mod_eq_of_lt (by assumption)
  · rw [Nat.mod_eq_sub_mod (by omega), Nat.mod_eq_of_lt (by omega)]
theorem atN_lt {F i N : Nat} (hF : F < N) (hi : i ≤ N) : atN F i N < N := by
  unfold atN
  split <;> omega
/-- The places ps, of which the first thing stands at F, hold the things xs. -/
structure Pl (N F K : Nat) (ps xs : List Rv) : Prop where
  len : ps.length = N
  cnt : xs.length = K
  fit : K ≤ N
  f0 : N = 0 → F = 0
  f1 : 0 < N → F < N
  at_ : ∀ i, i < K → ps.getD (atN F i N) Rv.zero = xs.getD i Rv.zero
theorem getD_set (ps : List Rv) (i j : Nat) (x : Rv) (hi : i < ps.length) : (ps.set i x).getD j Rv.zero = if i = j then x else ps.getD j Rv.zero := by
  simp only [List.getD, List.getElem?_set]
  split
  · subst_vars
    simp [hi]
  · rfl
theorem getD_snoc (xs : List Rv) (x : Rv) (j : Nat) : (xs ++ [x]).getD j Rv.zero = if j < xs.length then xs.getD j Rv.zero else if j = xs.length then x else Rv.zero := by
  simp only [List.getD]
  split
  · rw [List.getElem?_append_left (by assumption)]
  · rw [List.getElem?_append_right (by omega)]
    split
    · subst_vars; simp
    · rw [List.getElem?_eq_none (by simp; omega)]; rfl
theorem Pl.put {N F K : Nat} {ps xs : List Rv} (h : Pl N F K ps xs) (hK : K < N) (x : Rv) : Pl N F (K + 1) (ps.set (atN F K N) x) (xs ++ [x]) := by
  have hF := h.f1 (by omega)
  refine ⟨by rw [List.length_set]; exact h.len, by rw [List.length_append, h.cnt]; rfl, by omega, h.f0, h.f1, fun i hi => ?_⟩
  rw [getD_set _ _ _ _ (by rw [h.len]; exact atN_lt hF (by omega)), getD_snoc, h.cnt]
  by_cases hiK : i < K
  · rw [if_neg (by unfold atN; split <;> split <;> omega), if_pos hiK]
    exact h.at_ i hiK
  · obtain rfl : i = K := by omega
    rw [if_pos rfl, if_neg (by omega), if_pos rfl]
theorem Pl.take {N F K : Nat} {ps xs : List Rv} {x : Rv} (h : Pl N F (K + 1) ps (x :: xs)) : ps.getD F Rv.zero = x ∧ Pl N (atN F 1 N) K (ps.set F Rv.zero) xs := by
  have hN : 0 < N := by have := h.fit; omega
  have hF := h.f1 hN
  have h0 := h.at_ 0 (by omega)
  have e0 : atN F 0 N = F := by unfold atN; rw [if_pos (by omega)]; rfl
  rw [e0] at h0
  refine ⟨by simpa using h0, by rw [List.length_set]; exact h.len, by have := h.cnt; simp at this; exact this, by have := h.fit; omega, fun e => by omega, fun _ => atN_lt hF (by omega), fun i hi => ?_⟩
  have hi1 := h.at_ (i + 1) (by omega)
  have hfit := h.fit
  have e1 : atN (atN F 1 N) i N = atN F (i + 1) N := by unfold atN; split <;> split <;> (try split) <;> omega
  rw [e1, getD_set _ _ _ _ (by rw [h.len]; exact hF), if_neg (by unfold atN; split <;> omega), hi1]
  rfl
/-- The places unrolled to n of them. -/
def unr (F n : Nat) (ps : List Rv) : List Rv := (ps.drop F ++ ps.take F).take n ++ List.replicate (n - ps.length) Rv.zero
theorem unr_length (F n : Nat) (ps : List Rv) : (unr F n ps).length = n := by
  simp [unr]
  omega
theorem unr_get {F n N i : Nat} {ps : List Rv} (hN : ps.length = N) (hF : F < N) (hi : i < n) (hiN : i < N) : (unr F n ps).getD i Rv.zero = ps.getD (atN F i N) Rv.zero := by
  simp only [unr, List.getD]
  congr 1
  rw [List.getElem?_append_left (by simp; omega), List.getElem?_take_of_lt hi]
  unfold atN
  split
  · rw [List.getElem?_append_left (by simp; omega), List.getElem?_drop]
  · rw [List.getElem?_append_right (by simp; omega), List.getElem?_take_of_lt (by simp; omega)]
    congr 1
    simp
    omega
theorem Pl.wide {N F K n : Nat} {ps xs : List Rv} (h : Pl N F K ps xs) (hn : N ≤ n) (hn0 : 0 < n) : Pl n 0 K (unr F n ps) xs := by
  refine ⟨unr_length _ _ _, h.cnt, by have := h.fit; omega, fun _ => rfl, fun h => h, fun i hi => ?_⟩
  have hfit := h.fit
  have e0 : atN 0 i n = i := by unfold atN; rw [if_pos (by omega)]; omega
  rw [e0, unr_get h.len (h.f1 (by omega)) (by omega) (by omega)]
  exact h.at_ i hi
theorem Pl.all {N F K : Nat} {ps xs : List Rv} (h : Pl N F K ps xs) : unr F K ps = xs := by
  apply List.ext_getElem
  · rw [unr_length, h.cnt]
  · intro i h1 h2
    rw [unr_length] at h1
    have hfit := h.fit
    have e := unr_get (n := K) h.len (h.f1 (by omega)) h1 (by omega)
    rw [h.at_ i h1] at e
    simp [List.getD, unr_length, h1, h.cnt] at e
    exact e
theorem Pl.nil : Pl 0 0 0 [] [] := ⟨rfl, rfl, Nat.le_refl _, fun _ => rfl, fun h => absurd h (by omega), fun i h => absurd h (by omega)⟩

/-- A ring in memory: its struct lies in block g, its places in block pb (none: there are none). -/
structure RgM (w : World) (g : Nat) (pb : Option Nat) (C N F K : Nat) (ps xs : List Rv) (cl : Bool) : Prop where
  box : w.heap[g]? = some (.cells #[.int .i64 (C : Int), .slice (pb.map fun b => ⟨b, 0, none⟩) N N, .int .i64 (F : Int), .int .i64 (K : Int), .bool cl] 309 (0, 0))
  pl : Pl N F K ps xs
  row : ∀ b, pb = some b → w.heap[b]? = some (.cells (vals ps).toArray 278 (0, 0))
  none_ : pb = none ↔ N = 0
  cap : 1 ≤ C ∧ C ≤ 65536 ∧ N ≤ C
/-- A ring with these things. -/
def Rg (w : World) (g : Nat) (pb : Option Nat) (C : Nat) (xs : List Rv) (cl : Bool) : Prop := ∃ N F K ps, RgM w g pb C N F K ps xs cl
section
variable {w w' : World} {g C N F K : Nat} {pb : Option Nat} {ps xs : List Rv} {cl : Bool}
theorem RgM.lt (h : RgM w g pb C N F K ps xs cl) : g < w.heap.size := lt_of_block h.box
theorem RgM.ne (h : RgM w g pb C N F K ps xs cl) : pb ≠ some g := by
  intro e
  have h1 := h.row g e
  rw [h.box] at h1
  simp at h1
theorem RgM.plt (h : RgM w g pb C N F K ps xs cl) {b : Nat} (hb : pb = some b) : b < w.heap.size := lt_of_block (h.row b hb)
theorem RgM.keep {S : List Nat} (h : RgM w g pb C N F K ps xs cl) (hf : Fr S w w') (hg : g ∉ S) (hb : ∀ b, pb = some b → b ∉ S) : RgM w' g pb C N F K ps xs cl :=
  ⟨hf.keep h.box hg, h.pl, fun b e => hf.keep (h.row b e) (hb b e), h.none_, h.cap⟩
theorem RgM.c0 (h : RgM w g pb C N F K ps xs cl) : w.cell? ⟨g, 0, none⟩ = some (.int .i64 (C : Int)) := by rw [cell_of_row _ _ _ _ _ _ h.box]; rfl
theorem RgM.c1 (h : RgM w g pb C N F K ps xs cl) : w.cell? ⟨g, 1, none⟩ = some (.slice (pb.map fun b => ⟨b, 0, none⟩) N N) := by rw [cell_of_row _ _ _ _ _ _ h.box]; rfl
theorem RgM.c2 (h : RgM w g pb C N F K ps xs cl) : w.cell? ⟨g, 2, none⟩ = some (.int .i64 (F : Int)) := by rw [cell_of_row _ _ _ _ _ _ h.box]; rfl
theorem RgM.c3 (h : RgM w g pb C N F K ps xs cl) : w.cell? ⟨g, 3, none⟩ = some (.int .i64 (K : Int)) := by rw [cell_of_row _ _ _ _ _ _ h.box]; rfl
theorem RgM.c4 (h : RgM w g pb C N F K ps xs cl) : w.cell? ⟨g, 4, none⟩ = some (.bool cl) := by rw [cell_of_row _ _ _ _ _ _ h.box]; rfl
theorem RgM.fz (h : RgM w g pb C N F K ps xs cl) (i : Nat) : w.frozen? ⟨g, i, none⟩ = false := by simp [World.frozen?, h.box]
theorem RgM.pc (h : RgM w g pb C N F K ps xs cl) {b i : Nat} (hb : pb = some b) (hi : i < N) : ∀ j v, (ps.getD i Rv.zero).cs[j]? = some v → w.cell? ⟨b, 9 * i + j, none⟩ = some v := by
  intro j v hj
  have hj9 : j < 9 := by
    rcases Nat.lt_or_ge j 9 with h1 | h1
    · exact h1
    · rw [List.getElem?_eq_none (by rw [Rv.cs_length]; exact h1)] at hj; cases hj
  rw [cell_of_row _ _ _ _ _ _ (h.row b hb), List.getElem?_toArray, vals_get ps i j (by rw [h.pl.len]; exact hi) hj9]
  exact hj
theorem RgM.pz (h : RgM w g pb C N F K ps xs cl) {b : Nat} (hb : pb = some b) (i : Nat) : w.frozen? ⟨b, i, none⟩ = false := by simp [World.frozen?, h.row b hb]
theorem Rg.keep {S : List Nat} (h : Rg w g pb C xs cl) (hf : Fr S w w') (hg : g ∉ S) (hb : ∀ b, pb = some b → b ∉ S) : Rg w' g pb C xs cl := by
  obtain ⟨N, F, K, ps, h⟩ := h
  exact ⟨N, F, K, ps, h.keep hf hg hb⟩
theorem Rg.same (h : Rg w g pb C xs cl) (hf : Fr [] w w') : Rg w' g pb C xs cl := h.keep hf (by simp) (by simp)
theorem Rg.lt (h : Rg w g pb C xs cl) : g < w.heap.size := by obtain ⟨N, F, K, ps, h⟩ := h; exact h.lt
theorem Rg.plt (h : Rg w g pb C xs cl) {b : Nat} (hb : pb = some b) : b < w.heap.size := by obtain ⟨N, F, K, ps, h⟩ := h; exact h.plt hb
theorem Rg.ne (h : Rg w g pb C xs cl) : pb ≠ some g := by obtain ⟨N, F, K, ps, h⟩ := h; exact h.ne
theorem Rg.few (h : Rg w g pb C xs cl) : xs.length ≤ C ∧ 1 ≤ C ∧ C ≤ 65536 := by
  obtain ⟨N, F, K, ps, h⟩ := h
  have := h.pl.cnt
  have := h.pl.fit
  have := h.cap
  omega
end
/-- What belongs to a ring. -/
def Rg.own (g : Nat) (pb : Option Nat) : List Nat := g :: pb.toList
/-- The places stayed where they were, or are new. -/
def Mv (n : Nat) (pb pb' : Option Nat) : Prop := pb' = pb ∨ ∃ k, pb' = some k ∧ n ≤ k
theorem Mv.refl (n : Nat) (pb : Option Nat) : Mv n pb pb := Or.inl rfl
theorem Mv.trans {n m : Nat} {a b c : Option Nat} (h : Mv n a b) (k : Mv m b c) (hnm : n ≤ m) : Mv n a c := by
  rcases k with rfl | ⟨x, rfl, hx⟩
  · exact h
  · exact Or.inr ⟨x, rfl, by omega⟩
end Go.Proofs.YtakbodlicfmkjaaGreat.O

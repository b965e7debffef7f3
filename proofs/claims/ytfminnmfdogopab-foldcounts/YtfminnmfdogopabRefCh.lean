/- The document's answer: does a transaction write a key, are two neighbours. Conditions as each names them. -/
import Derived.Test.YtfminnmfdogopabChd7
namespace Go.Proofs.Ytfminnmfdogopab
open Go.ChangeShapes Go.WideShapes Go.ChangeAt Go.RowKit Go.Lib Go.Maps
set_option linter.unusedVariables false
set_option linter.unusedSimpArgs false

def ints (rs : List Nat) : List Value := rs.map fun (r : Nat) => Value.int .i64 (r : Int)
theorem ints_length (rs : List Nat) : (ints rs).length = rs.length := by simp [ints]
theorem ints_append (a b : List Nat) : ints (a ++ b) = ints a ++ ints b := by simp [ints]
theorem ints_get (rs : List Nat) (k : Nat) (h : k < rs.length) : (ints rs)[k]? = some (.int .i64 ((rs.getD k 0 : Nat) : Int)) := by simp [ints, List.getD, h]
theorem Try.infoI7 : (Try.prog.info? 3).map (fun i => (i.zero, i.size, i.bytes)) = some (some (.int .i64 0), 1, 8) := by kernel_rfl
theorem Try.undIs7 : Try.prog.underlying 44 = some (.slice 3) := by kernel_rfl
/-- What the document's Chained holds: those to whom a chain leads, in order. -/
structure Zs (l : List Tx) (i n : Nat) (rs : List Nat) (q : Nat) : Prop where
  mem : ∀ m, m ∈ rs ↔ m < n ∧ Rch l i m
  last : rs.getLast? = some q
  lt : q < n
  hit : q + 1 = n ↔ Rch l i (n - 1)
theorem Zs.len {l : List Tx} {i n q : Nat} {rs : List Nat} (h : Zs l i n rs q) : 0 < rs.length := by
  have := h.last
  cases rs with
  | nil => simp at this
  | cons a r => simp
theorem Zs.start (l : List Tx) (i : Nat) : Zs l i (i + 1) [i] i := by
  refine ⟨fun m => ?_, rfl, by omega, by simp; exact Rch.base⟩
  simp only [List.mem_singleton]
  exact ⟨fun h => by subst h; exact ⟨by omega, Rch.base⟩, fun h => by have := h.2.ge; have := h.1; omega⟩
theorem Zs.add {l : List Tx} {i n q : Nat} {rs : List Nat} (h : Zs l i n rs q) (hr : Rch l i n) : Zs l i (n + 1) (rs ++ [n]) n := by
  refine ⟨fun m => ?_, by simp, by omega, by simp; exact hr⟩
  rw [List.mem_append, h.mem, List.mem_singleton]
  constructor
  · rintro (⟨h1, h2⟩ | rfl)
    · exact ⟨by omega, h2⟩
    · exact ⟨by omega, hr⟩
  · rintro ⟨h1, h2⟩
    by_cases e : m = n
    · exact Or.inr e
    · exact Or.inl ⟨by omega, h2⟩
theorem Zs.skip {l : List Tx} {i n q : Nat} {rs : List Nat} (h : Zs l i n rs q) (hr : ¬ Rch l i n) : Zs l i (n + 1) rs q := by
  have hlt := h.lt
  refine ⟨fun m => ?_, h.last, by omega, by simp; exact ⟨fun e => by omega, fun h => absurd h hr⟩⟩
  rw [h.mem]
  constructor
  · rintro ⟨h1, h2⟩
    exact ⟨by omega, h2⟩
  · rintro ⟨h1, h2⟩
    by_cases e : m = n
    · subst e; exact absurd h2 hr
    · exact ⟨by omega, h2⟩
theorem zs_get {rs : List Nat} {k : Nat} (h : k < rs.length) : rs.getD k 0 ∈ rs := by simp [List.getD, h]

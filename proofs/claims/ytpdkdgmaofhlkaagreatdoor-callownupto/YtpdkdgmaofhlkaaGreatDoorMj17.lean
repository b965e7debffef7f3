/- Laying a thing into its place, step by step, as mathematics. No conditions. -/
import Derived.Test.YtpdkdgmaofhlkaaGreatDoorMi17
namespace Go.Proofs.YtpdkdgmaofhlkaaGreatDoor
open Go.Sort
set_option linter.unusedVariables false
set_option linter.unusedSimpArgs false
section
variable {α : Type}
/-- What stands in the new row behind the i-th round: d says that x is laid. -/
structure InsP (lt : α → α → Bool) (x : α) (ls os : List α) (d : Bool) (i : Nat) : Prop where
  no : d = false → os = ls.take i ∧ insK lt x ls = ls.take i ++ insK lt x (ls.drop i)
  yes : d = true → os ++ ls.drop i = insK lt x ls
  len : os.length ≤ i + 1
variable {lt : α → α → Bool} {x : α} {ls os : List α} {i : Nat}
theorem InsP.start : InsP lt x ls [] false 0 := ⟨fun _ => ⟨by simp, by simp⟩, fun h => (by cases h), by simp⟩
theorem ins_drop (z : α) (h : i < ls.length) : ls.drop i = ls.getD i z :: ls.drop (i + 1) := by
  rw [List.drop_eq_getElem_cons h]
  simp [List.getD, h]
theorem ins_take (z : α) (h : i < ls.length) : ls.take (i + 1) = ls.take i ++ [ls.getD i z] := by
  rw [List.take_add_one]
  simp [List.getD, h]
theorem InsP.skip (h : InsP lt x ls os false i) (z : α) (hi : i < ls.length) (hl : lt x (ls.getD i z) = false) : InsP lt x ls (os ++ [ls.getD i z]) false (i + 1) := by
  obtain ⟨h1, h2⟩ := h.no rfl
  refine ⟨fun _ => ⟨?_, ?_⟩, fun h => (by cases h), ?_⟩
  · rw [h1, ins_take z hi]
  · rw [h2, ins_drop z hi, insK, hl, ins_take z hi]
    simp
  · have := h.len
    rw [h1, List.length_append, List.length_take]
    simp
    omega
theorem InsP.here (h : InsP lt x ls os false i) (z : α) (hi : i < ls.length) (hl : lt x (ls.getD i z) = true) : InsP lt x ls (os ++ [x] ++ [ls.getD i z]) true (i + 1) := by
  obtain ⟨h1, h2⟩ := h.no rfl
  refine ⟨fun h => (by cases h), fun _ => ?_, ?_⟩
  · rw [h2, ins_drop z hi, insK, if_pos hl, h1]
    simp
  · rw [h1, List.length_append, List.length_append, List.length_take]
    simp
    omega
theorem InsP.late (h : InsP lt x ls os true i) (z : α) (hi : i < ls.length) : InsP lt x ls (os ++ [ls.getD i z]) true (i + 1) := by
  refine ⟨fun h => (by cases h), fun _ => ?_, ?_⟩
  · rw [← h.yes rfl, ins_drop z hi]
    simp
  · have := h.len
    rw [List.length_append]
    simp
    omega
theorem InsP.endNo (h : InsP lt x ls os false i) (hi : ls.length ≤ i) : os ++ [x] = insK lt x ls := by
  obtain ⟨h1, h2⟩ := h.no rfl
  rw [h2, h1, List.drop_of_length_le hi]
  rfl
theorem InsP.endYes (h : InsP lt x ls os true i) (hi : ls.length ≤ i) : os = insK lt x ls := by
  have := h.yes rfl
  rw [List.drop_of_length_le hi, List.append_nil] at this
  exact this
end
end Go.Proofs.YtpdkdgmaofhlkaaGreatDoor

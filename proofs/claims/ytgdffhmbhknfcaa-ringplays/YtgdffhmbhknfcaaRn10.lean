/- A ring that was made since a world, and its calls; what was put and not yet taken, as numbers that follow one another. Conditions as each names them. -/
import Derived.Test.YtgdffhmbhknfcaaRt10
namespace Go.Proofs.Ytgdffhmbhknfcaa
open Go.ChangeShapes Go.WideShapes Go.ChangeAt Go.RowKit Go.Lib
set_option linter.unusedVariables false
set_option linter.unusedSimpArgs false

/-- A ring that was made since w, whose blocks are left alone. -/
structure RN (w W : World) (g C : Nat) (xs : List Int) (cl : Bool) : Prop where
  ex : ∃ pb, Rg W g pb C xs cl ∧ ∀ b, pb = some b → w.heap.size ≤ b
  fr : Fr [] w W
  new : w.heap.size ≤ g
section
variable {w W W' : World} {g C : Nat} {xs : List Int} {cl : Bool}
theorem RN.same (h : RN w W g C xs cl) (hf : Fr [] W W') : RN w W' g C xs cl := by
  obtain ⟨pb, h1, h2⟩ := h.ex
  exact ⟨⟨pb, h1.same hf, h2⟩, h.fr.then hf, h.new⟩
theorem RN.few (h : RN w W g C xs cl) : xs.length ≤ C ∧ 1 ≤ C ∧ C ≤ 65536 := by
  obtain ⟨pb, h1, h2⟩ := h.ex
  exact h1.few
theorem rn_new (c : Int) (W : World) (hf : Fr [] w W) (hc : 1 ≤ c ∧ c ≤ 65536) : Calls Try.prog 7 #[.int .i64 c] W fun e W' => ∃ g, e = .returned (.tuple #[.pointer (some ⟨g, 0, none⟩), .int .i64 0]) ∧ RN w W' g c.toNat [] false := by
  refine (gnew_any c W hc).mono ?_
  rintro e W' ⟨g, rfl, hg, hR, hF⟩
  exact ⟨g, rfl, ⟨none, hR, fun b e => by cases e⟩, hf.then hF, by have := hf.size; omega⟩
theorem rn_put (x : Int) (h : RN w W g C xs false) (hK : xs.length < C) : Calls Try.prog 14 #[.pointer (some ⟨g, 0, none⟩), .int .i64 x] W fun e W' => e = .returned (.bool true) ∧ RN w W' g C (xs ++ [x]) false := by
  obtain ⟨pb, h1, h2⟩ := h.ex
  refine (gput_any x W h1 hK).mono ?_
  rintro e W' ⟨rfl, pb', hR, hF, hM⟩
  refine ⟨rfl, ⟨pb', hR, fun b e => ?_⟩, h.fr.on hF ?_, h.new⟩
  · rcases hM with rfl | ⟨k, rfl, hk⟩
    · exact h2 b e
    · cases e
      have := h.fr.size
      omega
  · intro y hy
    simp only [Rg.own, List.mem_cons, Option.mem_toList] at hy
    rcases hy with rfl | hy
    · exact h.new
    · exact h2 y hy
theorem rn_full (x : Int) (h : RN w W g C xs cl) (hK : cl = true ∨ xs.length = C) : Calls Try.prog 14 #[.pointer (some ⟨g, 0, none⟩), .int .i64 x] W fun e W' => e = .returned (.bool false) ∧ RN w W' g C xs cl := by
  obtain ⟨pb, ⟨N, F, K, ps, h1⟩, h2⟩ := h.ex
  refine (gput_full x W h1 (by rw [← h1.pl.cnt]; exact hK)).mono ?_
  rintro e W' ⟨rfl, hF⟩
  exact ⟨rfl, h.same hF⟩
theorem rn_take (x : Int) (h : RN w W g C (x :: xs) cl) : Calls Try.prog 15 #[.pointer (some ⟨g, 0, none⟩)] W fun e W' => e = .returned (.tuple #[.int .i64 x, .bool true]) ∧ RN w W' g C xs cl := by
  obtain ⟨pb, h1, h2⟩ := h.ex
  refine (gtake_any x W h1).mono ?_
  rintro e W' ⟨rfl, hR, hF⟩
  refine ⟨rfl, ⟨pb, hR, h2⟩, h.fr.on hF ?_, h.new⟩
  intro y hy
  simp only [Rg.own, List.mem_cons, Option.mem_toList] at hy
  rcases hy with rfl | hy
  · exact h.new
  · exact h2 y hy
theorem rn_none (h : RN w W g C [] cl) : Calls Try.prog 15 #[.pointer (some ⟨g, 0, none⟩)] W fun e W' => e = .returned (.tuple #[.int .i64 0, .bool false]) ∧ RN w W' g C [] cl := by
  obtain ⟨pb, h1, h2⟩ := h.ex
  refine (gtake_nil W h1).mono ?_
  rintro e W' ⟨rfl, rfl⟩
  exact ⟨rfl, h⟩
theorem rn_len (K : Nat) (h : RN w W g C xs cl) (hK : xs.length = K) : Calls Try.prog 16 #[.pointer (some ⟨g, 0, none⟩)] W fun e W' => e = .returned (.int .i64 (K : Int)) ∧ RN w W' g C xs cl := by
  obtain ⟨pb, ⟨N, F, K', ps, h1⟩, h2⟩ := h.ex
  obtain rfl : K = K' := hK.symm.trans h1.pl.cnt
  refine (glen_any W h1).mono ?_
  rintro e W' ⟨rfl, rfl⟩
  exact ⟨rfl, h⟩
theorem rn_room (R : Nat) (h : RN w W g C xs cl) (hR : R = if cl then 0 else C - xs.length) : Calls Try.prog 17 #[.pointer (some ⟨g, 0, none⟩)] W fun e W' => e = .returned (.int .i64 (R : Int)) ∧ RN w W' g C xs cl := by
  obtain ⟨pb, ⟨N, F, K', ps, h1⟩, h2⟩ := h.ex
  refine (groom_any W h1 R (by rw [hR, h1.pl.cnt])).mono ?_
  rintro e W' ⟨rfl, hF⟩
  exact ⟨rfl, h.same hF⟩
theorem rn_close (h : RN w W g C xs cl) : Calls Try.prog 18 #[.pointer (some ⟨g, 0, none⟩)] W fun e W' => (∃ v, e = .returned v) ∧ RN w W' g C xs true := by
  obtain ⟨pb, ⟨N, F, K', ps, h1⟩, h2⟩ := h.ex
  refine (gclose_any W h1).mono ?_
  rintro e W' ⟨hv, hR, hF⟩
  refine ⟨hv, ⟨pb, ⟨_, _, _, _, hR⟩, h2⟩, h.fr.on hF ?_, h.new⟩
  intro y hy
  simp at hy
  subst hy
  exact h.new
theorem rn_over (B : Bool) (h : RN w W g C xs cl) (hB : B = (cl && decide (xs.length = 0))) : Calls Try.prog 19 #[.pointer (some ⟨g, 0, none⟩)] W fun e W' => e = .returned (.bool B) ∧ RN w W' g C xs cl := by
  obtain ⟨pb, ⟨N, F, K', ps, h1⟩, h2⟩ := h.ex
  refine (gover_any W h1 B (by rw [hB, h1.pl.cnt])).mono ?_
  rintro e W' ⟨rfl, rfl⟩
  exact ⟨rfl, h⟩
end
end Go.Proofs.Ytgdffhmbhknfcaa

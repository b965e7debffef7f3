/- That the statements' own check of some fixed answers (the function alive) is true. No conditions. -/
import Derived.Test.YtjhnppgkmmhjbaaRd6
import Derived.Test.YtjhnppgkmmhjbaaSa
namespace Go.Proofs.Ytjhnppgkmmhjbaa
open Go.ChangeShapes Go.WideShapes Go.ChangeAt Go.RowKit Go.Lib
set_option linter.unusedVariables false

def aW : List Wt := [⟨⟨#[97]⟩, ⟨#[120]⟩, false⟩]
def aX : List Tx := [⟨1, aW⟩, ⟨2, []⟩]
def aT (S : Nat) : List Tm := [⟨1, some ⟨S, 0, none⟩, 1, 1, aW⟩, ⟨2, none, 0, 0, []⟩]
theorem aT_txs (S : Nat) : txs (aT S) = aX := rfl
def aB : List Nat := [7, 1, 1, 1, 97, 0, 1, 120, 113, 55, 57, 77, 2, 2, 0, 60, 71, 36, 214]
theorem aB_enc : aB = encL aX := by decide +kernel
theorem aX_ok : okL 1 aX := by
  refine ⟨⟨by decide, by decide, by decide, ?_⟩, rfl, ⟨by decide, by decide, by decide, by simp⟩, rfl, trivial⟩
  intro x hx
  simp only [aW, List.mem_cons, List.not_mem_nil, or_false] at hx
  subst hx
  exact ⟨by decide, by decide, by decide, fun h => by simp at h⟩
theorem a0_rds : Rds 1 [0] [] [0] 5 := ⟨rfl, Or.inr (Or.inl ⟨by simp, by rfl⟩)⟩
theorem a2_bad : Bad 1 (txs [⟨2, none, 0, 0, []⟩]) 6 := Or.inr (Or.inl ⟨⟨by decide, by decide, by decide, by simp [Tm.tx]⟩, by decide, rfl⟩)
set_option maxHeartbeats 8000000 in
set_option maxRecDepth 100000 in
theorem alive6_any (w : World) : Calls Try.prog 6 #[] w fun e w' => e = .returned (.bool true) ∧ Fr [] w w' := by
  obtain ⟨w0, HW0⟩ : ∃ w0, Hid ((w.alloc (.cells #[.string ⟨#[97]⟩, .string ⟨#[120]⟩, .bool false] 55)).alloc (.cells #[.int .i64 1, .slice (some ⟨w.heap.size, 0, none⟩) 1 1, .int .i64 2, .slice none 0 0] 40) = w0) := ⟨_, rfl⟩
  have hF0 : Fr [] w w0 := by rw [← HW0.out]; exact (Fr.alloc [] w _).then (Fr.alloc [] _ _)
  have hR0 : TRs w0 (some ⟨w.heap.size + 1, 0, none⟩) (aT w.heap.size) := by
    refine TRs.of_row (rest := []) (t := 40) (f := (0, 0)) ?_ (by simp [aT]) ?_
    · rw [← HW0.out, List.append_nil]
      have := heap_alloc_new (w.alloc (.cells #[.string ⟨#[97]⟩, .string ⟨#[120]⟩, .bool false] 55)) (.cells #[.int .i64 1, .slice (some ⟨w.heap.size, 0, none⟩) 1 1, .int .i64 2, .slice none 0 0] 40)
      rw [World.size_alloc] at this
      exact this
    · intro t ht
      simp only [aT, List.mem_cons, List.not_mem_nil, or_false] at ht
      rcases ht with rfl | rfl
      · refine ⟨WRs.of_row (rest := []) (t := 55) (f := (0, 0)) ?_ (by simp [aW]) ?_, rfl, by simp, by simp⟩
        · rw [← HW0.out, List.append_nil]
          exact (Below.heap_alloc _ _ _ (by simp)).trans (heap_alloc_new w _)
        · intro x hx
          simp only [aW, List.mem_cons, List.not_mem_nil, or_false] at hx
          subst hx
          exact ⟨by decide, by decide⟩
      · exact ⟨WRs.nil _ _, rfl, by decide, by decide⟩
  go_enter Try.func6, Try.ntmps6
  go_wp2_with fail
  rw [HW0.out]
  refine (lencode_ok (some ⟨w.heap.size + 1, 0, none⟩) 2 2 19 (aT w.heap.size) aB _ hR0 rfl aX_ok aB_enc rfl).mono ?_
  rintro e w1 ⟨ro, rfl, hH1, hF1⟩
  obtain ⟨k, rfl, _, hrow⟩ := hH1.row (by decide)
  have hG1 := hF0.then hF1
  clear hF0 hF1 hR0 hH1 HW0
  have hl : (w1.alloc (.cells #[.int .u8 0] 5)).heap[w1.heap.size]? = some (.cells (bts [0]).toArray 5 (0, 0)) := heap_alloc_new w1 _
  have hA2 := row_arg (N := 1) hl rfl (by decide) (by decide)
  have hF2 : Fr [] w1 (w1.alloc (.cells #[.int .u8 0] 5)) := Fr.alloc _ _ _
  go_wp2_with fail
  refine (lread_any (some ⟨w1.heap.size, 0, none⟩) 1 1 5 [0] [0] [] _ hA2 (by decide) a0_rds 0 0 rfl rfl).mono ?_
  rintro e w3 ⟨ro3, rc3, rfl, _, _, _, hF3⟩
  have hG3 := hG1.then (hF2.then hF3)
  have hrow3 := (hF2.then hF3).keep hrow (by simp)
  clear hA2 hl hF2 hF3 hG1 hrow
  have b0 : w3.cell? ⟨k, 0, none⟩ = some (.int .u8 7) := by rw [cell_of_row _ _ _ _ _ _ hrow3]; rfl
  have b12 : w3.cell? ⟨k, 12, none⟩ = some (.int .u8 2) := by rw [cell_of_row _ _ _ _ _ _ hrow3]; rfl
  have hT4 : TRs (w3.alloc (.cells #[.int .i64 2, .slice none 0 0] 40)) (some ⟨w3.heap.size, 0, none⟩) [⟨2, none, 0, 0, []⟩] := by
    refine TRs.of_row (rest := []) (t := 40) (f := (0, 0)) (heap_alloc_new w3 _) (by simp) ?_
    intro t ht
    simp only [List.mem_cons, List.not_mem_nil, or_false] at ht
    subst ht
    exact ⟨WRs.nil _ _, rfl, by decide, by decide⟩
  have hF4 : Fr [] w3 (w3.alloc (.cells #[.int .i64 2, .slice none 0 0] 40)) := Fr.alloc _ _ _
  go_wp2_with fail
  refine (lcheck_any (some ⟨w3.heap.size, 0, none⟩) 1 1 6 [⟨2, none, 0, 0, []⟩] _ hT4 rfl a2_bad).mono ?_
  rintro e w5 ⟨rfl, hF5⟩
  have hG5 := hG3.then (hF4.then hF5)
  clear hT4 hF4 hF5 hG3 hrow3 b0 b12
  go_wp2
  go_ret
  exact ⟨by simp, hG5⟩
end Go.Proofs.Ytjhnppgkmmhjbaa

/- What is asked of a log, as it comes in; three sizes together. Conditions as each names them. -/
import Derived.Test.YtfminnmfdogopabTxs
import Derived.Test.YtfminnmfdogopabArg
namespace Go.Proofs.Ytfminnmfdogopab
open Go.ChangeShapes Go.WideShapes Go.ChangeAt Go.RowKit Go.Lib
set_option linter.unusedVariables false
set_option linter.unusedSimpArgs false

set_option maxHeartbeats 2000000 in
theorem beyond3_any (k N M P : Nat) (w : World) (hN : N ≤ 9007199254740992) (hM : M ≤ 9007199254740992) (hP : P ≤ 9007199254740992) (h0 : w.cell? ⟨k, 0, none⟩ = some (.int .i64 (N : Int))) (h1 : w.cell? ⟨k, 1, none⟩ = some (.int .i64 (M : Int))) (h2 : w.cell? ⟨k, 2, none⟩ = some (.int .i64 (P : Int))) :
    Calls Try.prog 5 #[.slice (some ⟨k, 0, none⟩) 3 3] w fun e w' => ∃ B : Bool, e = .returned (.bool B) ∧ (B = false → N + M + P ≤ 1048576) ∧ w = w' := by
  by_cases h : 1048576 < N
  · have h' : (1048576 : Int) < N := by omega
    go_enter Try.func5, Try.ntmps5
    go_wp2_with fail
    refine wp_loop_rounds 1 ?_
    rw [rounds_succ]
    go_wp2
    go_ret
    exact ⟨true, rfl, fun hh => (by cases hh), rfl⟩
  · have h' : (N : Int) ≤ 1048576 := by omega
    by_cases h3 : 1048576 < N + M
    · have h3' : (1048576 : Int) < (N : Int) + M := by omega
      go_enter Try.func5, Try.ntmps5
      go_wp2_with fail
      refine wp_loop_rounds 2 ?_
      rw [rounds_succ]
      go_wp2
      rw [rounds_succ]
      go_wp2
      go_ret
      exact ⟨true, rfl, fun hh => (by cases hh), rfl⟩
    · have h3' : (N : Int) + M ≤ 1048576 := by omega
      by_cases h4 : 1048576 < N + M + P
      · have h4' : (1048576 : Int) < (N : Int) + M + P := by omega
        go_enter Try.func5, Try.ntmps5
        go_wp2_with fail
        refine wp_loop_rounds 3 ?_
        rw [rounds_succ]
        go_wp2
        rw [rounds_succ]
        go_wp2
        rw [rounds_succ]
        go_wp2
        go_ret
        exact ⟨true, rfl, fun hh => (by cases hh), rfl⟩
      · have h4' : (N : Int) + M + P ≤ 1048576 := by omega
        go_enter Try.func5, Try.ntmps5
        go_wp2_with fail
        refine wp_loop_rounds 4 ?_
        rw [rounds_succ]
        go_wp2
        rw [rounds_succ]
        go_wp2
        rw [rounds_succ]
        go_wp2
        rw [rounds_succ]
        go_wp2
        go_ret
        exact ⟨false, rfl, fun _ => (by omega), rfl⟩
section
variable {H : Type} {enc : TypeId × Value → H}
end
end Go.Proofs.Ytfminnmfdogopab

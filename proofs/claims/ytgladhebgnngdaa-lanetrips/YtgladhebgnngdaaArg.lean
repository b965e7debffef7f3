/- A slice of bytes that came in, and the statements' own test of sizes. Conditions as each lemma names them. -/
import Derived.Test.YtgladhebgnngdaaMem
import Derived.ShutString
import Derived.ChangeOld
import Derived.Below
namespace Go.Proofs.Ytgladhebgnngdaa
open Go.ChangeShapes Go.WideShapes Go.ChangeAt Go.RowKit Go.Lib

set_option maxHeartbeats 1000000 in
theorem beyond_any (k L : Nat) (w : World) (hL : L ≤ 9223372036854775807) (hc : w.cell? ⟨k, 0, none⟩ = some (.int .i64 (L : Int))) :
    Calls Try.prog 12 #[.slice (some ⟨k, 0, none⟩) 1 1] w fun e w' => e = .returned (.bool (decide (1048576 < L))) ∧ w = w' := by
  by_cases h : 1048576 < L
  · have h' : (1048576 : Int) < L := by omega
    have E : Hid (decide (1048576 < L) = true) := by simp [Hid, h]
    go_enter Try.func12, Try.ntmps12
    go_wp2_with fail
    refine wp_loop_rounds 1 ?_
    rw [rounds_succ]
    go_wp2
    go_ret
    rw [E.out]
    exact ⟨rfl, rfl⟩
  · have h' : (L : Int) ≤ 1048576 := by omega
    have E : Hid (decide (1048576 < L) = false) := by simp [Hid, h]
    go_enter Try.func12, Try.ntmps12
    go_wp2_with fail
    refine wp_loop_rounds 2 ?_
    rw [rounds_succ]
    go_wp2
    rw [rounds_succ]
    go_wp2
    go_ret
    rw [E.out]
    exact ⟨rfl, rfl⟩
end Go.Proofs.Ytgladhebgnngdaa

/- More on transactions as bytes: what goes wrong has a number; rows of writes that may be. Plain lemmas. -/
import Derived.Test.YtaefninikmaiiaaGreatDoorDcd
import Derived.Test.YtaefninikmaiiaaGreatDoorSa
namespace Go.Proofs.YtaefninikmaiiaaGreatDoor
open Go.ChangeShapes Go.WideShapes Go.ChangeAt Go.RowKit Go.Lib
set_option linter.unusedVariables false
theorem decW_code {xs : List Nat} {c : Nat} (h : decW xs = .error c) : c ≠ 0 := by
  intro h0
  subst h0
  unfold decW decD decV at h
  repeat' split at h
  all_goals first | (cases h; rename_i hh; exact tk_code hh rfl) | (cases h)
theorem decWs_code : ∀ (k : Nat) {xs : List Nat} {c : Nat}, decWs k xs = .error c → c ≠ 0 := by
  intro k
  induction k with
  | zero => intro xs c h; simp [decWs] at h
  | succ k ih =>
    intro xs c h
    rw [decWs] at h
    split at h
    · rename_i hh; cases h; exact decW_code hh
    · split at h
      · rename_i hh; cases h; exact ih hh
      · cases h
theorem decT_code {xs : List Nat} {c : Nat} (h : decT xs = .error c) : c ≠ 0 := by
  unfold decT at h
  split at h
  · rename_i hh; cases h; exact tk_code hh
  · unfold decC at h
    split at h
    · rename_i hh; cases h; exact tk_code hh
    · split at h
      · rename_i hh; cases h; exact decWs_code _ hh
      · unfold decE at h
        split at h
        · cases h
        · cases h; decide
theorem okT_few {n : Int} {ws : List Wt} (h : okT n ws) : ws.length ≤ 140737488355328 ∧ ∀ x ∈ ws, x.key.size ≤ 140737488355328 ∧ x.val.size ≤ 140737488355328 := by
  refine ⟨by have := h.2.2.1; omega, fun x hx => ?_⟩
  obtain ⟨_, a, b, _⟩ := h.2.2.2 x hx
  exact ⟨by omega, by omega⟩
theorem WRs.of_ok {w : World} {k : Nat} {n : Int} {ws : List Wt} (h : okT n ws) (hr : w.heap[k]? = some (.cells (wtsC ws).toArray 124 (0, 0))) : WRs w (some ⟨k, 0, none⟩) ws :=
  WRs.of_row (rest := []) (t := 124) (f := (0, 0)) (by rw [List.append_nil]; exact hr) (okT_few h).1 (okT_few h).2
end Go.Proofs.YtaefninikmaiiaaGreatDoor

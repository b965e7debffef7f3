/- The pick of a round. Conditions as each names them. -/
import Derived.Test.YtakbodlicfmkjaaGreatWz20
namespace Go.Proofs.YtakbodlicfmkjaaGreat
open Go.ChangeShapes Go.WideShapes Go.ChangeAt Go.RowKit Go.Lib
set_option linter.unusedVariables false
set_option linter.unusedSimpArgs false
/-- Numbers that can be read. -/
structure Pks (w : World) (ao : Option Addr) (xs : List Int) : Prop where
  lies : 0 < xs.length → ∃ g off, ao = some ⟨g, off, none⟩ ∧ g < w.heap.size ∧ ∀ i, i < xs.length → w.cell? ⟨g, off + i, none⟩ = some (.int .i64 (xs.getD i 0))
  few : xs.length ≤ 17592186044416
  each : ∀ x ∈ xs, i64 x
theorem Pks.keep {w w' : World} {ao : Option Addr} {xs : List Int} (h : Pks w ao xs) (hf : Fr [] w w') : Pks w' ao xs := by
  refine ⟨fun h0 => ?_, h.few, h.each⟩
  obtain ⟨g, off, e, hg, hc⟩ := h.lies h0
  exact ⟨g, off, e, Nat.lt_of_lt_of_le hg hf.size, fun i hi => (World.cell?_of_block (hf.block g hg (by simp))).trans (hc i hi)⟩
/-- What is picked in round i. -/
def pkI (xs : List Int) (i : Nat) : Int := if i < xs.length then xs.getD i 0 else (i : Int)
theorem pkI_i64 {w : World} {ao : Option Addr} {xs : List Int} (h : Pks w ao xs) {i : Nat} (hi : i ≤ 1000000) : i64 (pkI xs i) := by
  unfold pkI
  split
  · rename_i e
    refine h.each _ ?_
    rw [show xs.getD i 0 = xs[i] by simp [List.getD, e]]
    exact List.getElem_mem e
  · exact ⟨by omega, by omega⟩
theorem tpick_any {w : World} {ao : Option Addr} {L cap : Nat} {xs : List Int} (h : Pks w ao xs) (hL : L = xs.length) (hc : L ≤ cap) (i : Nat) (hi : i ≤ 1000000) : Calls Tryz.prog 7 #[.slice ao L cap, .int .i64 (i : Int)] w fun e w' => e = .returned (.int .i64 (pkI xs i)) ∧ w = w' := by
  have HL : Hid (L = xs.length) := hL
  have hfew : L ≤ 17592186044416 := by rw [hL]; exact h.few
  by_cases hiL : i < L
  · obtain ⟨g, off, rfl, hg, hcl⟩ := h.lies (by omega)
    have hcell := hcl i (by omega)
    have he : pkI xs i = xs.getD i 0 := if_pos (by omega)
    obtain ⟨x, hx⟩ : ∃ x, xs.getD i 0 = x := ⟨_, rfl⟩
    rw [he, hx]
    rw [hx] at hcell
    clear h hL hcl he hx
    go_enter Tryz.func7, Tryz.ntmps7
    go_wp2
    go_ret
    exact ⟨rfl, rfl⟩
  · have he : pkI xs i = (i : Int) := if_neg (by omega)
    rw [he]
    clear h hL he
    go_enter Tryz.func7, Tryz.ntmps7
    go_wp2
    go_ret
    exact ⟨rfl, rfl⟩
end Go.Proofs.YtakbodlicfmkjaaGreat

/- The greatest number that is there at the beginning. Conditions as it names them. -/
import Derived.Test.YtaaghcimfcjehaaGreatDoorDr21
import Derived.Test.YtaaghcimfcjehaaGreatDoorScn
namespace Go.Proofs.YtaaghcimfcjehaaGreatDoor
open Go.ChangeShapes Go.WideShapes Go.ChangeAt Go.RowKit Go.Lib Go.Maps
set_option linter.unusedVariables false
set_option linter.unusedSimpArgs false

/-- The greatest number. -/
def grt (m : Int) (xs : List Int) : Int := if 0 < xs.length then xs.getD (xs.length - 1) 0 else m
set_option maxHeartbeats 2000000 in
set_option maxRecDepth 100000 in
theorem great_any (m : Int) (bo : Option Addr) (bn bc : Nat) (xs : List Int) (w : World) (hX : IRs w bo xs) (hn : bn = xs.length) (hbc : bn ≤ bc) (ho : Option Addr) (hl hc : Nat) :
    Calls Tryz.prog 75 #[.agg #[.int .i64 m, .slice bo bn bc, .slice ho hl hc]] w fun e w' => e = .returned (.int .i64 (grt m xs)) ∧ Fr [] w w' := by
  have HF : Hid (Fr [] w (w.alloc (.cells #[.int .i64 m, .slice bo bn bc, .slice ho hl hc] 28))) := Fr.alloc _ _ _
  by_cases h0 : 0 < bn
  · obtain ⟨b, off, rfl, hb, hcs⟩ := hX.lies (by omega)
    have c0 := (World.cell?_of_block (HF.out.block b hb (by simp))).trans (hcs (bn - 1) (by omega))
    have hfew := hX.few
    have hG : Hid (grt m xs = xs.getD (bn - 1) 0) := by show _ = _; rw [grt, if_pos (by omega), hn]
    obtain ⟨v, hv⟩ : ∃ v, v = xs.getD (bn - 1) 0 := ⟨_, rfl⟩
    rw [← hv] at c0 hG
    obtain ⟨j, rfl⟩ : ∃ j, bn = j + 1 := ⟨bn - 1, by omega⟩
    have c1 : (w.alloc (.cells #[.int .i64 m, .slice (some ⟨b, off, none⟩) (j + 1) bc, .slice ho hl hc] 28)).cell? ⟨b, off + j, none⟩ = some (.int .i64 v) := c0
    have hj : ((j + 1 : Nat) : Int) - 1 = (j : Int) := by omega
    have hj2 : (j + 1 : Nat) ≤ 17592186044416 := by omega
    have hjj : (0 : Int) < ((j + 1 : Nat) : Int) := by omega
    have hwr : IntKind.i64.wrap ((j : Int) + 1 - 1) = (j : Int) := by rw [IntKind.wrap_i64]; omega
    clear hX hcs c0 hv hn
    go_enter Tryz.func75, Tryz.ntmps75
    go_wp2_with fail
    go_ret
    rw [hG.out]
    exact ⟨rfl, HF.out⟩
  · have hb0 : bn = 0 := by omega
    have hG : Hid (grt m xs = m) := by show _ = _; rw [grt, if_neg (by omega)]
    subst hb0
    clear hX hn
    go_enter Tryz.func75, Tryz.ntmps75
    go_wp2_with fail
    go_ret
    rw [hG.out]
    exact ⟨rfl, HF.out⟩
end Go.Proofs.YtaaghcimfcjehaaGreatDoor

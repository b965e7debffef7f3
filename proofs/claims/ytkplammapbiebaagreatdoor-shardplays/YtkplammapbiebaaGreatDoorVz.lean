/- How great versions are together. Conditions as each names them. -/
import Derived.Test.YtkplammapbiebaaGreatDoorVp
namespace Go.Proofs.YtkplammapbiebaaGreatDoor
open Go.ChangeShapes Go.WideShapes Go.ChangeAt Go.RowKit Go.Lib
set_option linter.unusedVariables false
set_option maxHeartbeats 4000000 in
set_option maxRecDepth 100000 in
theorem vsize_any (ao : Option Addr) (L cap : Nat) (vs : List Vn) (w : World) (hV : VRs w ao vs) (hL : L = vs.length) :
    Calls Tryz.prog 22 #[.slice ao L cap] w fun e w' => ∃ N : Nat, e = .returned (.int .i64 (N : Int)) ∧ L ≤ N ∧ N ≤ 9007199254740992 ∧ w = w' := by
  have HL : Hid (L = vs.length) := hL
  have HV : Hid (VRs w ao vs) := hV
  have hLL : L ≤ 4398046511104 := by have := hV.few; omega
  clear hV hL
  go_enter Tryz.func22, Tryz.ntmps22
  go_wp2_with fail
  go_loop [3, 4] (fun nn ii => ∃ (N i : Nat), nn = .int .i64 N ∧ ii = .int .i64 i ∧ i ≤ L ∧ L ≤ N ∧ N ≤ 9007199254740992) (fun _ ii => L - (intOf ii).toNat)
  case atStart => exact ⟨L, 0, rfl, rfl, Nat.zero_le _, Nat.le_refl _, by omega⟩
  case round =>
    obtain ⟨N, i, rfl, rfl, hiL, hLN, hN⟩ := hrel
    by_cases hi : i < L
    · by_cases hN2 : N ≤ 1048576
      · have hi' : i < vs.length := by rw [← HL.out]; exact hi
        obtain ⟨b, off, rfl, hbl, hat⟩ := HV.out.lies (by omega)
        obtain ⟨_, c1, _⟩ := hat i hi'
        have hE := (HV.out.each _ (vgetD_mem vs i hi')).v
        obtain ⟨val, hval⟩ : ∃ val, val = (vs.getD i Vn.zero).val := ⟨_, rfl⟩
        rw [← hval] at c1 hE
        clear hat hval
        have hN3 : (N : Int) ≤ 1048576 := by omega
        go_wp2
        refine ⟨⟨N + val.size, i + 1, by simp, by simp, by omega, by omega, by omega⟩, ?_⟩
        simp [intOf]
        omega
      · have hN3 : (1048576 : Int) < N := by omega
        clear hN2
        go_wp2
        go_ret
        exact ⟨N, rfl, hLN, hN, rfl⟩
    · go_wp2
      go_ret
      exact ⟨N, rfl, hLN, hN, rfl⟩
end Go.Proofs.YtkplammapbiebaaGreatDoor

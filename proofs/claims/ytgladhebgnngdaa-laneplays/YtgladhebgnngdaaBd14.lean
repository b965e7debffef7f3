/- The script's size: contract of beyond. Conditions as it names them. -/
import Derived.Test.YtgladhebgnngdaaOp14
import Derived.Test.YtgladhebgnngdaaSa
namespace Go.Proofs.Ytgladhebgnngdaa
open Go.ChangeShapes Go.WideShapes Go.ChangeAt Go.RowKit Go.Lib
set_option linter.unusedVariables false
set_option linter.unusedSimpArgs false

theorem ogetD_mem (os : List Oq) (i : Nat) (h : i < os.length) : os.getD i Oq.zero ∈ os := by simp [List.getD, h]
/-- What beyond tells. -/
def BdT (e : Ending) (os : List Oq) : Prop := ∃ B : Bool, e = .returned (.bool B) ∧ (B = false → ∀ o ∈ os, o.M ≤ 1048576)
set_option maxHeartbeats 4000000 in
set_option maxRecDepth 100000 in
theorem beyond14_any (ao : Option Addr) (L cap : Nat) (os : List Oq) (w : World) (hO : ORs w ao os) (hL : L = os.length) :
    Calls Try.prog 6 #[.slice ao L cap] w fun e w' => BdT e os ∧ Fr [] w w' := by
  have HL : Hid (L = os.length) := hL
  have hL47 : L ≤ 140737488355328 := by rw [hL]; exact hO.few
  have HI : Hid (∀ W, Fr [] w W → ORs W ao os) := fun W hf => hO.keep hf
  clear hL hO
  go_enter Try.func6, Try.ntmps6
  go_wp2_with fail
  go_loopw [3, 4] (fun nn ii wr => ∃ (n i : Nat), nn = .int .i64 n ∧ ii = .int .i64 i ∧ i ≤ L ∧ n ≤ 1048576 ∧ Hid (∀ j, j < i → (os.getD j Oq.zero).M ≤ 1048576) ∧ Fr [] w wr) (fun _ ii _ => L - (intOf ii).toNat)
  case atStart => exact ⟨0, 0, rfl, rfl, Nat.zero_le _, by omega, fun j hj => by omega, Fr.refl _ _⟩
  case round =>
    obtain ⟨n, i, rfl, rfl, hiL, hn, HE, hFr⟩ := hrel
    by_cases hi : i < L
    · have hi' : i < os.length := by rw [← HL.out]; exact hi
      have hR := HI.out _ hFr
      obtain ⟨b, off, rfl, _, hc⟩ := hR.lies (by omega)
      have d1 := hc i hi' 1 (by omega)
      have d2 := hc i hi' 2 (by omega)
      have hat := hR.each _ (ogetD_mem os i hi')
      obtain ⟨o, ho⟩ : ∃ o, o = os.getD i Oq.zero := ⟨_, rfl⟩
      rw [← ho] at d1 d2 hat
      have HX : Hid (o = os.getD i Oq.zero) := ho
      clear ho hc hR
      obtain ⟨kd, nn, wo, M, mc, ws⟩ := o
      simp only [Oq.c, List.getElem?_cons_succ, List.getElem?_cons_zero] at d1 d2
      have HS := txSize_any nn wo M mc ws wr hat.tx.rs hat.tx.len
      have HMl : Hid (M = ws.length) := hat.tx.len
      clear hat
      go_wp2_with fail
      refine HS.mono ?_
      rintro e w2 ⟨N0, rfl, hN, hF2⟩
      obtain ⟨N, hNN⟩ : ∃ N, N = N0 + 1 := ⟨_, rfl⟩
      rw [← hNN]
      have HN1 : Hid (ws.length ≤ N) := by have := hN.1; show _ ≤ _; omega
      have hN2 : N ≤ 1125899906842625 := by have := hN.2.1; omega
      have hG2 := hFr.then hF2
      clear HS hF2 hN d1 d2 hNN
      by_cases hbig : 1048576 < n + 1 + N
      · have hb' : (1048576 : Int) < (n : Int) + 1 + (N : Int) := by omega
        go_wp2_with fail
        go_ret
        exact ⟨⟨true, rfl, fun h => by simp at h⟩, hG2⟩
      · have hb' : decide ((1048576 : Int) < (n : Int) + 1 + (N : Int)) = false := decide_eq_false (by omega)
        have HE2 : Hid (∀ j, j < i + 1 → (os.getD j Oq.zero).M ≤ 1048576) := by
          intro j hj
          by_cases hji : j = i
          · subst hji
            rw [← HX.out]
            show M ≤ _
            rw [HMl.out]
            have := HN1.out
            omega
          · exact HE.out j (by omega)
        have HNb : Hid (n + 1 + N ≤ 1048576) := by show _ ≤ _; omega
        clear hbig
        go_wp2_with fail
        go_roundw
        case rel => exact ⟨n + 1 + N, i + 1, by simp, by simp, by omega, HNb.out, HE2, hG2⟩
        case measure => simp [intOf]; omega
    · have hi' : ¬ ((i : Int) < (L : Int)) := by omega
      go_wp2_with fail
      go_ret
      refine ⟨⟨false, rfl, fun _ o ho => ?_⟩, hFr⟩
      obtain ⟨j, hj, rfl⟩ := List.getElem_of_mem ho
      have := HE.out j (by have := HL.out; omega)
      simpa [List.getD, hj] using this
end Go.Proofs.Ytgladhebgnngdaa

/- The document's Place: may a mark and what is beyond it stand ahead of a log? Conditions: the slices hold no more than fits. -/
import Derived.Test.YtdojhkgnnbdfkaaLm22
namespace Go.Proofs.Ytdojhkgnnbdfkaa
open Go.ChangeShapes Go.WideShapes Go.ChangeAt Go.RowKit Go.Lib
set_option linter.unusedVariables false
set_option linter.unusedSimpArgs false

set_option maxHeartbeats 8000000 in
set_option maxRecDepth 100000 in
theorem xplace_any (ao : Option Addr) (L cap : Nat) (m : Int) (bo : Option Addr) (Lb cb : Nat) (bs : List Int) (w : World) (hLf : L ≤ 140737488355328) (hI : IRs w bo bs) (hLb : Lb = bs.length) :
    Calls Try.prog 27 #[.slice ao L cap, .int .i64 m, .slice bo Lb cb] w fun e w' => TellsR e (0 ≤ m ∧ m ≤ (L : Int) ∧ Rise (m + 1) L bs) ∧ Fr [] w w' := by
  obtain ⟨P, hP⟩ : ∃ P : Prop, P = (0 ≤ m ∧ m ≤ (L : Int) ∧ Rise (m + 1) L bs) := ⟨_, rfl⟩
  rw [← hP]
  have HP : Hid (P = (0 ≤ m ∧ m ≤ (L : Int) ∧ Rise (m + 1) L bs)) := hP
  clear hP
  by_cases h1 : m < 0
  · have n2 : decide (m < 0) = true := by simp [h1]
    have HN : Hid (¬ P) := fun h => by rw [HP.out] at h; have := h.1; omega
    clear hI hLb HP
    go_enter Try.func27, Try.ntmps27
    go_wp2_with fail
    go_ret
    exact ⟨⟨false, rfl, ⟨fun h => (by cases h), fun h => absurd h HN.out⟩⟩, Fr.refl _ _⟩
  · have n2 : decide (m < 0) = false := by simp [h1]
    by_cases h2 : (L : Int) < m
    · have n3 : decide ((L : Int) < m) = true := by simp [h2]
      have HN : Hid (¬ P) := fun h => by rw [HP.out] at h; have := h.2.1; omega
      clear hI hLb HP
      go_enter Try.func27, Try.ntmps27
      go_wp2_with fail
      go_ret
      exact ⟨⟨false, rfl, ⟨fun h => (by cases h), fun h => absurd h HN.out⟩⟩, Fr.refl _ _⟩
    · have n3 : decide ((L : Int) < m) = false := by simp [h2]
      have HL : Hid (Lb = bs.length) := hLb
      have HI : Hid (∀ W, Fr [] w W → IRs W bo bs) := fun W hf => hI.keep hf
      have hfew := hI.few
      rw [← hLb] at hfew
      have HR0 : Hid (P ↔ Rise (m + 1) L (bs.drop 0)) := by
        show _ ↔ _
        rw [HP.out]
        simp only [List.drop_zero]
        exact ⟨fun h => h.2.2, fun h => ⟨by omega, by omega, h⟩⟩
      clear hI hLb HP
      go_enter Try.func27, Try.ntmps27
      go_wp2_with fail
      try simp only [n2, n3]
      go_loopw [7, 8] (fun vv ii wr => ∃ (v : Int) (i : Nat), vv = .int .i64 v ∧ ii = .int .i64 i ∧ i ≤ Lb ∧ Hid (P ↔ Rise v L (bs.drop i)) ∧ Fr [] w wr) (fun _ ii _ => Lb - (intOf ii).toNat)
      case atStart => exact ⟨m + 1, 0, rfl, rfl, Nat.zero_le _, HR0, Fr.refl _ _⟩
      case round =>
        obtain ⟨v, i, rfl, rfl, hiL, HR, hF⟩ := hrel
        by_cases hi : i < Lb
        · obtain ⟨bb, off, rfl, _, hc⟩ := (HI.out _ hF).lies (by rw [← HL.out]; omega)
          have d0 := hc i (by rw [← HL.out]; exact hi)
          have HD : Hid (bs.drop i = bs.getD i 0 :: bs.drop (i + 1)) := idrop_cons bs i (by rw [← HL.out]; exact hi)
          generalize bs.getD i 0 = x at d0 HD
          have HR2 : Hid (P ↔ v < x ∧ x ≤ (L : Int) ∧ Rise x L (bs.drop (i + 1))) := by
            show _ ↔ _
            rw [HR.out, HD.out]
            exact Iff.rfl
          clear hc HR HD HR0
          by_cases q1 : x ≤ v
          · have e1 : decide (x ≤ v) = true := by simp [q1]
            have HN : Hid (¬ P) := fun h => by have := (HR2.out.1 h).1; omega
            clear HR2
            go_wp2_with fail
            go_ret
            exact ⟨⟨false, rfl, ⟨fun h => (by cases h), fun h => absurd h HN.out⟩⟩, hF⟩
          · have e1 : decide (x ≤ v) = false := by simp [q1]
            by_cases q2 : (L : Int) < x
            · have e2 : decide ((L : Int) < x) = true := by simp [q2]
              have HN : Hid (¬ P) := fun h => by have := (HR2.out.1 h).2.1; omega
              clear HR2
              go_wp2_with fail
              go_ret
              exact ⟨⟨false, rfl, ⟨fun h => (by cases h), fun h => absurd h HN.out⟩⟩, hF⟩
            · have e2 : decide ((L : Int) < x) = false := by simp [q2]
              have HR3 : Hid (P ↔ Rise x L (bs.drop (i + 1))) := by
                show _ ↔ _
                rw [HR2.out]
                exact ⟨fun h => h.2.2, fun h => ⟨by omega, by omega, h⟩⟩
              clear HR2
              go_wp2_with fail
              go_roundw
              case rel => exact ⟨x, i + 1, rfl, by simp, by omega, HR3, hF⟩
              case measure => simp [intOf]; omega
        · obtain rfl : i = Lb := by omega
          have HY : Hid P := by
            rw [HL.out, List.drop_length] at HR
            exact HR.out.2 trivial
          clear HR HR0 hi hiL
          go_wp2_with fail
          go_ret
          exact ⟨⟨true, rfl, ⟨fun _ => HY.out, fun _ => rfl⟩⟩, hF⟩
end Go.Proofs.Ytdojhkgnnbdfkaa

/- The document's question: does a lane hold one behind the events? Conditions: the events can be read. -/
import Derived.Test.YtfhfjplhfjlpaaaDoorPa26
namespace Go.Proofs.YtfhfjplhfjlpaaaDoor
open Go.ChangeShapes Go.WideShapes Go.ChangeAt Go.RowKit Go.Lib
set_option linter.unusedVariables false
set_option linter.unusedSimpArgs false

set_option maxHeartbeats 8000000 in
set_option maxRecDepth 100000 in
theorem holds_any (ao : Option Addr) (n cap : Nat) (es : List Ev) (j : Int) (w : World) (hE : ERs w ao es) (hn : n = es.length) :
    Calls Tryd.prog 18 #[.slice ao n cap, .int .i64 j] w fun e w' => e = .returned (.bool (hold es j n)) ∧ Fr [] w w' := by
  have HE : Hid (∀ W, Fr [] w W → ERs W ao es) := fun W hf => hE.keep hf
  have hfew := hE.few
  have HN : Hid (n = es.length) := hn
  have hn2 : n ≤ 4398046511104 := by omega
  obtain ⟨R, hR⟩ : ∃ R, R = hold es j n := ⟨_, rfl⟩
  have HR : Hid (R = hold es j n) := hR
  rw [← hR]
  clear hE hn hR hfew
  have hw0 : IntKind.i64.wrap ((n : Int) - 1) = (n : Int) - 1 := by rw [IntKind.wrap_i64]; omega
  go_enter Tryd.func18, Tryd.ntmps18
  go_wp2_with fail
  go_loopw [5] (fun ii wr => ∃ (m : Nat), ii = .int .i64 ((m : Int) - 1) ∧ m ≤ n ∧ Hid (R = hold es j m) ∧ Hid (Fr [] w wr)) (fun ii _ => ((RowKit.intOf ii) + 1).toNat)
  case atStart => exact ⟨n, rfl, Nat.le_refl _, HR, Fr.refl _ _⟩
  case round =>
    obtain ⟨m, rfl, hmn, HM, HF⟩ := hrel
    cases m with
    | zero =>
      have HZ : Hid (R = false) := by show _ = _; rw [HM.out]; rfl
      have hlt : ¬ (0 : Int) ≤ ((0 : Nat) : Int) - 1 := by omega
      clear HM hmn
      go_wp2_with fail
      go_ret
      exact ⟨by rw [HZ.out]; rfl, HF.out⟩
    | succ m =>
      obtain ⟨bb, off, rfl, _, hcE⟩ := (HE.out _ HF.out).lies (by rw [← HN.out]; omega)
      obtain ⟨d0, d1, d2, d3, d4, d5⟩ := hcE m (by rw [← HN.out]; omega)
      have HS : Hid (R = if (es.getD m Ev.no).t = j ∧ (es.getD m Ev.no).k = 4 then true else if (es.getD m Ev.no).t = j ∧ (es.getD m Ev.no).k = 6 then false else hold es j m) := HM.out
      have e1 : (((m + 1 : Nat) : Int) - 1) = (m : Int) := by omega
      rw [e1]
      have hml : m < n := by omega
      generalize es.getD m Ev.no = E at d0 d1 d2 d3 d4 d5 HS
      obtain ⟨t, k, nn, sx, c, mm⟩ := E
      simp only at d0 d1 d2 d3 d4 d5 HS
      have hwm : IntKind.i64.wrap ((m : Int) - 1) = (m : Int) - 1 := by rw [IntKind.wrap_i64]; omega
      clear hcE HM e1
      by_cases ht : t = j
      · subst ht
        by_cases h4 : k = 4
        · subst h4
          have HT : Hid (R = true) := by show _ = _; rw [HS.out]; simp
          clear HS
          go_wp2_with fail
          go_ret
          exact ⟨by rw [HT.out]; rfl, HF.out⟩
        · by_cases h6 : k = 6
          · subst h6
            have HT : Hid (R = false) := by show _ = _; rw [HS.out]; simp
            clear HS
            go_wp2_with fail
            go_ret
            exact ⟨by rw [HT.out]; rfl, HF.out⟩
          · have HT : Hid (R = hold es t m) := by show _ = _; rw [HS.out]; simp [h4, h6]
            have b4 : (k == 4) = false := by simp [h4]
            have b6 : (k == 6) = false := by simp [h6]
            clear HS
            go_wp2_with fail
            go_roundw
            case rel => exact ⟨m, rfl, by omega, HT, HF⟩
            case measure => simp [intOf]
      · have HT : Hid (R = hold es j m) := by show _ = _; rw [HS.out]; simp [ht]
        clear HS
        go_wp2_with fail
        go_roundw
        case rel => exact ⟨m, rfl, by omega, HT, HF⟩
        case measure => simp [intOf]
end Go.Proofs.YtfhfjplhfjlpaaaDoor

/- The walk of the law ConfNames. Conditions: the array of names lies as its variable lays it. -/
import Derived.Test.YtddlmgedemcgmaaDoorAl13
namespace Go.Proofs.YtddlmgedemcgmaaDoor
open Go.ChangeShapes Go.WideShapes Go.ChangeAt Go.RowKit Go.Lib
set_option linter.unusedVariables false
set_option linter.unusedSimpArgs false

/-- How many lanes, owners and others stand ahead of task i. -/
def Cnt (l s i a b c : Int) : Prop := (i = 0 ∧ a = 0 ∧ b = 0 ∧ c = 0) ∨ (1 ≤ i ∧ i ≤ l + 1 ∧ a = i - 1 ∧ b = 0 ∧ c = 1) ∨ (l + 1 < i ∧ i ≤ l + s + 1 ∧ a = l ∧ b = i - 1 - l ∧ c = 1) ∨ (i = l + s + 2 ∧ a = l ∧ b = s ∧ c = 2)

set_option maxHeartbeats 8000000 in
set_option maxRecDepth 100000 in
theorem confn (l s x q : Int) (w : World) (hok : Cf.ok ⟨l, s, x, q⟩) (hT : Nms w) :
    Calls Tryd.prog 4 #[.agg #[.int .i64 l, .int .i64 s, .int .i64 x, .int .i64 q]] w fun e w' => e = .returned (.bool true) ∧ Fr [] w w' := by
  have HM : Hid (∀ W, Fr [] (w.alloc (.cells #[.int .i64 l, .int .i64 s, .int .i64 x, .int .i64 q] 23)) W → CfM W w.heap.size l s x q) := fun W hf => (CfM.new w l s x q 23).keep hf
  have HT : Hid (∀ W, Fr [] w W → Nms W) := fun W hf => hT.keep hf (by simp)
  have H1 := fun w => tasks_any l s x q w
  have H2 := fun w => check_cells l s x q w
  have HA := fun w (h : Nms w) => alive13_any w h
  clear hT
  by_cases hm : Cf.may ⟨l, s, x, q⟩
  · rw [show Cf.tasks ⟨l, s, x, q⟩ = (l + s + 2, 0) from if_pos hm] at H1
    have hl : 1 ≤ l ∧ l ≤ 16 := hm.1
    have hs : 1 ≤ s ∧ s ≤ 16 := hm.2.1
    have HN : Hid (∀ t nm k e W, I6 t → NaT l s x q t nm k e → Nms W → Calls Tryd.prog 8 #[.agg #[.int .i64 l, .int .i64 s, .int .i64 x, .int .i64 q], .int .i64 t] W fun e' w' => e' = .returned (.tuple #[.string nm, .int .i64 k, .int .i64 e]) ∧ Fr [] W w') := fun t nm k e W ht h hT => name_any l s x q t nm k e W hT ht h
    obtain ⟨n, HNN⟩ : ∃ n, Hid (l + s + 2 = n) := ⟨_, rfl⟩
    have hn := HNN.out
    rw [hn] at H1
    clear hok H2
    go_enter Tryd.func4, Tryd.ntmps4
    go_wp2_with fail
    refine (H1 _).mono ?_
    rintro e' w1 ⟨rfl, hF1⟩
    have HF1 : Hid (Fr [] (w.alloc (.cells #[.int .i64 l, .int .i64 s, .int .i64 x, .int .i64 q] 23)) w1) := hF1
    clear hF1 H1
    go_wp2_with fail
    refine (HA _ (HT.out _ ((Fr.alloc _ _ _).then HF1.out))).mono ?_
    rintro e' w2 ⟨rfl, hF2⟩
    have HF2 : Hid (Fr [] (w.alloc (.cells #[.int .i64 l, .int .i64 s, .int .i64 x, .int .i64 q] 23)) w2) := HF1.out.then hF2
    clear hF2 HA HF1
    go_wp2_with fail
    have HMay : Hid (Cf.may ⟨l, s, x, q⟩) := hm
    clear hm
    go_loopw [5, 6, 7, 8] (fun aa bb cc ii wr => ∃ (a b c i : Int), aa = .int .i64 a ∧ bb = .int .i64 b ∧ cc = .int .i64 c ∧ ii = .int .i64 i ∧ 0 ≤ i ∧ i ≤ n ∧ Hid (Cnt l s i a b c) ∧ Hid (Fr [] (w.alloc (.cells #[.int .i64 l, .int .i64 s, .int .i64 x, .int .i64 q] 23)) wr)) (fun _ _ _ ii _ => (n - RowKit.intOf ii).toNat)
    case atStart => exact ⟨0, 0, 0, 0, rfl, rfl, rfl, rfl, by omega, by omega, Or.inl ⟨rfl, rfl, rfl, rfl⟩, HF2⟩
    case round =>
      clear HF2
      obtain ⟨a, b, c, i, rfl, rfl, rfl, rfl, hi0, hi1, HCn, HF⟩ := hrel
      by_cases hi : i < n
      · have hab : 0 ≤ a ∧ a ≤ 16 ∧ 0 ≤ b ∧ b ≤ 16 ∧ 0 ≤ c ∧ c ≤ 2 := by
          rcases HCn.out with ⟨_, _, _, _⟩ | ⟨_, _, _, _, _⟩ | ⟨_, _, _, _, _⟩ | ⟨_, _, _, _⟩ <;> omega
        obtain ⟨_, a0, a1, a2, a3⟩ := HM.out wr HF.out
        by_cases c0 : i = 0
        · subst c0
          have HC2 : Hid (Cnt l s (0 + 1) a b (c + 1)) := by
            show Cnt _ _ _ _ _ _
            rcases HCn.out with h | h | h | h <;> unfold Cnt <;> omega
          clear HCn
          go_wp2_with fail
          refine (HN.out 0 nDisp 0 0 wr ⟨by omega, by omega⟩ (Or.inr (Or.inr ⟨HMay.out, by omega, rfl, 0, Or.inr (Or.inl ⟨rfl, rfl, rfl⟩), rfl⟩)) (HT.out _ ((Fr.alloc _ _ _).then HF.out))).mono ?_
          rintro e' w3 ⟨rfl, hF3⟩
          have HF3 : Hid (Fr [] (w.alloc (.cells #[.int .i64 l, .int .i64 s, .int .i64 x, .int .i64 q] 23)) w3) := HF.out.then hF3
          have t1 : ¬ nDisp.toList = [108, 97, 110, 101] := by decide +kernel
          have t2 : ¬ nDisp.toList = [111, 119, 110, 101, 114] := by decide +kernel
          have t3 : nDisp.toList = [100, 105, 115, 112, 97, 116, 99, 104, 101, 114] := by decide +kernel
          have t4 : ¬ nDisp.toList = [103, 97, 116, 101] := by decide +kernel
          generalize nDisp = nm at t1 t2 t3 t4
          clear hF3 HF a0 a1 a2 a3
          go_wp2
          go_roundw
          case rel => exact ⟨a, b, c + 1, 0 + 1, rfl, rfl, rfl, by simp, by omega, by omega, HC2, HF3⟩
          case measure => simp [RowKit.intOf]; omega
        · by_cases c1 : i ≤ l
          · have HC2 : Hid (Cnt l s (i + 1) (a + 1) b c) := by
              show Cnt _ _ _ _ _ _
              rcases HCn.out with h | h | h | h <;> unfold Cnt <;> omega
            have hai : a + 1 = i := by
              rcases HCn.out with h | h | h | h <;> omega
            clear HCn
            go_wp2_with fail
            refine (HN.out i nLane i 0 wr ⟨by omega, by omega⟩ (Or.inr (Or.inr ⟨HMay.out, by omega, rfl, 1, Or.inr (Or.inr (Or.inl ⟨by omega, c1, rfl, rfl⟩)), rfl⟩)) (HT.out _ ((Fr.alloc _ _ _).then HF.out))).mono ?_
            rintro e' w3 ⟨rfl, hF3⟩
            have HF3 : Hid (Fr [] (w.alloc (.cells #[.int .i64 l, .int .i64 s, .int .i64 x, .int .i64 q] 23)) w3) := HF.out.then hF3
            have t1 : nLane.toList = [108, 97, 110, 101] := by decide +kernel
            generalize nLane = nm at t1
            clear hF3 HF a0 a1 a2 a3
            go_wp2
            go_roundw
            case rel => exact ⟨a + 1, b, c, i + 1, by simp [hai], rfl, rfl, rfl, by omega, by omega, HC2, HF3⟩
            case measure => simp [RowKit.intOf]; omega
          · by_cases c2 : i ≤ l + s
            · have HC2 : Hid (Cnt l s (i + 1) a (b + 1) c) := by
                show Cnt _ _ _ _ _ _
                rcases HCn.out with h | h | h | h <;> unfold Cnt <;> omega
              have hbi : i - l - 1 = b := by
                rcases HCn.out with h | h | h | h <;> omega
              clear HCn
              go_wp2_with fail
              refine (HN.out i nOwn b 0 wr ⟨by omega, by omega⟩ (Or.inr (Or.inr ⟨HMay.out, by omega, rfl, 2, Or.inr (Or.inr (Or.inr (Or.inl ⟨by omega, c2, rfl, hbi.symm⟩))), rfl⟩)) (HT.out _ ((Fr.alloc _ _ _).then HF.out))).mono ?_
              rintro e' w3 ⟨rfl, hF3⟩
              have HF3 : Hid (Fr [] (w.alloc (.cells #[.int .i64 l, .int .i64 s, .int .i64 x, .int .i64 q] 23)) w3) := HF.out.then hF3
              have t1 : ¬ nOwn.toList = [108, 97, 110, 101] := by decide +kernel
              have t2 : nOwn.toList = [111, 119, 110, 101, 114] := by decide +kernel
              generalize nOwn = nm at t1 t2
              clear hF3 HF a0 a1 a2 a3
              go_wp2
              go_roundw
              case rel => exact ⟨a, b + 1, c, i + 1, rfl, rfl, rfl, rfl, by omega, by omega, HC2, HF3⟩
              case measure => simp [RowKit.intOf]; omega
            · have HC2 : Hid (Cnt l s (i + 1) a b (c + 1)) := by
                show Cnt _ _ _ _ _ _
                rcases HCn.out with h | h | h | h <;> unfold Cnt <;> omega
              clear HCn
              go_wp2_with fail
              refine (HN.out i nGate 0 0 wr ⟨by omega, by omega⟩ (Or.inr (Or.inr ⟨HMay.out, by omega, rfl, 3, Or.inr (Or.inr (Or.inr (Or.inr ⟨by omega, rfl, rfl⟩))), rfl⟩)) (HT.out _ ((Fr.alloc _ _ _).then HF.out))).mono ?_
              rintro e' w3 ⟨rfl, hF3⟩
              have HF3 : Hid (Fr [] (w.alloc (.cells #[.int .i64 l, .int .i64 s, .int .i64 x, .int .i64 q] 23)) w3) := HF.out.then hF3
              have t1 : ¬ nGate.toList = [108, 97, 110, 101] := by decide +kernel
              have t2 : ¬ nGate.toList = [111, 119, 110, 101, 114] := by decide +kernel
              have t3 : ¬ nGate.toList = [100, 105, 115, 112, 97, 116, 99, 104, 101, 114] := by decide +kernel
              have t4 : nGate.toList = [103, 97, 116, 101] := by decide +kernel
              have t5 : 0 < i := by omega
              generalize nGate = nm at t1 t2 t3 t4
              clear hF3 HF a0 a1 a2 a3
              go_wp2
              go_roundw
              case rel => exact ⟨a, b, c + 1, i + 1, rfl, rfl, rfl, rfl, by omega, by omega, HC2, HF3⟩
              case measure => simp [RowKit.intOf]; omega
      · obtain rfl : i = n := by omega
        obtain ⟨rfl, rfl, rfl⟩ : l = a ∧ s = b ∧ 2 = c := by
          rcases HCn.out with h | h | h | h <;> omega
        obtain ⟨_, a0, a1, a2, a3⟩ := HM.out wr HF.out
        clear HCn
        go_wp2_with fail
        refine (HN.out i ⟨#[]⟩ 0 1 wr ⟨by omega, by omega⟩ (Or.inr (Or.inl ⟨HMay.out, by omega, rfl, rfl, rfl⟩)) (HT.out _ ((Fr.alloc _ _ _).then HF.out))).mono ?_
        rintro e' w3 ⟨rfl, hF3⟩
        have HF3 : Hid (Fr [] (w.alloc (.cells #[.int .i64 l, .int .i64 s, .int .i64 x, .int .i64 q] 23)) w3) := HF.out.then hF3
        clear hF3 HF a0 a1 a2 a3
        obtain ⟨_, a0, a1, a2, a3⟩ := HM.out w3 HF3.out
        go_wp2_with fail
        go_ret
        exact ⟨by simp, (Fr.alloc _ _ _).then HF3.out⟩
  · rw [show Cf.tasks ⟨l, s, x, q⟩ = (0, 7) from if_neg hm] at H1
    rw [show Cf.err ⟨l, s, x, q⟩ = 7 from if_neg hm] at H2
    clear hok hm
    go_enter Tryd.func4, Tryd.ntmps4
    go_wp2_with fail
    refine (H1 _).mono ?_
    rintro e' w1 ⟨rfl, hF1⟩
    have HF1 : Hid (Fr [] (w.alloc (.cells #[.int .i64 l, .int .i64 s, .int .i64 x, .int .i64 q] 23)) w1) := hF1
    clear hF1 H1
    go_wp2_with fail
    refine (HA _ (HT.out _ ((Fr.alloc _ _ _).then HF1.out))).mono ?_
    rintro e' w2 ⟨rfl, hF2⟩
    have HF2 : Hid (Fr [] (w.alloc (.cells #[.int .i64 l, .int .i64 s, .int .i64 x, .int .i64 q] 23)) w2) := HF1.out.then hF2
    clear hF2 HF1
    go_wp2_with fail
    refine (HA _ (HT.out _ ((Fr.alloc _ _ _).then HF2.out))).mono ?_
    rintro e' w3 ⟨rfl, hF3⟩
    have HF3 : Hid (Fr [] (w.alloc (.cells #[.int .i64 l, .int .i64 s, .int .i64 x, .int .i64 q] 23)) w3) := HF2.out.then hF3
    clear hF3 HF2 HA
    obtain ⟨_, a0, a1, a2, a3⟩ := HM.out w3 HF3.out
    go_wp2_with fail
    refine (H2 _).mono ?_
    rintro e' w4 ⟨rfl, hF4⟩
    have HF4 : Hid (Fr [] (w.alloc (.cells #[.int .i64 l, .int .i64 s, .int .i64 x, .int .i64 q] 23)) w4) := HF3.out.then hF4
    clear hF4 HF3 H2 a0 a1 a2 a3
    go_wp2_with fail
    go_ret
    exact ⟨rfl, (Fr.alloc _ _ _).then HF4.out⟩
end Go.Proofs.YtddlmgedemcgmaaDoor

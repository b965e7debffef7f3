/- What the document's Lanes answers. Conditions: the events can be read. -/
import Derived.Test.YtfhfjplhfjlpaaaDoorXh26
namespace Go.Proofs.YtfhfjplhfjlpaaaDoor
open Go.ChangeShapes Go.WideShapes Go.ChangeAt Go.RowKit Go.Lib
set_option linter.unusedVariables false
set_option linter.unusedSimpArgs false

set_option maxHeartbeats 8000000 in
set_option maxRecDepth 100000 in
theorem xln_no (l s x q : Int) (eo : Option Addr) (en ec : Nat) (w : World) (hc : ¬ Cf.may ⟨l, s, x, q⟩) :
    Calls Tryd.prog 8 #[.agg #[.int .i64 l, .int .i64 s, .int .i64 x, .int .i64 q], .slice eo en ec] w fun e w' => e = .returned (.tuple #[.slice none 0 0, .int .i64 7]) ∧ Fr [] w w' := by
  have HC : Hid (∀ W, Calls Tryd.prog 17 #[.agg #[.int .i64 l, .int .i64 s, .int .i64 x, .int .i64 q]] W fun e w' => e = .returned (.int .i64 7) ∧ Fr [] W w') := fun W => (ocheck_cells l s x q W).mono fun e w' h => ⟨by rw [h.1, Cf.err, if_neg hc], h.2⟩
  clear hc
  go_enter Tryd.func8, Tryd.ntmps8
  go_wp2_with fail
  with_reducible refine (HC.out _).mono ?_
  rintro e w1 ⟨rfl, hF1⟩
  have HF1 : Hid (Fr [] _ w1) := hF1
  clear hF1
  go_wp2_with fail
  refine bodyPost_ret (results_tmp2 rfl _ _ _) rfl ?_
  exact ⟨rfl, (Fr.alloc _ _ _).then HF1.out⟩
def XlP (m : Nat) (wS : World) (ns : List Int) (W : World) : Prop := NR W m ns ∧ Fr [m] wS W
set_option maxHeartbeats 32000000 in
set_option maxRecDepth 100000 in
theorem xln_ok (L : Nat) (s x q : Int) (eo : Option Addr) (en ec : Nat) (es : List Ev) (w : World) (hc : Cf.may ⟨L, s, x, q⟩) (hE : ERs w eo es) (hen : en = es.length) (hec : en ≤ ec) :
    Calls Tryd.prog 8 #[.agg #[.int .i64 (L : Int), .int .i64 s, .int .i64 x, .int .i64 q], .slice eo en ec] w fun e w' => ∃ m, e = .returned (.tuple #[.slice (some ⟨m, 0, none⟩) L L, .int .i64 0]) ∧ w.heap.size ≤ m ∧ NR w' m (lnS L es en) ∧ Fr [] w w' := by
  have HC : Hid (∀ W, Calls Tryd.prog 17 #[.agg #[.int .i64 (L : Int), .int .i64 s, .int .i64 x, .int .i64 q]] W fun e w' => e = .returned (.int .i64 0) ∧ Fr [] W w') := fun W => (ocheck_cells L s x q W).mono fun e w' h => ⟨by rw [h.1, Cf.err, if_pos hc], h.2⟩
  have hL : L ≤ 16 := by have := hc.1.2; simp only at this; omega
  obtain ⟨iI, hiI, hzI, hsI, hbI⟩ := infoI_parts
  obtain ⟨wb, HW⟩ : ∃ wb, Hid (w.alloc (.cells #[.int .i64 (L : Int), .int .i64 s, .int .i64 x, .int .i64 q] 23) = wb) := ⟨_, rfl⟩
  have hM : CfM wb w.heap.size L s x q := by rw [← HW.out]; exact CfM.new w L s x q 23
  have HF : Hid (Fr [] w wb) := by rw [← HW.out]; exact Fr.alloc [] w _
  obtain ⟨b, HB⟩ : ∃ b, Hid (w.heap.size = b) := ⟨_, rfl⟩
  rw [HB.out] at hM
  have HM0 : Hid (∀ W, Fr [] wb W → CfM W b L s x q) := fun W hf => hM.keep hf
  have HM : Hid (∀ W, Fr [] wb W → W.cell? ⟨b, 0, none⟩ = some (.int .i64 (L : Int))) := fun W hf => (hM.keep hf).2.1
  have HH : Hid (∀ (W : World) (i : Nat) (j : Int), Fr [] w W → i < en → Calls Tryd.prog 18 #[.slice eo (i + 1) ec, .int .i64 j] W fun e w' => e = .returned (.bool (hold es j (i + 1))) ∧ Fr [] W w') := fun W i j hf hi => by
    have := holds_any eo (i + 1) ec (es.take (i + 1)) j W ((hE.keep hf).take (i + 1)) (by rw [List.length_take]; omega)
    rwa [hold_take es (i + 1) j (i + 1) (Nat.le_refl _)] at this
  have hen2 : en ≤ 4398046511104 := by have := hE.few; omega
  have hbb : b < wb.heap.size := hM.1
  obtain ⟨_, m0, m1, m2, m3⟩ := hM
  clear hE hen hc
  go_enter Tryd.func8, Tryd.ntmps8
  go_upto_region 1 with fail
  rw [HW.out, HB.out]
  go_wp2_with fail
  with_reducible refine (HC.out _).mono ?_
  rintro e w1 ⟨rfl, hF1⟩
  have hb1 : b < w1.heap.size := Nat.lt_of_lt_of_le hbb hF1.size
  have HF1 : Hid (Fr [] wb w1) := hF1
  have m0 := HM.out _ hF1
  clear hF1 m1 m2 m3
  go_upto_region 4 with (at_make; refine wpList_make_full _ rfl (.tmp 13) (.tmp 13) 31 rfl 0 3 iI _ 1 Tryd.undIs11 hiI hzI hsI .i64 .i64 (L : Int) (L : Int) L rfl rfl rfl rfl ?b2 ?b3 ?b4 ?_)
  case b2 => rw [hbI]; omega
  case b3 => unfold maxLen; omega
  case b4 => exact Nat.zero_le _
  intro wS hown hgrow
  rw [made_ints] at hown
  have hrow : NR wS w1.heap.size (List.replicate L 0) := iown_full hown
  have hF4 : Fr [] w1 wS := Fr.grown (S := []) hgrow (by simp)
  obtain ⟨m, HMm⟩ : ∃ m, Hid (w1.heap.size = m) := ⟨_, rfl⟩
  rw [HMm.out] at hrow ⊢
  have hgm : b < m := by rw [← HMm.out]; exact hb1
  have HFS : Hid (Fr [] w wS) := HF.out.then (HF1.out.then hF4)
  have H0 : Hid (XlP m wS (lnS L es 0) wS) := ⟨by rw [lnS_zero]; exact hrow, Fr.refl _ _⟩
  have HW0 : Hid (∀ W, Fr [m] wS W → Fr [] w W ∧ W.cell? ⟨b, 0, none⟩ = some (.int .i64 (L : Int))) := fun W hf => by
    refine ⟨HFS.out.on hf (by intro y hy; have := HB.out; simp at hy; omega), ?_⟩
    rw [show W.cell? ⟨b, 0, none⟩ = wS.cell? ⟨b, 0, none⟩ from World.cell?_of_block (a := ⟨b, 0, none⟩) (hf.block b (Nat.lt_of_lt_of_le hb1 hF4.size) (by simp; omega))]
    exact HM.out _ (HF1.out.then hF4)
  clear hown hgrow hrow hF4 hiI hzI hsI hbI m0
  go_wp2_with fail
  go_loopw [7] (fun ii wr => ∃ (i : Nat), ii = .int .i64 i ∧ i ≤ en ∧ Hid (XlP m wS (lnS L es i) wr)) (fun ii _ => en - (RowKit.intOf ii).toNat)
  case atStart => exact ⟨0, rfl, Nat.zero_le _, H0⟩
  case round =>
    obtain ⟨i, rfl, hin, HP⟩ := hrel
    by_cases hi : i < en
    · have hwi : IntKind.i64.wrap ((i : Int) + 1) = (i : Int) + 1 := by rw [IntKind.wrap_i64]; omega
      have HI0 : Hid (XlP m wS (lnM L es i 0) wr) := by show XlP _ _ _ _; rw [lnM_zero]; exact HP.out
      go_wp2_with fail
      go_loopw [8] (fun jj wr => ∃ (j : Nat), jj = .int .i64 ((j : Int) + 1) ∧ j ≤ L ∧ Hid (XlP m wS (lnM L es i j) wr)) (fun jj _ => L + 1 - (RowKit.intOf jj).toNat)
      case atStart => exact ⟨0, rfl, by omega, HI0⟩
      case round =>
        obtain ⟨j, rfl, hjL, HI⟩ := hrel
        have hwj : IntKind.i64.wrap ((j : Int) + 1 + 1) = ((j + 1 : Nat) : Int) + 1 := by rw [IntKind.wrap_i64]; omega
        obtain ⟨hF0, m0⟩ := HW0.out _ HI.out.2
        by_cases hj : j < L
        · have hle : (j : Int) + 1 ≤ (L : Int) := by omega
          have HHj : Hid (Calls Tryd.prog 18 #[.slice eo (i + 1) ec, .int .i64 ((j : Int) + 1)] wr fun e w' => e = .returned (.bool (hold es ((j : Int) + 1) (i + 1))) ∧ Fr [] wr w') := HH.out wr i _ hF0 hi
          have hsl := slE_h eo en ec (i + 1) (by omega)
          rw [show ((i + 1 : Nat) : Int) = (i : Int) + 1 by omega] at hsl
          have hwk : IntKind.i64.wrap ((j : Int) + 1 - 1) = (j : Int) := by rw [IntKind.wrap_i64]; omega
          clear hF0
          cases hh : hold es ((j : Int) + 1) (i + 1) with
          | true =>
            rw [hh] at HHj
            have hcb := cntL_le es ((j : Int) + 1) i
            have HSet : Hid (∀ W, Fr [] wr W → W.cell? ⟨m, j, none⟩ = some (.int .i64 (cntL es ((j : Int) + 1) i)) ∧ W.frozen? ⟨m, j, none⟩ = false ∧ Hid (XlP m wS (lnM L es i (j + 1)) (W.setCell ⟨m, j, none⟩ (.int .i64 (cntL es ((j : Int) + 1) i + 1))))) := fun W hf => by
              have hn := HI.out.1.keep hf (by simp)
              have z1 := hn.cell j (by rw [lnM_length]; exact hj)
              rw [lnM_getD L es i j hj] at z1
              refine ⟨z1, hn.free j, ?_, (HI.out.2.then (hf.mono (by simp))).then (Fr.set _ _ _ (by simp))⟩
              rw [← lnM_set L es i j hj hh]
              exact hn.put _
            generalize cntL es ((j : Int) + 1) i = C at HSet hcb
            have hwr : IntKind.i64.wrap (C + 1) = C + 1 := by rw [IntKind.wrap_i64]; omega
            clear hh HI hcb
            go_wp2_with fail
            with_reducible refine HHj.out.mono ?_
            rintro e w6 ⟨rfl, hf6⟩
            obtain ⟨z1, z2, HR⟩ := HSet.out w6 hf6
            clear hf6 m0
            go_wp2_with fail
            go_roundw
            case rel => exact ⟨j + 1, rfl, by omega, HR⟩
            case measure => simp [intOf]; omega
          | false =>
            rw [hh] at HHj
            have HR : Hid (∀ W, Fr [] wr W → XlP m wS (lnM L es i (j + 1)) W) := fun W hf => by
              refine ⟨?_, HI.out.2.then (hf.mono (by simp))⟩
              rw [← lnM_keep L es i j hh]
              exact HI.out.1.keep hf (by simp)
            clear hh HI
            go_wp2_with fail
            with_reducible refine HHj.out.mono ?_
            rintro e w6 ⟨rfl, hf6⟩
            have HR6 : Hid (XlP m wS (lnM L es i (j + 1)) w6) := HR.out w6 hf6
            clear hf6 m0
            go_wp2_with fail
            go_roundw
            case rel => exact ⟨j + 1, rfl, by omega, HR6⟩
            case measure => simp [intOf]; omega
        · obtain rfl : j = L := by omega
          have HO : Hid (XlP m wS (lnS j es (i + 1)) wr) := by
            show XlP _ _ _ _
            rw [← lnM_all]
            exact HI.out
          have hle : ¬ (j : Int) + 1 ≤ (j : Int) := by omega
          clear HI hj hjL hF0
          go_wp2_with fail
          go_roundw
          case rel => exact ⟨i + 1, by simp, by omega, HO⟩
          case measure => simp [intOf]; omega
    · obtain rfl : i = en := by omega
      clear hi hin
      go_wp2_with fail
      refine bodyPost_ret (results_tmp2 rfl _ _ _) rfl ?_
      exact ⟨m, rfl, by have := HB.out; omega, HP.out.1, (HW0.out _ HP.out.2).1⟩
end Go.Proofs.YtfhfjplhfjlpaaaDoor

/- Rows of numbers in a block; what stat.Lanes answers. Conditions: the events can be read. -/
import Derived.Test.YtfhfjplhfjlpaaaDoorOf26
import Derived.Test.YtfhfjplhfjlpaaaDoorRi11
import Derived.Test.YtfhfjplhfjlpaaaDoorIr12
namespace Go.Proofs.YtfhfjplhfjlpaaaDoor
open Go.ChangeShapes Go.WideShapes Go.ChangeAt Go.RowKit Go.Lib
set_option linter.unusedVariables false
set_option linter.unusedSimpArgs false

/-- A row of numbers in block g. -/
def NR (w : World) (g : Nat) (ns : List Int) : Prop := w.heap[g]? = some (.cells (ns.map (Value.int .i64)).toArray 3 (0, 0))
theorem NR.keep {S : List Nat} {w w' : World} {g : Nat} {ns : List Int} (h : NR w g ns) (hf : Fr S w w') (hn : g ∉ S) : NR w' g ns := hf.keep h hn
theorem NR.cell {w : World} {g : Nat} {ns : List Int} (h : NR w g ns) (i : Nat) (hi : i < ns.length) : w.cell? ⟨g, i, none⟩ = some (.int .i64 (ns.getD i 0)) := by
  rw [cell_of_row _ _ _ _ _ _ h]
  simp [List.getD, hi]
theorem NR.free {w : World} {g : Nat} {ns : List Int} (h : NR w g ns) (i : Nat) : w.frozen? ⟨g, i, none⟩ = false := by
  unfold World.frozen?
  rw [h]
  rfl
theorem NR.put {w : World} {g j : Nat} {ns : List Int} (x : Int) (h : NR w g ns) : NR (w.setCell ⟨g, j, none⟩ (.int .i64 x)) g (ns.set j x) := by
  have h0 : w.heap[g]? = some (.cells (ns.map (Value.int .i64)).toArray 3 (0, 0)) := h
  have hlt := lt_of_block h0
  have h' : w.heap[g] = .cells (ns.map (Value.int .i64)).toArray 3 (0, 0) := by simpa [Array.getElem?_eq_getElem hlt] using h0
  show (w.heap.modify g _)[g]? = _
  rw [Array.getElem?_eq_getElem (by simpa using hlt), Array.getElem_modify_self, h']
  simp [List.map_set]
theorem made_ints (n : Nat) : (madeCells #[Value.int .i64 0] n).toList = (List.replicate n (0 : Int)).map (Value.int .i64) := by
  apply List.ext_getElem?
  intro i
  by_cases h : i < n
  · simp [madeCells, h, Nat.mod_one]
  · simp [madeCells, h]
theorem NR.put_fr {w : World} {g j : Nat} (x : Value) : Fr [g] w (w.setCell ⟨g, j, none⟩ x) := Fr.set w ⟨g, j, none⟩ x (by simp)
theorem getD_set21 (ns : List Int) (i j : Nat) (x : Int) (hi : i < ns.length) : (ns.set i x).getD j 0 = if j = i then x else ns.getD j 0 := by
  simp only [List.getD, List.getElem?_set]
  by_cases h : i = j
  · subst h; simp [hi]
  · simp [h, Ne.symm h]
theorem list_ext21 (a b : List Int) (hl : a.length = b.length) (h : ∀ j, j < b.length → a.getD j 0 = b.getD j 0) : a = b := by
  apply List.ext_getElem hl
  intro j h1 h2
  have := h j h2
  simpa [List.getD, h1, h2] using this
/-- A row of which the first so many lanes are new. -/
def lnM (L : Nat) (es : List Ev) (i j : Nat) : List Int := (List.range L).map fun (k : Nat) => if k < j then cntL es ((k : Int) + 1) (i + 1) else cntL es ((k : Int) + 1) i
theorem lnM_length (L : Nat) (es : List Ev) (i j : Nat) : (lnM L es i j).length = L := by simp [lnM]
theorem lnM_zero (L : Nat) (es : List Ev) (i : Nat) : lnM L es i 0 = lnS L es i := by simp [lnM, lnS]
theorem lnM_all (L : Nat) (es : List Ev) (i : Nat) : lnM L es i L = lnS L es (i + 1) := by
  apply List.ext_getElem
  · simp [lnM, lnS]
  · intro k h1 h2
    rw [lnM_length] at h1
    simp [lnM, lnS, h1]
theorem lnM_getD (L : Nat) (es : List Ev) (i j : Nat) (h : j < L) : (lnM L es i j).getD j 0 = cntL es ((j : Int) + 1) i := by simp [lnM, List.getD, h]
theorem lnM_set (L : Nat) (es : List Ev) (i j : Nat) (h : j < L) (hh : hold es ((j : Int) + 1) (i + 1) = true) : (lnM L es i j).set j (cntL es ((j : Int) + 1) i + 1) = lnM L es i (j + 1) := by
  apply List.ext_getElem
  · simp [lnM]
  · intro k h1 h2
    rw [lnM_length] at h2
    rw [List.getElem_set]
    by_cases e : j = k
    · subst e
      simp [lnM, cntL, hh]
    · rw [if_neg e]
      by_cases h3 : k < j
      · simp [lnM, h3, Nat.lt_succ_of_lt h3]
      · simp [lnM, h3, show ¬ k < j + 1 by omega]
theorem lnM_keep (L : Nat) (es : List Ev) (i j : Nat) (hh : hold es ((j : Int) + 1) (i + 1) = false) : lnM L es i j = lnM L es i (j + 1) := by
  apply List.ext_getElem
  · simp [lnM]
  · intro k h1 h2
    rw [lnM_length] at h2
    by_cases e : j = k
    · subst e
      simp [lnM, cntL, hh]
    · by_cases h3 : k < j
      · simp [lnM, h3, Nat.lt_succ_of_lt h3]
      · simp [lnM, h3, show ¬ k < j + 1 by omega]
def LnP (g m : Nat) (wS : World) (h : List Bool) (ns : List Int) (W : World) : Prop := BR W g h ∧ NR W m ns ∧ Fr [g, m] wS W
set_option maxHeartbeats 8000000 in
set_option maxRecDepth 100000 in
theorem ln_no (l s x q : Int) (eo : Option Addr) (en ec : Nat) (w : World) (hc : ¬ Cf.may ⟨l, s, x, q⟩) :
    Calls Tryd.prog 6 #[.agg #[.int .i64 l, .int .i64 s, .int .i64 x, .int .i64 q], .slice eo en ec] w fun e w' => e = .returned (.tuple #[.slice none 0 0, .int .i64 7]) ∧ Fr [] w w' := by
  have HC : Hid (∀ W, Calls Tryd.prog 14 #[.agg #[.int .i64 l, .int .i64 s, .int .i64 x, .int .i64 q]] W fun e w' => e = .returned (.int .i64 7) ∧ Fr [] W w') := fun W => (check_cells l s x q W).mono fun e w' h => ⟨by rw [h.1, Cf.err, if_neg hc], h.2⟩
  clear hc
  go_enter Tryd.func6, Tryd.ntmps6
  go_wp2_with fail
  with_reducible refine (HC.out _).mono ?_
  rintro e w1 ⟨rfl, hF1⟩
  have HF1 : Hid (Fr [] _ w1) := hF1
  clear hF1
  go_wp2_with fail
  refine bodyPost_ret (results_tmp2 rfl _ _ _) rfl ?_
  exact ⟨rfl, (Fr.alloc _ _ _).then HF1.out⟩
set_option maxHeartbeats 32000000 in
set_option maxRecDepth 100000 in
theorem ln_ok (L : Nat) (s x q : Int) (eo : Option Addr) (en ec : Nat) (es : List Ev) (w : World) (hc : Cf.may ⟨L, s, x, q⟩) (hE : ERs w eo es) (hen : en = es.length) :
    Calls Tryd.prog 6 #[.agg #[.int .i64 (L : Int), .int .i64 s, .int .i64 x, .int .i64 q], .slice eo en ec] w fun e w' => ∃ m, e = .returned (.tuple #[.slice (some ⟨m, 0, none⟩) L L, .int .i64 0]) ∧ w.heap.size ≤ m ∧ NR w' m (lnS L es en) ∧ Fr [] w w' := by
  have HC : Hid (∀ W, Calls Tryd.prog 14 #[.agg #[.int .i64 (L : Int), .int .i64 s, .int .i64 x, .int .i64 q]] W fun e w' => e = .returned (.int .i64 0) ∧ Fr [] W w') := fun W => (check_cells L s x q W).mono fun e w' h => ⟨by rw [h.1, Cf.err, if_pos hc], h.2⟩
  have hL : L ≤ 16 := by have := hc.1.2; simp only at this; omega
  obtain ⟨iB, hiB, hzB, hsB, hbB⟩ := binfo_parts
  obtain ⟨iI, hiI, hzI, hsI, hbI⟩ := infoI_parts
  obtain ⟨wb, HW⟩ : ∃ wb, Hid (w.alloc (.cells #[.int .i64 (L : Int), .int .i64 s, .int .i64 x, .int .i64 q] 23) = wb) := ⟨_, rfl⟩
  have hM : CfM wb w.heap.size L s x q := by rw [← HW.out]; exact CfM.new w L s x q 23
  have HF : Hid (Fr [] w wb) := by rw [← HW.out]; exact Fr.alloc [] w _
  obtain ⟨b, HB⟩ : ∃ b, Hid (w.heap.size = b) := ⟨_, rfl⟩
  rw [HB.out] at hM
  have HM : Hid (∀ W, Fr [] wb W → W.cell? ⟨b, 0, none⟩ = some (.int .i64 (L : Int))) := fun W hf => (hM.keep hf).2.1
  have HE : Hid (∀ W, Fr [] w W → ERs W eo es) := fun W hf => hE.keep hf
  have HL : Hid (en = es.length) := hen
  have HFew : Hid (es.length ≤ 4398046511104) := hE.few
  have hbb : b < wb.heap.size := hM.1
  obtain ⟨_, m0, m1, m2, m3⟩ := hM
  clear hE hen hc
  go_enter Tryd.func6, Tryd.ntmps6
  go_upto_region 1 with fail
  rw [HW.out, HB.out]
  go_wp2_with fail
  with_reducible refine (HC.out _).mono ?_
  rintro e w1 ⟨rfl, hF1⟩
  have hb1 : b < w1.heap.size := Nat.lt_of_lt_of_le hbb hF1.size
  have HF1 : Hid (Fr [] wb w1) := hF1
  have m0 := HM.out _ hF1
  clear hF1 m1 m2 m3
  go_upto_region 5 with (at_make; refine wpList_make_full _ rfl (.tmp 19) (.tmp 19) 57 rfl 0 4 iB _ 1 Tryd.undBools hiB hzB hsB .i64 .i64 (L : Int) (L : Int) L rfl rfl rfl rfl ?b2 ?b3 ?b4 ?_)
  case b2 => rw [hbB]; omega
  case b3 => unfold maxLen; omega
  case b4 => exact Nat.zero_le _
  intro w3 hown hgrow
  rw [made_bools] at hown
  have hrow : BR w3 w1.heap.size (List.replicate L false) := bools_full hown
  have hF3 : Fr [] w1 w3 := Fr.grown (S := []) hgrow (by simp)
  obtain ⟨g, HG⟩ : ∃ g, Hid (w1.heap.size = g) := ⟨_, rfl⟩
  rw [HG.out] at hrow ⊢
  have hbg : b < g := by rw [← HG.out]; exact hb1
  have HF3 : Hid (Fr [] wb w3) := HF1.out.then hF3
  have HG3 : Hid (BR w3 g (hs L es 0)) := by show BR _ _ _; rw [hs_zero]; exact hrow
  have m0 := HM.out _ HF3.out
  clear hown hgrow hrow hF3 hiB hzB hsB hbB
  go_upto_region 6 with (at_make; refine wpList_make_full _ rfl (.tmp 22) (.tmp 22) 31 rfl 0 3 iI _ 1 Tryd.undIs11 hiI hzI hsI .i64 .i64 (L : Int) (L : Int) L rfl rfl rfl rfl ?b2 ?b3 ?b4 ?_)
  case b2 => rw [hbI]; omega
  case b3 => unfold maxLen; omega
  case b4 => exact Nat.zero_le _
  intro wS hown hgrow
  rw [made_ints] at hown
  have hrow : NR wS w3.heap.size (List.replicate L 0) := iown_full hown
  have hF4 : Fr [] w3 wS := Fr.grown (S := []) hgrow (by simp)
  obtain ⟨m, HMm⟩ : ∃ m, Hid (w3.heap.size = m) := ⟨_, rfl⟩
  rw [HMm.out] at hrow ⊢
  have hgm : g < m := by rw [← HMm.out]; exact lt_of_block HG3.out
  have HFS : Hid (Fr [] w wS) := HF.out.then (HF3.out.then hF4)
  have H0 : Hid (LnP g m wS (hs L es 0) (lnS L es 0) wS) := ⟨HG3.out.keep hF4 (by simp), by rw [lnS_zero]; exact hrow, Fr.refl _ _⟩
  have HW0 : Hid (∀ W, Fr [g, m] wS W → Fr [] w W) := fun W hf => HFS.out.on hf (by intro y hy; have := HB.out; simp at hy; omega)
  have hmS : m < wS.heap.size := lt_of_block hrow
  clear hown hgrow hrow hF4 hiI hzI hsI hbI m0
  go_wp2_with fail
  go_loopw [26] (fun ii wr => ∃ (i : Nat), ii = .int .i64 i ∧ i ≤ en ∧ Hid (LnP g m wS (hs L es i) (lnS L es i) wr)) (fun ii _ => en - (RowKit.intOf ii).toNat)
  case atStart => exact ⟨0, rfl, Nat.zero_le _, H0⟩
  case round =>
    obtain ⟨i, rfl, hin, HP⟩ := hrel
    by_cases hi : i < en
    · have hi' : i < es.length := by rw [← HL.out]; exact hi
      obtain ⟨bb, off, rfl, _, hcE⟩ := (HE.out _ (HW0.out _ HP.out.2.2)).lies (by omega)
      obtain ⟨d0, d1, d2, d3, d4, d5⟩ := hcE i hi'
      obtain ⟨E, hEE⟩ : ∃ E, E = es.getD i Ev.no := ⟨_, rfl⟩
      rw [← hEE] at d0 d1 d2 d3 d4 d5
      have HEE : Hid (E = es.getD i Ev.no) := hEE
      obtain ⟨w5, HW5⟩ : ∃ w5, Hid (wr.alloc (.cells #[.int .i64 E.t, .int .u8 E.k, .int .i64 E.n, .int .i64 E.s, .int .i64 E.c, .int .i64 E.m] 54) = w5) := ⟨_, rfl⟩
      obtain ⟨eb, HEb⟩ : ∃ eb, Hid (wr.heap.size = eb) := ⟨_, rfl⟩
      have hF5 : Fr [] wr w5 := by rw [← HW5.out]; exact Fr.alloc _ _ _
      have hby : w5.heap[eb]? = some (.cells (evA E.t E.k E.n E.s E.c E.m) 54 (0, 0)) := by rw [← HW5.out, ← HEb.out]; exact heap_alloc_new wr _
      obtain ⟨y0, y1, y2, y3, y4, y5⟩ := evt_cells hby
      have HSee : Hid (Calls Tryd.prog 16 #[.slice (some ⟨g, 0, none⟩) L L, .agg #[.int .i64 E.t, .int .u8 E.k, .int .i64 E.n, .int .i64 E.s, .int .i64 E.c, .int .i64 E.m]] w5 fun x w' => x = .returned (.tuple #[]) ∧ Hid (LnP g m wS (hs L es (i + 1)) (lnM L es i 0) w')) := by
        have hz := see_any g (hs L es i) E w5 (HP.out.1.keep hF5 (by simp)) (by rw [hs_length]; exact hL)
        rw [hs_length] at hz
        refine Calls.mono hz fun e w' hh => ⟨hh.1, ?_⟩
        refine ⟨?_, ?_, (HP.out.2.2.then (hF5.mono (by simp))).then (hh.2.2.mono (by simp))⟩
        · rw [hs_succ, ← HEE.out]
          exact hh.2.1
        · rw [lnM_zero]
          exact (HP.out.2.1.keep hF5 (by simp)).keep hh.2.2 (by simp; omega)
      clear hEE hby hF5 hcE
      go_upto_region 9 with fail
      rw [HW5.out, HEb.out]
      clear HW5 HEb
      go_wp2_with fail
      with_reducible refine HSee.out.mono ?_
      rintro e w6 ⟨rfl, HI6⟩
      clear d0 d1 d2 d3 d4 d5 y0 y1 y2 y3 y4 y5 HSee
      go_wp2_with fail
      go_loopw [35] (fun jj wr => ∃ (j : Nat), jj = .int .i64 j ∧ j ≤ L ∧ Hid (LnP g m wS (hs L es (i + 1)) (lnM L es i j) wr)) (fun jj _ => L - (RowKit.intOf jj).toNat)
      case atStart => exact ⟨0, rfl, by omega, HI6⟩
      case round =>
        obtain ⟨j, rfl, hjL, HI⟩ := hrel
        by_cases hj : j < L
        · have z0 := HI.out.1.cell j (by rw [hs_length]; exact hj)
          rw [hs_getD L es (i + 1) j hj] at z0
          have z1 := HI.out.2.1.cell j (by rw [lnM_length]; exact hj)
          rw [lnM_getD L es i j hj] at z1
          have z2 := HI.out.2.1.free j
          cases hh : hold es ((j : Int) + 1) (i + 1) with
          | true =>
            rw [hh] at z0
            have HN : Hid (∀ W, W = wr.setCell ⟨m, j, none⟩ (.int .i64 (cntL es ((j : Int) + 1) i + 1)) → LnP g m wS (hs L es (i + 1)) (lnM L es i (j + 1)) W) := by
              rintro W rfl
              refine ⟨HI.out.1.keep (S := [m]) (Fr.set _ _ _ (by simp)) (by simp; omega), ?_, HI.out.2.2.then (Fr.set _ _ _ (by simp))⟩
              rw [← lnM_set L es i j hj hh]
              exact HI.out.2.1.put _
            have hcb := cntL_le es ((j : Int) + 1) i
            have hfe := HFew.out
            have hle := HL.out
            generalize cntL es ((j : Int) + 1) i = C at z1 HN hcb
            have hwr : IntKind.i64.wrap (C + 1) = C + 1 := by rw [IntKind.wrap_i64]; omega
            have hwj : IntKind.i64.wrap ((j : Int) + 1) = (j : Int) + 1 := by rw [IntKind.wrap_i64]; omega
            have HR : Hid (LnP g m wS (hs L es (i + 1)) (lnM L es i (j + 1)) (wr.setCell ⟨m, j, none⟩ (.int .i64 (C + 1)))) := HN.out _ rfl
            clear HN hh HI hcb hfe hle
            go_wp2_with fail
            go_roundw
            case rel => exact ⟨j + 1, by simp, by omega, HR⟩
            case measure => simp [intOf]; omega
          | false =>
            rw [hh] at z0
            have HR : Hid (LnP g m wS (hs L es (i + 1)) (lnM L es i (j + 1)) wr) := by
              refine ⟨HI.out.1, ?_, HI.out.2.2⟩
              rw [← lnM_keep L es i j hh]
              exact HI.out.2.1
            have hwj : IntKind.i64.wrap ((j : Int) + 1) = (j : Int) + 1 := by rw [IntKind.wrap_i64]; omega
            clear z1 z2 hh HI
            go_wp2_with fail
            go_roundw
            case rel => exact ⟨j + 1, by simp, by omega, HR⟩
            case measure => simp [intOf]; omega
        · obtain rfl : j = L := by omega
          have HO : Hid (LnP g m wS (hs j es (i + 1)) (lnS j es (i + 1)) wr) := by
            rw [← lnM_all]
            exact HI.out
          have hwi : IntKind.i64.wrap ((i : Int) + 1) = (i : Int) + 1 := by
            have h1 := HFew.out
            have h2 := HL.out
            rw [IntKind.wrap_i64]
            omega
          clear HI hj hjL
          go_wp2_with fail
          go_roundw
          case rel => exact ⟨i + 1, by simp, by omega, HO⟩
          case measure => simp [intOf]; omega
    · obtain rfl : i = en := by omega
      clear hi hin
      go_wp2_with fail
      refine bodyPost_ret (results_tmp2 rfl _ _ _) rfl ?_
      exact ⟨m, rfl, by have := HB.out; omega, HP.out.2.1, HW0.out _ HP.out.2.2⟩
end Go.Proofs.YtfhfjplhfjlpaaaDoor

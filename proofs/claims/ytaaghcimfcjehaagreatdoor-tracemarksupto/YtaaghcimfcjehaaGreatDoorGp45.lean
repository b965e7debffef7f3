/- Texts of this claim laid together, one behind the other: contracts and plain lemmas; conditions as each names them. -/
import Derived.Test.YtaaghcimfcjehaaGreatDoorGp36
import Derived.Test.YtaaghcimfcjehaaGreatDoorGp44
import Derived.Test.YtaaghcimfcjehaaGreatDoorGp34
import Derived.Test.YtaaghcimfcjehaaGreatDoorGp11
import Derived.Lib.LaidTab
import Derived.MakeChecks
/- The walk of the law TraceMarks. Conditions: the tasks' names and the table of powers of ten lie as the program lays them; the events are at most 1048576. -/
namespace Go.Proofs.YtaaghcimfcjehaaGreatDoor
open Go.ChangeShapes Go.WideShapes Go.ChangeAt Go.RowKit Go.Lib
set_option linter.unusedVariables false
set_option linter.unusedSimpArgs false

theorem p0_marks {w : World} {g : Nat} {ns : List Int} {L n : Nat} (h : NR w g ns) (hL : L = ns.length) (hn : L ≤ 4194304) : Bq.P0 Bq.kInt w ⟨.slice (some ⟨g, 0, none⟩) L L, .slice none 0 0, n⟩ := by
  subst hL
  exact ⟨ns.length, ints ns, h.own hn, by omega⟩
set_option maxHeartbeats 8000000 in
set_option maxRecDepth 100000 in
theorem tmarks_any (eo : Option Addr) (en ec : Nat) (es : List Ev) (w : World) (hT : Bq.Tab w) (hN : Nms w) (hE : ERs w eo es) (hen : en = es.length) (hk : en ≤ 1048576) :
    Calls Tryz.prog 4 #[.slice eo en ec] w fun e w' => e = .returned (.bool true) ∧ Fr [] w w' := by
  have HM : Hid (∀ W, Fr [] w W → Calls Tryz.prog 16 #[.slice eo en ec] W fun e w' => ∃ g, e = .returned (.slice (some ⟨g, 0, none⟩) en en) ∧ W.heap.size ≤ g ∧ NR w' g (mks es) ∧ Fr [] W w') := fun W hf => marks_any eo en ec es W (hE.keep hf) hen (by omega)
  have HX : Hid (∀ W, Fr [] w W → Calls Tryz.prog 18 #[.slice eo en ec] W fun e w' => ∃ o c, e = .returned (.slice o en c) ∧ IOw W.heap.size w' o en c (mks es) ∧ Fr [] W w') := fun W hf => xmarks_any eo en ec es W (hE.keep hf) hen (by omega)
  have HL : Hid (en = (mks es).length) := by show _ = _; rw [hen]; simp [mks]
  have HLi : Hid (∀ W, Fr [] w W → Calls _ _ _ W _) := fun W hf => lives_any W (hN.keep hf (by simp))
  have HT : Hid (Bq.Tab w) := hT
  clear hE hen hN hT
  generalize mks es = ns at HM HX HL
  go_enter Tryz.func4, Tryz.ntmps4
  go_wp2_with fail
  with_reducible refine Calls.mono (HM.out _ (Fr.refl _ _)) ?_
  rintro e w1 ⟨g1, rfl, hg1, hN1, hF1⟩
  have HF1 : Hid (Fr [] w w1) := hF1
  have HN1 : Hid (∀ W, Fr [] w1 W → NR W g1 ns) := fun W hf => hN1.keep hf (by simp)
  have hg1' : g1 < w1.heap.size := lt_of_block hN1
  clear hN1 hF1
  go_wp2_with fail
  with_reducible refine Calls.mono (HM.out _ HF1.out) ?_
  rintro e w2 ⟨g2, rfl, hg2, hN2, hF2⟩
  have HF2 : Hid (Fr [] w1 w2) := hF2
  have HN2 : Hid (∀ W, Fr [] w2 W → NR W g2 ns) := fun W hf => hN2.keep hf (by simp)
  have hg2' : g2 < w2.heap.size := lt_of_block hN2
  have hw1 := HF1.out.size
  have hw2 := HF2.out.size
  clear hN2 hF2
  go_wp2_with fail
  with_reducible refine Calls.mono (HX.out _ (HF1.out.then HF2.out)) ?_
  rintro e w3 ⟨o, c, rfl, hO, hF3⟩
  have HF3 : Hid (Fr [] w2 w3) := hF3
  have HSm := same12 (some ⟨g1, 0, none⟩) o en en c ns w3 ((HN1.out _ (HF2.out.then hF3)).irs (by rw [← HL.out]; omega)) (by
    refine ⟨fun h0 => ?_, by rw [← HL.out]; omega⟩
    obtain ⟨g, e, _, hg, hc⟩ := hO.cells (by rw [HL.out]; exact h0)
    exact ⟨g, 0, e, hg, fun i hi => by rw [Nat.zero_add]; exact hc i (by rw [HL.out]; exact hi)⟩) HL.out (by omega)
  have hw3 := HF3.out.size
  clear hO hF3
  go_wp2_with fail
  with_reducible refine Calls.mono HSm ?_
  rintro e w4 ⟨rfl, hF4⟩
  have HF4 : Hid (Fr [] w2 w4) := HF3.out.then hF4
  have hw4 := hF4.size
  clear HSm hF4 HF3
  obtain ⟨w5, HW5⟩ : ∃ w5, Hid (w4.alloc (.cells Bq.newBk 57) = w5) := ⟨_, rfl⟩
  obtain ⟨bk, HBk⟩ : ∃ bk, Hid (w4.heap.size = bk) := ⟨_, rfl⟩
  have hF5 : Fr [] w4 w5 := by rw [← HW5.out]; exact Fr.alloc _ _ _
  have hB5 : Bq.B4 w w5 bk 0 (.slice none 0 0) (.slice none 0 0) (.slice none 0 0) (.slice none 0 0) [] [] [] [] := Bq.B4.new (by rw [← HW5.out, ← HBk.out]; exact heap_alloc_new w4 _) (by rw [← HBk.out]; omega)
  have HF5 : Hid (Fr [] w2 w5) := HF4.out.then hF5
  have hbk2 : g2 < bk := by have := HBk.out; omega
  have hbk1 : g1 < bk := by omega
  have HB5 : Hid (Bq.B4 w w5 bk 0 (.slice none 0 0) (.slice none 0 0) (.slice none 0 0) (.slice none 0 0) [] [] [] []) := hB5
  have HI1 := Bq.ints_any hB5 (some ⟨g1, 0, none⟩) en en (p0_marks (HN1.out _ (HF2.out.then HF5.out)) HL.out (by omega)) (by intro k _ hh; simp [Bq.lbs] at hh) (by omega)
  clear hF5 hB5
  go_upto_region 6 with fail
  have hW5 := HW5.out
  unfold Bq.newBk at hW5
  rw [hW5, HBk.out]
  clear hW5 HW5 HBk
  go_wp2_with fail
  with_reducible refine Calls.mono HI1 ?_
  rintro e w6 ⟨rfl, rv1, hB6, hF6, hM6⟩
  have hF6' : Fr [bk] w5 w6 := by simpa [Value.ownBlock] using hF6
  have HFw6 : Hid (Fr [] w w6) := ((HF1.out.then HF2.out).then HF5.out).on hF6' (by intro x hx; simp at hx; omega)
  have HN6 := (HN2.out _ HF5.out).keep hF6' (by simp; omega)
  have HI2 := Bq.ints_any hB6 (some ⟨g2, 0, none⟩) en en (p0_marks HN6 HL.out (by omega)) (by
    intro k hk hh
    have e2 : k = g2 := by simpa [Value.ownBlock] using hk.symm
    rw [Bq.mem_lbs] at hh
    obtain ⟨h, hm, hb⟩ := hh
    simp at hm
    subst hm
    have e1 : k = g1 := by simpa [Value.ownBlock] using hb.symm
    omega) (by omega)
  have HR6 : Hid (∀ k ∈ (bk :: rv1.ownBlock.toList), w.heap.size ≤ k) := by
    intro k hk
    rcases List.mem_cons.1 hk with rfl | hk
    · omega
    · exact hB6.rIn k (Option.mem_toList.1 hk)
  clear hF6 hF6' hM6 HI1 HB5 hB6 HN6
  go_wp2_with fail
  with_reducible refine Calls.mono HI2 ?_
  rintro e w7 ⟨rfl, rv2, hB7, hF7, hM7⟩
  have HFw7 : Fr [] w w7 := HFw6.out.on hF7 HR6.out
  have HAp := hB7.apart (by simp [Bq.lbs]) (by
    intro k hk
    rw [Bq.mem_lbs] at hk
    obtain ⟨h, hm, hb⟩ := hk
    simp at hm
    rcases hm with rfl | rfl
    · have : k = g1 := by simpa [Value.ownBlock] using hb.symm
      omega
    · have : k = g2 := by simpa [Value.ownBlock] using hb.symm
      omega) (by simp [Bq.lbs]) (by simp [Bq.lbs]) HT.out HFw7
  clear hF7 hM7 HI2 hB7 HFw7
  go_wp2_with fail
  with_reducible refine Calls.mono HAp ?_
  rintro e w8 ⟨rfl, hF8⟩
  have HF8 : Hid (Fr [] w w8) := hF8
  have HLv := HLi.out w8 hF8
  clear HAp hF8
  go_wp2_with fail
  refine Calls.mono HLv ?_
  rintro e w9 ⟨rfl, hF9⟩
  go_wp2_with fail
  go_ret
  exact ⟨rfl, HF8.out.then hF9⟩
end Go.Proofs.YtaaghcimfcjehaaGreatDoor
/- The array of names reads as the row lists it. Conditions: the row's own: what its listed variables read as. -/
namespace Go.Proofs.YtaaghcimfcjehaaGreatDoor
open Go.ChangeShapes Go.WideShapes Go.ChangeAt Go.RowKit Go.Lib
set_option linter.unusedVariables false
set_option linter.unusedSimpArgs false

theorem strs_cells {H : Type} {enc : TypeId × Value → H} {P : Program} {w : World} {base : Nat} {sp : Nat → Bool} {held : Bool} {fuel : Nat} {t e : TypeId} {n : Nat} {cs : List Value} {ss : List ByteArray} {p : List MemPlace}
    (ht : P.underlying t = some (.array n e)) (he : P.underlying e = some .string) (hce : P.cellsOf e = 1) (hct : P.cellsOf t = n)
    (h : DataW.trod enc P w base sp held fuel t cs = some (.agg (ss.map fun s => .lit (.string s.data.toList)), p)) : cs = ss.map fun s => Value.string s := by
  cases fuel with
  | zero => simp [DataW.trod] at h
  | succ fuel =>
    simp only [DataW.trod, ht, hce, hct, Nat.mul_one] at h
    split at h
    · rename_i hl
      obtain ⟨xs, hm, hx⟩ := Option.map_eq_some_iff.1 h
      have hxs : xs.map (·.1) = ss.map fun s => (DataW.lit (.string s.data.toList) : DataW H) := by
        have := congrArg Prod.fst hx
        simpa using this
      have hxl : xs.length = n := by simpa using mapM_length hm
      have hzl : ss.length = n := by
        have := congrArg List.length hxs
        simp at this
        omega
      apply List.ext_getElem?
      intro i
      by_cases hi : i < n
      · obtain ⟨b, hb, hf⟩ := mapM_at hm i i (by simp [hi])
        obtain ⟨z, hc, hx1, _⟩ := DataW.trod_string he hf
        have h1 : cs[i]? = some (.string z) := by
          have := congrArg (·[0]?) hc
          simpa [List.getElem?_take, List.getElem?_drop] using this
        have h2 : (xs.map (·.1))[i]? = some (DataW.lit (.string z.data.toList) : DataW H) := by simp [hb, hx1]
        rw [hxs] at h2
        simp only [List.getElem?_map, Option.map_eq_some_iff, DataW.lit.injEq, Lit.string.injEq] at h2
        obtain ⟨z', hz', e⟩ := h2
        have e2 : z' = z := by
          cases z; cases z'
          congr 1
          exact Array.ext' e
        subst e2
        simp [h1, hz']
      · rw [List.getElem?_eq_none (by omega), List.getElem?_eq_none (by simp; omega)]
    · cases h

theorem strs_of_head {P : Program} {W : World} {name : String} {ss : List ByteArray} {rest : List (String × DataW Unit)} {g : Nat} {t e : TypeId} {n : Nat}
    (hg : P.globalNamed name = some g) (hty : (P.globals[g]?).map (·.type) = some t) (ht : P.underlying t = some (.array n e)) (he : P.underlying e = some .string) (hce : P.cellsOf e = 1) (hct : P.cellsOf t = n)
    (h : laidMet P ((name, .agg (ss.map fun s => .lit (.string s.data.toList))) :: rest) W) : ∀ i, i < ss.length → W.cell? ⟨g, i, none⟩ = some (.string (ss.getD i ⟨#[]⟩)) := by
  obtain ⟨ps, ⟨g', t', cs, fuel, p, q, hg', ht', hvar, hd, _, _⟩, _⟩ := h
  obtain rfl := Option.some.inj (hg.symm.trans hg')
  obtain rfl := Option.some.inj (hty.symm.trans ht')
  intro i hi
  have hcs := strs_cells ht he hce hct hd
  rw [show cs = (ss.map fun s => Value.string s).toArray from by rw [← hcs]] at hvar
  have := World.var?_cell hg hvar i
  simpa [List.getD, hi] using this

set_option maxRecDepth 100000 in
theorem nms_of {W : World} (h : laidMet Tryz.prog [("towpath/conf.names", Rows.laid_towpath_conf_names)] W) : Nms W := by
  have h2 : laidMet Tryz.prog [("towpath/conf.names", .agg ([nDisp, nLane, nOwn, nGate, nCall].map fun s => .lit (.string s.data.toList)))] W := h
  have h3 := strs_of_head (g := 0) (t := (Tryz.prog.globals[0]?.map (·.type)).getD 0) (e := 9) (n := 5) (by kernel_rfl) (by kernel_rfl) (by kernel_rfl) (by kernel_rfl) (by kernel_rfl) (by kernel_rfl) h2
  intro j hj
  rw [h3 j hj]
  match j, hj with
  | 0, _ => rfl
  | 1, _ => rfl
  | 2, _ => rfl
  | 3, _ => rfl
  | 4, _ => rfl
end Go.Proofs.YtaaghcimfcjehaaGreatDoor

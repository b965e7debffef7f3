/- The walk of the law StatTells. Conditions: the events can be read; the table of powers of ten lies as the program lays it. -/
import Derived.Test.YtfhfjplhfjlpaaaDoorXo26
import Derived.Test.YtfhfjplhfjlpaaaDoorTv21
import Derived.Test.YtfhfjplhfjlpaaaDoorLw6
namespace Go.Proofs.YtfhfjplhfjlpaaaDoor
open Go.ChangeShapes Go.WideShapes Go.ChangeAt Go.RowKit Go.Lib
set_option linter.unusedVariables false
set_option linter.unusedSimpArgs false

theorem ers_twin {w W : World} {ao : Option Addr} {b : Nat} {es : List Ev} (hE : ERs w ao es) (h : W.heap[b]? = some (.cells (evsC (es ++ [spE])).toArray 54 (0, 0))) : ERs W (some ⟨b, 0, none⟩) es := by
  refine ⟨fun _ => ⟨b, 0, rfl, lt_of_block h, fun j hj => ?_⟩, hE.few, hE.each⟩
  have key : ∀ c, c < 6 → W.cell? ⟨b, 0 + j * 6 + c, none⟩ = (evV (es.getD j Ev.no))[c]? := by
    intro c hc
    rw [Nat.zero_add, cell_of_row _ _ _ _ _ _ h]
    have := evsC_get (es ++ [spE]) j c (by rw [List.length_append]; simp; omega) hc
    have e : (es ++ [spE]).getD j Ev.no = es.getD j Ev.no := by simp [List.getD, List.getElem?_append_left hj]
    rw [e] at this
    simpa using this
  exact ⟨key 0 (by omega), key 1 (by omega), key 2 (by omega), key 3 (by omega), key 4 (by omega), key 5 (by omega)⟩
theorem NR.irs {w : World} {g : Nat} {ns : List Int} (h : NR w g ns) (hn : ns.length ≤ 17592186044416) : IRs w (some ⟨g, 0, none⟩) ns :=
  ⟨fun _ => ⟨g, 0, rfl, lt_of_block h, fun i hi => by rw [Nat.zero_add]; exact h.cell i hi⟩, hn⟩
theorem NR.own {w : World} {g : Nat} {ns : List Int} (h : NR w g ns) (hn : ns.length ≤ 4194304) : w.ownsRow 0 3 1 (.slice (some ⟨g, 0, none⟩) ns.length ns.length) ns.length (ints ns) := by
  refine ⟨by simp [ints], .inr ⟨g, ns.length, _, rfl, Nat.zero_le _, h, Nat.le_refl _, by unfold maxLen; omega, by simp, ?_⟩⟩
  simp only [ints, Nat.mul_one]
  exact List.take_of_length_le (by simp)
theorem p0_ln {w : World} {g : Nat} {ns : List Int} {L n : Nat} (h : NR w g ns) (hL : L = ns.length) (hn : L ≤ 4194304) : Bq.P0 Bq.kInt w ⟨.slice (some ⟨g, 0, none⟩) L L, .slice none 0 0, n⟩ := by
  subst hL
  exact ⟨ns.length, ints ns, h.own hn, by omega⟩
theorem p0_nil {w : World} {n : Nat} : Bq.P0 Bq.kInt w ⟨.slice none 0 0, .slice none 0 0, n⟩ := ⟨0, [], World.ownsRow_nil _ _ _ _, by omega⟩
theorem cut_min (en : Nat) : min (en : Int) 1000 = ((min en 1000 : Nat) : Int) := by omega
set_option maxHeartbeats 32000000 in
set_option maxRecDepth 100000 in
theorem stells_no (l s x q : Int) (eo : Option Addr) (en ec : Nat) (es : List Ev) (w : World) (hc : ¬ Cf.may ⟨l, s, x, q⟩) (hT : Bq.Tab w) (hE : ERs w eo es) (hen : en = es.length) (hec : en ≤ ec) :
    Calls Tryd.prog 3 #[.agg #[.int .i64 l, .int .i64 s, .int .i64 x, .int .i64 q], .slice eo en ec] w fun e w' => e = .returned (.bool true) ∧ Fr [] w w' := by
  obtain ⟨k, hk⟩ : ∃ k, k = min en 1000 := ⟨_, rfl⟩
  have hmin : min (en : Int) 1000 = (k : Int) := by rw [hk]; exact cut_min en
  have hk1 : k ≤ en := by omega
  have hk2 : k ≤ 1000 := by omega
  have hsl := slE_h eo en ec k (by omega)
  obtain ⟨wa, HW⟩ : ∃ wa, Hid (w.alloc (.cells #[.int .i64 l, .int .i64 s, .int .i64 x, .int .i64 q] 23) = wa) := ⟨_, rfl⟩
  have hM : CfM wa w.heap.size l s x q := by rw [← HW.out]; exact CfM.new w l s x q 23
  have HFa : Hid (Fr [] w wa) := by rw [← HW.out]; exact Fr.alloc [] w _
  obtain ⟨b, HB⟩ : ∃ b, Hid (w.heap.size = b) := ⟨_, rfl⟩
  rw [HB.out] at hM
  have HM : Hid (∀ W, Fr [] wa W → CfM W b l s x q) := fun W hf => hM.keep hf
  have HT : Hid (∀ W, Fr [] w W → Bq.Tab W) := fun W hf => hT.keep hf (by simp)
  have hlk : k = (es.take k).length := by rw [List.length_take]; omega
  have HE : Hid (∀ W, Fr [] w W → ERs W eo (es.take k)) := fun W hf => (hE.keep hf).take k
  have H1 : Hid (∀ W, Fr [] w W → Calls _ _ _ W _) := fun W hf => twinEs_any eo k ec (es.take k) W (HE.out W hf) hlk (by omega)
  have H2 : Hid (∀ (W : World) (o : Option Addr) (n c : Nat), Calls Tryd.prog 5 #[.agg #[.int .i64 l, .int .i64 s, .int .i64 x, .int .i64 q], .slice o n c] W fun e w' => e = .returned (.tuple #[.agg #[.int .i64 0, .int .i64 0, .int .i64 0, .int .i64 0, .int .i64 0], .int .i64 7]) ∧ Fr [] W w') := fun W o n c => of_no l s x q o n c W hc
  have H3 : Hid (∀ (W : World) (o : Option Addr) (n c : Nat), Calls _ _ _ W _) := fun W o n c => ln_no l s x q o n c W hc
  have H4 : Hid (∀ (W : World) (o : Option Addr) (n c : Nat), Calls Tryd.prog 7 #[.agg #[.int .i64 l, .int .i64 s, .int .i64 x, .int .i64 q], .slice o n c] W fun e w' => e = .returned (.tuple #[.agg #[.int .i64 0, .int .i64 0, .int .i64 0, .int .i64 0, .int .i64 0], .int .i64 7]) ∧ Fr [] W w') := fun W o n c => xof_no l s x q o n c W hc
  have H5 : Hid (∀ (W : World) (o : Option Addr) (n c : Nat), Calls _ _ _ W _) := fun W o n c => xln_no l s x q o n c W hc
  have H6 : Hid (∀ (W : World) (b2 : Nat), Fr [] w W → W.heap[b2]? = some (.cells (evsC (es.take k ++ [spE])).toArray 54 (0, 0)) → Calls _ _ _ W _) := fun W b2 hf hb2 => leftEs_any b2 eo k ec (es.take k) W (HE.out W hf) hlk (by omega) hb2
  have H7 : Hid (∀ W, Calls _ _ _ W _) := fun W => same12 none none 0 0 0 [] W ⟨fun h => by simp at h, by simp⟩ ⟨fun h => by simp at h, by simp⟩ rfl (by omega)
  have HLi : Hid (∀ W, Calls _ _ _ W _) := fun W => lives_any W
  have hne : ∀ W : World, (binOp .neq 27 (.agg #[.int .i64 0, .int .i64 0, .int .i64 0, .int .i64 0, .int .i64 0]) (.agg #[.int .i64 0, .int .i64 0, .int .i64 0, .int .i64 0, .int .i64 0])).run Tryd.prog W = .ok (.bool false) W := fun W => st_neq W ⟨0, 0, 0, 0, 0⟩ ⟨0, 0, 0, 0, 0⟩
  obtain ⟨_, m0, m1, m2, m3⟩ := hM
  clear hk hE hen hec hc hT hlk
  go_enter Tryd.func3, Tryd.ntmps3
  go_upto_region 1 with fail
  rw [HW.out, HB.out]
  clear HW
  go_wp2_with fail
  with_reducible refine Calls.mono (H1.out wa HFa.out) ?_
  rintro e w1 ⟨b2, rfl, hb1, hrow1, hf1⟩
  have HF1 : Hid (Fr [] wa w1) := hf1
  have HT1 : Hid (w1.heap[b2]? = some (.cells (evsC (es.take k ++ [spE])).toArray 54 (0, 0))) := hrow1
  clear hf1 hrow1 hb1 m0 m1 m2 m3 H1 hsl hmin
  obtain ⟨_, m0, m1, m2, m3⟩ := HM.out _ HF1.out
  go_wp2_with fail
  with_reducible refine Calls.mono (H2.out w1 _ _ _) ?_
  rintro e w2 ⟨rfl, hf2⟩
  obtain ⟨w3, HW3⟩ : ∃ w3, Hid (w2.alloc (.cells #[.int .i64 0, .int .i64 0, .int .i64 0, .int .i64 0, .int .i64 0] 27) = w3) := ⟨_, rfl⟩
  obtain ⟨sb, HSb⟩ : ∃ sb, Hid (w2.heap.size = sb) := ⟨_, rfl⟩
  have hr3 : w3.heap[sb]? = some (.cells (stA 0 0 0 0 0) 27 (0, 0)) := by rw [← HW3.out, ← HSb.out]; exact heap_alloc_new _ _
  have hf3 : Fr [] w2 w3 := by rw [← HW3.out]; exact Fr.alloc _ _ _
  have HF3 : Hid (Fr [] w1 w3) := hf2.then hf3
  have HS3 : Hid (∀ W, Fr [] w3 W → W.heap[sb]? = some (.cells (stA 0 0 0 0 0) 27 (0, 0))) := fun W hf => hf.keep hr3 (by simp)
  clear hf2 hf3 hr3 m0 m1 m2 m3 H2
  obtain ⟨_, m0, m1, m2, m3⟩ := HM.out _ (HF1.out.then HF3.out)
  go_upto_region 4 with fail
  rw [HW3.out, HSb.out]
  clear HW3 HSb
  go_wp2_with fail
  with_reducible refine Calls.mono (H3.out w3 _ _ _) ?_
  rintro e w4 ⟨rfl, hf4⟩
  have HF4 : Hid (Fr [] w3 w4) := hf4
  clear hf4 m0 m1 m2 m3
  obtain ⟨_, m0, m1, m2, m3⟩ := HM.out _ ((HF1.out.then HF3.out).then HF4.out)
  go_wp2_with fail
  with_reducible refine Calls.mono (H3.out w4 _ _ _) ?_
  rintro e w5 ⟨rfl, hf5⟩
  have HF5 : Hid (Fr [] w3 w5) := HF4.out.then hf5
  clear hf5 m0 m1 m2 m3 H3
  obtain ⟨_, m0, m1, m2, m3⟩ := HM.out _ ((HF1.out.then HF3.out).then HF5.out)
  go_wp2_with fail
  with_reducible refine Calls.mono (H4.out w5 _ _ _) ?_
  rintro e w6 ⟨rfl, hf6⟩
  obtain ⟨w7, HW7⟩ : ∃ w7, Hid (w6.alloc (.cells #[.int .i64 0, .int .i64 0, .int .i64 0, .int .i64 0, .int .i64 0] 27) = w7) := ⟨_, rfl⟩
  obtain ⟨tb, HTb⟩ : ∃ tb, Hid (w6.heap.size = tb) := ⟨_, rfl⟩
  have hr7 : w7.heap[tb]? = some (.cells (stA 0 0 0 0 0) 27 (0, 0)) := by rw [← HW7.out, ← HTb.out]; exact heap_alloc_new _ _
  have hf7 : Fr [] w6 w7 := by rw [← HW7.out]; exact Fr.alloc _ _ _
  have HF7 : Hid (Fr [] w3 w7) := (HF5.out.then hf6).then hf7
  have HS7 : Hid (∀ W, Fr [] w7 W → W.heap[tb]? = some (.cells (stA 0 0 0 0 0) 27 (0, 0))) := fun W hf => hf.keep hr7 (by simp)
  clear hf6 hf7 hr7 m0 m1 m2 m3 H4
  obtain ⟨_, m0, m1, m2, m3⟩ := HM.out _ ((HF1.out.then HF3.out).then HF7.out)
  go_upto_region 7 with fail
  rw [HW7.out, HTb.out]
  clear HW7 HTb
  go_wp2_with fail
  with_reducible refine Calls.mono (H5.out w7 _ _ _) ?_
  rintro e w8 ⟨rfl, hf8⟩
  have HF8 : Hid (Fr [] w7 w8) := hf8
  have HG8 : Hid (Fr [] w w8) := ((HFa.out.then (HF1.out.then HF3.out)).then HF7.out).then hf8
  have HL8 : Hid (Calls _ _ _ _ _) := H6.out w8 b2 HG8.out (((HF3.out.then HF7.out).then HF8.out).keep HT1.out (by simp))
  have r1 := HS3.out w8 (HF7.out.then HF8.out)
  have r2 := HS7.out w8 HF8.out
  have y0 : w8.cell? ⟨sb, 0, none⟩ = some (.int .i64 0) := by rw [cell_of_row _ _ _ _ _ _ r1]; rfl
  have y1 : w8.cell? ⟨sb, 1, none⟩ = some (.int .i64 0) := by rw [cell_of_row _ _ _ _ _ _ r1]; rfl
  have y2 : w8.cell? ⟨sb, 2, none⟩ = some (.int .i64 0) := by rw [cell_of_row _ _ _ _ _ _ r1]; rfl
  have y3 : w8.cell? ⟨sb, 3, none⟩ = some (.int .i64 0) := by rw [cell_of_row _ _ _ _ _ _ r1]; rfl
  have y4 : w8.cell? ⟨sb, 4, none⟩ = some (.int .i64 0) := by rw [cell_of_row _ _ _ _ _ _ r1]; rfl
  have z0 : w8.cell? ⟨tb, 0, none⟩ = some (.int .i64 0) := by rw [cell_of_row _ _ _ _ _ _ r2]; rfl
  have z1 : w8.cell? ⟨tb, 1, none⟩ = some (.int .i64 0) := by rw [cell_of_row _ _ _ _ _ _ r2]; rfl
  have z2 : w8.cell? ⟨tb, 2, none⟩ = some (.int .i64 0) := by rw [cell_of_row _ _ _ _ _ _ r2]; rfl
  have z3 : w8.cell? ⟨tb, 3, none⟩ = some (.int .i64 0) := by rw [cell_of_row _ _ _ _ _ _ r2]; rfl
  have z4 : w8.cell? ⟨tb, 4, none⟩ = some (.int .i64 0) := by rw [cell_of_row _ _ _ _ _ _ r2]; rfl
  clear hf8 r1 r2 m0 m1 m2 m3 H5
  go_wp2_with fail
  with_reducible refine Calls.mono (H7.out _) ?_
  rintro e w9 ⟨rfl, hf9⟩
  have HF9 : Hid (Fr [] w8 w9) := hf9
  clear hf9 y0 y1 y2 y3 y4 z0 z1 z2 z3 z4
  go_wp2_with fail
  with_reducible refine Calls.mono (H7.out _) ?_
  rintro e w10 ⟨rfl, hf10⟩
  have HF10 : Hid (Fr [] w8 w10) := HF9.out.then hf10
  have HL10 : Hid (Calls _ _ _ _ _) := H6.out w10 b2 (HG8.out.then HF10.out) (((HF3.out.then HF7.out).then (HF8.out.then HF10.out)).keep HT1.out (by simp))
  clear hf10 HL8
  go_wp2_with fail
  with_reducible refine Calls.mono HL10.out ?_
  rintro e w11 ⟨rfl, hf11⟩
  have HF11 : Hid (Fr [] w w11) := (HG8.out.then HF10.out).then hf11
  clear hf11 HL10
  obtain ⟨w12, HW12⟩ : ∃ w12, Hid (w11.alloc (.cells Bq.newBk 48) = w12) := ⟨_, rfl⟩
  obtain ⟨bk, HBk⟩ : ∃ bk, Hid (w11.heap.size = bk) := ⟨_, rfl⟩
  have hF12 : Fr [] w11 w12 := by rw [← HW12.out]; exact Fr.alloc _ _ _
  have hbw : w.heap.size ≤ bk := by rw [← HBk.out]; exact HF11.out.size
  have hB12 : Bq.B4 w w12 bk 0 (.slice none 0 0) (.slice none 0 0) (.slice none 0 0) (.slice none 0 0) [] [] [] [] := Bq.B4.new (by rw [← HW12.out, ← HBk.out]; exact heap_alloc_new w11 _) hbw
  have HF12 : Hid (Fr [] w w12) := HF11.out.then hF12
  have HI1 := Bq.ints_any hB12 none 0 0 p0_nil (by intro k hk hh; simp [Value.ownBlock] at hk) (by omega)
  clear hF12 hB12
  go_upto_region 11 with fail
  have hW12 := HW12.out
  unfold Bq.newBk at hW12
  rw [hW12, HBk.out]
  clear hW12 HW12 HBk
  go_wp2_with fail
  with_reducible refine Calls.mono HI1 ?_
  rintro e w13 ⟨rfl, rv1, hB13, hF13, hM13⟩
  have hF13' : Fr [bk] w12 w13 := by simpa [Value.ownBlock] using hF13
  have HF13 : Hid (Fr [] w w13) := HF12.out.on hF13' (by intro x hx; simp at hx; omega)
  have HI2 := Bq.ints_any hB13 none 0 0 p0_nil (by intro k hk hh; simp [Value.ownBlock] at hk) (by omega)
  have HR13 : Hid (∀ k ∈ (bk :: rv1.ownBlock.toList), w.heap.size ≤ k) := by
    intro k hk
    rcases List.mem_cons.1 hk with rfl | hk
    · exact hbw
    · exact hB13.rIn k (Option.mem_toList.1 hk)
  clear hF13 hF13' hM13 HI1 hB13
  go_wp2_with fail
  with_reducible refine Calls.mono HI2 ?_
  rintro e w14 ⟨rfl, rv2, hB14, hF14, hM14⟩
  have HFw14 : Fr [] w w14 := HF13.out.on hF14 HR13.out
  have HAp := hB14.apart (by simp [Bq.lbs]) (by
    intro k hk
    rw [Bq.mem_lbs] at hk
    obtain ⟨h, hm, hb⟩ := hk
    simp at hm
    rcases hm with rfl | rfl <;> simp [Value.ownBlock] at hb) (by simp [Bq.lbs]) (by simp [Bq.lbs]) (HT.out _ (Fr.refl _ _)) HFw14
  clear hF14 hM14 HI2 hB14 HFw14
  go_wp2_with fail
  with_reducible refine Calls.mono HAp ?_
  rintro e w15 ⟨rfl, hF15⟩
  have HF15 : Hid (Fr [] w w15) := hF15
  clear HAp hF15
  go_wp2_with fail
  with_reducible refine Calls.mono (HLi.out _) ?_
  rintro e w16 ⟨rfl, hF16⟩
  go_wp2_with fail
  go_ret
  exact ⟨rfl, HF15.out.then hF16⟩
set_option maxHeartbeats 32000000 in
set_option maxRecDepth 100000 in
theorem stells_ok (L : Nat) (s x q : Int) (eo : Option Addr) (en ec : Nat) (es : List Ev) (w : World) (hc : Cf.may ⟨L, s, x, q⟩) (hT : Bq.Tab w) (hE : ERs w eo es) (hen : en = es.length) (hec : en ≤ ec) :
    Calls Tryd.prog 3 #[.agg #[.int .i64 (L : Int), .int .i64 s, .int .i64 x, .int .i64 q], .slice eo en ec] w fun e w' => e = .returned (.bool true) ∧ Fr [] w w' := by
  obtain ⟨k, hk⟩ : ∃ k, k = min en 1000 := ⟨_, rfl⟩
  have hmin : min (en : Int) 1000 = (k : Int) := by rw [hk]; exact cut_min en
  have hk1 : k ≤ en := by omega
  have hk2 : k ≤ 1000 := by omega
  have hsl := slE_h eo en ec k (by omega)
  obtain ⟨wa, HW⟩ : ∃ wa, Hid (w.alloc (.cells #[.int .i64 (L : Int), .int .i64 s, .int .i64 x, .int .i64 q] 23) = wa) := ⟨_, rfl⟩
  have hM : CfM wa w.heap.size L s x q := by rw [← HW.out]; exact CfM.new w L s x q 23
  have HFa : Hid (Fr [] w wa) := by rw [← HW.out]; exact Fr.alloc [] w _
  obtain ⟨b, HB⟩ : ∃ b, Hid (w.heap.size = b) := ⟨_, rfl⟩
  rw [HB.out] at hM
  have HM : Hid (∀ W, Fr [] wa W → CfM W b L s x q) := fun W hf => hM.keep hf
  have HT : Hid (∀ W, Fr [] w W → Bq.Tab W) := fun W hf => hT.keep hf (by simp)
  have hlk : k = (es.take k).length := by rw [List.length_take]; omega
  have HE : Hid (∀ W, Fr [] w W → ERs W eo (es.take k)) := fun W hf => (hE.keep hf).take k
  have H1 : Hid (∀ W, Fr [] w W → Calls _ _ _ W _) := fun W hf => twinEs_any eo k ec (es.take k) W (HE.out W hf) hlk (by omega)
  have hL16 : L ≤ 16 := by have := hc.1.2; simp only at this; omega
  have H2 : Hid (∀ (W : World) (o : Option Addr) (c : Nat), ERs W o (es.take k) → Calls Tryd.prog 5 #[.agg #[.int .i64 (L : Int), .int .i64 s, .int .i64 x, .int .i64 q], .slice o k c] W fun e w' => e = .returned (.tuple #[.agg (sta L (es.take k) k).a, .int .i64 0]) ∧ Fr [] W w') := fun W o c h => of_ok L s x q o k c (es.take k) W hc h hlk
  have H3 : Hid (∀ (W : World) (o : Option Addr) (c : Nat), ERs W o (es.take k) → Calls Tryd.prog 6 #[.agg #[.int .i64 (L : Int), .int .i64 s, .int .i64 x, .int .i64 q], .slice o k c] W fun e w' => ∃ m, e = .returned (.tuple #[.slice (some ⟨m, 0, none⟩) L L, .int .i64 0]) ∧ W.heap.size ≤ m ∧ NR w' m (lnS L (es.take k) k) ∧ Fr [] W w') := fun W o c h => ln_ok L s x q o k c (es.take k) W hc h hlk
  have H4 : Hid (∀ W, Fr [] w W → Calls Tryd.prog 7 #[.agg #[.int .i64 (L : Int), .int .i64 s, .int .i64 x, .int .i64 q], .slice eo k ec] W fun e w' => e = .returned (.tuple #[.agg (sta L (es.take k) k).a, .int .i64 0]) ∧ Fr [] W w') := fun W hf => xof_ok L s x q eo k ec (es.take k) W hc (HE.out W hf) hlk (by omega)
  have H5 : Hid (∀ W, Fr [] w W → Calls Tryd.prog 8 #[.agg #[.int .i64 (L : Int), .int .i64 s, .int .i64 x, .int .i64 q], .slice eo k ec] W fun e w' => ∃ m, e = .returned (.tuple #[.slice (some ⟨m, 0, none⟩) L L, .int .i64 0]) ∧ W.heap.size ≤ m ∧ NR w' m (lnS L (es.take k) k) ∧ Fr [] W w') := fun W hf => xln_ok L s x q eo k ec (es.take k) W hc (HE.out W hf) hlk (by omega)
  have HTw : Hid (∀ (W : World) (b2 : Nat), W.heap[b2]? = some (.cells (evsC (es.take k ++ [spE])).toArray 54 (0, 0)) → ERs W (some ⟨b2, 0, none⟩) (es.take k)) := fun W b2 h => ers_twin (HE.out w (Fr.refl _ _)) h
  have HNl : Hid (L = (lnS L (es.take k) k).length) := by show _ = _; rw [lnS_length]
  have H6 : Hid (∀ (W : World) (b2 : Nat), Fr [] w W → W.heap[b2]? = some (.cells (evsC (es.take k ++ [spE])).toArray 54 (0, 0)) → Calls _ _ _ W _) := fun W b2 hf hb2 => leftEs_any b2 eo k ec (es.take k) W (HE.out W hf) hlk (by omega) hb2
  have H7 : Hid (∀ (W : World) (m1 m2 : Nat), NR W m1 (lnS L (es.take k) k) → NR W m2 (lnS L (es.take k) k) → Calls Tryd.prog 9 #[.slice (some ⟨m1, 0, none⟩) L L, .slice (some ⟨m2, 0, none⟩) L L] W fun e w' => e = .returned (.bool true) ∧ Fr [] W w') := fun W m1 m2 h1 h2 => same12 (some ⟨m1, 0, none⟩) (some ⟨m2, 0, none⟩) L L L _ W (h1.irs (by rw [lnS_length]; omega)) (h2.irs (by rw [lnS_length]; omega)) (by rw [lnS_length]) (by omega)
  have HLi : Hid (∀ W, Calls _ _ _ W _) := fun W => lives_any W
  generalize lnS L (es.take k) k = ns at H3 H5 H7 HNl
  generalize sta L (es.take k) k = S at H2 H4
  obtain ⟨sn, si, sg, sbu, sr⟩ := S
  simp only [Sst.a, stA] at H2 H4
  have hne : ∀ W : World, (binOp .neq 27 (.agg #[.int .i64 sn, .int .i64 si, .int .i64 sg, .int .i64 sbu, .int .i64 sr]) (.agg #[.int .i64 sn, .int .i64 si, .int .i64 sg, .int .i64 sbu, .int .i64 sr])).run Tryd.prog W = .ok (.bool false) W := fun W => by
    have h1 := st_neq W ⟨sn, si, sg, sbu, sr⟩ ⟨sn, si, sg, sbu, sr⟩
    rw [(sameSt_iff _ _).2 rfl] at h1
    exact h1
  obtain ⟨_, m0, m1, m2, m3⟩ := hM
  clear hk hE hen hec hc hT hlk
  go_enter Tryd.func3, Tryd.ntmps3
  go_upto_region 1 with fail
  rw [HW.out, HB.out]
  clear HW
  go_wp2_with fail
  with_reducible refine Calls.mono (H1.out wa HFa.out) ?_
  rintro e w1 ⟨b2, rfl, hb1, hrow1, hf1⟩
  have HF1 : Hid (Fr [] wa w1) := hf1
  have HT1 : Hid (w1.heap[b2]? = some (.cells (evsC (es.take k ++ [spE])).toArray 54 (0, 0))) := hrow1
  clear hf1 hrow1 hb1 m0 m1 m2 m3 H1 hsl hmin
  obtain ⟨_, m0, m1, m2, m3⟩ := HM.out _ HF1.out
  go_wp2_with fail
  with_reducible refine Calls.mono (H2.out w1 _ _ (HTw.out w1 b2 HT1.out)) ?_
  rintro e w2 ⟨rfl, hf2⟩
  obtain ⟨w3, HW3⟩ : ∃ w3, Hid (w2.alloc (.cells #[.int .i64 sn, .int .i64 si, .int .i64 sg, .int .i64 sbu, .int .i64 sr] 27) = w3) := ⟨_, rfl⟩
  obtain ⟨sb, HSb⟩ : ∃ sb, Hid (w2.heap.size = sb) := ⟨_, rfl⟩
  have hr3 : w3.heap[sb]? = some (.cells (stA sn si sg sbu sr) 27 (0, 0)) := by rw [← HW3.out, ← HSb.out]; exact heap_alloc_new _ _
  have hf3 : Fr [] w2 w3 := by rw [← HW3.out]; exact Fr.alloc _ _ _
  have HF3 : Hid (Fr [] w1 w3) := hf2.then hf3
  have HS3 : Hid (∀ W, Fr [] w3 W → W.heap[sb]? = some (.cells (stA sn si sg sbu sr) 27 (0, 0))) := fun W hf => hf.keep hr3 (by simp)
  clear hf2 hf3 hr3 m0 m1 m2 m3 H2
  obtain ⟨_, m0, m1, m2, m3⟩ := HM.out _ (HF1.out.then HF3.out)
  go_upto_region 4 with fail
  rw [HW3.out, HSb.out]
  clear HW3 HSb
  go_wp2_with fail
  with_reducible refine Calls.mono (H3.out w3 _ _ (HTw.out w3 b2 (HF3.out.keep HT1.out (by simp)))) ?_
  rintro e w4 ⟨g1, rfl, hg1, hN1, hf4⟩
  have HF4 : Hid (Fr [] w3 w4) := hf4
  have HN1 : Hid (∀ W, Fr [] w4 W → NR W g1 ns) := fun W hf => hN1.keep hf (by simp)
  have hg1' : g1 < w4.heap.size := lt_of_block hN1
  have hg0 : w.heap.size ≤ g1 := by have h1 := HFa.out.size; have h2 := HF1.out.size; have h3 := HF3.out.size; omega
  clear hN1 hg1
  clear hf4 m0 m1 m2 m3
  obtain ⟨_, m0, m1, m2, m3⟩ := HM.out _ ((HF1.out.then HF3.out).then HF4.out)
  go_wp2_with fail
  with_reducible refine Calls.mono (H3.out w4 _ _ (HTw.out w4 b2 ((HF3.out.then HF4.out).keep HT1.out (by simp)))) ?_
  rintro e w5 ⟨g2, rfl, hg2, hN2, hf5⟩
  have HF5 : Hid (Fr [] w3 w5) := HF4.out.then hf5
  have HF45 : Hid (Fr [] w4 w5) := hf5
  have HN2 : Hid (∀ W, Fr [] w5 W → NR W g2 ns) := fun W hf => hN2.keep hf (by simp)
  have hg2' : g2 < w5.heap.size := lt_of_block hN2
  clear hN2
  clear hf5 m0 m1 m2 m3 H3
  obtain ⟨_, m0, m1, m2, m3⟩ := HM.out _ ((HF1.out.then HF3.out).then HF5.out)
  go_wp2_with fail
  with_reducible refine Calls.mono (H4.out w5 ((HFa.out.then (HF1.out.then HF3.out)).then HF5.out)) ?_
  rintro e w6 ⟨rfl, hf6⟩
  obtain ⟨w7, HW7⟩ : ∃ w7, Hid (w6.alloc (.cells #[.int .i64 sn, .int .i64 si, .int .i64 sg, .int .i64 sbu, .int .i64 sr] 27) = w7) := ⟨_, rfl⟩
  obtain ⟨tb, HTb⟩ : ∃ tb, Hid (w6.heap.size = tb) := ⟨_, rfl⟩
  have hr7 : w7.heap[tb]? = some (.cells (stA sn si sg sbu sr) 27 (0, 0)) := by rw [← HW7.out, ← HTb.out]; exact heap_alloc_new _ _
  have hf7 : Fr [] w6 w7 := by rw [← HW7.out]; exact Fr.alloc _ _ _
  have HF7 : Hid (Fr [] w3 w7) := (HF5.out.then hf6).then hf7
  have HF57 : Hid (Fr [] w5 w7) := hf6.then hf7
  have HS7 : Hid (∀ W, Fr [] w7 W → W.heap[tb]? = some (.cells (stA sn si sg sbu sr) 27 (0, 0))) := fun W hf => hf.keep hr7 (by simp)
  clear hf6 hf7 hr7 m0 m1 m2 m3 H4
  obtain ⟨_, m0, m1, m2, m3⟩ := HM.out _ ((HF1.out.then HF3.out).then HF7.out)
  go_upto_region 7 with fail
  rw [HW7.out, HTb.out]
  clear HW7 HTb
  go_wp2_with fail
  with_reducible refine Calls.mono (H5.out w7 ((HFa.out.then (HF1.out.then HF3.out)).then HF7.out)) ?_
  rintro e w8 ⟨g3, rfl, hg3, hN3, hf8⟩
  have HF8 : Hid (Fr [] w7 w8) := hf8
  have HN8 : Hid (∀ W, Fr [] w8 W → NR W g1 ns ∧ NR W g2 ns ∧ NR W g3 ns) := fun W hf => ⟨HN1.out _ (((HF45.out.then HF57.out).then hf8).then hf), HN2.out _ ((HF57.out.then hf8).then hf), hN3.keep hf (by simp)⟩
  have hw8 : w5.heap.size ≤ w8.heap.size := (HF57.out.then hf8).size
  clear hN3 hg3
  have HG8 : Hid (Fr [] w w8) := ((HFa.out.then (HF1.out.then HF3.out)).then HF7.out).then hf8
  have HL8 : Hid (Calls _ _ _ _ _) := H6.out w8 b2 HG8.out (((HF3.out.then HF7.out).then HF8.out).keep HT1.out (by simp))
  have r1 := HS3.out w8 (HF7.out.then HF8.out)
  have r2 := HS7.out w8 HF8.out
  have y0 : w8.cell? ⟨sb, 0, none⟩ = some (.int .i64 sn) := by rw [cell_of_row _ _ _ _ _ _ r1]; rfl
  have y1 : w8.cell? ⟨sb, 1, none⟩ = some (.int .i64 si) := by rw [cell_of_row _ _ _ _ _ _ r1]; rfl
  have y2 : w8.cell? ⟨sb, 2, none⟩ = some (.int .i64 sg) := by rw [cell_of_row _ _ _ _ _ _ r1]; rfl
  have y3 : w8.cell? ⟨sb, 3, none⟩ = some (.int .i64 sbu) := by rw [cell_of_row _ _ _ _ _ _ r1]; rfl
  have y4 : w8.cell? ⟨sb, 4, none⟩ = some (.int .i64 sr) := by rw [cell_of_row _ _ _ _ _ _ r1]; rfl
  have z0 : w8.cell? ⟨tb, 0, none⟩ = some (.int .i64 sn) := by rw [cell_of_row _ _ _ _ _ _ r2]; rfl
  have z1 : w8.cell? ⟨tb, 1, none⟩ = some (.int .i64 si) := by rw [cell_of_row _ _ _ _ _ _ r2]; rfl
  have z2 : w8.cell? ⟨tb, 2, none⟩ = some (.int .i64 sg) := by rw [cell_of_row _ _ _ _ _ _ r2]; rfl
  have z3 : w8.cell? ⟨tb, 3, none⟩ = some (.int .i64 sbu) := by rw [cell_of_row _ _ _ _ _ _ r2]; rfl
  have z4 : w8.cell? ⟨tb, 4, none⟩ = some (.int .i64 sr) := by rw [cell_of_row _ _ _ _ _ _ r2]; rfl
  clear hf8 r1 r2 m0 m1 m2 m3 H5
  go_wp2_with fail
  with_reducible refine Calls.mono (H7.out w8 g1 g3 (HN8.out _ (Fr.refl _ _)).1 (HN8.out _ (Fr.refl _ _)).2.2) ?_
  rintro e w9 ⟨rfl, hf9⟩
  have HF9 : Hid (Fr [] w8 w9) := hf9
  clear hf9 y0 y1 y2 y3 y4 z0 z1 z2 z3 z4
  go_wp2_with fail
  with_reducible refine Calls.mono (H7.out w9 g2 g3 (HN8.out _ HF9.out).2.1 (HN8.out _ HF9.out).2.2) ?_
  rintro e w10 ⟨rfl, hf10⟩
  have HF10 : Hid (Fr [] w8 w10) := HF9.out.then hf10
  have HL10 : Hid (Calls _ _ _ _ _) := H6.out w10 b2 (HG8.out.then HF10.out) (((HF3.out.then HF7.out).then (HF8.out.then HF10.out)).keep HT1.out (by simp))
  clear hf10 HL8
  go_wp2_with fail
  with_reducible refine Calls.mono HL10.out ?_
  rintro e w11 ⟨rfl, hf11⟩
  have HF11 : Hid (Fr [] w w11) := (HG8.out.then HF10.out).then hf11
  have HF1011 : Hid (Fr [] w10 w11) := hf11
  clear hf11 HL10
  obtain ⟨w12, HW12⟩ : ∃ w12, Hid (w11.alloc (.cells Bq.newBk 48) = w12) := ⟨_, rfl⟩
  obtain ⟨bk, HBk⟩ : ∃ bk, Hid (w11.heap.size = bk) := ⟨_, rfl⟩
  have hF12 : Fr [] w11 w12 := by rw [← HW12.out]; exact Fr.alloc _ _ _
  have hbw : w.heap.size ≤ bk := by rw [← HBk.out]; exact HF11.out.size
  have hB12 : Bq.B4 w w12 bk 0 (.slice none 0 0) (.slice none 0 0) (.slice none 0 0) (.slice none 0 0) [] [] [] [] := Bq.B4.new (by rw [← HW12.out, ← HBk.out]; exact heap_alloc_new w11 _) hbw
  have HF12 : Hid (Fr [] w w12) := HF11.out.then hF12
  have hbk1 : g2 < bk := by have h1 := HF10.out.size; have h2 := HBk.out; have h3 := HF1011.out.size; omega
  have HI1 := Bq.ints_any hB12 (some ⟨g1, 0, none⟩) L L (p0_ln (HN8.out _ (HF10.out.then (HF1011.out.then hF12))).1 HNl.out (by omega)) (by intro k _ hh; simp [Bq.lbs] at hh) (by omega)
  have HN12 : Hid (NR w12 g2 ns) := (HN8.out _ (HF10.out.then (HF1011.out.then hF12))).2.1
  clear hF12 hB12
  go_upto_region 11 with fail
  have hW12 := HW12.out
  unfold Bq.newBk at hW12
  rw [hW12, HBk.out]
  clear hW12 HW12 HBk
  go_wp2_with fail
  with_reducible refine Calls.mono HI1 ?_
  rintro e w13 ⟨rfl, rv1, hB13, hF13, hM13⟩
  have hF13' : Fr [bk] w12 w13 := by simpa [Value.ownBlock] using hF13
  have HF13 : Hid (Fr [] w w13) := HF12.out.on hF13' (by intro x hx; simp at hx; omega)
  have HI2 := Bq.ints_any hB13 (some ⟨g2, 0, none⟩) L L (p0_ln (HN12.out.keep hF13' (by simp; omega)) HNl.out (by omega)) (by
    intro k hk hh
    have e2 : k = g2 := by simpa [Value.ownBlock] using hk.symm
    rw [Bq.mem_lbs] at hh
    obtain ⟨h, hm, hb⟩ := hh
    simp at hm
    subst hm
    have e1 : k = g1 := by simpa [Value.ownBlock] using hb.symm
    omega) (by omega)
  have HR13 : Hid (∀ k ∈ (bk :: rv1.ownBlock.toList), w.heap.size ≤ k) := by
    intro k hk
    rcases List.mem_cons.1 hk with rfl | hk
    · exact hbw
    · exact hB13.rIn k (Option.mem_toList.1 hk)
  clear hF13 hF13' hM13 HI1 hB13
  go_wp2_with fail
  with_reducible refine Calls.mono HI2 ?_
  rintro e w14 ⟨rfl, rv2, hB14, hF14, hM14⟩
  have HFw14 : Fr [] w w14 := HF13.out.on hF14 HR13.out
  have HAp := hB14.apart (by simp [Bq.lbs]) (by
    intro k hk
    rw [Bq.mem_lbs] at hk
    obtain ⟨h, hm, hb⟩ := hk
    simp at hm
    rcases hm with rfl | rfl
    · have : k = g1 := by simpa [Value.ownBlock] using hb.symm
      omega
    · have : k = g2 := by simpa [Value.ownBlock] using hb.symm
      omega) (by simp [Bq.lbs]) (by simp [Bq.lbs]) (HT.out _ (Fr.refl _ _)) HFw14
  clear hF14 hM14 HI2 hB14 HFw14
  go_wp2_with fail
  with_reducible refine Calls.mono HAp ?_
  rintro e w15 ⟨rfl, hF15⟩
  have HF15 : Hid (Fr [] w w15) := hF15
  clear HAp hF15
  go_wp2_with fail
  with_reducible refine Calls.mono (HLi.out _) ?_
  rintro e w16 ⟨rfl, hF16⟩
  go_wp2_with fail
  go_ret
  exact ⟨rfl, HF15.out.then hF16⟩
set_option maxRecDepth 100000 in
theorem stells_any (l s x q : Int) (eo : Option Addr) (en ec : Nat) (es : List Ev) (w : World) (hT : Bq.Tab w) (hE : ERs w eo es) (hen : en = es.length) (hec : en ≤ ec) :
    Calls Tryd.prog 3 #[.agg #[.int .i64 l, .int .i64 s, .int .i64 x, .int .i64 q], .slice eo en ec] w fun e w' => e = .returned (.bool true) ∧ Fr [] w w' := by
  by_cases hc : Cf.may ⟨l, s, x, q⟩
  · obtain ⟨L, rfl⟩ : ∃ L : Nat, l = (L : Int) := ⟨l.toNat, by have := hc.1.1; simp only at this; omega⟩
    exact stells_ok L s x q eo en ec es w hc hT hE hen hec
  · exact stells_no l s x q eo en ec es w hc hT hE hen hec
theorem stells_c (l s x q : Int) (eo : Option Addr) (en ec : Nat) (es : List Ev) (w : World) (hok : Cf.ok ⟨l, s, x, q⟩) (hE : ERs w eo es) (hen : en = es.length) (hec : en ≤ ec) (hT : Bq.Tab w) :
    Calls Tryd.prog 3 #[.agg #[.int .i64 l, .int .i64 s, .int .i64 x, .int .i64 q], .slice eo en ec] w fun e w' => e = .returned (.bool true) ∧ Fr [] w w' := stells_any l s x q eo en ec es w hT hE hen hec
end Go.Proofs.YtfhfjplhfjlpaaaDoor

/- What the statements' made answers: both feeds by both sources, over the same log. Conditions: what came in. -/
import Derived.Test.YtibgdfjfhjckoaaPp16
import Derived.Test.YtibgdfjfhjckoaaYn16
import Derived.Test.YtibgdfjfhjckoaaFo16
namespace Go.Proofs.Ytibgdfjfhjckoaa
open Go.ChangeShapes Go.WideShapes Go.ChangeAt Go.RowKit Go.Lib Go.Maps
set_option linter.unusedVariables false
set_option linter.unusedSimpArgs false

theorem IRs.of_twin {w : World} {b : Nat} {bs : List Int} (h : w.heap[b]? = some (.cells (intsT (bs ++ [7777])).toArray 3 (0, 0))) (hf : bs.length ≤ 17592186044416) : IRs w (some ⟨b, 0, none⟩) bs := by
  refine ⟨fun h0 => ⟨b, 0, rfl, lt_of_block h, fun j hj => ?_⟩, hf⟩
  rw [cell_of_row _ _ _ _ _ _ h, Nat.zero_add, List.getElem?_toArray, intsT_get _ _ (by simp; omega)]
  have e : (bs ++ [7777]).getD j 0 = bs.getD j 0 := by simp [List.getD, List.getElem?_append_left hj]
  rw [e]
theorem results_tmp4 {fn : Func} {t u v x : Tmp} (h : fn.results = #[.tmp t, .tmp u, .tmp v, .tmp x]) (tmps : Array Value) (P : Program) (w : World) :
    (results fn tmps).run P w = .ok (.tuple #[tmps.getD t undef, tmps.getD u undef, tmps.getD v undef, tmps.getD x undef]) w := by
  simp [results, h]
/-- What made leaves: none on both sides, or both. -/
def Made (w : World) (L : Nat) (X : List Tx) (mark : Int) (bs : List Int) (win : Int) (e : Ending) (w' : World) : Prop :=
  Fr [] w w' ∧ ((∃ ps, e = .returned (.tuple #[.pointer none, .pointer none, ps, .bool true])) ∨
    (okL 1 X ∧ newC mark bs win L = 0 ∧ ∃ f x g, e = .returned (.tuple #[.pointer (some ⟨f, 0, none⟩), .pointer (some ⟨x, 0, none⟩), .pointer (some ⟨g, 0, none⟩), .bool true]) ∧
      ∃ w0 w1 lb ts mb hw yg lo lc us v' yo M yc hn hw', Two w.heap.size f x L bs X 0 w' w0 w1 g lb ts (.slice none 0 0) [] mb ⟨mark.toNat, mark.toNat, win.toNat, false, false⟩ hw yg lo lc us v' [] yo M yc hn hw'))
theorem Two.off1 {b f x L : Nat} {bs : List Int} {X : List Tx} {n : Nat} {w w' w0 w1 : World} {g lb : Nat} {ts : List Tm} {v : Value} {qs : List Nat} {mb : Nat} {s : Fe} {hw : Value} {yg : Nat} {lo : Option Addr} {lc : Nat} {us : List Tm} {v' : Value} {qs' : List Nat} {yo : Option Addr} {M yc : Nat} {hn : Int} {hw' : Value}
    (h : Two b f x L bs X n w w0 w1 g lb ts v qs mb s hw yg lo lc us v' qs' yo M yc hn hw') {k : Nat} {cur : Array Value} (hk : w.heap[k]? = some (.cells cur 3 (0, 0))) (h1 : v.ownBlock ≠ some k) (h2 : v'.ownBlock ≠ some k) (h3 : ∀ a, yo = some a → 0 < M → a.block ≠ k) (hf : Fr [k] w w') : Two b f x L bs X n w' w0 w1 g lb ts v qs mb s hw yg lo lc us v' qs' yo M yc hn hw' := by
  refine ⟨h.pro.keepS hf (fun j hj o e => ?_), h.doc.keepS hf (fun j hj cs t e => ?_), h.tx1, h.tx2, h.q1, h.q2, h.b0, h.b1, h.off⟩
  · simp only [List.mem_singleton] at hj
    subst hj
    rw [hk] at e
    cases e
    exact ⟨_, _, rfl, by decide, by decide, by decide, by decide, fun _ => h1⟩
  · simp only [List.mem_singleton] at hj
    subst hj
    rw [hk] at e
    cases e
    exact ⟨by decide, by decide, by decide, by decide, fun _ => ⟨h2, h3⟩⟩
set_option maxHeartbeats 16000000 in
set_option maxRecDepth 100000 in
theorem made16_any (ao : Option Addr) (L cap : Nat) (ts : List Tm) (mark win : Int) (bo : Option Addr) (M bc : Nat) (bs : List Int) (w : World) (hT : TRs w ao ts) (hL : L = ts.length) (hR : IRs w bo bs) (hM : M = bs.length) (hi : ∀ x ∈ bs, i64 x) (hm : i64 mark) :
    Calls Try.prog 7 #[.slice ao L cap, .agg #[.int .i64 mark, .slice bo M bc, .int .i64 win]] w fun e w' => Made w L (txs ts) mark bs win e w' := by
  have hfM : M ≤ 17592186044416 := by rw [hM]; exact hR.few
  obtain ⟨w0, HW0⟩ : ∃ w0, Hid (w.alloc (.cells #[.int .i64 mark, .slice bo M bc, .int .i64 win] 25) = w0) := ⟨_, rfl⟩
  obtain ⟨A, HA⟩ : ∃ A, Hid (w.heap.size = A) := ⟨_, rfl⟩
  have hF0 : Fr [] w w0 := by rw [← HW0.out]; exact Fr.alloc _ _ _
  have hab : w0.heap[A]? = some (.cells #[.int .i64 mark, .slice bo M bc, .int .i64 win] 25 (0, 0)) := by rw [← HW0.out, ← HA.out]; exact heap_alloc_new _ _
  have HAc : Hid (∀ W, Fr [] w0 W → W.cell? ⟨A, 0, none⟩ = some (.int .i64 mark) ∧ W.cell? ⟨A, 1, none⟩ = some (.slice bo M bc) ∧ W.cell? ⟨A, 2, none⟩ = some (.int .i64 win)) := fun W hf => by
    have := hf.keep hab (by simp)
    exact ⟨by rw [cell_of_row _ _ _ _ _ _ this]; rfl, by rw [cell_of_row _ _ _ _ _ _ this]; rfl, by rw [cell_of_row _ _ _ _ _ _ this]; rfl⟩
  have HF0 : Hid (Fr [] w w0) := hF0
  have HR : Hid (∀ W, Fr [] w0 W → IRs W bo bs) := fun W hf => hR.keep (hF0.then hf)
  have HT : Hid (∀ W, Fr [] w0 W → TRs W ao ts) := fun W hf => hT.keep (hF0.then hf)
  have HL : Hid (L = ts.length) := hL
  have HM : Hid (M = bs.length) := hM
  have HI : Hid (∀ x ∈ bs, i64 x) := hi
  have HMk : Hid (i64 mark) := hm
  have HfM : Hid (bs.length ≤ 17592186044416) := hR.few
  have HTw : Hid (∀ W, Fr [] w0 W → Calls Try.prog 26 #[.slice bo M bc] W fun e w' => ∃ b, e = .returned (.slice (some ⟨b, 0, none⟩) M (M + 1)) ∧ W.heap.size ≤ b ∧ w'.heap[b]? = some (.cells (intsT (bs ++ [7777])).toArray 3 (0, 0)) ∧ Fr [] W w') := fun W hf => twinIs_any bo M bc bs W (hR.keep (hF0.then hf)) hM hfM
  have HLf : Hid (∀ W tb, Fr [] w0 W → W.heap[tb]? = some (.cells (intsT (bs ++ [7777])).toArray 3 (0, 0)) → Calls Try.prog 28 #[.slice (some ⟨tb, 0, none⟩) M (M + 1), .slice bo M bc] W fun e w' => e = .returned (.bool true) ∧ Fr [] W w') := fun W tb hf hrow => leftIs_any tb bo M bc bs W (hR.keep (hF0.then hf)) hM hfM hrow
  obtain ⟨c, hbad⟩ := Bad.ex (txs ts) 1
  have HBD : Hid (Bad 1 (txs ts) c) := hbad
  clear hT hL hR hM hi hm hF0 hab
  go_enter Try.func7, Try.ntmps7
  go_upto_region 1 with fail
  rw [HW0.out, HA.out]
  clear HW0
  by_cases hc0 : c = 0
  · subst hc0
    have hok := (Bad.ok hbad).1 rfl
    have HOK : Hid (okL 1 (txs ts)) := hok
    have hL16 : L ≤ 65536 := by have := okL_few hok; rw [txs_length] at this; have := HL.out; omega
    clear hok hbad
    have HC : Hid (Calls _ _ _ _ _) := new_ok ao L cap ts w0 (HT.out _ (Fr.refl _ _)) HL.out HOK.out
    go_wp2_with fail
    refine Calls.mono HC.out ?_
    rintro e w1 ⟨g, lb, ds, rfl, hS1, hds, hF1⟩
    have HF1 : Hid (Fr [] w0 w1) := hF1
    have HS1 : Hid (Src w0 w1 g lb L ds (.slice none 0 0) []) := hS1
    have HDs : Hid (txs ds = txs ts) := hds
    clear hS1 hds hF1 HC
    have HC : Hid (Calls _ _ _ _ _) := yNew_ok ao L cap ts w1 (HT.out _ HF1.out) HL.out HOK.out
    go_wp2_with fail
    refine Calls.mono HC.out ?_
    rintro e w2 ⟨yg, lo, lc, us, rfl, hS2, hus, hF2⟩
    have HF2 : Hid (Fr [] w0 w2) := HF1.out.then hF2
    have HS2 : Hid (YSrc w1 w2 yg L lo lc us (.slice none 0 0) []) := hS2
    have HSp : Hid (Src w0 w2 g lb L ds (.slice none 0 0) []) := HS1.out.keep hF2
    have HUs : Hid (txs us = txs ts) := hus
    clear hS2 hus hF2 HC HS1
    obtain ⟨a0, a1, a2⟩ := HAc.out _ HF2.out
    have HC : Hid (Calls _ _ _ _ _) := HTw.out _ HF2.out
    go_wp2_with fail
    refine Calls.mono HC.out ?_
    rintro e w3 ⟨tb, rfl, htb, hrow, hF3⟩
    have HF3 : Hid (Fr [] w0 w3) := HF2.out.then hF3
    have HRow3 : Hid (w3.heap[tb]? = some (.cells (intsT (bs ++ [7777])).toArray 3 (0, 0))) := hrow
    have HTb : Hid (w2.heap.size ≤ tb) := htb
    have HT3 : Hid (IRs w3 (some ⟨tb, 0, none⟩) bs) := IRs.of_twin hrow HfM.out
    have hF23 := hF3
    clear hrow htb hF3 HC a0 a1 a2
    obtain ⟨a0, a1, a2⟩ := HAc.out _ HF3.out
    obtain ⟨nc, hnc⟩ : ∃ nc, newC mark bs win L = nc := ⟨_, rfl⟩
    have HNc : Hid (newC mark bs win L = nc) := hnc
    have HS3 : Hid (Src w0 w3 g lb L ds (.slice none 0 0) []) := HSp.out.keep hF23
    have HY3 : Hid (YSrc w1 w3 yg L lo lc us (.slice none 0 0) []) := HS2.out.keep hF23
    have HOKd : Hid (okL 1 (txs ds)) := by show okL _ _; rw [HDs.out]; exact HOK.out
    clear hnc HSp HS2 hF23
    by_cases hnz : nc = 0
    · subst hnz
      have HC : Hid (Calls _ _ _ _ _) := fNew_ok mark (some ⟨tb, 0, none⟩) M (M + 1) bs win HS3.out HOKd.out HT3.out HM.out HI.out HMk.out HNc.out
      go_wp2_with fail
      refine Calls.mono HC.out ?_
      rintro e w4 ⟨f, mb, rfl, hD4, hF4⟩
      have HF4 : Hid (Fr [] w0 w4) := HF3.out.then hF4
      have HD4 : Hid (FdM w0 w4 f g lb L ds (.slice none 0 0) [] mb bs ⟨mark.toNat, mark.toNat, win.toNat, false, false⟩ (.slice none 0 0)) := hD4
      have HY4 : Hid (YSrc w1 w4 yg L lo lc us (.slice none 0 0) []) := HY3.out.keep hF4
      have HRow4 : Hid (w4.heap[tb]? = some (.cells (intsT (bs ++ [7777])).toArray 3 (0, 0))) := hF4.keep HRow3.out (by simp)
      clear HC hD4 hF4 a0 a1 a2 HS3 HY3 HRow3
      obtain ⟨a0, a1, a2⟩ := HAc.out _ HF4.out
      have HC : Hid (Calls _ _ _ _ _) := yfNew_any mark bo M bc bs win HY4.out (HR.out _ HF4.out) HM.out HI.out HMk.out 0 HNc.out
      go_wp2_with fail
      refine Calls.mono HC.out ?_
      rintro e w5 hy
      rcases hy with ⟨h0, _⟩ | ⟨_, x, yo, yc, rfl, hD5, hyo, hF5⟩
      · exact absurd rfl h0
      have HF5 : Hid (Fr [] w0 w5) := HF4.out.then hF5
      have HRow5 : Hid (w5.heap[tb]? = some (.cells (intsT (bs ++ [7777])).toArray 3 (0, 0))) := hF5.keep HRow4.out (by simp)
      have HW1 : Hid (w.heap.size ≤ w0.heap.size ∧ w.heap.size ≤ w1.heap.size ∧ w.heap.size ≤ w2.heap.size) := ⟨HF0.out.size, (HF0.out.then HF1.out).size, (HF0.out.then HF2.out).size⟩
      have HTwo : Hid (Two w.heap.size f x L bs (txs ts) 0 w5 w0 w1 g lb ds (.slice none 0 0) [] mb ⟨mark.toNat, mark.toNat, win.toNat, false, false⟩ (.slice none 0 0) yg lo lc us (.slice none 0 0) [] yo M yc 0 (.slice none 0 0)) := ⟨HD4.out.keep hF5, hD5, HDs.out, HUs.out, Nat.le_refl _, Nat.le_refl _, HW1.out.1, HW1.out.2.1, fun k hk => by simp [Value.ownBlock] at hk⟩
      have HYo : Hid (∀ a, yo = some a → a.block ≠ tb) := fun a e hx => by
        have h1 := hyo a e
        have h2 := lt_of_block HRow4.out
        omega
      clear HC hD5 hyo hF5 a0 a1 a2 HD4 HY4 HRow4
      obtain ⟨a0, a1, a2⟩ := HAc.out _ HF5.out
      have HC : Hid (Calls _ _ _ _ _) := HLf.out _ tb HF5.out HRow5.out
      go_wp2_with fail
      refine Calls.mono HC.out ?_
      rintro e w6 ⟨rfl, hF6⟩
      have HF6 : Hid (Fr [] w0 w6) := HF5.out.then hF6
      have HRow6 : Hid (w6.heap[tb]? = some (.cells (intsT (bs ++ [7777])).toArray 3 (0, 0))) := hF6.keep HRow5.out (by simp)
      have HEnd : Hid (∀ W, Fr [tb] w6 W → _) := fun W hf => (show Made w L (txs ts) mark bs win _ W from ⟨(HF0.out.then HF6.out).on hf (by intro k hk; simp at hk; have := HTb.out; have := HW1.out.2.2; omega), Or.inr ⟨HOK.out, HNc.out, f, x, g, rfl, w0, w1, lb, ds, mb, .slice none 0 0, yg, lo, lc, us, .slice none 0 0, yo, M, yc, 0, .slice none 0 0, (HTwo.out.keep hF6).off1 HRow6.out (by simp [Value.ownBlock]) (by simp [Value.ownBlock]) (fun a e _ => HYo.out a e) hf⟩⟩)
      clear HC hF6 a0 a1 a2
      go_wp2_with fail
      go_loopw [16] (fun ii wr => ∃ i : Nat, ii = .int .i64 i ∧ i ≤ M ∧ Hid (∃ cs : Array Value, wr.heap[tb]? = some (.cells cs 3 (0, 0)) ∧ cs.size = M + 1) ∧ Hid (Fr [tb] w6 wr)) (fun ii _ => M - (RowKit.intOf ii).toNat)
      case atStart => exact ⟨0, rfl, Nat.zero_le _, ⟨_, HRow6.out, by simp [intsT_length, HM.out]⟩, Fr.refl _ _⟩
      case round =>
        obtain ⟨i, rfl, hiM, HCs, HFw⟩ := hrel
        by_cases hil : i < M
        · obtain ⟨cs, hcs, hsz⟩ := HCs.out
          obtain ⟨u, hu⟩ : ∃ u, wr.cell? ⟨tb, i, none⟩ = some u := by
            rw [cell_of_row _ _ _ _ _ _ hcs]
            exact ⟨cs[i]'(by omega), by rw [Array.getElem?_eq_getElem]⟩
          have hz : wr.frozen? ⟨tb, i, none⟩ = false := by simp [World.frozen?, hcs]
          have HC2 : Hid (∃ cs : Array Value, (wr.setCell ⟨tb, i, none⟩ (.int .i64 (-77))).heap[tb]? = some (.cells cs 3 (0, 0)) ∧ cs.size = M + 1) := ⟨_, row_setCell _ hcs, by simpa using hsz⟩
          have HF2 : Hid (Fr [tb] w6 (wr.setCell ⟨tb, i, none⟩ (.int .i64 (-77)))) := HFw.out.then (Fr.set _ _ _ (by simp))
          clear hcs hsz HCs
          go_wp2
          go_roundw
          case rel => exact ⟨i + 1, by simp, by omega, HC2, HF2⟩
          case measure => simp [RowKit.intOf]; omega
        · obtain rfl : i = M := by omega
          go_wp2
          refine bodyPost_ret (results_tmp4 rfl _ _ _) rfl ?_
          exact HEnd.out wr HFw.out
    · have HC : Hid (Calls _ _ _ _ _) := fNew_no mark (some ⟨tb, 0, none⟩) M (M + 1) bs win HS3.out HT3.out HM.out HI.out HMk.out nc HNc.out hnz
      go_wp2_with fail
      refine Calls.mono HC.out ?_
      rintro e w4 ⟨rfl, hF4⟩
      have HF4 : Hid (Fr [] w0 w4) := HF3.out.then hF4
      have HY4 : Hid (YSrc w1 w4 yg L lo lc us (.slice none 0 0) []) := HY3.out.keep hF4
      have HRow4 : Hid (w4.heap[tb]? = some (.cells (intsT (bs ++ [7777])).toArray 3 (0, 0))) := hF4.keep HRow3.out (by simp)
      clear HC hF4 a0 a1 a2 HS3 HY3 HRow3
      obtain ⟨a0, a1, a2⟩ := HAc.out _ HF4.out
      have HC : Hid (Calls _ _ _ _ _) := yfNew_any mark bo M bc bs win HY4.out (HR.out _ HF4.out) HM.out HI.out HMk.out nc HNc.out
      go_wp2_with fail
      refine Calls.mono HC.out ?_
      rintro e w5 hy
      rcases hy with ⟨_, rfl, hF5⟩ | ⟨h0, _⟩
      rotate_left
      · exact absurd h0 hnz
      have HF5 : Hid (Fr [] w0 w5) := HF4.out.then hF5
      have HRow5 : Hid (w5.heap[tb]? = some (.cells (intsT (bs ++ [7777])).toArray 3 (0, 0))) := hF5.keep HRow4.out (by simp)
      have HW1 : Hid (w.heap.size ≤ w2.heap.size) := (HF0.out.then HF2.out).size
      have hcc : ((nc : Int) == (nc : Int)) = true := by simp
      clear HC hF5 a0 a1 a2 HY4 HRow4
      obtain ⟨a0, a1, a2⟩ := HAc.out _ HF5.out
      have HC : Hid (Calls _ _ _ _ _) := HLf.out _ tb HF5.out HRow5.out
      go_wp2_with fail
      refine Calls.mono HC.out ?_
      rintro e w6 ⟨rfl, hF6⟩
      have HF6 : Hid (Fr [] w0 w6) := HF5.out.then hF6
      have HRow6 : Hid (w6.heap[tb]? = some (.cells (intsT (bs ++ [7777])).toArray 3 (0, 0))) := hF6.keep HRow5.out (by simp)
      have HEnd : Hid (∀ W, Fr [tb] w6 W → _) := fun W hf => (show Made w L (txs ts) mark bs win (.returned (.tuple #[.pointer none, .pointer none, .pointer (some ⟨g, 0, none⟩), .bool true])) W from ⟨(HF0.out.then HF6.out).on hf (by intro k hk; simp at hk; have := HTb.out; have := HW1.out; omega), Or.inl ⟨_, rfl⟩⟩)
      clear HC hF6 a0 a1 a2
      go_wp2_with fail
      go_loopw [16] (fun ii wr => ∃ i : Nat, ii = .int .i64 i ∧ i ≤ M ∧ Hid (∃ cs : Array Value, wr.heap[tb]? = some (.cells cs 3 (0, 0)) ∧ cs.size = M + 1) ∧ Hid (Fr [tb] w6 wr)) (fun ii _ => M - (RowKit.intOf ii).toNat)
      case atStart => exact ⟨0, rfl, Nat.zero_le _, ⟨_, HRow6.out, by simp [intsT_length, HM.out]⟩, Fr.refl _ _⟩
      case round =>
        obtain ⟨i, rfl, hiM, HCs, HFw⟩ := hrel
        by_cases hil : i < M
        · obtain ⟨cs, hcs, hsz⟩ := HCs.out
          obtain ⟨u, hu⟩ : ∃ u, wr.cell? ⟨tb, i, none⟩ = some u := by
            rw [cell_of_row _ _ _ _ _ _ hcs]
            exact ⟨cs[i]'(by omega), by rw [Array.getElem?_eq_getElem]⟩
          have hz : wr.frozen? ⟨tb, i, none⟩ = false := by simp [World.frozen?, hcs]
          have HC2 : Hid (∃ cs : Array Value, (wr.setCell ⟨tb, i, none⟩ (.int .i64 (-77))).heap[tb]? = some (.cells cs 3 (0, 0)) ∧ cs.size = M + 1) := ⟨_, row_setCell _ hcs, by simpa using hsz⟩
          have HF2 : Hid (Fr [tb] w6 (wr.setCell ⟨tb, i, none⟩ (.int .i64 (-77)))) := HFw.out.then (Fr.set _ _ _ (by simp))
          clear hcs hsz HCs
          go_wp2
          go_roundw
          case rel => exact ⟨i + 1, by simp, by omega, HC2, HF2⟩
          case measure => simp [RowKit.intOf]; omega
        · obtain rfl : i = M := by omega
          go_wp2
          refine bodyPost_ret (results_tmp4 rfl _ _ _) rfl ?_
          exact HEnd.out wr HFw.out
  · have hcc : ((c : Int) != (c : Int)) = false := by simp
    clear hbad
    have HC : Hid (Calls _ _ _ _ _) := new_no ao L cap c ts w0 (HT.out _ (Fr.refl _ _)) HL.out HBD.out hc0
    go_wp2_with fail
    refine Calls.mono HC.out ?_
    rintro e w1 ⟨rfl, hF1⟩
    have HF1 : Hid (Fr [] w0 w1) := hF1
    clear hF1 HC
    have HC : Hid (Calls _ _ _ _ _) := yNew_no ao L cap c ts w1 (HT.out _ HF1.out) HL.out HBD.out hc0
    go_wp2_with fail
    refine Calls.mono HC.out ?_
    rintro e w2 ⟨rfl, hF2⟩
    have HF2 : Hid (Fr [] w0 w2) := HF1.out.then hF2
    clear hF2 HC
    obtain ⟨a0, a1, a2⟩ := HAc.out _ HF2.out
    have HC : Hid (Calls _ _ _ _ _) := HTw.out _ HF2.out
    go_wp2_with fail
    refine Calls.mono HC.out ?_
    rintro e w3 ⟨tb, rfl, htb, hrow, hF3⟩
    have HF3 : Hid (Fr [] w0 w3) := HF2.out.then hF3
    have HRow3 : Hid (w3.heap[tb]? = some (.cells (intsT (bs ++ [7777])).toArray 3 (0, 0))) := hrow
    have HTb : Hid (w2.heap.size ≤ tb) := htb
    have HT3 : Hid (IRs w3 (some ⟨tb, 0, none⟩) bs) := IRs.of_twin hrow HfM.out
    clear hrow htb hF3 HC a0 a1 a2
    obtain ⟨a0, a1, a2⟩ := HAc.out _ HF3.out
    have HC : Hid (Calls _ _ _ _ _) := fNew_none mark (.slice (some ⟨tb, 0, none⟩) M (M + 1)) win w3 (p := .pointer none) (Or.inl rfl)
    go_wp2_with fail
    refine Calls.mono HC.out ?_
    rintro e w4 ⟨rfl, hF4⟩
    have HF4 : Hid (Fr [] w0 w4) := HF3.out.then hF4
    have HRow4 : Hid (w4.heap[tb]? = some (.cells (intsT (bs ++ [7777])).toArray 3 (0, 0))) := hF4.keep HRow3.out (by simp)
    clear HC hF4 a0 a1 a2 HRow3
    obtain ⟨a0, a1, a2⟩ := HAc.out _ HF4.out
    have HC : Hid (Calls _ _ _ _ _) := yfNew_nil mark (.slice bo M bc) win w4
    go_wp2_with fail
    refine Calls.mono HC.out ?_
    rintro e w5 ⟨rfl, rfl⟩
    have HF5 : Hid (Fr [] w0 w4) := HF4
    have HRow5 : Hid (w4.heap[tb]? = some (.cells (intsT (bs ++ [7777])).toArray 3 (0, 0))) := HRow4
    have HW1 : Hid (w.heap.size ≤ w2.heap.size) := (HF0.out.then HF2.out).size
    clear HC a0 a1 a2
    obtain ⟨a0, a1, a2⟩ := HAc.out _ HF5.out
    have HC : Hid (Calls _ _ _ _ _) := HLf.out _ tb HF5.out HRow5.out
    go_wp2_with fail
    refine Calls.mono HC.out ?_
    rintro e w6 ⟨rfl, hF6⟩
    have HF6 : Hid (Fr [] w0 w6) := HF5.out.then hF6
    have HRow6 : Hid (w6.heap[tb]? = some (.cells (intsT (bs ++ [7777])).toArray 3 (0, 0))) := hF6.keep HRow5.out (by simp)
    have HEnd : Hid (∀ W, Fr [tb] w6 W → _) := fun W hf => (show Made w L (txs ts) mark bs win (.returned (.tuple #[.pointer none, .pointer none, .pointer none, .bool true])) W from ⟨(HF0.out.then HF6.out).on hf (by intro k hk; simp at hk; have := HTb.out; have := HW1.out; omega), Or.inl ⟨_, rfl⟩⟩)
    clear HC hF6 a0 a1 a2
    go_wp2_with fail
    go_loopw [16] (fun ii wr => ∃ i : Nat, ii = .int .i64 i ∧ i ≤ M ∧ Hid (∃ cs : Array Value, wr.heap[tb]? = some (.cells cs 3 (0, 0)) ∧ cs.size = M + 1) ∧ Hid (Fr [tb] w6 wr)) (fun ii _ => M - (RowKit.intOf ii).toNat)
    case atStart => exact ⟨0, rfl, Nat.zero_le _, ⟨_, HRow6.out, by simp [intsT_length, HM.out]⟩, Fr.refl _ _⟩
    case round =>
      obtain ⟨i, rfl, hiM, HCs, HFw⟩ := hrel
      by_cases hil : i < M
      · obtain ⟨cs, hcs, hsz⟩ := HCs.out
        obtain ⟨u, hu⟩ : ∃ u, wr.cell? ⟨tb, i, none⟩ = some u := by
          rw [cell_of_row _ _ _ _ _ _ hcs]
          exact ⟨cs[i]'(by omega), by rw [Array.getElem?_eq_getElem]⟩
        have hz : wr.frozen? ⟨tb, i, none⟩ = false := by simp [World.frozen?, hcs]
        have HC2 : Hid (∃ cs : Array Value, (wr.setCell ⟨tb, i, none⟩ (.int .i64 (-77))).heap[tb]? = some (.cells cs 3 (0, 0)) ∧ cs.size = M + 1) := ⟨_, row_setCell _ hcs, by simpa using hsz⟩
        have HF2 : Hid (Fr [tb] w6 (wr.setCell ⟨tb, i, none⟩ (.int .i64 (-77)))) := HFw.out.then (Fr.set _ _ _ (by simp))
        clear hcs hsz HCs
        go_wp2
        go_roundw
        case rel => exact ⟨i + 1, by simp, by omega, HC2, HF2⟩
        case measure => simp [RowKit.intOf]; omega
      · obtain rfl : i = M := by omega
        go_wp2
        refine bodyPost_ret (results_tmp4 rfl _ _ _) rfl ?_
        exact HEnd.out wr HFw.out
end Go.Proofs.Ytibgdfjfhjckoaa

/- What the first so many transactions come to: contract of come, with one key alone and with a stretch. Conditions as each names them. -/
import Derived.Test.YtakbodlicfmkjaaGreatEnt
namespace Go.Proofs.YtakbodlicfmkjaaGreat.Fo
open Go.ChangeShapes Go.WideShapes Go.ChangeAt Go.RowKit Go.Lib Go.Maps
set_option linter.unusedVariables false
set_option linter.unusedSimpArgs false

/-- What writes make of what is there, of the keys that are asked for. -/
def capply (Pk : ByteArray → Bool) (E : ByteArray → Option ByteArray) (x : Wt) : ByteArray → Option ByteArray := if Pk x.key = true then applyE E x else E
def capplys (Pk : ByteArray → Bool) (E : ByteArray → Option ByteArray) (ws : List Wt) : ByteArray → Option ByteArray := ws.foldl (capply Pk) E
def call (Pk : ByteArray → Bool) (E : ByteArray → Option ByteArray) (l : List Tx) : ByteArray → Option ByteArray := l.foldl (fun E t => capplys Pk E t.ws) E
theorem capplys_snoc (Pk : ByteArray → Bool) (E : ByteArray → Option ByteArray) (ws : List Wt) (x : Wt) : capplys Pk E (ws ++ [x]) = capply Pk (capplys Pk E ws) x := by simp [capplys]
theorem call_snoc (Pk : ByteArray → Bool) (E : ByteArray → Option ByteArray) (l : List Tx) (t : Tx) : call Pk E (l ++ [t]) = capplys Pk (call Pk E l) t.ws := by simp [call]
/-- What is told of the first so many: what is wrong. -/
def CoTold (l : List Tx) (f : Int) (c : Nat) : Prop := (Bad 1 l c ∧ c ≠ 0) ∨ (okL 1 l ∧ ¬ (0 ≤ f ∧ f ≤ (l.length : Int)) ∧ c = 1) ∨ (okL 1 l ∧ (0 ≤ f ∧ f ≤ (l.length : Int)) ∧ c = 0)
theorem CoTold.ex (l : List Tx) (f : Int) : ∃ c, CoTold l f c := by
  obtain ⟨c, hc⟩ := Bad.ex l 1
  by_cases h0 : c = 0
  · have hok := hc.ok.1 h0
    by_cases hb : 0 ≤ f ∧ f ≤ (l.length : Int)
    · exact ⟨0, Or.inr (Or.inr ⟨hok, hb, rfl⟩)⟩
    · exact ⟨1, Or.inr (Or.inl ⟨hok, hb, rfl⟩)⟩
  · exact ⟨c, Or.inl ⟨hc, h0⟩⟩
theorem slice_h7 (ab : Option Addr) (L cap J0 : Nat) (h2 : J0 ≤ cap) (h3 : ¬ cap = 0) (w : World) : (Instr.slice 24 (.slice ab L cap) none (some (.int .i64 (J0 : Int))) none).run Tryz.prog w = .ok (.slice ab J0 cap) w := by
  rw [run_slice_h w 24 _ _ _ Tryz.undTsE .i64 (J0 : Int) (by omega) (by omega), Tryz.elemTs, Tryz.sizeT]
  cases ab <;> simp [Result.andThen, sliced, h3, Addr.add]
theorem sliceAt_h7 (ab : Option Addr) (L cap J0 : Nat) (h2 : J0 ≤ cap) (h3 : ¬ cap = 0) (w : World) : (Instr.sliceAt 24 (.slice ab L cap) none (some (.int .i64 (J0 : Int))) none).run Tryz.prog w = .ok (.slice ab J0 cap) w := by
  rw [run_sliceAt_slice w 24 _ _ _ _ Tryz.undTsE]
  exact slice_h7 ab L cap J0 h2 h3 w
theorem slice_h0 (ab : Option Addr) (w : World) : (Instr.slice 24 (.slice ab 0 0) none (some (.int .i64 0)) none).run Tryz.prog w = .ok (.slice ab 0 0) w := by
  rw [run_slice_h w 24 _ _ _ Tryz.undTsE .i64 0 (by omega) (by omega), Tryz.elemTs, Tryz.sizeT]
  simp [Result.andThen, sliced]
theorem sliceAt_h0 (ab : Option Addr) (w : World) : (Instr.sliceAt 24 (.slice ab 0 0) none (some (.int .i64 0)) none).run Tryz.prog w = .ok (.slice ab 0 0) w := by
  rw [run_sliceAt_slice w 24 _ _ _ _ Tryz.undTsE]
  exact slice_h0 ab w
theorem sliceAt_any (ab : Option Addr) (L cap J0 : Nat) (h1 : L ≤ cap) (h2 : J0 ≤ L) (w : World) : (Instr.sliceAt 24 (.slice ab L cap) none (some (.int .i64 (J0 : Int))) none).run Tryz.prog w = .ok (.slice ab J0 cap) w := by
  by_cases h : cap = 0
  · subst h
    obtain rfl : L = 0 := by omega
    obtain rfl : J0 = 0 := by omega
    exact sliceAt_h0 ab w
  · exact sliceAt_h7 ab L cap J0 (by omega) h w

set_option maxHeartbeats 8000000 in
set_option maxRecDepth 100000 in
theorem comeS_no (ao : Option Addr) (L cap : Nat) (f : Int) (c : Nat) (ts : List Tm) (kb ke : Nat) (key0 en0 : ByteArray) (w : World) (hT : TRs w ao ts) (hLe : L = ts.length) (hf0 : -9223372036854775808 ≤ f) (hf1 : f ≤ 9223372036854775807) (h : CoTold (txs ts) f c) (hc : c ≠ 0) :
    Calls Tryz.prog 37 #[.slice ao L cap, .int .i64 f, .func (Fn.func 71) #[] #[.pointer (some ⟨kb, 0, none⟩), .pointer (some ⟨ke, 0, none⟩)]] w fun e w' => e = .returned (.tuple #[.map none, .int .i64 (c : Int)]) ∧ Fr [] w w' := by
  have HL : Hid (L = ts.length) := hLe
  rcases h with ⟨hb, h0⟩ | ⟨hok, hb, rfl⟩ | ⟨_, _, h0⟩
  · have HB : Hid (Bad 1 (txs ts) c) := hb
    have hcb : ((c : Int) != 0) = true := by rw [bne_iff_ne]; omega
    clear hb h0 hLe hc
    go_enter Tryz.func37, Tryz.ntmps37
    go_wp2_with fail
    refine (fcheck_any ao L cap c ts _ hT HL.out HB.out).mono ?_
    rintro e w1 ⟨rfl, hF1⟩
    go_wp2
    go_ret2
    exact ⟨rfl, hF1⟩
  · have HK : Hid (okL 1 (txs ts)) := hok
    have hL2 : L ≤ 65536 := by have := okL_few hok; rw [txs_length] at this; omega
    rw [txs_length, ← hLe] at hb
    clear hok hLe
    by_cases h1 : f < 0
    · have h1' : decide (f < 0) = true := by simpa using h1
      go_enter Tryz.func37, Tryz.ntmps37
      go_wp2_with fail
      refine (fcheck_any ao L cap 0 ts _ hT HL.out (okL_bad HK.out)).mono ?_
      rintro e w1 ⟨rfl, hF1⟩
      go_wp2
      go_ret2
      exact ⟨rfl, hF1⟩
    · have h3 : (L : Int) < f := by
        by_cases h3 : (L : Int) < f
        · exact h3
        · exact absurd ⟨by omega, by omega⟩ hb
      go_enter Tryz.func37, Tryz.ntmps37
      go_wp2_with fail
      refine (fcheck_any ao L cap 0 ts _ hT HL.out (okL_bad HK.out)).mono ?_
      rintro e w1 ⟨rfl, hF1⟩
      go_wp2
      go_ret2
      exact ⟨rfl, hF1⟩
  · exact absurd h0 hc
set_option maxHeartbeats 8000000 in
set_option maxRecDepth 100000 in
theorem comeS_ok (ao : Option Addr) (L cap f : Nat) (ts : List Tm) (kb ke : Nat) (key0 en0 : ByteArray) (w : World) (hT : TRs w ao ts) (hLe : L = ts.length) (hcap : L ≤ cap) (hk : SBox w kb key0) (he : SBox w ke en0) (hok : okL 1 (txs ts)) (hf : f ≤ L) :
    Calls Tryz.prog 37 #[.slice ao L cap, .int .i64 (f : Int), .func (Fn.func 71) #[] #[.pointer (some ⟨kb, 0, none⟩), .pointer (some ⟨ke, 0, none⟩)]] w fun e w' => ∃ b, e = .returned (.tuple #[.map (some b), .int .i64 0]) ∧ w.heap.size ≤ b ∧ MapE w' b 9000000 (call (inS key0 en0) (fun _ => none) ((txs ts).take f)) ∧ Fr [] w w' := by
  have HL : Hid (L = ts.length) := hLe
  have HK : Hid (okL 1 (txs ts)) := hok
  have hL2 : L ≤ 65536 := by have := okL_few hok; rw [txs_length] at this; omega
  have HNn : Hid (∀ t ∈ ts, t.L ≤ 32 ∧ ∀ x ∈ t.ws, x.key.size ≤ 64) := fun t ht => by
    have ho : okT t.n t.ws := okL_mem hok t.tx (List.mem_map.2 ⟨t, ht, rfl⟩)
    have ha := hT.each t ht
    exact ⟨by rw [ha.len]; exact ho.2.2.1, fun x hx => (ho.2.2.2 x hx).2.1⟩
  have hmm := @run_makeMap Tryz.prog
  have HI : Hid (∀ W, Fr [] w W → TRs W ao ts) := fun W hf => hT.keep hf
  have HKb : Hid (∀ W, Fr [] w W → SBox W kb key0) := fun W hf => hk.keep hf (by simp)
  have HKe : Hid (∀ W, Fr [] w W → SBox W ke en0) := fun W hf => he.keep hf (by simp)
  clear hk he
  have hfL : (f : Int) ≤ (L : Int) := by omega
  have hfn : ¬ ((f : Int) < 0) := by omega
  have hsl := sliceAt_any ao L cap f hcap hf
  clear hLe hok hT
  go_enter Tryz.func37, Tryz.ntmps37
  go_wp2_with fail
  refine (fcheck_any ao L cap 0 ts _ (HI.out _ (Fr.refl _ _)) HL.out (okL_bad HK.out)).mono ?_
  rintro e w0 ⟨rfl, hFc⟩
  have hM0 := MapE.made w0
  have hF0 : Fr [] w (w0.alloc (.map #[] 0)) := hFc.then (Fr.alloc [] w0 _)
  have hs0 := hFc.size
  clear hFc
  go_wp2_with fail
  obtain ⟨b, hb⟩ : ∃ b, b = w0.heap.size := ⟨_, rfl⟩
  rw [← hb] at hM0 ⊢
  have hbw : w.heap.size ≤ b := by omega
  have hd1 : decide ((f : Int) < 0) = false := by simp
  have hd2 : decide (L < f) = false := by simp; omega
  clear hb
  simp only [hd1, hd2, Bool.or_self]
  go_loopw [32] (fun ii wr => ∃ (i : Nat) (E : ByteArray → Option ByteArray), ii = .int .i64 i ∧ i ≤ f ∧ Hid (MapE wr b (32 * i) E) ∧ Hid (E = call (inS key0 en0) (fun _ => none) (txs (ts.take i))) ∧ Fr [] w wr) (fun ii _ => f - (intOf ii).toNat)
  case atStart => exact ⟨0, _, rfl, Nat.zero_le _, hM0, by simp [Hid, call, txs], hF0⟩
  case round =>
    obtain ⟨i, E, rfl, hiL, HM, HFe, hFr⟩ := hrel
    by_cases hi : i < f
    · have hi' : i < ts.length := by rw [← HL.out]; omega
      have hTr := HI.out _ hFr
      obtain ⟨bb, off, rfl, _, hc⟩ := hTr.lies (by omega)
      have hx := hc i hi'
      have HAt : Hid (∀ W, Fr [] w W → (ts.getD i Tm.zero).at W) := fun W hf => (HI.out W hf).each _ (tgetD_mem ts i hi')
      have hnx := HNn.out _ (tgetD_mem ts i hi')
      have HTx : Hid (txs (ts.take (i + 1)) = txs (ts.take i) ++ [(ts.getD i Tm.zero).tx]) := ttx_get hi'
      obtain ⟨x, hxx⟩ : ∃ x, x = ts.getD i Tm.zero := ⟨_, rfl⟩
      rw [← hxx] at hx HAt hnx HTx
      clear hxx hc hTr
      obtain ⟨n, xo, M, cm, ws⟩ := x
      obtain ⟨c0, c1⟩ := hx
      simp only at c0 c1 hnx
      obtain ⟨hM32, hks⟩ := hnx
      have HKs : Hid (∀ x ∈ ws, x.key.size ≤ 64) := hks
      have HMl : Hid (M = ws.length) := (HAt.out wr hFr).len
      obtain ⟨w1, HW1⟩ : ∃ w1, Hid (wr.alloc (.cells #[.int .i64 n, .slice xo M cm] 59) = w1) := ⟨_, rfl⟩
      obtain ⟨B7, HB7⟩ : ∃ B7, Hid (B7 = wr.heap.size) := ⟨_, rfl⟩
      have hF1 : Fr [] wr w1 := by rw [← HW1.out]; exact Fr.alloc [] wr _
      have hbx : w1.heap[B7]? = some (.cells #[.int .i64 n, .slice xo M cm] 59 (0, 0)) := by rw [← HW1.out, HB7.out]; exact heap_alloc_new wr _
      have hG1 := hFr.then hF1
      have hbB : b ≠ B7 := by have := HM.out.lt; rw [HB7.out]; omega
      have HM1 : Hid (MapE w1 b (32 * i) E) := HM.out.keep hF1 (by simp)
      have k1 : w1.cell? ⟨B7, 1, none⟩ = some (.slice xo M cm) := by rw [cell_of_row _ _ _ _ _ _ hbx]; rfl
      clear hF1 hbx HM hks
      go_upto_region 10 with fail
      rw [HW1.out, ← HB7.out]
      clear c0 c1 HW1 HB7 hFr
      go_wp2_with fail
      go_loopw [39] (fun jj wr => ∃ (j : Nat) (E2 : ByteArray → Option ByteArray), jj = .int .i64 j ∧ j ≤ M ∧ Hid (MapE wr b (32 * i + j) E2) ∧ Hid (E2 = capplys (inS key0 en0) E (ws.take j)) ∧ Fr [b] w1 wr) (fun jj _ => M - (intOf jj).toNat)
      case atStart => exact ⟨0, E, rfl, Nat.zero_le _, HM1, by simp [Hid, capplys], Fr.refl _ _⟩
      case round =>
        obtain ⟨j, E2, rfl, hjM, HM2, HFe2, hFr2⟩ := hrel
        have hGr : Fr [] w wr := hG1.on hFr2 (by intro x hx; simp at hx; omega)
        by_cases hj : j < M
        · have hj' : j < ws.length := by rw [← HMl.out]; exact hj
          have hat : TArg wr n xo M cm ws := HAt.out _ hGr
          obtain ⟨b2, o2, rfl, _, hc2⟩ := hat.rs.lies (by omega)
          obtain ⟨d0, d1, d2⟩ := hc2 j hj'
          have hkz := HKs.out _ (wgetD_mem ws j hj')
          have HTk : Hid (ws.take (j + 1) = ws.take j ++ [ws.getD j Wt.zero]) := wtake_snoc ws j hj'
          obtain ⟨y, hyy⟩ : ∃ y, y = ws.getD j Wt.zero := ⟨_, rfl⟩
          rw [← hyy] at d0 d1 d2 HTk hkz
          clear hyy hc2 hat
          obtain ⟨key, val, drop⟩ := y
          simp only at d0 d1 d2 hkz
          obtain ⟨w3, HW3⟩ : ∃ w3, Hid (wr.alloc (.cells #[.string key, .string val, .bool drop] 56) = w3) := ⟨_, rfl⟩
          obtain ⟨B9, HB9⟩ : ∃ B9, Hid (B9 = wr.heap.size) := ⟨_, rfl⟩
          have hF3 : Fr [] wr w3 := by rw [← HW3.out]; exact Fr.alloc [] wr _
          have hby : w3.heap[B9]? = some (.cells #[.string key, .string val, .bool drop] 56 (0, 0)) := by rw [← HW3.out, HB9.out]; exact heap_alloc_new wr _
          have hG3 : Fr [b] w1 w3 := hFr2.then (hF3.mono (by simp))
          have hGr3 : Fr [] w w3 := hGr.then hF3
          have HM3 : Hid (MapE w3 b (32 * i + j) E2) := HM2.out.keep hF3 (by simp)
          have e0 : w3.cell? ⟨B9, 0, none⟩ = some (.string key) := by rw [cell_of_row _ _ _ _ _ _ hby]; rfl
          obtain ⟨R, HR⟩ : ∃ R : Bool, Hid (R = (inS key0 en0) key) := ⟨_, rfl⟩
          have HAsk : Hid _ := stretch1_any kb ke key0 en0 key R w3 (HKb.out _ hGr3) (HKe.out _ hGr3) HR.out
          clear HM2 hF3
          go_upto_region 13 with fail
          rw [HW3.out, ← HB9.out]
          clear d0 d1 d2 HW3 HB9 hGr
          go_wp2_with fail
          refine Calls.mono HAsk.out ?_
          rintro e w4 ⟨rfl, hF4⟩
          have hby4 := hF4.keep hby (by simp)
          have f0 : w4.cell? ⟨B9, 0, none⟩ = some (.string key) := by rw [cell_of_row _ _ _ _ _ _ hby4]; rfl
          have f1 : w4.cell? ⟨B9, 1, none⟩ = some (.string val) := by rw [cell_of_row _ _ _ _ _ _ hby4]; rfl
          have f2 : w4.cell? ⟨B9, 2, none⟩ = some (.bool drop) := by rw [cell_of_row _ _ _ _ _ _ hby4]; rfl
          have hG4 : Fr [b] w1 w4 := hG3.then (hF4.mono (by simp))
          have HM4 : Hid (MapE w4 b (32 * i + j) E2) := HM3.out.keep hF4 (by simp)
          clear HAsk hby hby4 e0 HM3 hG3 hF4 hGr3
          cases R with
          | true =>
            have HNt : Hid _ := apply_any b (32 * i + j) E2 key val drop w4 HM4.out hkz (by omega)
            have HS : Hid (applyE E2 ⟨key, val, drop⟩ = capplys (inS key0 en0) E (ws.take (j + 1))) := by
              show _ = _
              rw [HTk.out, capplys_snoc, ← HFe2.out]
              unfold capply
              rw [if_pos HR.out.symm]
            clear HM4
            go_wp2_with fail
            refine Calls.mono HNt.out ?_
            rintro e w5 ⟨rfl, hM5, hF5⟩
            have HM5 : Hid (MapE w5 b (32 * i + (j + 1)) (applyE E2 ⟨key, val, drop⟩)) := hM5.mono (by omega)
            have hG5 := hG4.then hF5
            clear hM5 hF5 HNt hG4 f0 f1 f2
            go_wp2
            go_roundw
            case rel => exact ⟨j + 1, _, by simp, by omega, HM5, HS, hG5⟩
            case measure => simp [intOf]; omega
          | false =>
            have HS : Hid (E2 = capplys (inS key0 en0) E (ws.take (j + 1))) := by
              show _ = _
              rw [HTk.out, capplys_snoc, ← HFe2.out]
              unfold capply
              rw [if_neg (fun h => Bool.noConfusion (HR.out.trans h))]
            have HM5 : Hid (MapE w4 b (32 * i + (j + 1)) E2) := HM4.out.mono (by omega)
            clear HM4 f0 f1 f2
            go_wp2
            go_roundw
            case rel => exact ⟨j + 1, E2, by simp, by omega, HM5, HS, hG4⟩
            case measure => simp [intOf]; omega
        · have HM5 : Hid (MapE wr b (32 * (i + 1)) E2) := HM2.out.mono (by omega)
          have HS : Hid (E2 = call (inS key0 en0) (fun _ => none) (txs (ts.take (i + 1)))) := by
            show _ = _
            rw [HTx.out, call_snoc, ← HFe.out, HFe2.out, List.take_of_length_le (by rw [← HMl.out]; omega)]
            rfl
          clear HM2
          go_wp2
          go_roundw
          case rel => exact ⟨i + 1, E2, by simp, by omega, HM5, HS, hGr⟩
          case measure => simp [intOf]; omega
    · obtain rfl : i = f := by omega
      have HS : Hid (E = call (inS key0 en0) (fun _ => none) ((txs ts).take i)) := by
        show _ = _
        rw [HFe.out, txs_take]
      have HM5 : Hid (MapE wr b 9000000 E) := HM.out.mono (by omega)
      clear HM
      go_wp2
      go_ret2
      exact ⟨b, rfl, hbw, by rw [← HS.out]; exact HM5.out, hFr⟩
end Go.Proofs.YtakbodlicfmkjaaGreat.Fo

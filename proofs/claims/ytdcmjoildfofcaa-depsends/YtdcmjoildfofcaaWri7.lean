/- Who wrote which key: contract of writers, with one key alone and with a stretch. Conditions as each names them. -/
import Derived.Test.YtdcmjoildfofcaaAsk7
namespace Go.Proofs.Ytdcmjoildfofcaa
open Go.ChangeShapes Go.WideShapes Go.ChangeAt Go.RowKit Go.Lib Go.Maps
set_option linter.unusedVariables false
set_option linter.unusedSimpArgs false

/-- What a write makes of the map; what the writes of a transaction make of it; and what transactions do. -/
def wnote (Pk : ByteArray → Bool) (n : Int) (F : ByteArray → Int → Int) (x : Wt) : ByteArray → Int → Int := if Pk x.key = true then noteF F x.key n else F
def wnotes (Pk : ByteArray → Bool) (n : Int) (F : ByteArray → Int → Int) (ws : List Wt) : ByteArray → Int → Int := ws.foldl (wnote Pk n) F
def wall (Pk : ByteArray → Bool) (F : ByteArray → Int → Int) (l : List Tx) : ByteArray → Int → Int := l.foldl (fun F t => wnotes Pk t.n F t.ws) F
theorem wnotes_snoc (Pk : ByteArray → Bool) (n : Int) (F : ByteArray → Int → Int) (ws : List Wt) (x : Wt) : wnotes Pk n F (ws ++ [x]) = wnote Pk n (wnotes Pk n F ws) x := by simp [wnotes]
theorem wall_snoc (Pk : ByteArray → Bool) (F : ByteArray → Int → Int) (l : List Tx) (t : Tx) : wall Pk F (l ++ [t]) = wnotes Pk t.n (wall Pk F l) t.ws := by simp [wall]
/-- Its numbers are small. -/
def LowF (F : ByteArray → Int → Int) : Prop := ∀ s m, 0 ≤ F s m ∧ F s m ≤ 65536
theorem LowF.zero : LowF (fun _ _ => 0) := fun s m => by simp
theorem LowF.upd {F : ByteArray → Int → Int} (h : LowF F) {s : ByteArray} {m v : Int} (h0 : 0 ≤ v) (h1 : v ≤ 65536) : LowF (upd F s m v) := by
  intro s' m'
  unfold Go.Proofs.Ytdcmjoildfofcaa.upd
  split
  · exact ⟨h0, h1⟩
  · exact h s' m'
theorem LowF.note {F : ByteArray → Int → Int} (h : LowF F) {s : ByteArray} {k : Int} (h0 : 0 ≤ k) (h1 : k ≤ 65536) : LowF (noteF F s k) := by
  unfold noteF
  split
  · exact h
  · exact (h.upd (h s 0).1 (h s 0).2).upd h0 h1
theorem ttx_get {ts : List Tm} {i : Nat} (h : i < ts.length) : txs (ts.take (i + 1)) = txs (ts.take i) ++ [(ts.getD i Tm.zero).tx] := by rw [ttake_snoc ts i h, txs_append]; rfl

set_option maxHeartbeats 8000000 in
set_option maxRecDepth 100000 in
theorem writersS_any (ao : Option Addr) (L cap : Nat) (ts : List Tm) (kb ke : Nat) (key0 en0 : ByteArray) (w : World) (hT : TRs w ao ts) (hLe : L = ts.length) (hk : SBox w kb key0) (he : SBox w ke en0) (hnn : ∀ t ∈ ts, 0 ≤ t.n ∧ t.n ≤ 65536 ∧ t.L ≤ 32 ∧ ∀ x ∈ t.ws, x.key.size ≤ 64) (hLs : L ≤ 65536) :
    Calls Try.prog 29 #[.slice ao L cap, .func (Fn.func 39) #[] #[.pointer (some ⟨kb, 0, none⟩), .pointer (some ⟨ke, 0, none⟩)]] w fun e w' => ∃ b, e = .returned (.map (some b)) ∧ w.heap.size ≤ b ∧ MapF w' b 9000000 (wall (inS key0 en0) (fun _ _ => 0) (txs ts)) ∧ Fr [] w w' := by
  have HL : Hid (L = ts.length) := hLe
  have HNn : Hid (∀ t ∈ ts, 0 ≤ t.n ∧ t.n ≤ 65536 ∧ t.L ≤ 32 ∧ ∀ x ∈ t.ws, x.key.size ≤ 64) := hnn
  have hmm := @run_makeMap Try.prog
  have HI : Hid (∀ W, Fr [] w W → TRs W ao ts) := fun W hf => hT.keep hf
  have HK : Hid (∀ W, Fr [] w W → SBox W kb key0) := fun W hf => hk.keep hf (by simp)
  have HKe : Hid (∀ W, Fr [] w W → SBox W ke en0) := fun W hf => he.keep hf (by simp)
  clear hk he
  have hM0 := MapF.made w
  have hF0 : Fr [] w (w.alloc (.map #[] 0)) := Fr.alloc [] w _
  clear hLe hnn hT
  go_enter Try.func29, Try.ntmps29
  go_wp2_with fail
  obtain ⟨b, hb⟩ : ∃ b, b = w.heap.size := ⟨_, rfl⟩
  rw [← hb] at hM0 ⊢
  have hbw : w.heap.size ≤ b := by omega
  clear hb
  go_loopw [13] (fun ii wr => ∃ (i : Nat) (F : ByteArray → Int → Int), ii = .int .i64 i ∧ i ≤ L ∧ Hid (MapF wr b (64 * i) F) ∧ Hid (LowF F) ∧ Hid (F = wall (inS key0 en0) (fun _ _ => 0) (txs (ts.take i))) ∧ Fr [] w wr) (fun ii _ => L - (intOf ii).toNat)
  case atStart => exact ⟨0, _, rfl, Nat.zero_le _, hM0, LowF.zero, by simp [Hid, wall, txs], hF0⟩
  case round =>
    obtain ⟨i, F, rfl, hiL, HM, HLo, HFe, hFr⟩ := hrel
    by_cases hi : i < L
    · have hi' : i < ts.length := by rw [← HL.out]; exact hi
      have hTr := HI.out _ hFr
      obtain ⟨bb, off, rfl, _, hc⟩ := hTr.lies (by omega)
      have hx := hc i hi'
      have HAt : Hid (∀ W, Fr [] w W → (ts.getD i Tm.zero).at W) := fun W hf => (HI.out W hf).each _ (tgetD_mem ts i hi')
      have hnx := HNn.out _ (tgetD_mem ts i hi')
      have HTx : Hid (txs (ts.take (i + 1)) = txs (ts.take i) ++ [(ts.getD i Tm.zero).tx]) := ttx_get hi'
      obtain ⟨x, hxx⟩ : ∃ x, x = ts.getD i Tm.zero := ⟨_, rfl⟩
      rw [← hxx] at hx HAt hnx HTx
      clear hxx hc hTr
      obtain ⟨n, xo, M, cm, ws⟩ := x
      obtain ⟨c0, c1⟩ := hx
      simp only at c0 c1 hnx
      obtain ⟨hn0, hn1, hM32, hks⟩ := hnx
      have HKs : Hid (∀ x ∈ ws, x.key.size ≤ 64) := hks
      have HMl : Hid (M = ws.length) := (HAt.out wr hFr).len
      obtain ⟨w1, HW1⟩ : ∃ w1, Hid (wr.alloc (.cells #[.int .i64 n, .slice xo M cm] 31) = w1) := ⟨_, rfl⟩
      obtain ⟨B7, HB7⟩ : ∃ B7, Hid (B7 = wr.heap.size) := ⟨_, rfl⟩
      have hF1 : Fr [] wr w1 := by rw [← HW1.out]; exact Fr.alloc [] wr _
      have hbx : w1.heap[B7]? = some (.cells #[.int .i64 n, .slice xo M cm] 31 (0, 0)) := by rw [← HW1.out, HB7.out]; exact heap_alloc_new wr _
      have hG1 := hFr.then hF1
      have hbB : b ≠ B7 := by have := HM.out.lt; rw [HB7.out]; omega
      have HM1 : Hid (MapF w1 b (64 * i) F) := HM.out.keep hF1 (by simp)
      have HBx : Hid (∀ W, Fr [b] w1 W → W.cell? ⟨B7, 0, none⟩ = some (.int .i64 n) ∧ W.cell? ⟨B7, 1, none⟩ = some (.slice xo M cm)) := fun W hf => by
        have hb := hf.keep hbx (by simp; exact fun h => hbB h.symm)
        exact ⟨by rw [cell_of_row _ _ _ _ _ _ hb]; rfl, by rw [cell_of_row _ _ _ _ _ _ hb]; rfl⟩
      obtain ⟨k0, k1⟩ := HBx.out _ (Fr.refl _ _)
      clear hF1 hbx HM hks
      go_upto_region 5 with fail
      rw [HW1.out, ← HB7.out]
      clear c0 c1 HW1 HB7 hFr
      go_wp2_with fail
      go_loopw [20] (fun jj wr => ∃ (j : Nat) (F2 : ByteArray → Int → Int), jj = .int .i64 j ∧ j ≤ M ∧ Hid (MapF wr b (64 * i + 2 * j) F2) ∧ Hid (LowF F2) ∧ Hid (F2 = wnotes (inS key0 en0) n F (ws.take j)) ∧ Fr [b] w1 wr) (fun jj _ => M - (intOf jj).toNat)
      case atStart => exact ⟨0, F, rfl, Nat.zero_le _, HM1, HLo, by simp [Hid, wnotes], Fr.refl _ _⟩
      case round =>
        obtain ⟨j, F2, rfl, hjM, HM2, HLo2, HFe2, hFr2⟩ := hrel
        have hGr : Fr [] w wr := hG1.on hFr2 (by intro x hx; simp at hx; omega)
        by_cases hj : j < M
        · have hj' : j < ws.length := by rw [← HMl.out]; exact hj
          have hat : TArg wr n xo M cm ws := HAt.out _ hGr
          obtain ⟨b2, o2, rfl, _, hc2⟩ := hat.rs.lies (by omega)
          obtain ⟨d0, d1, d2⟩ := hc2 j hj'
          have hkz := HKs.out _ (wgetD_mem ws j hj')
          have HTk : Hid (ws.take (j + 1) = ws.take j ++ [ws.getD j Wt.zero]) := wtake_snoc ws j hj'
          obtain ⟨y, hyy⟩ : ∃ y, y = ws.getD j Wt.zero := ⟨_, rfl⟩
          rw [← hyy] at d0 d1 d2 HTk hkz
          clear hyy hc2 hat
          obtain ⟨key, val, drop⟩ := y
          simp only at d0 d1 d2 hkz
          obtain ⟨w3, HW3⟩ : ∃ w3, Hid (wr.alloc (.cells #[.string key, .string val, .bool drop] 47) = w3) := ⟨_, rfl⟩
          obtain ⟨B9, HB9⟩ : ∃ B9, Hid (B9 = wr.heap.size) := ⟨_, rfl⟩
          have hF3 : Fr [] wr w3 := by rw [← HW3.out]; exact Fr.alloc [] wr _
          have hby : w3.heap[B9]? = some (.cells #[.string key, .string val, .bool drop] 47 (0, 0)) := by rw [← HW3.out, HB9.out]; exact heap_alloc_new wr _
          have hG3 : Fr [b] w1 w3 := hFr2.then (hF3.mono (by simp))
          have hGr3 : Fr [] w w3 := hGr.then hF3
          have HM3 : Hid (MapF w3 b (64 * i + 2 * j) F2) := HM2.out.keep hF3 (by simp)
          have e0 : w3.cell? ⟨B9, 0, none⟩ = some (.string key) := by rw [cell_of_row _ _ _ _ _ _ hby]; rfl
          obtain ⟨R, HR⟩ : ∃ R : Bool, Hid (R = (inS key0 en0) key) := ⟨_, rfl⟩
          have HAsk : Hid _ := stretch1_any kb ke key0 en0 key R w3 (HK.out _ hGr3) (HKe.out _ hGr3) HR.out
          clear HM2 hF3
          go_upto_region 8 with fail
          rw [HW3.out, ← HB9.out]
          clear d0 d1 d2 HW3 HB9 hGr
          go_wp2_with fail
          refine Calls.mono HAsk.out ?_
          rintro e w4 ⟨rfl, hF4⟩
          have hby4 := hF4.keep hby (by simp)
          have f0 : w4.cell? ⟨B9, 0, none⟩ = some (.string key) := by rw [cell_of_row _ _ _ _ _ _ hby4]; rfl
          have hG4 : Fr [b] w1 w4 := hG3.then (hF4.mono (by simp))
          obtain ⟨q0, q1⟩ := HBx.out _ hG4
          have HM4 : Hid (MapF w4 b (64 * i + 2 * j) F2) := HM3.out.keep hF4 (by simp)
          clear HAsk hby hby4 e0 HM3 hG3 hF4 hGr3
          cases R with
          | true =>
            have hlo := HLo2.out key 0
            have HNt : Hid _ := note_any b (64 * i + 2 * j) F2 key n w4 HM4.out (by omega) hn0 (by omega) hlo.1 (by omega) (by omega)
            have HS : Hid (noteF F2 key n = wnotes (inS key0 en0) n F (ws.take (j + 1))) := by
              show _ = _
              rw [HTk.out, wnotes_snoc, ← HFe2.out]
              unfold wnote
              rw [if_pos HR.out.symm]
            clear hlo HM4
            go_wp2_with fail
            refine Calls.mono HNt.out ?_
            rintro e w5 ⟨rfl, hM5, hF5⟩
            have HM5 : Hid (MapF w5 b (64 * i + 2 * (j + 1)) (noteF F2 key n)) := hM5.mono (by omega)
            have hG5 := hG4.then hF5
            clear hM5 hF5 HNt hG4 f0 q0 q1
            go_wp2
            go_roundw
            case rel => exact ⟨j + 1, _, by simp, by omega, HM5, HLo2.out.note hn0 (by omega), HS, hG5⟩
            case measure => simp [intOf]; omega
          | false =>
            have HS : Hid (F2 = wnotes (inS key0 en0) n F (ws.take (j + 1))) := by
              show _ = _
              rw [HTk.out, wnotes_snoc, ← HFe2.out]
              unfold wnote
              rw [if_neg (fun h => Bool.noConfusion (HR.out.trans h))]
            have HM5 : Hid (MapF w4 b (64 * i + 2 * (j + 1)) F2) := HM4.out.mono (by omega)
            clear HM4 f0 q0 q1
            go_wp2
            go_roundw
            case rel => exact ⟨j + 1, F2, by simp, by omega, HM5, HLo2, HS, hG4⟩
            case measure => simp [intOf]; omega
        · have HM5 : Hid (MapF wr b (64 * (i + 1)) F2) := HM2.out.mono (by omega)
          have HS : Hid (F2 = wall (inS key0 en0) (fun _ _ => 0) (txs (ts.take (i + 1)))) := by
            show _ = _
            rw [HTx.out, wall_snoc, ← HFe.out, HFe2.out, List.take_of_length_le (by rw [← HMl.out]; omega)]
            rfl
          clear HM2
          go_wp2
          go_roundw
          case rel => exact ⟨i + 1, F2, by simp, by omega, HM5, HLo2, HS, hGr⟩
          case measure => simp [intOf]; omega
    · have HS : Hid (F = wall (inS key0 en0) (fun _ _ => 0) (txs ts)) := by
        show _ = _
        rw [HFe.out, List.take_of_length_le (by rw [← HL.out]; omega)]
      have HM5 : Hid (MapF wr b 9000000 F) := HM.out.mono (by omega)
      clear HM
      go_wp2
      go_ret
      exact ⟨b, rfl, hbw, by rw [← HS.out]; exact HM5.out, hFr⟩
end Go.Proofs.Ytdcmjoildfofcaa

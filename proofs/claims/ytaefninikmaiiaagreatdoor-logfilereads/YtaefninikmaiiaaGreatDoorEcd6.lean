/- A log as bytes: contracts of CRC, put and Encode. Conditions as each names them. -/
import Derived.Test.YtaefninikmaiiaaGreatDoorChk6
namespace Go.Proofs.YtaefninikmaiiaaGreatDoor
open Go.ChangeShapes Go.WideShapes Go.ChangeAt Go.RowKit Go.Lib
set_option linter.unusedVariables false

theorem row_arg {w : World} {k N : Nat} {ys : List Nat} (h : w.heap[k]? = some (.cells (bts ys).toArray 5 (0, 0))) (hN : N = ys.length) (hl : ∀ y ∈ ys, y < 256) (hm : N < 2^40) : BArg w (some ⟨k, 0, none⟩) N N ys :=
  ⟨hN, hl, Nat.le_refl _, by omega, fun _ => ⟨k, 0, rfl, lt_of_block h, fun j hj => by rw [cell_of_row _ _ _ _ _ _ h, Nat.zero_add]; simpa using bts_get ys j (by omega)⟩⟩
theorem arg_take {w : World} {k N : Nat} {ys : List Nat} (h : BArg w (some ⟨k, 0, none⟩) N N ys) (m : Nat) (hm : m ≤ N) : BArg w (some ⟨k, 0, none⟩) m N (ys.take m) := by
  have hN := h.len
  refine ⟨by rw [List.length_take]; omega, fun x hx => h.low x (List.mem_of_mem_take hx), by have := h.fits; omega, by have := h.most; omega, fun h0 => ?_⟩
  obtain ⟨b, off, e, hb, hc⟩ := h.lies (by omega)
  refine ⟨b, off, e, hb, fun j hj => ?_⟩
  rw [hc j (by omega)]
  simp [List.getD, hj]

set_option maxHeartbeats 2000000 in
theorem crc_any (m : Nat) (ao : Option Addr) (L cap : Nat) (xs : List Nat) (w : World) (hA : BArg w ao L cap xs) (hm : crcN xs = m) :
    Calls Tryz.prog 106 #[.slice ao L cap] w fun e w' => e = .returned (.int .u32 (m : Int)) ∧ Fr [] w w' := by
  have HM : Hid (more 0 xs = m) := hm
  clear hm
  have hC := more_any 0 m ao L cap xs w (by omega) hA HM.out
  rw [show ((0 : Nat) : Int) = 0 from rfl] at hC
  go_enter Tryz.func106, Tryz.ntmps106
  go_wp2_with fail
  refine hC.mono ?_
  rintro e w1 ⟨rfl, hF⟩
  go_wp2
  go_ret
  exact ⟨rfl, hF⟩

theorem Wr.far {w : World} {g : Nat} {v : Value} {xs : List Nat} (h : Wr w g v xs) {k : Nat} (hk : w.heap.size ≤ k) : k ∉ Wr.own g v := by
  have h1 := h.lt
  intro hh
  simp only [Wr.own, List.mem_cons, Option.mem_toList] at hh
  rcases hh with hh | hh
  · omega
  · have := h.rowlt k hh; omega

set_option maxHeartbeats 4000000 in
set_option maxRecDepth 100000 in
theorem lput_any (g : Nat) (v : Value) (xs zs : List Nat) (n : Int) (ao : Option Addr) (L cap : Nat) (ws : List Wt) (w : World) (h : Wr w g v xs) (ht : TArg w n ao L cap ws) (hok : okT n ws) (hlen : xs.length < 2^39) (hz : zs = xs ++ encR ⟨n, ws⟩) :
    Calls Tryz.prog 42 #[.pointer (some ⟨g, 0, none⟩), .agg #[.int .i64 n, .slice ao L cap]] w fun e w' => e = .returned (.tuple #[]) ∧ ∃ v', Wr w' g v' zs ∧ Fr (Wr.own g v) w w' ∧ Moved w.heap.size v v' := by
  have HZ : Hid (zs = xs ++ encR ⟨n, ws⟩) := hz
  have HL : Hid (L = ws.length) := ht.len
  have HK : Hid (okT n ws) := hok
  have hyl : 2 ≤ (encT n.toNat ws).length ∧ (encT n.toNat ws).length ≤ 65000 := encT_length n.toNat ws (Tx.okN (t := ⟨n, ws⟩) hok)
  have hylt := encT_lt n.toNat ws
  obtain ⟨ys, hys⟩ : ∃ ys, ys = encT n.toNat ws := ⟨_, rfl⟩
  rw [← hys] at hyl hylt
  have HY : Hid (ys = encT n.toNat ws) := hys
  obtain ⟨N, hN⟩ : ∃ N, N = ys.length := ⟨_, rfl⟩
  have HN : Hid (N = ys.length) := hN
  have hN1 : N ≤ 65000 := by omega
  clear hz hok hys hyl hN
  have hF0 : Fr [] w (w.alloc (.cells #[.int .i64 n, .slice ao L cap] 63)) := Fr.alloc _ _ _
  have hW0 := ht.rs.keep hF0
  have h0 := h.keep hF0 (by simp) (by simp)
  have hs0 : w.heap.size ≤ (w.alloc (.cells #[.int .i64 n, .slice ao L cap] 63)).heap.size := hF0.size
  obtain ⟨w0, HW0⟩ : ∃ w0, Hid (w.alloc (.cells #[.int .i64 n, .slice ao L cap] 63) = w0) := ⟨_, rfl⟩
  rw [HW0.out] at hF0 hW0 h0 hs0
  go_enter Tryz.func42, Tryz.ntmps42
  go_wp2_with fail
  rw [HW0.out]
  refine (encode_ok n ao L cap N ws ys _ hW0 HL.out HK.out HY.out HN.out).mono ?_
  rintro e w1 ⟨k, rfl, hk, hrow, hF1⟩
  have h1 := h0.keep hF1 (by simp) (by simp)
  have hA1 := row_arg hrow HN.out hylt (by omega)
  have hconv : Sem.run Tryz.prog (convert 26 9 (.slice (some ⟨k, 0, none⟩) N N)) w1 = .ok (.string (toBA ys)) w1 := conv_eq w1 k 0 N N ys HN.out.symm (fun j hj => by
    obtain ⟨b, off, e, _, hc⟩ := hA1.lies (by omega)
    cases e
    exact hc j hj)
  have hG1 := hF0.then hF1
  have hk0 : k ∉ Wr.own g v := h0.far hk
  clear hA1 hF1 hF0 h0
  have hsz : (toBA ys).size < 2 ^ 40 := by have := HN.out; rw [toBA_size]; omega
  obtain ⟨s, hs⟩ : ∃ s, s = toBA ys := ⟨_, rfl⟩
  have HS : Hid (s = toBA ys) := hs
  rw [← hs] at hconv hsz
  clear hs
  go_wp2_with fail
  refine (text_any g v xs s _ h1 (by omega) hsz).mono ?_
  rintro e w2 ⟨rfl, v2, hW2, hF2, hM2⟩
  have hrow2 := hF2.keep hrow hk0
  have hA2 := row_arg hrow2 HN.out hylt (by omega)
  obtain ⟨_, hG2, hMM2⟩ := Wr.chain (hG1.mono (by simp) : Fr (Wr.own g v) w w1) (Moved.refl _ _) hW2 hF2 hM2
  obtain ⟨us, hus⟩ : ∃ us, us = xs ++ (enc s.size ++ strNs s) := ⟨_, rfl⟩
  have hul : us.length < 2^40 := by
    have := enc_length s.size
    rw [hus, List.length_append, List.length_append, strNs_length, HS.out, toBA_size]
    rw [HS.out, toBA_size] at this
    have := HN.out
    omega
  rw [← hus] at hW2
  have HU : Hid (us = xs ++ (enc s.size ++ strNs s)) := hus
  obtain ⟨m, hm⟩ : ∃ m, crcN ys = m := ⟨_, rfl⟩
  have hml : m < 4294967296 := by rw [← hm]; exact crcN_lt ys
  have HM : Hid (crcN ys = m) := hm
  have hfit : (m : Int) / 2 ^ (8 * (4 : Int)).toNat = 0 := by
    rw [show (8 * (4 : Int)).toNat = 32 from rfl]
    omega
  clear hus hm hconv hsz h1 hG1 hF2 hM2 hrow hrow2
  go_wp2_with fail
  refine (crc_any m (some ⟨k, 0, none⟩) N N ys _ hA2 HM.out).mono ?_
  rintro e w3 ⟨rfl, hF3⟩
  have hW3 := hW2.keep hF3 (by simp) (by simp)
  have hG3 := hG2.then (hF3.mono (by simp))
  have hMM3 := hMM2
  clear hA2 hF3 hW2 hG2
  go_wp2_with fail
  refine (fixed_any g v2 us (m : Int) 4 _ hW3 (by omega) (by omega) (by decide) (by decide) hfit hul).mono ?_
  rintro e w4 ⟨rfl, v4, hW4, hF4, hM4⟩
  have R := Wr.chain hG3 hMM3 hW4 hF4 hM4
  have HE : Hid (zs = us ++ leB (4 : Int).toNat (m : Int).toNat) := by
    show _ = _
    rw [HZ.out, HU.out]
    unfold encR encB
    rw [← HY.out, HM.out, HS.out, toBA_size, strNs_toBA ys hylt, Int.toNat_natCast]
    simp only [List.append_assoc]
    rfl
  clear hW4 hF4 hM4 hW3
  go_wp2
  go_end0
  rw [HE.out]
  exact ⟨rfl, v4, R⟩

/-- Bytes that were handed out: none, or a row of their own made since w. -/
structure Hand (w w' : World) (ao : Option Addr) (ys : List Nat) : Prop where
  nil : ys.length = 0 → ao = none
  row : 0 < ys.length → ∃ k, ao = some ⟨k, 0, none⟩ ∧ w.heap.size ≤ k ∧ w'.heap[k]? = some (.cells (bts ys).toArray 5 (0, 0))
theorem Hand.arg {w w' : World} {ao : Option Addr} {ys : List Nat} {N : Nat} (h : Hand w w' ao ys) (hN : N = ys.length) (hl : ∀ y ∈ ys, y < 256) (hm : N < 2^40) : BArg w' ao N N ys := by
  by_cases h0 : 0 < ys.length
  · obtain ⟨k, rfl, _, hr⟩ := h.row h0
    exact row_arg hr hN hl hm
  · obtain rfl := h.nil (by omega)
    exact ⟨hN, hl, Nat.le_refl _, by omega, fun h1 => by omega⟩
theorem Hand.keep {S : List Nat} {w w1 w2 : World} {ao : Option Addr} {ys : List Nat} (h : Hand w w1 ao ys) (hf : Fr S w1 w2) (hS : ∀ x ∈ S, x < w.heap.size) : Hand w w2 ao ys := by
  refine ⟨h.nil, fun h0 => ?_⟩
  obtain ⟨k, e, hk, hr⟩ := h.row h0
  exact ⟨k, e, hk, hf.keep hr (fun hh => by have := hS k hh; omega)⟩
theorem Hand.since {w w1 w' : World} {ao : Option Addr} {ys : List Nat} (h : Hand w1 w' ao ys) (hs : w.heap.size ≤ w1.heap.size) : Hand w w' ao ys := by
  refine ⟨h.nil, fun h0 => ?_⟩
  obtain ⟨k, e, hk, hr⟩ := h.row h0
  exact ⟨k, e, by omega, hr⟩

set_option maxHeartbeats 4000000 in
set_option maxRecDepth 100000 in
theorem lencode_no (ao : Option Addr) (L cap c : Nat) (ts : List Tm) (w : World) (hT : TRs w ao ts) (hL : L = ts.length) (hc : Bad 1 (txs ts) c) (hc0 : c ≠ 0) :
    Calls Tryz.prog 10 #[.slice ao L cap] w fun e w' => e = .returned (.tuple #[.slice none 0 0, .int .i64 (c : Int)]) ∧ Fr [] w w' := by
  have HC : Hid (Bad 1 (txs ts) c) := hc
  have HL : Hid (L = ts.length) := hL
  have hcb : ((c : Int) != 0) = true := by rw [bne_iff_ne]; omega
  clear hc hL hc0
  go_enter Tryz.func10, Tryz.ntmps10
  go_wp2_with fail
  refine (lcheck_any ao L cap c ts _ hT HL.out HC.out).mono ?_
  rintro e w1 ⟨rfl, hF1⟩
  go_wp2
  go_ret2
  exact ⟨rfl, hF1⟩

set_option maxHeartbeats 8000000 in
set_option maxRecDepth 100000 in
theorem lencode_ok (ao : Option Addr) (L cap N : Nat) (ts : List Tm) (ys : List Nat) (w : World) (hT : TRs w ao ts) (hL : L = ts.length) (hok : okL 1 (txs ts)) (hys : ys = encL (txs ts)) (hN : N = ys.length) :
    Calls Tryz.prog 10 #[.slice ao L cap] w fun e w' => ∃ ro, e = .returned (.tuple #[.slice ro N N, .int .i64 0]) ∧ Hand w w' ro ys ∧ Fr [] w w' := by
  have HK : Hid (okL 1 (txs ts)) := hok
  have HL : Hid (L = ts.length) := hL
  have HY : Hid (ys = encL (txs ts)) := hys
  have HN : Hid (N = ys.length) := hN
  have hL2 : L ≤ 65536 := by have := okL_few hok; rw [txs_length] at this; omega
  have hyl : ys.length < 2 ^ 33 := by rw [hys]; exact encL_few hok
  have hN2 : N < 2 ^ 33 := by omega
  clear hok hL hys hN
  go_enter Tryz.func10, Tryz.ntmps10
  go_wp2_with fail
  refine (lcheck_any ao L cap 0 ts _ hT HL.out (okL_bad HK.out)).mono ?_
  rintro e w1 ⟨rfl, hF1⟩
  go_wp2_with fail
  refine (newWriter_wr w w1 hF1).mono ?_
  rintro e w2 ⟨g, rfl, hg, hB2, hF2⟩
  clear hF2 hF1 hg
  go_wp2_with fail
  go_loopw [16] (fun ii wr => ∃ (i : Nat) (v : Value) (us : List Nat), ii = .int .i64 i ∧ i ≤ L ∧ Hid (us = encL (txs (ts.take i))) ∧ WB w wr g v us) (fun ii _ => L - (intOf ii).toNat)
  case atStart => exact ⟨0, _, [], rfl, Nat.zero_le _, by simp [Hid, encL, txs], hB2⟩
  case round =>
    obtain ⟨i, v, us, rfl, hiL, HU, hB⟩ := hrel
    by_cases hi : i < L
    · have hi' : i < ts.length := by rw [← HL.out]; exact hi
      obtain ⟨bb, off, rfl, _, hc⟩ := (hT.keep hB.fr).lies (by omega)
      have hx := hc i hi'
      have hat := (hT.keep hB.fr).each _ (tgetD_mem ts i hi')
      have hokx := (okL_get HK.out i (by rw [txs_length]; exact hi')).1
      rw [txs_getD] at hokx
      have hul : us.length ≤ 65100 * i := by
        have a := (encL_length (l := txs (ts.take i)) (by rw [← txs_take]; exact okL_mem (okL_take HK.out i))).2
        rw [txs_length, List.length_take] at a
        rw [HU.out]
        have : 65100 * min i ts.length ≤ 65100 * i := Nat.mul_le_mul_left _ (Nat.min_le_left _ _)
        omega
      have HU2 : Hid (us ++ encR (ts.getD i Tm.zero).tx = encL (txs (ts.take (i + 1)))) := by
        show _ = _
        rw [ttake_snoc ts i hi', txs_append, HU.out]
        exact (encL_snoc _ _).symm
      obtain ⟨x, hxx⟩ : ∃ x, x = ts.getD i Tm.zero := ⟨_, rfl⟩
      rw [← hxx] at hx hat hokx HU2
      clear hxx hc
      obtain ⟨n, ao, M, cm, ws⟩ := x
      obtain ⟨c0, c1⟩ := hx
      simp only at c0 c1
      have hF3 : Fr [] wr (wr.alloc (.cells #[.int .i64 n, .slice ao M cm] 63)) := Fr.alloc _ _ _
      have hB3 := hB.quiet hF3
      have hat3 : TArg (wr.alloc (.cells #[.int .i64 n, .slice ao M cm] 63)) n ao M cm ws := TArg.keep hat hF3
      have HK3 : Hid (okT n ws) := hokx
      clear hokx hat hF3
      go_wp2_with fail
      refine (lput_any g v us _ n ao M cm ws _ hB3.wr hat3 HK3.out (by omega) rfl).mono ?_
      rintro e w5 ⟨rfl, v5, hW5, hF5, hM5⟩
      have hB5 := hB3.next hW5 hF5 hM5
      clear hW5 hF5 hM5 hB3 hat3 hB
      go_wp2
      go_roundw
      case rel => exact ⟨i + 1, v5, _, by simp, by omega, HU2, hB5⟩
      case measure => simp [intOf]; omega
    · have HU3 : Hid (us = ys) := by
        show us = ys
        rw [HU.out, HY.out, List.take_of_length_le (by rw [← HL.out]; omega)]
      have hB' : WB w wr g v ys := HU3.out ▸ hB
      have hs := hB.fr.size
      by_cases h0 : 0 < ys.length
      · go_wp2_with fail
        refine (done_some g v ys _ hB'.wr h0 (by omega)).mono ?_
        rintro e w5 ⟨rfl, hrow, hF5⟩
        rw [← HN.out]
        go_wp2
        go_ret2
        exact ⟨_, rfl, ⟨fun h1 => by omega, fun _ => ⟨_, rfl, hs, hrow⟩⟩, hB'.fr.then hF5⟩
      · have hy0 : ys = [] := List.eq_nil_of_length_eq_zero (by omega)
        have hN0 : N = 0 := by have := HN.out; omega
        have hW5 : Wr wr g v [] := hy0 ▸ hB'.wr
        have hFF := hB'.fr
        clear hB hB' HU3 HU
        subst hN0
        go_wp2_with fail
        refine (done_none g v _ hW5).mono ?_
        rintro e w5 ⟨rfl, rfl⟩
        go_wp2
        go_ret2
        exact ⟨none, rfl, ⟨fun _ => rfl, fun h1 => absurd h1 h0⟩, hFF⟩
end Go.Proofs.YtaefninikmaiiaaGreatDoor

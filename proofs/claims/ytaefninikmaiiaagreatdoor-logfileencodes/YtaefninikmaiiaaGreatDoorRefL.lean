/- The document's Encode of a log. Conditions as each names them. -/
import Derived.Test.YtaefninikmaiiaaGreatDoorRefE
import Derived.Test.YtaefninikmaiiaaGreatDoorRefMore
import Derived.Test.YtaefninikmaiiaaGreatDoorChk7
import Derived.Test.YtaefninikmaiiaaGreatDoorEcd6
namespace Go.Proofs.YtaefninikmaiiaaGreatDoor
open Go.ChangeShapes Go.WideShapes Go.ChangeAt Go.RowKit Go.Lib
set_option linter.unusedVariables false
set_option linter.unusedSimpArgs false

set_option maxHeartbeats 4000000 in
set_option maxRecDepth 100000 in
theorem yEncode_no (ao : Option Addr) (L cap c : Nat) (ts : List Tm) (w : World) (hT : TRs w ao ts) (hL : L = ts.length) (hc : Bad 1 (txs ts) c) (hc0 : c ≠ 0) :
    Calls Tryz.prog 11 #[.slice ao L cap] w fun e w' => e = .returned (.tuple #[.slice none 0 0, .int .i64 (c : Int)]) ∧ Fr [] w w' := by
  have HC : Hid (Bad 1 (txs ts) c) := hc
  have HL : Hid (L = ts.length) := hL
  have hcb : ((c : Int) != 0) = true := by rw [bne_iff_ne]; omega
  clear hc hL hc0
  go_enter Tryz.func11, Tryz.ntmps11
  go_wp2_with fail
  refine (ycheck_any ao L cap c ts _ hT HL.out HC.out).mono ?_
  rintro e w1 ⟨rfl, hF1⟩
  go_wp2
  go_ret2
  exact ⟨rfl, hF1⟩
theorem Wn.arg {w : World} {ao : Option Addr} {N cap : Nat} {xs : List Nat} (h : Wn w (.slice ao N cap) xs) (hN : N = xs.length) (hl : ∀ x ∈ xs, x < 256) (hm : N < 2^40) : BArg w ao N cap xs := by
  refine ⟨hN, hl, ?_, by omega, fun h0 => ?_⟩
  · have h1 : w.ownsRow 0 5 1 (.slice ao N cap) xs.length (bts xs) := h
    rcases h1.2 with ⟨hh, h2⟩ | ⟨g, c, cur, hh, _, _, h2, _⟩
    · cases hh; omega
    · cases hh; exact h2
  · have h1 : w.ownsRow 0 5 1 (.slice ao N cap) xs.length (bts xs) := h
    obtain ⟨g, c, hh, _⟩ := own_form h1 (by omega)
    cases hh
    refine ⟨g, 0, rfl, (h1.lt g rfl).2, fun j hj => ?_⟩
    rw [Nat.zero_add]
    have := h1.cellAt j (by omega)
    rw [this, bts_get xs j (by omega)]

set_option maxHeartbeats 8000000 in
set_option maxRecDepth 100000 in
theorem yEncode_ok (ao : Option Addr) (L cap : Nat) (ts : List Tm) (ys : List Nat) (w : World) (hT : TRs w ao ts) (hL : L = ts.length) (hok : okL 1 (txs ts)) (hys : ys = encL (txs ts)) :
    Calls Tryz.prog 11 #[.slice ao L cap] w fun e w' => ∃ bo N cb, e = .returned (.tuple #[.slice bo N cb, .int .i64 0]) ∧ N = ys.length ∧ Wn w' (.slice bo N cb) ys ∧ Fr [] w w' := by
  have HK : Hid (okL 1 (txs ts)) := hok
  have HL : Hid (L = ts.length) := hL
  have HY : Hid (ys = encL (txs ts)) := hys
  have hL2 : L ≤ 65536 := by have := okL_few hok; rw [txs_length] at this; omega
  clear hok hL hys
  go_enter Tryz.func11, Tryz.ntmps11
  go_wp2_with fail
  refine (ycheck_any ao L cap 0 ts _ hT HL.out (okL_bad HK.out)).mono ?_
  rintro e w1 ⟨rfl, hF1⟩
  go_wp2_with fail
  go_loopw [5, 6] (fun bb ii wr => ∃ (i n' cb : Nat) (bo : Option Addr) (us : List Nat), bb = .slice bo n' cb ∧ ii = .int .i64 i ∧ i ≤ L ∧ Hid (us = encL (txs (ts.take i))) ∧ Hid (WnTo w1 (.slice none 0 0) wr (.slice bo n' cb) us)) (fun _ ii _ => L - (intOf ii).toNat)
  case atStart => exact ⟨0, 0, 0, none, [], rfl, rfl, Nat.zero_le _, by simp [Hid, encL, txs], (Wn.nil w1).refl⟩
  case round =>
    obtain ⟨i, n', cb, bo, us, rfl, rfl, hiL, HU, HT⟩ := hrel
    have hFr : Fr [] w wr := hF1.then HT.out.fr
    have hul : us.length ≤ 65100 * i := by
      have a := (encL_length (l := txs (ts.take i)) (by rw [← txs_take]; exact okL_mem (okL_take HK.out i))).2
      rw [txs_length, List.length_take] at a
      rw [HU.out]
      have : 65100 * min i ts.length ≤ 65100 * i := Nat.mul_le_mul_left _ (Nat.min_le_left _ _)
      omega
    by_cases hi : i < L
    · have hi' : i < ts.length := by rw [← HL.out]; exact hi
      obtain ⟨bb, off, rfl, _, hc⟩ := (hT.keep hFr).lies (by omega)
      have hx := hc i hi'
      have hat := (hT.keep hFr).each _ (tgetD_mem ts i hi')
      have hokx := (okL_get HK.out i (by rw [txs_length]; exact hi')).1
      rw [txs_getD] at hokx
      have HU2 : Hid (us ++ encR (ts.getD i Tm.zero).tx = encL (txs (ts.take (i + 1)))) := by
        show _ = _
        rw [ttake_snoc ts i hi', txs_append, HU.out]
        exact (encL_snoc _ _).symm
      obtain ⟨x, hxx⟩ : ∃ x, x = ts.getD i Tm.zero := ⟨_, rfl⟩
      rw [← hxx] at hx hat hokx HU2
      clear hxx hc
      obtain ⟨n, xo, M, cm, ws⟩ := x
      obtain ⟨c0, c1⟩ := hx
      simp only at c0 c1
      have hat' : TArg wr n xo M cm ws := hat
      have hok' : okT n ws := hokx
      have hyl : 2 ≤ (encT n.toNat ws).length ∧ (encT n.toNat ws).length ≤ 65000 := encT_length n.toNat ws (Tx.okN (t := ⟨n, ws⟩) hok')
      have hylt := encT_lt n.toNat ws
      obtain ⟨zs, hzs⟩ : ∃ zs, zs = encT n.toNat ws := ⟨_, rfl⟩
      rw [← hzs] at hyl hylt
      have HZ : Hid (zs = encT n.toNat ws) := hzs
      have HX := xEncode_ok n xo M cm ws zs wr hat'.rs hat'.len hok' hzs
      have HX' : Hid _ := HX
      clear hzs HX hat hat' hokx hok'
      go_wp2_with fail
      refine Calls.mono HX'.out ?_
      rintro e w2 ⟨bo2, N2, cb2, rfl, hN2, hW2, hnew, hF2⟩
      have HT2 : Hid (WnTo w1 (.slice none 0 0) w2 (.slice bo n' cb) us) := HT.out.quiet hF2
      have hW2o : w2.ownsRow 0 5 1 (.slice bo2 N2 cb2) zs.length (bts zs) := hW2
      obtain ⟨k, c', hh, _⟩ := own_form hW2o (by omega)
      cases hh
      have HN2 : Hid (zs.length = zs.length) := rfl
      have hkn : wr.heap.size ≤ k := hnew k rfl
      have hconv : Sem.run Tryz.prog (convert 26 9 (.slice (some ⟨k, 0, none⟩) zs.length cb2)) w2 = .ok (.string (toBA zs)) w2 := conv_eq w2 k 0 zs.length cb2 zs rfl (fun j hj => by
        rw [Nat.zero_add, hW2o.cellAt j (by omega), bts_get zs j hj])
      have hkb : k ∉ (Value.slice bo n' cb).ownBlock.toList := by
        intro hm
        have hO : wr.ownsRow 0 5 1 (.slice bo n' cb) us.length (bts us) := HT.out.wn
        have := (hO.lt k (by simpa using hm)).2
        omega
      obtain ⟨Q, HQ⟩ : ∃ Q, Hid (Q = zs.length) := ⟨_, rfl⟩
      have HQ2 : Hid (∀ W, Wn W (.slice (some ⟨k, 0, none⟩) zs.length cb2) zs → BArg W (some ⟨k, 0, none⟩) Q cb2 zs) := fun W hW => by
        have := Wn.arg hW rfl hylt (by omega)
        rw [← HQ.out] at this
        exact this
      have HW2 : Hid (Wn w2 (.slice (some ⟨k, 0, none⟩) zs.length cb2) zs) := hW2
      have hsz : (toBA zs).size < 2 ^ 39 := by rw [toBA_size]; omega
      obtain ⟨s, hs⟩ : ∃ s, s = toBA zs := ⟨_, rfl⟩
      have HS : Hid (s = toBA zs) := hs
      rw [← hs] at hconv hsz
      rw [← HQ.out] at hconv ⊢
      obtain ⟨m, hm⟩ : ∃ m, crcN zs = m := ⟨_, rfl⟩
      have hml : m < 4294967296 := by rw [← hm]; exact crcN_lt zs
      have HM : Hid (crcN zs = m) := hm
      have hyl1 := hyl.2
      clear hs hm hW2 hW2o hnew hN2 hyl hkn HN2 HT c0 c1 HX'
      go_wp2_with fail
      refine (refText_any (.slice bo n' cb) us s _ HT2.out.wn (by omega) hsz).mono ?_
      rintro e w3 ⟨bo3, n3, cb3, rfl, hT3⟩
      have hA3 := HQ2.out w3 (HW2.out.keep hT3.fr (by intro j hj; simp [Value.ownBlock] at hj; subst hj; exact hkb))
      have HT3 : Hid (WnTo w1 (.slice none 0 0) w3 (.slice bo3 n3 cb3) (us ++ (enc s.size ++ strNs s))) := HT2.out.then hT3
      have hl3 : (us ++ (enc s.size ++ strNs s)).length < 2^39 := by
        have := enc_length s.size
        rw [List.length_append, List.length_append, strNs_length, HS.out, toBA_size]
        rw [HS.out, toBA_size] at this
        omega
      clear hT3 HT2 hconv HW2 HQ2 hkb
      go_wp2_with fail
      refine (refCrc_any m (some ⟨k, 0, none⟩) Q cb2 zs _ hA3 HM.out).mono ?_
      rintro e w4 ⟨rfl, hF4⟩
      have HT4 : Hid (WnTo w1 (.slice none 0 0) w4 (.slice bo3 n3 cb3) (us ++ (enc s.size ++ strNs s))) := HT3.out.quiet hF4
      have hFx := refFixed_loop bo3 n3 cb3 (us ++ (enc s.size ++ strNs s)) m 4 w4 HT4.out.wn (by omega) (by omega) (by intro _; simpa using hml) (by omega) (by omega)
      rw [show ((4 : Nat) : Int) = 4 from rfl] at hFx
      have HFx : Hid _ := hFx
      clear hFx hA3 HT3 hF4
      go_wp2_with fail
      refine Calls.mono HFx.out ?_
      rintro e w5 ⟨bo5, n5, cb5, rfl, hT5⟩
      have HT5 : Hid (WnTo w1 (.slice none 0 0) w5 (.slice bo5 n5 cb5) ((us ++ (enc s.size ++ strNs s)) ++ leB 4 m)) := HT4.out.then hT5
      have HU3 : Hid ((us ++ (enc s.size ++ strNs s)) ++ leB 4 m = encL (txs (ts.take (i + 1)))) := by
        show _ = _
        rw [← HU2.out]
        show _ = us ++ encB (encT n.toNat ws)
        unfold encB
        rw [← HZ.out, HM.out, HS.out, toBA_size, strNs_toBA zs hylt]
        simp only [List.append_assoc]
      clear hT5 HT4 HFx
      go_wp2
      go_roundw
      case rel => exact ⟨i + 1, _, _, _, _, rfl, by simp, by omega, HU3, HT5⟩
      case measure => simp [intOf]; omega
    · have HE : Hid (us = ys) := by
        show us = ys
        rw [HU.out, HY.out, List.take_of_length_le (by rw [← HL.out]; omega)]
      have HR : Hid (n' = ys.length ∧ Wn wr (.slice bo n' cb) ys) := by
        have hw := HT.out.wn
        obtain ⟨_, _, hsl⟩ := hw.slice
        cases hsl
        exact ⟨by rw [← HE.out], by rw [← HE.out]; exact hw⟩
      go_wp2
      go_ret2
      exact ⟨_, _, _, rfl, HR.out.1, HR.out.2, hFr⟩
end Go.Proofs.YtaefninikmaiiaaGreatDoor

/- Texts of this claim laid together, one behind the other: contracts and plain lemmas; conditions as each names them. -/
import Derived.Test.YtaefninikmaiiaaGreatDoorGp4
import Derived.Test.YtaefninikmaiiaaGreatDoorGp2
/- The document's Encode of a transaction. Conditions as each names them. -/
namespace Go.Proofs.YtaefninikmaiiaaGreatDoor
open Go.ChangeShapes Go.WideShapes Go.ChangeAt Go.RowKit Go.Lib
set_option linter.unusedVariables false
set_option linter.unusedSimpArgs false

theorem Fr.wide' {S : List Nat} {w w' : World} (h : Fr [] w w') : Fr S w w' := h.mono (by simp)
theorem WnTo.quiet {w w1 w2 : World} {v v1 : Value} {ys : List Nat} (h : WnTo w v w1 v1 ys) (hf : Fr [] w1 w2) : WnTo w v w2 v1 ys :=
  ⟨h.wn.keep hf (by simp), h.fr.trans hf (fun _ hx _ => hx) (by simp), h.mv⟩

set_option maxHeartbeats 4000000 in
set_option maxRecDepth 100000 in
theorem xEncode_no (n : Int) (ao : Option Addr) (L cap : Nat) (ws : List Wt) (w : World) (hW : WRs w ao ws) (hL : L = ws.length) (hn0 : -9223372036854775808 ≤ n) (hn1 : n ≤ 9223372036854775807) (hno : ¬ okT n ws) :
    Calls Tryz.prog 45 #[.agg #[.int .i64 n, .slice ao L cap]] w fun e w' => e = .returned (.tuple #[.slice none 0 0, .int .i64 1]) ∧ Fr [] w w' := by
  have HL : Hid (L = ws.length) := hL
  have HN : Hid (¬ okT n ws) := hno
  clear hL hno
  have hF0 : Fr [] w (w.alloc (.cells #[.int .i64 n, .slice ao L cap] 63)) := Fr.alloc _ _ _
  have hW0 := hW.keep hF0
  go_enter Tryz.func45, Tryz.ntmps45
  go_wp2_with fail
  refine (xCheck_any n ao L cap 1 ws _ hW0 HL.out hn0 hn1 (Or.inr ⟨HN.out, rfl⟩)).mono ?_
  rintro e w1 ⟨rfl, hF1⟩
  have hF := hF0.then hF1
  clear hF0 hF1 hW0
  go_wp2
  go_ret2
  exact ⟨rfl, hF⟩

theorem Wn.nil (w : World) : Wn w (.slice none 0 0) [] := World.ownsRow_nil _ _ _ _
set_option maxHeartbeats 8000000 in
set_option maxRecDepth 100000 in
theorem xEncode_ok (n : Int) (ao : Option Addr) (L cap : Nat) (ws : List Wt) (ys : List Nat) (w : World) (hW : WRs w ao ws) (hL : L = ws.length) (hok : okT n ws) (hys : ys = encT n.toNat ws) :
    Calls Tryz.prog 45 #[.agg #[.int .i64 n, .slice ao L cap]] w fun e w' => ∃ bo N cb, e = .returned (.tuple #[.slice bo N cb, .int .i64 0]) ∧ N = ys.length ∧ Wn w' (.slice bo N cb) ys ∧ (∀ k, (Value.slice bo N cb).ownBlock = some k → w.heap.size ≤ k) ∧ Fr [] w w' := by
  obtain ⟨N0, hNN⟩ : ∃ N0 : Nat, n = N0 := ⟨n.toNat, by have := hok.1; omega⟩
  subst hNN
  rw [Int.toNat_natCast] at hys
  obtain ⟨i0, hi0, hz0, hz1, hz2⟩ := info_parts Tryz.infoB
  have hL32 : L ≤ 32 := by rw [hL]; exact hok.2.2.1
  have hN1 := hok.1
  have hN2 := hok.2.1
  have HL : Hid (L = ws.length) := hL
  have HK : Hid (okT (N0 : Int) ws) := hok
  have HY : Hid (ys = encT N0 ws) := hys
  have hwn := u64_nat (N0 : Int) (by omega) (by omega)
  have hwl := u64_nat (L : Int) (by omega) (by omega)
  clear hL hok hys
  have hF0 : Fr [] w (w.alloc (.cells #[.int .i64 (N0 : Int), .slice ao L cap] 63)) := Fr.alloc _ _ _
  have hW0 := hW.keep hF0
  have c0 : (w.alloc (.cells #[.int .i64 (N0 : Int), .slice ao L cap] 63)).cell? ⟨w.heap.size, 0, none⟩ = some (.int .i64 (N0 : Int)) := cell_of_row _ _ _ _ _ _ (heap_alloc_new w _)
  have c1 : (w.alloc (.cells #[.int .i64 (N0 : Int), .slice ao L cap] 63)).cell? ⟨w.heap.size, 1, none⟩ = some (.slice ao L cap) := cell_of_row _ _ _ _ _ _ (heap_alloc_new w _)
  have hsz : w.heap.size < (w.alloc (.cells #[.int .i64 (N0 : Int), .slice ao L cap] 63)).heap.size := by simp
  obtain ⟨w0, HW0⟩ : ∃ w0, Hid (w.alloc (.cells #[.int .i64 (N0 : Int), .slice ao L cap] 63) = w0) := ⟨_, rfl⟩
  rw [HW0.out] at hF0 hW0 c0 c1 hsz
  have HC : Hid (∀ W, Fr [] w0 W → W.cell? ⟨w.heap.size, 0, none⟩ = some (.int .i64 (N0 : Int)) ∧ W.cell? ⟨w.heap.size, 1, none⟩ = some (.slice ao L cap)) := fun W hf => ⟨(World.cell?_of_block (hf.block _ hsz (by simp))).trans c0, (World.cell?_of_block (hf.block _ hsz (by simp))).trans c1⟩
  go_enter Tryz.func45, Tryz.ntmps45
  go_wp2_with fail
  rw [HW0.out]
  refine (xCheck_any (N0 : Int) ao L cap 0 ws _ hW0 HL.out (by omega) (by omega) (Or.inl ⟨HK.out, rfl⟩)).mono ?_
  rintro e w1 ⟨rfl, hF1⟩
  have k0 := (HC.out _ hF1).1
  have k1 := (HC.out _ hF1).2
  clear c0 c1
  go_wp2_with fail
  refine (refVar_any (.slice none 0 0) [] N0 _ (Wn.nil _) (by omega) (by simp)).mono ?_
  rintro e w2 ⟨bo2, n2, cb2, rfl, hT2⟩
  have hF2 : Fr [] w0 w2 := hF1.then hT2.fr
  have m1 := (HC.out _ hF2).2
  rw [List.nil_append] at hT2
  have hl2 := enc_length N0
  clear k0 k1
  go_wp2_with fail
  refine (refVar_any (.slice bo2 n2 cb2) (enc N0) L _ hT2.wn (by omega) (by omega)).mono ?_
  rintro e w3 ⟨bo3, n3, cb3, rfl, hT3⟩
  have hT13 := hT2.then hT3
  clear m1 hT2 hT3
  go_wp2_with fail
  go_loopw [4, 5] (fun bb ii wr => ∃ (i n' cb : Nat) (bo : Option Addr) (us : List Nat), bb = .slice bo n' cb ∧ ii = .int .i64 i ∧ i ≤ L ∧ Hid (us = enc N0 ++ enc L ++ encWs (ws.take i)) ∧ Hid (WnTo w1 (.slice none 0 0) wr (.slice bo n' cb) us)) (fun _ ii _ => L - (RowKit.intOf ii).toNat)
  case atStart => exact ⟨0, n3, cb3, bo3, _, rfl, rfl, Nat.zero_le _, by simp [Hid, encWs], hT13⟩
  case round =>
    obtain ⟨i, n', cb, bo, us, rfl, rfl, hiL, HU, HT⟩ := hrel
    have hFr : Fr [] w0 wr := hF1.then HT.out.fr
    have q1 := (HC.out _ hFr).2
    have hul : us.length ≤ 20 + 2000 * i := by
      have a := encWs_length (ws.take i) (fun x hx => HK.out.2.2.2 x (List.mem_of_mem_take hx))
      have b := enc_length L
      rw [HU.out, List.length_append, List.length_append]
      rw [List.length_take] at a
      have : 2000 * min i ws.length ≤ 2000 * i := Nat.mul_le_mul_left _ (Nat.min_le_left _ _)
      omega
    by_cases hi : i < L
    · have hi' : i < ws.length := by rw [← HL.out]; exact hi
      obtain ⟨b, off, rfl, _, hc⟩ := (hW0.keep hFr).lies (by omega)
      obtain ⟨d0, d1, d2⟩ := hc i hi'
      have hokx := HK.out.2.2.2 _ (wgetD_mem ws i hi')
      obtain ⟨x, hxx⟩ : ∃ x, x = ws.getD i Wt.zero := ⟨_, rfl⟩
      rw [← hxx] at d0 d1 d2 hokx
      have HU2 : Hid (us ++ encW x = enc N0 ++ enc L ++ encWs (ws.take (i + 1))) := by
        show _ = _
        rw [wtake_snoc ws i hi', encWs_snoc, ← hxx, HU.out]
        simp only [List.append_assoc]
      clear hxx hc
      obtain ⟨key, val, drop⟩ := x
      have hx1 := hokx.2.1
      have hx2 := hokx.2.2.1
      clear hokx
      simp only at d0 d1 d2 hx1 hx2
      have hlt : (i : Int) < L := by omega
      obtain ⟨w4, HW4⟩ : ∃ w4, Hid (wr.alloc (.cells #[.string key, .string val, .bool drop] 124) = w4) := ⟨_, rfl⟩
      have hF4 : Fr [] wr w4 := by rw [← HW4.out]; exact Fr.alloc [] _ _
      have hB4 : w4.heap[wr.heap.size]? = some (.cells #[.string key, .string val, .bool drop] 124 (0, 0)) := by rw [← HW4.out]; exact heap_alloc_new wr _
      have HT4 := HT.out.quiet hF4
      have e0 : w4.cell? ⟨wr.heap.size, 0, none⟩ = some (.string key) := by rw [cell_of_row _ _ _ _ _ _ hB4]; rfl
      have hlt4 := lt_of_block hB4
      go_upto_region 9 with fail
      rw [HW4.out]
      go_wp2_with fail
      refine (refText_any (.slice bo n' cb) us key _ HT4.wn (by omega) (by omega)).mono ?_
      rintro e w5 ⟨bo5, n5, cb5, rfl, hT5⟩
      have HT5 := HT4.then hT5
      have hne : wr.heap.size ∉ (Value.slice bo n' cb).ownBlock.toList := by
        intro hh
        have := (World.ownsRow.lt HT.out.wn wr.heap.size (by simpa using hh)).2
        omega
      have hB5 := hT5.fr.keep hB4 hne
      have e1 : w5.cell? ⟨wr.heap.size, 1, none⟩ = some (.string val) := by rw [cell_of_row _ _ _ _ _ _ hB5]; rfl
      have e2 : w5.cell? ⟨wr.heap.size, 2, none⟩ = some (.bool drop) := by rw [cell_of_row _ _ _ _ _ _ hB5]; rfl
      have hek := encS_length key
      obtain ⟨vs, hvs⟩ : ∃ vs, vs = us ++ (enc key.size ++ strNs key) := ⟨_, rfl⟩
      rw [← hvs] at HT5
      have hvl : vs.length < 2^20 := by
        have : (enc key.size ++ strNs key).length ≤ 10 + key.size := hek.2
        rw [hvs, List.length_append]; omega
      have HVS : Hid (vs = us ++ encS key) := hvs
      obtain ⟨ao5, cap5, hsl⟩ := HT5.wn.slice
      cases hsl
      obtain ⟨Q, HQ⟩ : ∃ Q, Hid (Q = vs.length) := ⟨_, rfl⟩
      have HO : Hid (w5.ownsRow 0 5 1 (.slice bo5 vs.length cb5) vs.length (bts vs)) := HT5.wn
      have HT5' : Hid (WnTo w1 (.slice none 0 0) w5 (.slice bo5 vs.length cb5) vs) := HT5
      rw [← HQ.out] at HO HT5'
      have hQl : Q < 2^20 := by rw [HQ.out]; exact hvl
      rw [← HQ.out]
      clear hvs e0 hT5 HT5 HT4 hB4 hF4 d0 d1 d2 hvl
      cases drop with
      | true =>
        go_wp2_with (at_builtin; refine wpList_app1 _ rfl (.tmp 38) (.tmp 39) 26 rfl 5 i0 (.int .u8 0) 1 1 Tryz.undBs hi0 hz0 hz1 hz2 rfl (by decide) _ Q _ rfl (HO.out.alloc _) ⟨w5.heap.size, 0, none⟩ 1 [.int .u8 1] rfl rfl ?c1 ?c2 ?c3 ?c4 ?_)
        case c1 => intro j u hj; match j, hj with | 0, hj => simp at hj; subst hj; simp [Addr.add]
        case c2 => intro u hu; simp at hu; subst hu; rfl
        case c3 => omega
        case c4 => unfold maxLen; omega
        intro g' cap' w6 hown hgrow hmov
        have HR : Hid (WnTo w1 (.slice none 0 0) w6 (.slice (some ⟨g', 0, none⟩) (Q + 1) cap') (vs ++ [1])) := HT5'.out.step (z := 1) hown (by simp [HQ.out]) (by rw [bts_append]; rfl) hgrow hmov (by omega)
        have HU3 : Hid (vs ++ [1] = enc N0 ++ enc L ++ encWs (ws.take (i + 1))) := by show _ = _; rw [← HU2.out, HVS.out]; simp [encW, encV]
        clear hown hgrow hmov HO HT5' e1 e2
        go_wp2
        go_roundw
        case rel => exact ⟨i + 1, _, _, _, _, rfl, by simp, by omega, HU3, HR⟩
        case measure => simp [RowKit.intOf]; omega
      | false =>
        go_wp2_with (at_builtin; refine wpList_app1 _ rfl (.tmp 41) (.tmp 42) 26 rfl 5 i0 (.int .u8 0) 1 1 Tryz.undBs hi0 hz0 hz1 hz2 rfl (by decide) _ Q _ rfl (HO.out.alloc _) ⟨w5.heap.size, 0, none⟩ 1 [.int .u8 0] rfl rfl ?c1 ?c2 ?c3 ?c4 ?_)
        case c1 => intro j u hj; match j, hj with | 0, hj => simp at hj; subst hj; simp [Addr.add]
        case c2 => intro u hu; simp at hu; subst hu; rfl
        case c3 => omega
        case c4 => unfold maxLen; omega
        intro g' cap' w6 hown hgrow hmov
        have HR : WnTo w1 (.slice none 0 0) w6 (.slice (some ⟨g', 0, none⟩) (Q + 1) cap') (vs ++ [0]) := HT5'.out.step (z := 0) hown (by simp [HQ.out]) (by rw [bts_append]; rfl) hgrow hmov (by omega)
        have hF56 : Fr (Value.slice bo5 Q cb5).ownBlock.toList w5 w6 := ((Fr.alloc [] w5 _).wide').then (Fr.grown hgrow (by intro k hk _; simp [hk]))
        have hne5 : wr.heap.size ∉ (Value.slice bo5 Q cb5).ownBlock.toList := by
          intro hh
          have hb : (Value.slice bo5 Q cb5).ownBlock = some wr.heap.size := by simpa using hh
          obtain ⟨cs, hcs⟩ := own_type HO.out _ hb
          rw [hB5] at hcs
          simp at hcs
        have hB6 := hF56.keep hB5 hne5
        have f1 : w6.cell? ⟨wr.heap.size, 1, none⟩ = some (.string val) := by rw [cell_of_row _ _ _ _ _ _ hB6]; rfl
        have hvl2 : (vs ++ [0]).length < 2^39 := by rw [List.length_append, ← HQ.out]; simp; omega
        have HU3 : Hid ((vs ++ [0]) ++ (enc val.size ++ strNs val) = enc N0 ++ enc L ++ encWs (ws.take (i + 1))) := by show _ = _; rw [← HU2.out, HVS.out]; simp [encW, encV, encS]
        clear hown hgrow hmov HO HT5' e1 e2 hB5 hB6 hF56
        go_wp2_with fail
        refine (refText_any (.slice (some ⟨g', 0, none⟩) (Q + 1) cap') (vs ++ [0]) val _ HR.wn hvl2 (by omega)).mono ?_
        rintro e w7 ⟨bo7, n7, cb7, rfl, hT7⟩
        have HR7 : Hid (WnTo w1 (.slice none 0 0) w7 (.slice bo7 n7 cb7) ((vs ++ [0]) ++ (enc val.size ++ strNs val))) := HR.then hT7
        clear HR hT7 f1
        go_wp2
        go_roundw
        case rel => exact ⟨i + 1, _, _, _, _, rfl, by simp, by omega, HU3, HR7⟩
        case measure => simp [RowKit.intOf]; omega
    · have hle : (L : Int) ≤ i := by omega
      have HE : Hid (us = ys) := by
        show us = ys
        rw [HU.out, HY.out, List.take_of_length_le (by rw [← HL.out]; omega), HL.out, List.append_assoc]
        rfl
      have HR : Hid (n' = ys.length ∧ Wn wr (.slice bo n' cb) ys ∧ ∀ k, (Value.slice bo n' cb).ownBlock = some k → w.heap.size ≤ k) := by
        have hw := HT.out.wn
        have hnw := HT.out.mv.lt (B := w.heap.size) (by have := hF0.size; have := hF1.size; omega) (by intro k hk; simp [Value.ownBlock] at hk)
        obtain ⟨_, _, hsl⟩ := hw.slice
        cases hsl
        exact ⟨by rw [← HE.out], by rw [← HE.out]; exact hw, hnw⟩
      go_wp2
      go_ret2
      exact ⟨_, _, _, rfl, HR.out.1, HR.out.2.1, HR.out.2.2, hF0.then hFr⟩
end Go.Proofs.YtaefninikmaiiaaGreatDoor
/- What CRC answers, and the document's More and CRC; what Hash answers, and the document's. Conditions: a slice of bytes that came in, a sum of 32 bits; a key of fewer than 2^62 bytes. -/
namespace Go.Proofs.YtaefninikmaiiaaGreatDoor
open Go.ChangeShapes Go.WideShapes Go.ChangeAt Go.RowKit Go.Lib

set_option maxHeartbeats 4000000 in
set_option maxRecDepth 100000 in
theorem refMore_any (s m : Nat) (ao : Option Addr) (L cap : Nat) (xs : List Nat) (w : World) (hs : s < 4294967296) (hA : BArg w ao L cap xs) (hm : more s xs = m) :
    Calls Tryz.prog 111 #[.int .u32 (s : Int), .slice ao L cap] w fun e w' => e = .returned (.int .u32 (m : Int)) ∧ Fr [] w w' := by
  have HM : Hid (more s xs = m) := hm
  clear hm
  have HL : Hid (L = xs.length) := hA.len
  have hLm := hA.most
  obtain ⟨c0, HC0⟩ : ∃ c0, Hid (c0 = 4294967295 - s) := ⟨_, rfl⟩
  have hc0 : c0 < 4294967296 := by have := HC0.out; omega
  have hsub : (4294967295 : Int) - (s : Int) = (c0 : Int) := by have := HC0.out; omega
  go_enter Tryz.func111, Tryz.ntmps111
  go_wp2_with fail
  go_loop [5, 6] (fun cc ii => ∃ (c i : Nat), cc = .int .u32 (c : Int) ∧ ii = .int .i64 i ∧ i ≤ L ∧ c < 4294967296 ∧ Hid (c = runB c0 (xs.take i))) (fun _ ii => L - (RowKit.intOf ii).toNat)
  case atStart => exact ⟨c0, 0, rfl, rfl, Nat.zero_le _, hc0, rfl⟩
  case round =>
    obtain ⟨c, i, rfl, rfl, hi, hc, HR⟩ := hrel
    by_cases hiL : i < L
    · obtain ⟨b, off, e, _, hcs⟩ := hA.lies (by omega)
      subst e
      have hcx := hcs i hiL
      have hx := getD_mem_lt xs i (by rw [← HL.out]; exact hiL) hA.low
      obtain ⟨x, HX⟩ : ∃ x, Hid (x = xs.getD i 0) := ⟨_, rfl⟩
      rw [← HX.out] at hcx hx
      obtain ⟨d0, HD0⟩ : ∃ d0, Hid (d0 = c ^^^ x) := ⟨_, rfl⟩
      have hd0 : d0 < 4294967296 := by rw [HD0.out]; exact Nat.xor_lt_two_pow (n := 32) hc (by omega)
      have hx32 : bits .xor .u32 (c : Int) (x : Int) = (d0 : Int) := by rw [HD0.out]; exact u32_xor_nat c x hc (by omega)
      have hc' := stepB_lt c x hc hx
      have HR' : Hid (shN 8 d0 = runB c0 (xs.take (i + 1))) := by
        show _ = _
        rw [take_snoc xs i x (by rw [← HL.out]; exact hiL) HX.out, runB_snoc, ← HR.out, HD0.out]
        rfl
      clear hcs
      go_wp2_with fail
      go_loop [5, 7] (fun cc kk => ∃ (d k : Nat), cc = .int .u32 (d : Int) ∧ kk = .int .i64 k ∧ k ≤ 8 ∧ d < 4294967296 ∧ Hid (d = shN k d0)) (fun _ kk => 8 - (RowKit.intOf kk).toNat)
      case atStart => exact ⟨d0, 0, rfl, rfl, by omega, hd0, rfl⟩
      case round =>
        obtain ⟨d, k, rfl, rfl, hk, hd, HD⟩ := hrel
        by_cases hk8 : k < 8
        · have hlt := sh_lt d hd
          have HS : Hid (sh d = shN (k + 1) d0) := by show _ = _; rw [shN_succ, ← HD.out]
          by_cases hp : d % 2 = 1
          · have HE : Hid (sh d = (d / 2) ^^^ 2197175160) := by show _ = _; unfold sh; rw [if_pos hp]
            have hp' : ((d : Int) % 2 == 1) = true := by rw [beq_iff_eq]; omega
            have hx2 : bits .xor .u32 ((d : Int) / 2) 2197175160 = ((sh d : Nat) : Int) := by
              have := u32_xor_nat (d / 2) 2197175160 (by omega) (by omega)
              rw [HE.out]
              simpa using this
            clear hp
            go_wp2_with fail
            go_round
            case rel => exact ⟨sh d, k + 1, rfl, by simp, by omega, hlt, HS⟩
            case measure => simp [RowKit.intOf]; omega
          · have HE : Hid (sh d = d / 2) := by show _ = _; unfold sh; rw [if_neg hp]
            have hp' : ((d : Int) % 2 == 1) = false := by rw [beq_eq_false_iff_ne]; omega
            have hx2 : (d : Int) / 2 = ((sh d : Nat) : Int) := by rw [HE.out]; simp
            clear hp
            go_wp2_with fail
            go_round
            case rel => exact ⟨sh d, k + 1, rfl, by simp, by omega, hlt, HS⟩
            case measure => simp [RowKit.intOf]; omega
        · obtain rfl : k = 8 := by omega
          have HS : Hid (d = runB c0 (xs.take (i + 1))) := by show _ = _; rw [HD.out, HR'.out]
          go_wp2_with fail
          go_round
          case rel => exact ⟨d, i + 1, rfl, by simp, by omega, hd, HS⟩
          case measure => simp [RowKit.intOf]; omega
    · obtain rfl : i = L := by omega
      have HM' : Hid (4294967295 - c = m) := by
        show _ = _
        rw [← HM.out, more, ← HC0.out, HR.out, List.take_of_length_le (by rw [← HL.out]; omega)]
      have hn : (4294967295 : Int) - (c : Int) = (m : Int) := by have := HM'.out; omega
      go_wp2_with fail
      go_ret
      exact ⟨rfl, Fr.refl _ _⟩

set_option maxHeartbeats 2000000 in
theorem refCrc_any (m : Nat) (ao : Option Addr) (L cap : Nat) (xs : List Nat) (w : World) (hA : BArg w ao L cap xs) (hm : more 0 xs = m) :
    Calls Tryz.prog 48 #[.slice ao L cap] w fun e w' => e = .returned (.int .u32 (m : Int)) ∧ Fr [] w w' := by
  go_enter Tryz.func48, Tryz.ntmps48
  go_wp2_with fail
  refine (refMore_any 0 m ao L cap xs w (by omega) hA hm).mono ?_
  rintro e w1 ⟨rfl, hF1⟩
  go_wp2_with fail
  go_ret
  exact ⟨rfl, hF1⟩
end Go.Proofs.YtaefninikmaiiaaGreatDoor
/- May a log be: the document's Check (stages 6 and 7), the program's check (stage 7). Conditions as each names them. -/
namespace Go.Proofs.YtaefninikmaiiaaGreatDoor
open Go.ChangeShapes Go.WideShapes Go.ChangeAt Go.RowKit Go.Lib
set_option linter.unusedVariables false
set_option linter.unusedSimpArgs false
theorem tdrop_cons7 (ts : List Tm) (i : Nat) (h : i < ts.length) : ts.drop i = ts.getD i Tm.zero :: ts.drop (i + 1) := by
  rw [List.drop_eq_getElem_cons h]
  simp [List.getD, h]

set_option maxHeartbeats 4000000 in
set_option maxRecDepth 100000 in
theorem ycheck_any (ao : Option Addr) (L cap c : Nat) (ts : List Tm) (w : World) (hT : TRs w ao ts) (hL : L = ts.length) (hc : Bad 1 (txs ts) c) :
    Calls Tryz.prog 44 #[.slice ao L cap] w fun e w' => e = .returned (.int .i64 (c : Int)) ∧ Fr [] w w' := by
  have HC : Hid (Bad 1 (txs ts) c) := hc
  have HL : Hid (L = ts.length) := hL
  have hLm : L ≤ 140737488355328 := by have := hT.few; omega
  clear hc hL
  go_enter Tryz.func44, Tryz.ntmps44
  go_wp2_with fail
  go_loopw [3] (fun ii wr => ∃ (i : Nat), ii = .int .i64 i ∧ i ≤ L ∧ Hid (Bad (1 + i) (txs (ts.drop i)) c) ∧ Fr [] w wr) (fun ii _ => L - (RowKit.intOf ii).toNat)
  case atStart => exact ⟨0, rfl, Nat.zero_le _, HC.out, Fr.refl _ _⟩
  case round =>
    obtain ⟨i, rfl, hiL, HE, hFr⟩ := hrel
    by_cases hi : i < L
    · have hi' : i < ts.length := by rw [← HL.out]; exact hi
      obtain ⟨bb, off, rfl, hbl, hc⟩ := (hT.keep hFr).lies (by omega)
      have hx := hc i hi'
      have hat := (hT.keep hFr).each _ (tgetD_mem ts i hi')
      obtain ⟨x, hxx⟩ : ∃ x, x = ts.getD i Tm.zero := ⟨_, rfl⟩
      rw [← hxx] at hx hat
      have HX : Hid (x = ts.getD i Tm.zero) := hxx
      clear hxx hc
      obtain ⟨n, xo, M, cm, ws⟩ := x
      obtain ⟨c0, c1⟩ := hx
      simp only at c0 c1
      have e1 := HE.out
      rw [tdrop_cons7 ts i hi', ← HX.out] at e1
      have hn0 := hat.n0
      have hn1 := hat.n1
      simp only at hn0 hn1
      have hG := hFr
      have hat1 : TArg wr n xo M cm ws := hat
      have HCe : Hid (∀ W, Fr [] wr W → W.cell? ⟨bb, off + i * 2, none⟩ = some (.int .i64 n)) := fun W hf => (World.cell?_of_block (hf.block bb hbl (by simp))).trans c0
      clear hat
      clear HE HC
      rcases e1 with ⟨h1, rfl⟩ | ⟨h1, h2, rfl⟩ | ⟨h1, h2, h3⟩
      · have HN : Hid (¬ okT n ws) := h1
        clear h1
        go_wp2_with fail
        refine (xCheck_any n xo M cm 1 ws _ hat1.rs hat1.len hn0 hn1 (Or.inr ⟨HN.out, rfl⟩)).mono ?_
        rintro e w2 ⟨rfl, hF2⟩
        have hG2 := hG.then hF2
        clear hG hF2 hat1
        go_wp2
        go_ret
        exact ⟨rfl, hG2⟩
      · have HN : Hid (okT n ws) := h1
        have hne : (n != (i : Int) + 1) = true := by rw [bne_iff_ne]; have h2' : n ≠ ((1 + i : Nat) : Int) := h2; omega
        clear h1 h2
        go_wp2_with fail
        refine (xCheck_any n xo M cm 0 ws _ hat1.rs hat1.len hn0 hn1 (Or.inl ⟨HN.out, rfl⟩)).mono ?_
        rintro e w2 ⟨rfl, hF2⟩
        have hG2 := hG.then hF2
        have k0 := HCe.out _ hF2
        clear hG hF2 hat1 c0 c1
        go_wp2
        go_ret
        exact ⟨rfl, hG2⟩
      · have HN : Hid (okT n ws ∧ Bad (1 + i + 1) (txs (ts.drop (i + 1))) c) := ⟨h1, h3⟩
        have hne : (n != (i : Int) + 1) = false := by rw [bne_eq_false_iff_eq]; have h2' : n = ((1 + i : Nat) : Int) := h2; omega
        clear h1 h2 h3
        go_wp2_with fail
        refine (xCheck_any n xo M cm 0 ws _ hat1.rs hat1.len hn0 hn1 (Or.inl ⟨HN.out.1, rfl⟩)).mono ?_
        rintro e w2 ⟨rfl, hF2⟩
        have hG2 := hG.then hF2
        have k0 := HCe.out _ hF2
        clear hG hF2 hat1 c0 c1
        go_wp2
        go_roundw
        case rel => exact ⟨i + 1, by simp, by omega, by show Bad _ _ _; rw [show 1 + (i + 1) = 1 + i + 1 by omega]; exact HN.out.2, hG2⟩
        case measure => simp [RowKit.intOf]; omega
    · have hc0 : c = 0 := by
        have e1 := HE.out
        rw [List.drop_eq_nil_of_le (by rw [← HL.out]; omega)] at e1
        exact e1
      subst hc0
      clear HC HE
      go_wp2
      go_ret
      exact ⟨rfl, hFr⟩

set_option maxHeartbeats 4000000 in
set_option maxRecDepth 100000 in
theorem zcheck_any (ao : Option Addr) (L cap c : Nat) (ts : List Tm) (w : World) (hT : TRs w ao ts) (hL : L = ts.length) (hc : Bad 1 (txs ts) c) :
    Calls Tryz.prog 98 #[.slice ao L cap] w fun e w' => e = .returned (.int .i64 (c : Int)) ∧ Fr [] w w' := by
  have HC : Hid (Bad 1 (txs ts) c) := hc
  have HL : Hid (L = ts.length) := hL
  have hLm : L ≤ 140737488355328 := by have := hT.few; omega
  clear hc hL
  go_enter Tryz.func98, Tryz.ntmps98
  go_wp2_with fail
  go_loopw [3] (fun ii wr => ∃ (i : Nat), ii = .int .i64 i ∧ i ≤ L ∧ Hid (Bad (1 + i) (txs (ts.drop i)) c) ∧ Fr [] w wr) (fun ii _ => L - (RowKit.intOf ii).toNat)
  case atStart => exact ⟨0, rfl, Nat.zero_le _, HC.out, Fr.refl _ _⟩
  case round =>
    obtain ⟨i, rfl, hiL, HE, hFr⟩ := hrel
    by_cases hi : i < L
    · have hi' : i < ts.length := by rw [← HL.out]; exact hi
      obtain ⟨bb, off, rfl, hbl, hc⟩ := (hT.keep hFr).lies (by omega)
      have hx := hc i hi'
      have hat := (hT.keep hFr).each _ (tgetD_mem ts i hi')
      obtain ⟨x, hxx⟩ : ∃ x, x = ts.getD i Tm.zero := ⟨_, rfl⟩
      rw [← hxx] at hx hat
      have HX : Hid (x = ts.getD i Tm.zero) := hxx
      clear hxx hc
      obtain ⟨n, xo, M, cm, ws⟩ := x
      obtain ⟨c0, c1⟩ := hx
      simp only at c0 c1
      have e1 := HE.out
      rw [tdrop_cons7 ts i hi', ← HX.out] at e1
      have hn0 := hat.n0
      have hn1 := hat.n1
      simp only at hn0 hn1
      have hG := hFr
      have hat1 : TArg wr n xo M cm ws := hat
      have HCe : Hid (∀ W, Fr [] wr W → W.cell? ⟨bb, off + i * 2, none⟩ = some (.int .i64 n)) := fun W hf => (World.cell?_of_block (hf.block bb hbl (by simp))).trans c0
      clear hat
      clear HE HC
      rcases e1 with ⟨h1, rfl⟩ | ⟨h1, h2, rfl⟩ | ⟨h1, h2, h3⟩
      · have HN : Hid (¬ okT n ws) := h1
        clear h1
        go_wp2_with fail
        refine (xCheck_any n xo M cm 1 ws _ hat1.rs hat1.len hn0 hn1 (Or.inr ⟨HN.out, rfl⟩)).mono ?_
        rintro e w2 ⟨rfl, hF2⟩
        have hG2 := hG.then hF2
        clear hG hF2 hat1
        go_wp2
        go_ret
        exact ⟨rfl, hG2⟩
      · have HN : Hid (okT n ws) := h1
        have hne : (n != (i : Int) + 1) = true := by rw [bne_iff_ne]; have h2' : n ≠ ((1 + i : Nat) : Int) := h2; omega
        clear h1 h2
        go_wp2_with fail
        refine (xCheck_any n xo M cm 0 ws _ hat1.rs hat1.len hn0 hn1 (Or.inl ⟨HN.out, rfl⟩)).mono ?_
        rintro e w2 ⟨rfl, hF2⟩
        have hG2 := hG.then hF2
        have k0 := HCe.out _ hF2
        clear hG hF2 hat1 c0 c1
        go_wp2
        go_ret
        exact ⟨rfl, hG2⟩
      · have HN : Hid (okT n ws ∧ Bad (1 + i + 1) (txs (ts.drop (i + 1))) c) := ⟨h1, h3⟩
        have hne : (n != (i : Int) + 1) = false := by rw [bne_eq_false_iff_eq]; have h2' : n = ((1 + i : Nat) : Int) := h2; omega
        clear h1 h2 h3
        go_wp2_with fail
        refine (xCheck_any n xo M cm 0 ws _ hat1.rs hat1.len hn0 hn1 (Or.inl ⟨HN.out.1, rfl⟩)).mono ?_
        rintro e w2 ⟨rfl, hF2⟩
        have hG2 := hG.then hF2
        have k0 := HCe.out _ hF2
        clear hG hF2 hat1 c0 c1
        go_wp2
        go_roundw
        case rel => exact ⟨i + 1, by simp, by omega, by show Bad _ _ _; rw [show 1 + (i + 1) = 1 + i + 1 by omega]; exact HN.out.2, hG2⟩
        case measure => simp [RowKit.intOf]; omega
    · have hc0 : c = 0 := by
        have e1 := HE.out
        rw [List.drop_eq_nil_of_le (by rw [← HL.out]; omega)] at e1
        exact e1
      subst hc0
      clear HC HE
      go_wp2
      go_ret
      exact ⟨rfl, hFr⟩

set_option maxHeartbeats 4000000 in
set_option maxRecDepth 100000 in
theorem fcheck_any (ao : Option Addr) (L cap c : Nat) (ts : List Tm) (w : World) (hT : TRs w ao ts) (hL : L = ts.length) (hc : Bad 1 (txs ts) c) :
    Calls Tryz.prog 169 #[.slice ao L cap] w fun e w' => e = .returned (.int .i64 (c : Int)) ∧ Fr [] w w' := by
  have HC : Hid (Bad 1 (txs ts) c) := hc
  have HL : Hid (L = ts.length) := hL
  have hLm : L ≤ 140737488355328 := by have := hT.few; omega
  clear hc hL
  go_enter Tryz.func169, Tryz.ntmps169
  go_wp2_with fail
  go_loopw [8] (fun ii wr => ∃ (i : Nat), ii = .int .i64 i ∧ i ≤ L ∧ Hid (Bad (1 + i) (txs (ts.drop i)) c) ∧ Fr [] w wr) (fun ii _ => L - (RowKit.intOf ii).toNat)
  case atStart => exact ⟨0, rfl, Nat.zero_le _, HC.out, Fr.refl _ _⟩
  case round =>
    obtain ⟨i, rfl, hiL, HE, hFr⟩ := hrel
    by_cases hi : i < L
    · have hi' : i < ts.length := by rw [← HL.out]; exact hi
      obtain ⟨bb, off, rfl, hbl, hc⟩ := (hT.keep hFr).lies (by omega)
      have hx := hc i hi'
      have hat := (hT.keep hFr).each _ (tgetD_mem ts i hi')
      obtain ⟨x, hxx⟩ : ∃ x, x = ts.getD i Tm.zero := ⟨_, rfl⟩
      rw [← hxx] at hx hat
      have HX : Hid (x = ts.getD i Tm.zero) := hxx
      clear hxx hc
      obtain ⟨n, xo, M, cm, ws⟩ := x
      obtain ⟨c0, c1⟩ := hx
      simp only at c0 c1
      have e1 := HE.out
      rw [tdrop_cons7 ts i hi', ← HX.out] at e1
      have hn0 := hat.n0
      have hn1 := hat.n1
      simp only at hn0 hn1
      have hF1 : Fr [] wr (wr.alloc (.cells #[.int .i64 n, .slice xo M cm] 63)) := Fr.alloc _ _ _
      have hbx : (wr.alloc (.cells #[.int .i64 n, .slice xo M cm] 63)).heap[wr.heap.size]? = some (.cells #[.int .i64 n, .slice xo M cm] 63 (0, 0)) := heap_alloc_new wr _
      have hG := hFr.then hF1
      obtain ⟨w1, HW1⟩ : ∃ w1, Hid (wr.alloc (.cells #[.int .i64 n, .slice xo M cm] 63) = w1) := ⟨_, rfl⟩
      rw [HW1.out] at hF1 hbx hG
      have hat1 : TArg w1 n xo M cm ws := TArg.keep hat hF1
      have HCe : Hid (∀ W, Fr [] w1 W → W.cell? ⟨wr.heap.size, 0, none⟩ = some (.int .i64 n)) := fun W hf => by
        have hb := hf.keep hbx (by simp)
        rw [cell_of_row _ _ _ _ _ _ hb]; rfl
      clear hat hF1 hbx
      clear HE HC
      rcases e1 with ⟨h1, rfl⟩ | ⟨h1, h2, rfl⟩ | ⟨h1, h2, h3⟩
      · have HN : Hid (¬ okT n ws) := h1
        clear h1
        go_wp2_with fail
        rw [HW1.out]
        refine (check_any n xo M cm 1 ws _ hat1.rs hat1.len hn0 hn1 (Or.inr ⟨HN.out, rfl⟩)).mono ?_
        rintro e w2 ⟨rfl, hF2⟩
        have hG2 := hG.then hF2
        clear hG hF2 hat1
        go_wp2
        go_ret
        exact ⟨rfl, hG2⟩
      · have HN : Hid (okT n ws) := h1
        have hne : (n != (i : Int) + 1) = true := by rw [bne_iff_ne]; have h2' : n ≠ ((1 + i : Nat) : Int) := h2; omega
        clear h1 h2
        go_wp2_with fail
        rw [HW1.out]
        refine (check_any n xo M cm 0 ws _ hat1.rs hat1.len hn0 hn1 (Or.inl ⟨HN.out, rfl⟩)).mono ?_
        rintro e w2 ⟨rfl, hF2⟩
        have hG2 := hG.then hF2
        have k0 := HCe.out _ hF2
        clear hG hF2 hat1 c0 c1
        go_wp2
        go_ret
        exact ⟨rfl, hG2⟩
      · have HN : Hid (okT n ws ∧ Bad (1 + i + 1) (txs (ts.drop (i + 1))) c) := ⟨h1, h3⟩
        have hne : (n != (i : Int) + 1) = false := by rw [bne_eq_false_iff_eq]; have h2' : n = ((1 + i : Nat) : Int) := h2; omega
        clear h1 h2 h3
        go_wp2_with fail
        rw [HW1.out]
        refine (check_any n xo M cm 0 ws _ hat1.rs hat1.len hn0 hn1 (Or.inl ⟨HN.out.1, rfl⟩)).mono ?_
        rintro e w2 ⟨rfl, hF2⟩
        have hG2 := hG.then hF2
        have k0 := HCe.out _ hF2
        clear hG hF2 hat1 c0 c1
        go_wp2
        go_roundw
        case rel => exact ⟨i + 1, by simp, by omega, by show Bad _ _ _; rw [show 1 + (i + 1) = 1 + i + 1 by omega]; exact HN.out.2, hG2⟩
        case measure => simp [RowKit.intOf]; omega
    · have hc0 : c = 0 := by
        have e1 := HE.out
        rw [List.drop_eq_nil_of_le (by rw [← HL.out]; omega)] at e1
        exact e1
      subst hc0
      clear HC HE
      go_wp2
      go_ret
      exact ⟨rfl, hFr⟩
end Go.Proofs.YtaefninikmaiiaaGreatDoor
/- May a log be: contracts of inTurn, of the closure that it makes, of Check. Conditions as each names them. -/
namespace Go.Proofs.YtaefninikmaiiaaGreatDoor
open Go.ChangeShapes Go.WideShapes Go.ChangeAt Go.RowKit Go.Lib
set_option linter.unusedVariables false

/-- A variable in a block of its own. -/
structure Bv (w : World) (b : Nat) (t : TypeId) (v : Value) : Prop where
  box : w.heap[b]? = some (.cells #[v] t (0, 0))
theorem Bv.lt {w : World} {b : Nat} {t : TypeId} {v : Value} (h : Bv w b t v) : b < w.heap.size := lt_of_block h.box
theorem Bv.c {w : World} {b : Nat} {t : TypeId} {v : Value} (h : Bv w b t v) : w.cell? ⟨b, 0, none⟩ = some v := by simp [World.cell?, h.box]
theorem Bv.f {w : World} {b : Nat} {t : TypeId} {v : Value} (h : Bv w b t v) : w.frozen? ⟨b, 0, none⟩ = false := by simp [World.frozen?, h.box]
theorem Bv.keep {S : List Nat} {w w' : World} {b : Nat} {t : TypeId} {v : Value} (h : Bv w b t v) (hf : Fr S w w') (hn : b ∉ S) : Bv w' b t v := ⟨hf.keep h.box hn⟩
theorem Bv.set {w : World} {b : Nat} {t : TypeId} {v : Value} (h : Bv w b t v) (u : Value) : Bv (w.setCell ⟨b, 0, none⟩ u) b t u := by
  have := row_setCell (j := 0) u h.box
  exact ⟨by simpa using this⟩
theorem Bv.new (w : World) (t : TypeId) (v : Value) : Bv (w.alloc (.cells #[v] t)) w.heap.size t v := ⟨heap_alloc_new w _⟩

theorem inTurn_any (w : World) : Calls Tryz.prog 49 #[] w fun e w' => e = .returned (.func (Fn.func 112) #[] #[.pointer (some ⟨w.heap.size, 0, none⟩)]) ∧ w' = w.alloc (.cells #[.int .i64 1] 3) := by
  go_enter Tryz.func49, Tryz.ntmps49
  go_wp2
  go_ret
  exact ⟨rfl, rfl⟩

set_option maxHeartbeats 2000000 in
set_option maxRecDepth 100000 in
theorem turn1_no (b k c : Nat) (n : Int) (ao : Option Addr) (L cap : Nat) (ws : List Wt) (w : World) (hb : Bv w b 3 (.int .i64 (k : Int))) (ht : TArg w n ao L cap ws) (hk : k ≤ 140737488355329)
    (hc : (¬ okT n ws ∧ c = 1) ∨ (okT n ws ∧ n ≠ (k : Int) ∧ c = 6)) :
    Calls Tryz.prog 112 #[.agg #[.int .i64 n, .slice ao L cap], .pointer (some ⟨b, 0, none⟩)] w fun e w' => e = .returned (.int .i64 (c : Int)) ∧ Fr [] w w' := by
  have HL : Hid (L = ws.length) := ht.len
  have hn0 := ht.n0
  have hn1 := ht.n1
  have hF0 : Fr [] w (w.alloc (.cells #[.int .i64 n, .slice ao L cap] 63)) := Fr.alloc _ _ _
  have hW0 := ht.rs.keep hF0
  have hb0 := hb.keep hF0 (by simp)
  have c0 : (w.alloc (.cells #[.int .i64 n, .slice ao L cap] 63)).cell? ⟨w.heap.size, 0, none⟩ = some (.int .i64 n) := cell_of_row _ _ _ _ _ _ (heap_alloc_new w _)
  have hsz : w.heap.size < (w.alloc (.cells #[.int .i64 n, .slice ao L cap] 63)).heap.size := by simp
  obtain ⟨w0, HW0⟩ : ∃ w0, Hid (w.alloc (.cells #[.int .i64 n, .slice ao L cap] 63) = w0) := ⟨_, rfl⟩
  rw [HW0.out] at hF0 hW0 hb0 c0 hsz
  clear hb
  rcases hc with ⟨hno, rfl⟩ | ⟨hok, hne, rfl⟩
  · have HN : Hid (¬ okT n ws) := hno
    clear hno
    go_enter Tryz.func112, Tryz.ntmps112
    go_wp2_with fail
    rw [HW0.out]
    refine (check_any n ao L cap 1 ws _ hW0 HL.out hn0 hn1 (Or.inr ⟨HN.out, rfl⟩)).mono ?_
    rintro e w1 ⟨rfl, hF1⟩
    have hF := hF0.then hF1
    clear hF0 hF1 hW0
    go_wp2
    go_ret
    exact ⟨rfl, hF⟩
  · have HK : Hid (okT n ws) := hok
    have hnb : (n != (k : Int)) = true := by rw [bne_iff_ne]; exact hne
    clear hok
    go_enter Tryz.func112, Tryz.ntmps112
    go_wp2_with fail
    rw [HW0.out]
    refine (check_any n ao L cap 0 ws _ hW0 HL.out hn0 hn1 (Or.inl ⟨HK.out, rfl⟩)).mono ?_
    rintro e w1 ⟨rfl, hF1⟩
    have hF := hF0.then hF1
    have d0 : w1.cell? ⟨w.heap.size, 0, none⟩ = some (.int .i64 n) := (World.cell?_of_block (hF1.block _ hsz (by simp))).trans c0
    have d1 := (hb0.keep hF1 (by simp)).c
    clear hF0 hF1 hW0 hne
    go_wp2
    go_ret
    exact ⟨rfl, hF⟩

set_option maxHeartbeats 2000000 in
set_option maxRecDepth 100000 in
theorem turn1_ok (b k : Nat) (n : Int) (ao : Option Addr) (L cap : Nat) (ws : List Wt) (w : World) (hb : Bv w b 3 (.int .i64 (k : Int))) (ht : TArg w n ao L cap ws) (hk : k ≤ 140737488355329)
    (hok : okT n ws) (hn : n = (k : Int)) :
    Calls Tryz.prog 112 #[.agg #[.int .i64 n, .slice ao L cap], .pointer (some ⟨b, 0, none⟩)] w fun e w' => e = .returned (.int .i64 0) ∧ Bv w' b 3 (.int .i64 ((k + 1 : Nat) : Int)) ∧ Fr [b] w w' := by
  subst hn
  have HL : Hid (L = ws.length) := ht.len
  have hn0 := ht.n0
  have hn1 := ht.n1
  have HK : Hid (okT (k : Int) ws) := hok
  clear hok
  have hF0 : Fr [] w (w.alloc (.cells #[.int .i64 (k : Int), .slice ao L cap] 63)) := Fr.alloc _ _ _
  have hW0 := ht.rs.keep hF0
  have hb0 := hb.keep hF0 (by simp)
  have c0 : (w.alloc (.cells #[.int .i64 (k : Int), .slice ao L cap] 63)).cell? ⟨w.heap.size, 0, none⟩ = some (.int .i64 (k : Int)) := cell_of_row _ _ _ _ _ _ (heap_alloc_new w _)
  have hsz : w.heap.size < (w.alloc (.cells #[.int .i64 (k : Int), .slice ao L cap] 63)).heap.size := by simp
  obtain ⟨w0, HW0⟩ : ∃ w0, Hid (w.alloc (.cells #[.int .i64 (k : Int), .slice ao L cap] 63) = w0) := ⟨_, rfl⟩
  rw [HW0.out] at hF0 hW0 hb0 c0 hsz
  clear hb
  have hnb : ((k : Int) != (k : Int)) = false := by simp
  go_enter Tryz.func112, Tryz.ntmps112
  go_wp2_with fail
  rw [HW0.out]
  refine (check_any (k : Int) ao L cap 0 ws _ hW0 HL.out hn0 hn1 (Or.inl ⟨HK.out, rfl⟩)).mono ?_
  rintro e w1 ⟨rfl, hF1⟩
  have hF := hF0.then hF1
  have d0 : w1.cell? ⟨w.heap.size, 0, none⟩ = some (.int .i64 (k : Int)) := (World.cell?_of_block (hF1.block _ hsz (by simp))).trans c0
  have hb1 := hb0.keep hF1 (by simp)
  have d1 := hb1.c
  have d2 := hb1.f
  have hR : Bv (w1.setCell ⟨b, 0, none⟩ (.int .i64 ((k : Int) + 1))) b 3 (.int .i64 ((k + 1 : Nat) : Int)) := by
    have := hb1.set (.int .i64 ((k : Int) + 1))
    simpa using this
  have HR : Hid (_ ∧ Fr [b] w (w1.setCell ⟨b, 0, none⟩ (.int .i64 ((k : Int) + 1)))) := ⟨hR, (hF.mono (by simp)).then (Fr.set _ _ _ (by simp))⟩
  clear hF0 hF1 hW0 hb0 hR hb1 hF
  go_wp2
  go_ret
  exact ⟨rfl, HR.out⟩

theorem tdrop_cons (ts : List Tm) (i : Nat) (h : i < ts.length) : ts.drop i = ts.getD i Tm.zero :: ts.drop (i + 1) := by
  rw [List.drop_eq_getElem_cons h]
  simp [List.getD, h]
set_option maxHeartbeats 4000000 in
set_option maxRecDepth 100000 in
theorem lcheck_any (ao : Option Addr) (L cap c : Nat) (ts : List Tm) (w : World) (hT : TRs w ao ts) (hL : L = ts.length) (hc : Bad 1 (txs ts) c) :
    Calls Tryz.prog 12 #[.slice ao L cap] w fun e w' => e = .returned (.int .i64 (c : Int)) ∧ Fr [] w w' := by
  have HC : Hid (Bad 1 (txs ts) c) := hc
  have HL : Hid (L = ts.length) := hL
  have hLm : L ≤ 140737488355328 := by have := hT.few; omega
  clear hc hL
  have hF0 : Fr [] w (w.alloc (.cells #[.int .i64 1] 3)) := Fr.alloc _ _ _
  have hB0 : Bv (w.alloc (.cells #[.int .i64 1] 3)) w.heap.size 3 (.int .i64 ((1 : Nat) : Int)) := Bv.new w _ _
  go_enter Tryz.func12, Tryz.ntmps12
  go_wp2_with fail
  refine (inTurn_any _).mono ?_
  rintro e w0 ⟨rfl, HW0⟩
  rw [← HW0] at hF0 hB0
  obtain ⟨b, hb⟩ : ∃ b, b = w.heap.size := ⟨_, rfl⟩
  rw [← hb] at hB0 ⊢
  have hbw : w.heap.size ≤ b := by omega
  clear hb HW0
  go_wp2_with fail
  go_loopw [10] (fun ii wr => ∃ (i : Nat), ii = .int .i64 i ∧ i ≤ L ∧ Hid (Bad (1 + i) (txs (ts.drop i)) c) ∧ Bv wr b 3 (.int .i64 ((1 + i : Nat) : Int)) ∧ Fr [] w wr) (fun ii _ => L - (RowKit.intOf ii).toNat)
  case atStart => exact ⟨0, rfl, Nat.zero_le _, HC.out, hB0, hF0⟩
  case round =>
    obtain ⟨i, rfl, hiL, HE, hBi, hFr⟩ := hrel
    by_cases hi : i < L
    · have hi' : i < ts.length := by rw [← HL.out]; exact hi
      obtain ⟨bb, off, rfl, _, hc⟩ := (hT.keep hFr).lies (by omega)
      have hx := hc i hi'
      have hat := (hT.keep hFr).each _ (tgetD_mem ts i hi')
      obtain ⟨x, hxx⟩ : ∃ x, x = ts.getD i Tm.zero := ⟨_, rfl⟩
      rw [← hxx] at hx hat
      have HX : Hid (x = ts.getD i Tm.zero) := hxx
      clear hxx hc
      obtain ⟨n, ao, M, cm, ws⟩ := x
      obtain ⟨c0, c1⟩ := hx
      simp only at c0 c1
      have e1 := HE.out
      rw [tdrop_cons ts i hi', ← HX.out] at e1
      have hF1 : Fr [] wr (wr.alloc (.cells #[.int .i64 n, .slice ao M cm] 63)) := Fr.alloc _ _ _
      have hB1 := hBi.keep hF1 (by simp)
      have hat1 : TArg (wr.alloc (.cells #[.int .i64 n, .slice ao M cm] 63)) n ao M cm ws := TArg.keep hat hF1
      have hG := hFr.then hF1
      clear HE HC
      rcases e1 with ⟨h1, rfl⟩ | ⟨h1, h2, rfl⟩ | ⟨h1, h2, h3⟩
      · have HN : Hid (¬ okT n ws) := h1
        clear h1
        go_wp2_with fail
        refine (turn1_no b (1 + i) 1 n ao M cm ws _ hB1 hat1 (by omega) (Or.inl ⟨HN.out, rfl⟩)).mono ?_
        rintro e w2 ⟨rfl, hF2⟩
        have hG2 := hG.then hF2
        clear hG hF2 hB1 hat1 hF1
        go_wp2
        go_ret
        exact ⟨rfl, hG2⟩
      · have HN : Hid (okT n ws ∧ n ≠ ((1 + i : Nat) : Int)) := ⟨h1, h2⟩
        clear h1 h2
        go_wp2_with fail
        refine (turn1_no b (1 + i) 6 n ao M cm ws _ hB1 hat1 (by omega) (Or.inr ⟨HN.out.1, HN.out.2, rfl⟩)).mono ?_
        rintro e w2 ⟨rfl, hF2⟩
        have hG2 := hG.then hF2
        clear hG hF2 hB1 hat1 hF1
        go_wp2
        go_ret
        exact ⟨rfl, hG2⟩
      · have HN : Hid (okT n ws ∧ n = ((1 + i : Nat) : Int) ∧ Bad (1 + i + 1) (txs (ts.drop (i + 1))) c) := ⟨h1, h2, h3⟩
        clear h1 h2 h3
        go_wp2_with fail
        refine (turn1_ok b (1 + i) n ao M cm ws _ hB1 hat1 (by omega) HN.out.1 HN.out.2.1).mono ?_
        rintro e w2 ⟨rfl, hB2, hF2⟩
        have hG2 := hG.on hF2 (by intro x hx; simp at hx; omega)
        clear hG hF2 hB1 hat1 hF1
        go_wp2
        go_roundw
        case rel => exact ⟨i + 1, by simp, by omega, by show Bad _ _ _; rw [show 1 + (i + 1) = 1 + i + 1 by omega]; exact HN.out.2.2, by rw [show 1 + (i + 1) = 1 + i + 1 by omega]; exact hB2, hG2⟩
        case measure => simp [RowKit.intOf]; omega
    · have hc0 : c = 0 := by
        have e1 := HE.out
        rw [List.drop_eq_nil_of_le (by rw [← HL.out]; omega)] at e1
        exact e1
      subst hc0
      clear HC HE
      go_wp2
      go_ret
      exact ⟨rfl, hFr⟩
end Go.Proofs.YtaefninikmaiiaaGreatDoor
/- A log as bytes: contracts of CRC, put and Encode. Conditions as each names them. -/
namespace Go.Proofs.YtaefninikmaiiaaGreatDoor
open Go.ChangeShapes Go.WideShapes Go.ChangeAt Go.RowKit Go.Lib
set_option linter.unusedVariables false

theorem row_arg {w : World} {k N : Nat} {ys : List Nat} (h : w.heap[k]? = some (.cells (bts ys).toArray 5 (0, 0))) (hN : N = ys.length) (hl : ∀ y ∈ ys, y < 256) (hm : N < 2^40) : BArg w (some ⟨k, 0, none⟩) N N ys :=
  ⟨hN, hl, Nat.le_refl _, by omega, fun _ => ⟨k, 0, rfl, lt_of_block h, fun j hj => by rw [cell_of_row _ _ _ _ _ _ h, Nat.zero_add]; simpa using bts_get ys j (by omega)⟩⟩
theorem arg_take {w : World} {k N : Nat} {ys : List Nat} (h : BArg w (some ⟨k, 0, none⟩) N N ys) (m : Nat) (hm : m ≤ N) : BArg w (some ⟨k, 0, none⟩) m N (ys.take m) := by
  have hN := h.len
  refine ⟨by rw [List.length_take]; omega, fun x hx => h.low x (List.mem_of_mem_take hx), by have := h.fits; omega, by have := h.most; omega, fun h0 => ?_⟩
  obtain ⟨b, off, e, hb, hc⟩ := h.lies (by omega)
  refine ⟨b, off, e, hb, fun j hj => ?_⟩
  rw [hc j (by omega)]
  simp [List.getD, hj]

set_option maxHeartbeats 2000000 in
theorem crc_any (m : Nat) (ao : Option Addr) (L cap : Nat) (xs : List Nat) (w : World) (hA : BArg w ao L cap xs) (hm : crcN xs = m) :
    Calls Tryz.prog 106 #[.slice ao L cap] w fun e w' => e = .returned (.int .u32 (m : Int)) ∧ Fr [] w w' := by
  have HM : Hid (more 0 xs = m) := hm
  clear hm
  have hC := more_any 0 m ao L cap xs w (by omega) hA HM.out
  rw [show ((0 : Nat) : Int) = 0 from rfl] at hC
  go_enter Tryz.func106, Tryz.ntmps106
  go_wp2_with fail
  refine hC.mono ?_
  rintro e w1 ⟨rfl, hF⟩
  go_wp2
  go_ret
  exact ⟨rfl, hF⟩

theorem Wr.far {w : World} {g : Nat} {v : Value} {xs : List Nat} (h : Wr w g v xs) {k : Nat} (hk : w.heap.size ≤ k) : k ∉ Wr.own g v := by
  have h1 := h.lt
  intro hh
  simp only [Wr.own, List.mem_cons, Option.mem_toList] at hh
  rcases hh with hh | hh
  · omega
  · have := h.rowlt k hh; omega

set_option maxHeartbeats 4000000 in
set_option maxRecDepth 100000 in
theorem lput_any (g : Nat) (v : Value) (xs zs : List Nat) (n : Int) (ao : Option Addr) (L cap : Nat) (ws : List Wt) (w : World) (h : Wr w g v xs) (ht : TArg w n ao L cap ws) (hok : okT n ws) (hlen : xs.length < 2^39) (hz : zs = xs ++ encR ⟨n, ws⟩) :
    Calls Tryz.prog 42 #[.pointer (some ⟨g, 0, none⟩), .agg #[.int .i64 n, .slice ao L cap]] w fun e w' => e = .returned (.tuple #[]) ∧ ∃ v', Wr w' g v' zs ∧ Fr (Wr.own g v) w w' ∧ Moved w.heap.size v v' := by
  have HZ : Hid (zs = xs ++ encR ⟨n, ws⟩) := hz
  have HL : Hid (L = ws.length) := ht.len
  have HK : Hid (okT n ws) := hok
  have hyl : 2 ≤ (encT n.toNat ws).length ∧ (encT n.toNat ws).length ≤ 65000 := encT_length n.toNat ws (Tx.okN (t := ⟨n, ws⟩) hok)
  have hylt := encT_lt n.toNat ws
  obtain ⟨ys, hys⟩ : ∃ ys, ys = encT n.toNat ws := ⟨_, rfl⟩
  rw [← hys] at hyl hylt
  have HY : Hid (ys = encT n.toNat ws) := hys
  obtain ⟨N, hN⟩ : ∃ N, N = ys.length := ⟨_, rfl⟩
  have HN : Hid (N = ys.length) := hN
  have hN1 : N ≤ 65000 := by omega
  clear hz hok hys hyl hN
  have hF0 : Fr [] w (w.alloc (.cells #[.int .i64 n, .slice ao L cap] 63)) := Fr.alloc _ _ _
  have hW0 := ht.rs.keep hF0
  have h0 := h.keep hF0 (by simp) (by simp)
  have hs0 : w.heap.size ≤ (w.alloc (.cells #[.int .i64 n, .slice ao L cap] 63)).heap.size := hF0.size
  obtain ⟨w0, HW0⟩ : ∃ w0, Hid (w.alloc (.cells #[.int .i64 n, .slice ao L cap] 63) = w0) := ⟨_, rfl⟩
  rw [HW0.out] at hF0 hW0 h0 hs0
  go_enter Tryz.func42, Tryz.ntmps42
  go_wp2_with fail
  rw [HW0.out]
  refine (encode_ok n ao L cap N ws ys _ hW0 HL.out HK.out HY.out HN.out).mono ?_
  rintro e w1 ⟨k, rfl, hk, hrow, hF1⟩
  have h1 := h0.keep hF1 (by simp) (by simp)
  have hA1 := row_arg hrow HN.out hylt (by omega)
  have hconv : Sem.run Tryz.prog (convert 26 9 (.slice (some ⟨k, 0, none⟩) N N)) w1 = .ok (.string (toBA ys)) w1 := conv_eq w1 k 0 N N ys HN.out.symm (fun j hj => by
    obtain ⟨b, off, e, _, hc⟩ := hA1.lies (by omega)
    cases e
    exact hc j hj)
  have hG1 := hF0.then hF1
  have hk0 : k ∉ Wr.own g v := h0.far hk
  clear hA1 hF1 hF0 h0
  have hsz : (toBA ys).size < 2 ^ 40 := by have := HN.out; rw [toBA_size]; omega
  obtain ⟨s, hs⟩ : ∃ s, s = toBA ys := ⟨_, rfl⟩
  have HS : Hid (s = toBA ys) := hs
  rw [← hs] at hconv hsz
  clear hs
  go_wp2_with fail
  refine (text_any g v xs s _ h1 (by omega) hsz).mono ?_
  rintro e w2 ⟨rfl, v2, hW2, hF2, hM2⟩
  have hrow2 := hF2.keep hrow hk0
  have hA2 := row_arg hrow2 HN.out hylt (by omega)
  obtain ⟨_, hG2, hMM2⟩ := Wr.chain (hG1.mono (by simp) : Fr (Wr.own g v) w w1) (Moved.refl _ _) hW2 hF2 hM2
  obtain ⟨us, hus⟩ : ∃ us, us = xs ++ (enc s.size ++ strNs s) := ⟨_, rfl⟩
  have hul : us.length < 2^40 := by
    have := enc_length s.size
    rw [hus, List.length_append, List.length_append, strNs_length, HS.out, toBA_size]
    rw [HS.out, toBA_size] at this
    have := HN.out
    omega
  rw [← hus] at hW2
  have HU : Hid (us = xs ++ (enc s.size ++ strNs s)) := hus
  obtain ⟨m, hm⟩ : ∃ m, crcN ys = m := ⟨_, rfl⟩
  have hml : m < 4294967296 := by rw [← hm]; exact crcN_lt ys
  have HM : Hid (crcN ys = m) := hm
  have hfit : (m : Int) / 2 ^ (8 * (4 : Int)).toNat = 0 := by
    rw [show (8 * (4 : Int)).toNat = 32 from rfl]
    omega
  clear hus hm hconv hsz h1 hG1 hF2 hM2 hrow hrow2
  go_wp2_with fail
  refine (crc_any m (some ⟨k, 0, none⟩) N N ys _ hA2 HM.out).mono ?_
  rintro e w3 ⟨rfl, hF3⟩
  have hW3 := hW2.keep hF3 (by simp) (by simp)
  have hG3 := hG2.then (hF3.mono (by simp))
  have hMM3 := hMM2
  clear hA2 hF3 hW2 hG2
  go_wp2_with fail
  refine (fixed_any g v2 us (m : Int) 4 _ hW3 (by omega) (by omega) (by decide) (by decide) hfit hul).mono ?_
  rintro e w4 ⟨rfl, v4, hW4, hF4, hM4⟩
  have R := Wr.chain hG3 hMM3 hW4 hF4 hM4
  have HE : Hid (zs = us ++ leB (4 : Int).toNat (m : Int).toNat) := by
    show _ = _
    rw [HZ.out, HU.out]
    unfold encR encB
    rw [← HY.out, HM.out, HS.out, toBA_size, strNs_toBA ys hylt, Int.toNat_natCast]
    simp only [List.append_assoc]
    rfl
  clear hW4 hF4 hM4 hW3
  go_wp2
  go_end0
  rw [HE.out]
  exact ⟨rfl, v4, R⟩

/-- Bytes that were handed out: none, or a row of their own made since w. -/
structure Hand (w w' : World) (ao : Option Addr) (ys : List Nat) : Prop where
  nil : ys.length = 0 → ao = none
  row : 0 < ys.length → ∃ k, ao = some ⟨k, 0, none⟩ ∧ w.heap.size ≤ k ∧ w'.heap[k]? = some (.cells (bts ys).toArray 5 (0, 0))
theorem Hand.arg {w w' : World} {ao : Option Addr} {ys : List Nat} {N : Nat} (h : Hand w w' ao ys) (hN : N = ys.length) (hl : ∀ y ∈ ys, y < 256) (hm : N < 2^40) : BArg w' ao N N ys := by
  by_cases h0 : 0 < ys.length
  · obtain ⟨k, rfl, _, hr⟩ := h.row h0
    exact row_arg hr hN hl hm
  · obtain rfl := h.nil (by omega)
    exact ⟨hN, hl, Nat.le_refl _, by omega, fun h1 => by omega⟩
theorem Hand.keep {S : List Nat} {w w1 w2 : World} {ao : Option Addr} {ys : List Nat} (h : Hand w w1 ao ys) (hf : Fr S w1 w2) (hS : ∀ x ∈ S, x < w.heap.size) : Hand w w2 ao ys := by
  refine ⟨h.nil, fun h0 => ?_⟩
  obtain ⟨k, e, hk, hr⟩ := h.row h0
  exact ⟨k, e, hk, hf.keep hr (fun hh => by have := hS k hh; omega)⟩
theorem Hand.since {w w1 w' : World} {ao : Option Addr} {ys : List Nat} (h : Hand w1 w' ao ys) (hs : w.heap.size ≤ w1.heap.size) : Hand w w' ao ys := by
  refine ⟨h.nil, fun h0 => ?_⟩
  obtain ⟨k, e, hk, hr⟩ := h.row h0
  exact ⟨k, e, by omega, hr⟩

set_option maxHeartbeats 4000000 in
set_option maxRecDepth 100000 in
theorem lencode_no (ao : Option Addr) (L cap c : Nat) (ts : List Tm) (w : World) (hT : TRs w ao ts) (hL : L = ts.length) (hc : Bad 1 (txs ts) c) (hc0 : c ≠ 0) :
    Calls Tryz.prog 10 #[.slice ao L cap] w fun e w' => e = .returned (.tuple #[.slice none 0 0, .int .i64 (c : Int)]) ∧ Fr [] w w' := by
  have HC : Hid (Bad 1 (txs ts) c) := hc
  have HL : Hid (L = ts.length) := hL
  have hcb : ((c : Int) != 0) = true := by rw [bne_iff_ne]; omega
  clear hc hL hc0
  go_enter Tryz.func10, Tryz.ntmps10
  go_wp2_with fail
  refine (lcheck_any ao L cap c ts _ hT HL.out HC.out).mono ?_
  rintro e w1 ⟨rfl, hF1⟩
  go_wp2
  go_ret2
  exact ⟨rfl, hF1⟩

set_option maxHeartbeats 8000000 in
set_option maxRecDepth 100000 in
theorem lencode_ok (ao : Option Addr) (L cap N : Nat) (ts : List Tm) (ys : List Nat) (w : World) (hT : TRs w ao ts) (hL : L = ts.length) (hok : okL 1 (txs ts)) (hys : ys = encL (txs ts)) (hN : N = ys.length) :
    Calls Tryz.prog 10 #[.slice ao L cap] w fun e w' => ∃ ro, e = .returned (.tuple #[.slice ro N N, .int .i64 0]) ∧ Hand w w' ro ys ∧ Fr [] w w' := by
  have HK : Hid (okL 1 (txs ts)) := hok
  have HL : Hid (L = ts.length) := hL
  have HY : Hid (ys = encL (txs ts)) := hys
  have HN : Hid (N = ys.length) := hN
  have hL2 : L ≤ 65536 := by have := okL_few hok; rw [txs_length] at this; omega
  have hyl : ys.length < 2 ^ 33 := by rw [hys]; exact encL_few hok
  have hN2 : N < 2 ^ 33 := by omega
  clear hok hL hys hN
  go_enter Tryz.func10, Tryz.ntmps10
  go_wp2_with fail
  refine (lcheck_any ao L cap 0 ts _ hT HL.out (okL_bad HK.out)).mono ?_
  rintro e w1 ⟨rfl, hF1⟩
  go_wp2_with fail
  refine (newWriter_wr w w1 hF1).mono ?_
  rintro e w2 ⟨g, rfl, hg, hB2, hF2⟩
  clear hF2 hF1 hg
  go_wp2_with fail
  go_loopw [16] (fun ii wr => ∃ (i : Nat) (v : Value) (us : List Nat), ii = .int .i64 i ∧ i ≤ L ∧ Hid (us = encL (txs (ts.take i))) ∧ WB w wr g v us) (fun ii _ => L - (RowKit.intOf ii).toNat)
  case atStart => exact ⟨0, _, [], rfl, Nat.zero_le _, by simp [Hid, encL, txs], hB2⟩
  case round =>
    obtain ⟨i, v, us, rfl, hiL, HU, hB⟩ := hrel
    by_cases hi : i < L
    · have hi' : i < ts.length := by rw [← HL.out]; exact hi
      obtain ⟨bb, off, rfl, _, hc⟩ := (hT.keep hB.fr).lies (by omega)
      have hx := hc i hi'
      have hat := (hT.keep hB.fr).each _ (tgetD_mem ts i hi')
      have hokx := (okL_get HK.out i (by rw [txs_length]; exact hi')).1
      rw [txs_getD] at hokx
      have hul : us.length ≤ 65100 * i := by
        have a := (encL_length (l := txs (ts.take i)) (by rw [← txs_take]; exact okL_mem (okL_take HK.out i))).2
        rw [txs_length, List.length_take] at a
        rw [HU.out]
        have : 65100 * min i ts.length ≤ 65100 * i := Nat.mul_le_mul_left _ (Nat.min_le_left _ _)
        omega
      have HU2 : Hid (us ++ encR (ts.getD i Tm.zero).tx = encL (txs (ts.take (i + 1)))) := by
        show _ = _
        rw [ttake_snoc ts i hi', txs_append, HU.out]
        exact (encL_snoc _ _).symm
      obtain ⟨x, hxx⟩ : ∃ x, x = ts.getD i Tm.zero := ⟨_, rfl⟩
      rw [← hxx] at hx hat hokx HU2
      clear hxx hc
      obtain ⟨n, ao, M, cm, ws⟩ := x
      obtain ⟨c0, c1⟩ := hx
      simp only at c0 c1
      have hF3 : Fr [] wr (wr.alloc (.cells #[.int .i64 n, .slice ao M cm] 63)) := Fr.alloc _ _ _
      have hB3 := hB.quiet hF3
      have hat3 : TArg (wr.alloc (.cells #[.int .i64 n, .slice ao M cm] 63)) n ao M cm ws := TArg.keep hat hF3
      have HK3 : Hid (okT n ws) := hokx
      clear hokx hat hF3
      go_wp2_with fail
      refine (lput_any g v us _ n ao M cm ws _ hB3.wr hat3 HK3.out (by omega) rfl).mono ?_
      rintro e w5 ⟨rfl, v5, hW5, hF5, hM5⟩
      have hB5 := hB3.next hW5 hF5 hM5
      clear hW5 hF5 hM5 hB3 hat3 hB
      go_wp2
      go_roundw
      case rel => exact ⟨i + 1, v5, _, by simp, by omega, HU2, hB5⟩
      case measure => simp [RowKit.intOf]; omega
    · have HU3 : Hid (us = ys) := by
        show us = ys
        rw [HU.out, HY.out, List.take_of_length_le (by rw [← HL.out]; omega)]
      have hB' : WB w wr g v ys := HU3.out ▸ hB
      have hs := hB.fr.size
      by_cases h0 : 0 < ys.length
      · go_wp2_with fail
        refine (done_some g v ys _ hB'.wr h0 (by omega)).mono ?_
        rintro e w5 ⟨rfl, hrow, hF5⟩
        rw [← HN.out]
        go_wp2
        go_ret2
        exact ⟨_, rfl, ⟨fun h1 => by omega, fun _ => ⟨_, rfl, hs, hrow⟩⟩, hB'.fr.then hF5⟩
      · have hy0 : ys = [] := List.eq_nil_of_length_eq_zero (by omega)
        have hN0 : N = 0 := by have := HN.out; omega
        have hW5 : Wr wr g v [] := hy0 ▸ hB'.wr
        have hFF := hB'.fr
        clear hB hB' HU3 HU
        subst hN0
        go_wp2_with fail
        refine (done_none g v _ hW5).mono ?_
        rintro e w5 ⟨rfl, rfl⟩
        go_wp2
        go_ret2
        exact ⟨none, rfl, ⟨fun _ => rfl, fun h1 => absurd h1 h0⟩, hFF⟩
end Go.Proofs.YtaefninikmaiiaaGreatDoor
/- The document's Encode of a log. Conditions as each names them. -/
namespace Go.Proofs.YtaefninikmaiiaaGreatDoor
open Go.ChangeShapes Go.WideShapes Go.ChangeAt Go.RowKit Go.Lib
set_option linter.unusedVariables false
set_option linter.unusedSimpArgs false

set_option maxHeartbeats 4000000 in
set_option maxRecDepth 100000 in
theorem yEncode_no (ao : Option Addr) (L cap c : Nat) (ts : List Tm) (w : World) (hT : TRs w ao ts) (hL : L = ts.length) (hc : Bad 1 (txs ts) c) (hc0 : c ≠ 0) :
    Calls Tryz.prog 11 #[.slice ao L cap] w fun e w' => e = .returned (.tuple #[.slice none 0 0, .int .i64 (c : Int)]) ∧ Fr [] w w' := by
  have HC : Hid (Bad 1 (txs ts) c) := hc
  have HL : Hid (L = ts.length) := hL
  have hcb : ((c : Int) != 0) = true := by rw [bne_iff_ne]; omega
  clear hc hL hc0
  go_enter Tryz.func11, Tryz.ntmps11
  go_wp2_with fail
  refine (ycheck_any ao L cap c ts _ hT HL.out HC.out).mono ?_
  rintro e w1 ⟨rfl, hF1⟩
  go_wp2
  go_ret2
  exact ⟨rfl, hF1⟩
theorem Wn.arg {w : World} {ao : Option Addr} {N cap : Nat} {xs : List Nat} (h : Wn w (.slice ao N cap) xs) (hN : N = xs.length) (hl : ∀ x ∈ xs, x < 256) (hm : N < 2^40) : BArg w ao N cap xs := by
  refine ⟨hN, hl, ?_, by omega, fun h0 => ?_⟩
  · have h1 : w.ownsRow 0 5 1 (.slice ao N cap) xs.length (bts xs) := h
    rcases h1.2 with ⟨hh, h2⟩ | ⟨g, c, cur, hh, _, _, h2, _⟩
    · cases hh; omega
    · cases hh; exact h2
  · have h1 : w.ownsRow 0 5 1 (.slice ao N cap) xs.length (bts xs) := h
    obtain ⟨g, c, hh, _⟩ := own_form h1 (by omega)
    cases hh
    refine ⟨g, 0, rfl, (h1.lt g rfl).2, fun j hj => ?_⟩
    rw [Nat.zero_add]
    have := h1.cellAt j (by omega)
    rw [this, bts_get xs j (by omega)]

set_option maxHeartbeats 8000000 in
set_option maxRecDepth 100000 in
theorem yEncode_ok (ao : Option Addr) (L cap : Nat) (ts : List Tm) (ys : List Nat) (w : World) (hT : TRs w ao ts) (hL : L = ts.length) (hok : okL 1 (txs ts)) (hys : ys = encL (txs ts)) :
    Calls Tryz.prog 11 #[.slice ao L cap] w fun e w' => ∃ bo N cb, e = .returned (.tuple #[.slice bo N cb, .int .i64 0]) ∧ N = ys.length ∧ Wn w' (.slice bo N cb) ys ∧ Fr [] w w' := by
  have HK : Hid (okL 1 (txs ts)) := hok
  have HL : Hid (L = ts.length) := hL
  have HY : Hid (ys = encL (txs ts)) := hys
  have hL2 : L ≤ 65536 := by have := okL_few hok; rw [txs_length] at this; omega
  clear hok hL hys
  go_enter Tryz.func11, Tryz.ntmps11
  go_wp2_with fail
  refine (ycheck_any ao L cap 0 ts _ hT HL.out (okL_bad HK.out)).mono ?_
  rintro e w1 ⟨rfl, hF1⟩
  go_wp2_with fail
  go_loopw [5, 6] (fun bb ii wr => ∃ (i n' cb : Nat) (bo : Option Addr) (us : List Nat), bb = .slice bo n' cb ∧ ii = .int .i64 i ∧ i ≤ L ∧ Hid (us = encL (txs (ts.take i))) ∧ Hid (WnTo w1 (.slice none 0 0) wr (.slice bo n' cb) us)) (fun _ ii _ => L - (RowKit.intOf ii).toNat)
  case atStart => exact ⟨0, 0, 0, none, [], rfl, rfl, Nat.zero_le _, by simp [Hid, encL, txs], (Wn.nil w1).refl⟩
  case round =>
    obtain ⟨i, n', cb, bo, us, rfl, rfl, hiL, HU, HT⟩ := hrel
    have hFr : Fr [] w wr := hF1.then HT.out.fr
    have hul : us.length ≤ 65100 * i := by
      have a := (encL_length (l := txs (ts.take i)) (by rw [← txs_take]; exact okL_mem (okL_take HK.out i))).2
      rw [txs_length, List.length_take] at a
      rw [HU.out]
      have : 65100 * min i ts.length ≤ 65100 * i := Nat.mul_le_mul_left _ (Nat.min_le_left _ _)
      omega
    by_cases hi : i < L
    · have hi' : i < ts.length := by rw [← HL.out]; exact hi
      obtain ⟨bb, off, rfl, _, hc⟩ := (hT.keep hFr).lies (by omega)
      have hx := hc i hi'
      have hat := (hT.keep hFr).each _ (tgetD_mem ts i hi')
      have hokx := (okL_get HK.out i (by rw [txs_length]; exact hi')).1
      rw [txs_getD] at hokx
      have HU2 : Hid (us ++ encR (ts.getD i Tm.zero).tx = encL (txs (ts.take (i + 1)))) := by
        show _ = _
        rw [ttake_snoc ts i hi', txs_append, HU.out]
        exact (encL_snoc _ _).symm
      obtain ⟨x, hxx⟩ : ∃ x, x = ts.getD i Tm.zero := ⟨_, rfl⟩
      rw [← hxx] at hx hat hokx HU2
      clear hxx hc
      obtain ⟨n, xo, M, cm, ws⟩ := x
      obtain ⟨c0, c1⟩ := hx
      simp only at c0 c1
      have hat' : TArg wr n xo M cm ws := hat
      have hok' : okT n ws := hokx
      have hyl : 2 ≤ (encT n.toNat ws).length ∧ (encT n.toNat ws).length ≤ 65000 := encT_length n.toNat ws (Tx.okN (t := ⟨n, ws⟩) hok')
      have hylt := encT_lt n.toNat ws
      obtain ⟨zs, hzs⟩ : ∃ zs, zs = encT n.toNat ws := ⟨_, rfl⟩
      rw [← hzs] at hyl hylt
      have HZ : Hid (zs = encT n.toNat ws) := hzs
      have HX := xEncode_ok n xo M cm ws zs wr hat'.rs hat'.len hok' hzs
      have HX' : Hid _ := HX
      clear hzs HX hat hat' hokx hok'
      go_wp2_with fail
      refine Calls.mono HX'.out ?_
      rintro e w2 ⟨bo2, N2, cb2, rfl, hN2, hW2, hnew, hF2⟩
      have HT2 : Hid (WnTo w1 (.slice none 0 0) w2 (.slice bo n' cb) us) := HT.out.quiet hF2
      have hW2o : w2.ownsRow 0 5 1 (.slice bo2 N2 cb2) zs.length (bts zs) := hW2
      obtain ⟨k, c', hh, _⟩ := own_form hW2o (by omega)
      cases hh
      have HN2 : Hid (zs.length = zs.length) := rfl
      have hkn : wr.heap.size ≤ k := hnew k rfl
      have hconv : Sem.run Tryz.prog (convert 26 9 (.slice (some ⟨k, 0, none⟩) zs.length cb2)) w2 = .ok (.string (toBA zs)) w2 := conv_eq w2 k 0 zs.length cb2 zs rfl (fun j hj => by
        rw [Nat.zero_add, hW2o.cellAt j (by omega), bts_get zs j hj])
      have hkb : k ∉ (Value.slice bo n' cb).ownBlock.toList := by
        intro hm
        have hO : wr.ownsRow 0 5 1 (.slice bo n' cb) us.length (bts us) := HT.out.wn
        have := (hO.lt k (by simpa using hm)).2
        omega
      obtain ⟨Q, HQ⟩ : ∃ Q, Hid (Q = zs.length) := ⟨_, rfl⟩
      have HQ2 : Hid (∀ W, Wn W (.slice (some ⟨k, 0, none⟩) zs.length cb2) zs → BArg W (some ⟨k, 0, none⟩) Q cb2 zs) := fun W hW => by
        have := Wn.arg hW rfl hylt (by omega)
        rw [← HQ.out] at this
        exact this
      have HW2 : Hid (Wn w2 (.slice (some ⟨k, 0, none⟩) zs.length cb2) zs) := hW2
      have hsz : (toBA zs).size < 2 ^ 39 := by rw [toBA_size]; omega
      obtain ⟨s, hs⟩ : ∃ s, s = toBA zs := ⟨_, rfl⟩
      have HS : Hid (s = toBA zs) := hs
      rw [← hs] at hconv hsz
      rw [← HQ.out] at hconv ⊢
      obtain ⟨m, hm⟩ : ∃ m, crcN zs = m := ⟨_, rfl⟩
      have hml : m < 4294967296 := by rw [← hm]; exact crcN_lt zs
      have HM : Hid (crcN zs = m) := hm
      have hyl1 := hyl.2
      clear hs hm hW2 hW2o hnew hN2 hyl hkn HN2 HT c0 c1 HX'
      go_wp2_with fail
      refine (refText_any (.slice bo n' cb) us s _ HT2.out.wn (by omega) hsz).mono ?_
      rintro e w3 ⟨bo3, n3, cb3, rfl, hT3⟩
      have hA3 := HQ2.out w3 (HW2.out.keep hT3.fr (by intro j hj; simp [Value.ownBlock] at hj; subst hj; exact hkb))
      have HT3 : Hid (WnTo w1 (.slice none 0 0) w3 (.slice bo3 n3 cb3) (us ++ (enc s.size ++ strNs s))) := HT2.out.then hT3
      have hl3 : (us ++ (enc s.size ++ strNs s)).length < 2^39 := by
        have := enc_length s.size
        rw [List.length_append, List.length_append, strNs_length, HS.out, toBA_size]
        rw [HS.out, toBA_size] at this
        omega
      clear hT3 HT2 hconv HW2 HQ2 hkb
      go_wp2_with fail
      refine (refCrc_any m (some ⟨k, 0, none⟩) Q cb2 zs _ hA3 HM.out).mono ?_
      rintro e w4 ⟨rfl, hF4⟩
      have HT4 : Hid (WnTo w1 (.slice none 0 0) w4 (.slice bo3 n3 cb3) (us ++ (enc s.size ++ strNs s))) := HT3.out.quiet hF4
      have hFx := refFixed_loop bo3 n3 cb3 (us ++ (enc s.size ++ strNs s)) m 4 w4 HT4.out.wn (by omega) (by omega) (by intro _; simpa using hml) (by omega) (by omega)
      rw [show ((4 : Nat) : Int) = 4 from rfl] at hFx
      have HFx : Hid _ := hFx
      clear hFx hA3 HT3 hF4
      go_wp2_with fail
      refine Calls.mono HFx.out ?_
      rintro e w5 ⟨bo5, n5, cb5, rfl, hT5⟩
      have HT5 : Hid (WnTo w1 (.slice none 0 0) w5 (.slice bo5 n5 cb5) ((us ++ (enc s.size ++ strNs s)) ++ leB 4 m)) := HT4.out.then hT5
      have HU3 : Hid ((us ++ (enc s.size ++ strNs s)) ++ leB 4 m = encL (txs (ts.take (i + 1)))) := by
        show _ = _
        rw [← HU2.out]
        show _ = us ++ encB (encT n.toNat ws)
        unfold encB
        rw [← HZ.out, HM.out, HS.out, toBA_size, strNs_toBA zs hylt]
        simp only [List.append_assoc]
      clear hT5 HT4 HFx
      go_wp2
      go_roundw
      case rel => exact ⟨i + 1, _, _, _, _, rfl, by simp, by omega, HU3, HT5⟩
      case measure => simp [RowKit.intOf]; omega
    · have HE : Hid (us = ys) := by
        show us = ys
        rw [HU.out, HY.out, List.take_of_length_le (by rw [← HL.out]; omega)]
      have HR : Hid (n' = ys.length ∧ Wn wr (.slice bo n' cb) ys) := by
        have hw := HT.out.wn
        obtain ⟨_, _, hsl⟩ := hw.slice
        cases hsl
        exact ⟨by rw [← HE.out], by rw [← HE.out]; exact hw⟩
      go_wp2
      go_ret2
      exact ⟨_, _, _, rfl, HR.out.1, HR.out.2, hFr⟩
end Go.Proofs.YtaefninikmaiiaaGreatDoor
/- The walk of the law LogfileEncodes. Conditions: how its argument lies in memory; the table of powers of ten reads as the library lays it. -/
namespace Go.Proofs.YtaefninikmaiiaaGreatDoor
open BigFrame Go.ChangeShapes Go.WideShapes Go.ChangeAt Go.RowKit Go.Lib
set_option linter.unusedVariables false
set_option linter.unusedSimpArgs false

/-- What is told of a log: what is wrong, and its bytes. -/
def Told6 (l : List Tx) (c : Nat) (ys : List Nat) : Prop := (okL 1 l ∧ c = 0 ∧ ys = encL l) ∨ (Bad 1 l c ∧ c ≠ 0 ∧ ys = [])
theorem Told6.ex (l : List Tx) : ∃ c ys, Told6 l c ys := by
  obtain ⟨c, hc⟩ := Bad.ex l 1
  by_cases h : c = 0
  · exact ⟨0, _, Or.inl ⟨hc.ok.1 h, rfl, rfl⟩⟩
  · exact ⟨c, _, Or.inr ⟨hc, h, rfl⟩⟩
theorem Told6.bad {l : List Tx} {c : Nat} {ys : List Nat} (h : Told6 l c ys) : Bad 1 l c := by
  rcases h with ⟨a, rfl, _⟩ | ⟨a, _, _⟩
  · exact okL_bad a
  · exact a
theorem Told6.len {l : List Tx} {c : Nat} {ys : List Nat} (h : Told6 l c ys) : ys.length < 2^33 := by
  rcases h with ⟨a, _, rfl⟩ | ⟨_, _, rfl⟩
  · exact encL_few a
  · simp
theorem row_own6 {w : World} {k N : Nat} {ys : List Nat} (h : w.heap[k]? = some (.cells (bts ys).toArray 5 (0, 0))) (hN : N = ys.length) (hm : N < 2^40) : w.ownsRow 0 5 1 (.slice (some ⟨k, 0, none⟩) N N) N (bts ys) := by
  refine ⟨by rw [bts_length]; omega, .inr ⟨k, N, (bts ys).toArray, rfl, Nat.zero_le _, h, Nat.le_refl _, by simp only [maxLen]; omega, by simp [bts_length]; omega, ?_⟩⟩
  simp only [Nat.mul_one]
  rw [List.take_of_length_le (by rw [bts_length]; omega)]
theorem own_rs6 {w : World} {ao : Option Addr} {n cap : Nat} {xs : List Nat} (h : w.ownsRow 0 5 1 (.slice ao n cap) n (bts xs)) (hn : n = xs.length) (hl : xs.length < 2^41) : Rs w ao xs := by
  have h' : Wn w (.slice ao n cap) xs := by unfold Wn; rw [← hn]; exact h
  exact h'.rs hl
theorem Rs.fr6 {w w' : World} {ao : Option Addr} {xs : List Nat} (h : Rs w ao xs) (hf : Fr [] w w') : Rs w' ao xs := by
  refine ⟨fun h0 => ?_, h.len⟩
  obtain ⟨b, off, e, hc⟩ := h.lies h0
  exact ⟨b, off, e, fun j hj => by
    have hlt := World.block_lt_of_cell? w _ (hc j hj)
    rw [World.cell?_of_block (hf.block b hlt (by simp))]
    exact hc j hj⟩
theorem lencode_gen (ao : Option Addr) (L cap c N : Nat) (ts : List Tm) (ys : List Nat) (w : World) (hT : TRs w ao ts) (hL : L = ts.length) (ht : Told6 (txs ts) c ys) (hN : N = ys.length) :
    Calls Tryz.prog 10 #[.slice ao L cap] w fun e w' => ∃ bo cb, e = .returned (.tuple #[.slice bo N cb, .int .i64 (c : Int)]) ∧ w'.ownsRow 0 5 1 (.slice bo N cb) N (bts ys) ∧ (∀ k, (Value.slice bo N cb).ownBlock = some k → w.heap.size ≤ k) ∧ Fr [] w w' := by
  have hl := ht.len
  rcases ht with ⟨hok, rfl, rfl⟩ | ⟨hb, h0, rfl⟩
  · refine (lencode_ok ao L cap N ts _ w hT hL hok rfl hN).mono ?_
    rintro e w' ⟨ro, rfl, hH, hF⟩
    by_cases h0 : 0 < (encL (txs ts)).length
    · obtain ⟨k, rfl, hk, hrow⟩ := hH.row h0
      exact ⟨some ⟨k, 0, none⟩, N, rfl, row_own6 hrow hN (by omega), by intro j hj; simp [Value.ownBlock] at hj; omega, hF⟩
    · obtain rfl := hH.nil (by omega)
      obtain rfl : N = 0 := by omega
      have hy : encL (txs ts) = [] := List.eq_nil_of_length_eq_zero (by omega)
      rw [hy]
      exact ⟨none, 0, rfl, World.ownsRow_nil _ _ _ _, by intro j hj; simp [Value.ownBlock] at hj, hF⟩
  · simp only [List.length_nil] at hN
    subst hN
    refine (lencode_no ao L cap c ts w hT hL hb h0).mono ?_
    rintro e w' ⟨rfl, hF⟩
    exact ⟨none, 0, rfl, World.ownsRow_nil _ _ _ _, by intro j hj; simp [Value.ownBlock] at hj, hF⟩
theorem yencode_gen (ao : Option Addr) (L cap c N : Nat) (ts : List Tm) (ys : List Nat) (w : World) (hT : TRs w ao ts) (hL : L = ts.length) (ht : Told6 (txs ts) c ys) (hN : N = ys.length) :
    Calls Tryz.prog 11 #[.slice ao L cap] w fun e w' => ∃ bo cb, e = .returned (.tuple #[.slice bo N cb, .int .i64 (c : Int)]) ∧ Rs w' bo ys ∧ Fr [] w w' := by
  have hl := ht.len
  rcases ht with ⟨hok, rfl, rfl⟩ | ⟨hb, h0, rfl⟩
  · refine (yEncode_ok ao L cap ts _ w hT hL hok rfl).mono ?_
    rintro e w' ⟨bo, M, cb, rfl, hM, hR, hF⟩
    rw [← hN] at hM
    subst hM
    exact ⟨bo, cb, rfl, hR.rs (by omega), hF⟩
  · simp only [List.length_nil] at hN
    subst hN
    refine (yEncode_no ao L cap c ts w hT hL hb h0).mono ?_
    rintro e w' ⟨rfl, hF⟩
    exact ⟨none, 0, rfl, Rs.nil _ _, hF⟩

set_option maxHeartbeats 8000000 in
set_option maxRecDepth 100000 in
theorem encl (ao : Option Addr) (L cap : Nat) (ts : List Tm) (w : World) (hT : TRs w ao ts) (hLe : L = ts.length) (htab : Bq.Tab w) :
    Calls Tryz.prog 3 #[.slice ao L cap] w fun e w' => e = .returned (.bool true) ∧ Fr [] w w' := by
  have HL : Hid (L = ts.length) := hLe
  have HTb : Hid (Bq.Tab w) := htab
  have HI : Hid (∀ W, Fr [] w W → TRs W ao ts) := fun W hf => hT.keep hf
  clear hLe htab
  go_enter Tryz.func3, Tryz.ntmps3
  go_wp2_with fail
  refine (txnsSizeB_any ao L cap ts _ hT HL.out).mono ?_
  rintro e w1 ⟨N0, rfl, hN0b, hLN, hFw0, hF1⟩
  have HFw0 : Hid (N0 ≤ 1048576 → Few ts) := hFw0
  clear hFw0
  go_wp2_with fail
  refine (beyond_any w1.heap.size N0 _ (by omega) (by simp)).mono ?_
  rintro e w2 ⟨rfl, rfl⟩
  have hF2 : Fr [] w1 (w1.alloc (.cells #[.int .i64 (N0 : Int)] 3)) := Fr.alloc _ _ _
  obtain ⟨w2, HW2⟩ : ∃ w2, Hid (w1.alloc (.cells #[.int .i64 (N0 : Int)] 3) = w2) := ⟨_, rfl⟩
  rw [HW2.out] at hF2 ⊢
  have hG2 := hF1.then hF2
  by_cases hbig : 1048576 < N0
  · have hbd : decide (1048576 < N0) = true := by simpa using hbig
    rw [hbd]
    go_wp2
    go_ret
    exact ⟨rfl, hG2⟩
  · have hbd : decide (1048576 < N0) = false := by simpa using hbig
    rw [hbd]
    have hLs : L < 1048577 := by omega
    have hfew := HFw0.out (by omega)
    have HFew : Hid (Few ts) := hfew
    obtain ⟨c, ys, hTo⟩ := Told6.ex (txs ts)
    have HTo : Hid (Told6 (txs ts) c ys) := hTo
    obtain ⟨N, HN⟩ : ∃ N, Hid (N = ys.length) := ⟨_, rfl⟩
    have hNb : N < 2^33 := by rw [HN.out]; exact hTo.len
    clear hTo hF1 hF2 hbig hbd hfew
    go_wp2_with fail
    refine (twinTs_any ao L cap ts _ (HI.out _ hG2) HL.out (by omega) HFew.out).mono ?_
    rintro e w4 ⟨b, ks, rfl, hb, hrow4, hTw4, hF4⟩
    have hG4 := hG2.then hF4
    have HG04 : Hid (Fr [] w w4) := hG4
    have hwb : w.heap.size ≤ b := by have := hG2.size; omega
    have HTw : Hid (∀ W, Fr [] w4 W → Twd w W ts ks) := fun W hf => by
      have h1 := hTw4.keep hf (by simp)
      exact ⟨h1.len, fun k hk => by have := h1.new k hk; have := hG2.size; omega, h1.row, h1.apart⟩
    have HRow : Hid (∀ W, Fr [] w4 W → W.heap[b]? = some (.cells (tmsC (twTs ts ks ++ [spT])).toArray 63 (0, 0))) := fun W hf => hf.keep hrow4 (by simp)
    have HX : Hid (∀ W, Fr [] w4 W → TRs W (some ⟨b, 0, none⟩) (twTs ts ks)) := fun W hf => twins_trs hT (HTw.out W hf) (HRow.out W hf)
    have HXL : Hid (L = (twTs ts ks).length) := by show _ = _; rw [twTs_length ts ks hTw4.len]; exact HL.out
    have HTo2 : Hid (Told6 (txs (twTs ts ks)) c ys) := by show Told6 _ _ _; rw [txs_twTs ts ks hTw4.len]; exact HTo.out
    have HI4 : Hid (∀ W, Fr [] w4 W → TRs W ao ts) := fun W hf => HI.out W (hG4.then hf)
    clear hrow4 hTw4 hF4 hG2 hG4 HI hb
    go_wp2_with fail
    refine (lencode_gen (some ⟨b, 0, none⟩) L (L + 1) c N (twTs ts ks) ys _ (HX.out _ (Fr.refl _ _)) HXL.out HTo2.out HN.out).mono ?_
    rintro e w5 ⟨b1, cb1, rfl, hO5, hk5, hF5⟩
    go_wp2_with fail
    refine (lencode_gen (some ⟨b, 0, none⟩) L (L + 1) c N (twTs ts ks) ys _ (HX.out _ hF5) HXL.out HTo2.out HN.out).mono ?_
    rintro e w6 ⟨b2, cb2, rfl, hO6, hk6, hF6⟩
    have hG6 := hF5.then hF6
    have hlt5 : ∀ k, (Value.slice b1 N cb1).ownBlock = some k → k < w5.heap.size := fun k hk => (hO5.lt k hk).2
    have hO56 := owns_keep hO5 hF6 (by simp)
    clear hO5
    go_wp2_with fail
    refine (yencode_gen ao L cap c N ts ys _ (HI4.out _ hG6) HL.out HTo.out HN.out).mono ?_
    rintro e w8 ⟨b3, cb3, rfl, hR8, hF8⟩
    have hG8 := hG6.then hF8
    have hO1 := owns_keep hO56 hF8 (by simp)
    have hO2 := owns_keep hO6 hF8 (by simp)
    have hl1 : ys.length < 2^41 := by rw [← HN.out]; omega
    have HS1 : Hid (∀ W, Fr [] w8 W → Calls Tryz.prog 13 #[.slice b1 N cb1, .slice b3 N cb3] W fun e w' => e = .returned (.bool true) ∧ Fr [] W w') := fun W hf => by
      refine (same_yes b1 b3 N N cb1 cb3 ys ys W (own_rs6 (owns_keep hO1 hf (by simp)) HN.out hl1) (hR8.fr6 hf) HN.out HN.out rfl).mono ?_
      rintro e w' ⟨rfl, q, rfl⟩
      exact ⟨rfl, Fr.drewN _ _ _⟩
    have HS2 : Hid (∀ W, Fr [] w8 W → Calls Tryz.prog 13 #[.slice b2 N cb2, .slice b3 N cb3] W fun e w' => e = .returned (.bool true) ∧ Fr [] W w') := fun W hf => by
      refine (same_yes b2 b3 N N cb2 cb3 ys ys W (own_rs6 (owns_keep hO2 hf (by simp)) HN.out hl1) (hR8.fr6 hf) HN.out HN.out rfl).mono ?_
      rintro e w' ⟨rfl, q, rfl⟩
      exact ⟨rfl, Fr.drewN _ _ _⟩
    have HK1 : Hid (∀ W, Fr [] w8 W → Calls Tryz.prog 12 #[.slice (some ⟨b, 0, none⟩) L (L + 1)] W fun e w' => e = .returned (.int .i64 (c : Int)) ∧ Fr [] W w') := fun W hf => lcheck_any _ L (L + 1) c _ W (HX.out _ (hG8.then hf)) HXL.out HTo2.out.bad
    have HLf : Hid (∀ W, Fr [] w8 W → Calls Tryz.prog 14 #[.slice (some ⟨b, 0, none⟩) L (L + 1), .slice ao L cap] W fun e w' => e = .returned (.bool true) ∧ Fr [] W w') := fun W hf => leftTs_any b ks w ao L cap ts W (HI4.out _ (hG8.then hf)) HL.out (by omega) HFew.out (HTw.out _ (hG8.then hf)) (HRow.out _ (hG8.then hf))
    have hcc : ((c : Int) != c) = false := by simp
    have HR : Hid (Fr [] w4 w8) := hG8
    have HO1 : Hid (w8.ownsRow 0 5 1 (.slice b1 N cb1) N (bts ys)) := hO1
    have HO2 : Hid (w8.ownsRow 0 5 1 (.slice b2 N cb2) N (bts ys)) := hO2
    have HB1 : Hid (∀ k, (Value.slice b1 N cb1).ownBlock = some k → w4.heap.size ≤ k ∧ k < w5.heap.size) := fun k hk => ⟨hk5 k hk, hlt5 k hk⟩
    have hs45 : w4.heap.size ≤ w5.heap.size := hF5.size
    have HB2 : Hid (∀ k, (Value.slice b2 N cb2).ownBlock = some k → w5.heap.size ≤ k) := hk6
    clear hO1 hO2 hO56 hO6 hR8 hF5 hF6 hG6 hF8 hG8 hk5 hk6 hlt5
    go_wp2_with fail
    refine (HK1.out _ (Fr.refl _ _)).mono ?_
    rintro e x1 ⟨rfl, hf1⟩
    go_wp2_with fail
    refine (HS1.out _ hf1).mono ?_
    rintro e x2 ⟨rfl, hf2⟩
    have hg2 := hf1.then hf2
    go_wp2_with fail
    refine (HS2.out _ hg2).mono ?_
    rintro e x3 ⟨rfl, hf3⟩
    have hg3 := hg2.then hf3
    go_wp2_with fail
    refine (HLf.out _ hg3).mono ?_
    rintro e w9 ⟨rfl, hf4⟩
    have hG9 := hg3.then hf4
    clear hf1 hf2 hf3 hf4 hg2 hg3
    have HG9 : Hid (Fr [] w8 w9) := hG9
    obtain ⟨bk, HBk⟩ : ∃ bk, Hid (bk = w9.heap.size) := ⟨_, rfl⟩
    obtain ⟨wl, HWl⟩ : ∃ wl, Hid (wl = w9.alloc (Obj.cells #[.int .i64 0, .slice none 0 0, .slice none 0 0, .slice none 0 0, .slice none 0 0, .slice none 0 0, .slice none 0 0, .slice none 0 0, .slice none 0 0, .slice none 0 0, .slice none 0 0, .slice none 0 0] 45)) := ⟨_, rfl⟩
    clear hG9 HS1 HS2 HK1 HLf
    go_upto_region 10 with fail
    rw [← HWl.out, ← HBk.out]
    have HFl : Hid (Fr [] w9 wl) := by rw [HWl.out]; exact Fr.alloc _ _ _
    have hBl : wl.heap[bk]? = some (.cells Bq.newBk 45 (0, 0)) := by rw [HWl.out, HBk.out]; exact heap_alloc_new w9 _
    have HG8l : Hid (Fr [] w8 wl) := HG9.out.then HFl.out
    have hbk1 : w8.heap.size ≤ bk := by rw [HBk.out]; exact HG9.out.size
    have hs8 : w4.heap.size ≤ w8.heap.size := HR.out.size
    have hs4 : w.heap.size ≤ w4.heap.size := HG04.out.size
    have HB0 : Hid (Bq.B4 w wl bk 0 (.slice none 0 0) (.slice none 0 0) (.slice none 0 0) (.slice none 0 0) [] [] [] []) := Bq.B4.new hBl (by omega)
    have HG4l : Hid (Fr [] w4 wl) := HR.out.then HG8l.out
    have HD0 : Hid (Bq.Dts wl (some ⟨b, 0, none⟩) L (L + 1) (dts (twTs ts ks))) := twins_dts hT HL.out hLs HFew.out (HTw.out _ HG4l.out) (HRow.out _ HG4l.out)
    have HC1 : Hid _ := Bq.txns_any HB0.out (some ⟨b, 0, none⟩) L (L + 1) _ HD0.out (fun i d hd k hk hm => by simp [Bq.lbs] at hm) (fun k hk hm => by simp [Bq.lbs] at hm) (by omega)
    clear hBl
    go_wp2_with fail
    refine Calls.mono HC1.out ?_
    rintro e wa ⟨rfl, rW, rT, hBa, hFa, hMWa, hMTa⟩
    have HBa : Hid (Bq.B4 w wa bk (0 + L + 1) (.slice none 0 0) (.slice none 0 0) rW rT [] [] ([] ++ Bq.held 0 (dts (twTs ts ks))) ([] ++ [⟨.slice (some ⟨b, 0, none⟩) L (L + 1), .slice none 0 0, 0 + L + 1⟩])) := hBa
    have HFa : Hid (Fr [bk] wl wa) := hFa
    have HOa1 : Hid (wa.ownsRow 0 5 1 (.slice b1 N cb1) N (bts ys)) := owns_keep (owns_keep HO1.out HG8l.out (by simp)) HFa.out (fun k hk => by have := (HO1.out.lt k hk).2; simp; omega)
    have HOa2 : Hid (wa.ownsRow 0 5 1 (.slice b2 N cb2) N (bts ys)) := owns_keep (owns_keep HO2.out HG8l.out (by simp)) HFa.out (fun k hk => by have := (HO2.out.lt k hk).2; simp; omega)
    have HC2 : Hid _ := Bq.bytes_any HBa.out b1 N cb1 ⟨N, bts ys, HOa1.out, by omega⟩ (fun k hk hm => by simp [Bq.lbs] at hm) (by omega)
    clear hBa hFa hMWa hMTa HC1 HB0 HD0
    go_wp2_with fail
    refine Calls.mono HC2.out ?_
    rintro e wb ⟨rfl, rB1, hBb, hFb, hMb⟩
    have HBb : Hid (Bq.B4 w wb bk (0 + L + 1 + 1) rB1 (.slice none 0 0) rW rT ([] ++ [⟨.slice b1 N cb1, .slice none 0 0, 0 + L + 1 + 1⟩]) [] ([] ++ Bq.held 0 (dts (twTs ts ks))) ([] ++ [⟨.slice (some ⟨b, 0, none⟩) L (L + 1), .slice none 0 0, 0 + L + 1⟩])) := hBb
    have HFb : Hid (Fr [bk] wa wb) := hFb
    have HOb2 : Hid (wb.ownsRow 0 5 1 (.slice b2 N cb2) N (bts ys)) := owns_keep HOa2.out HFb.out (fun k hk => by have := (HO2.out.lt k hk).2; simp; omega)
    have HC3 : Hid _ := Bq.bytes_any HBb.out b2 N cb2 ⟨N, bts ys, HOb2.out, by omega⟩ (fun k hk hm => by
      obtain ⟨h, hh, hk1⟩ := Bq.mem_lbs.1 hm
      simp at hh
      subst hh
      have := HB1.out k hk1
      have := HB2.out k hk
      omega) (by omega)
    have hMB : ∀ k, rB1.ownBlock = some k → w.heap.size ≤ k := HBb.out.rBn
    clear hBb hFb hMb HC2 HBa
    go_wp2_with fail
    refine Calls.mono HC3.out ?_
    rintro e wc ⟨rfl, rB2, hBc, hFc, hMc⟩
    have hGc : Fr [] w wc := by
      refine (((HG04.out.then HG4l.out).on HFa.out (by intro x hx; simp at hx; omega)).on HFb.out (by intro x hx; simp at hx; omega)).on hFc ?_
      intro x hx
      rcases List.mem_cons.1 hx with h | h
      · omega
      · exact hMB x (by simpa using h)
    have HC4 : Hid _ := hBc.apart (by
        intro k hk
        obtain ⟨h, hh, hk1⟩ := Bq.mem_lbs.1 hk
        simp at hh
        rcases hh with rfl | rfl
        · have := HB1.out k hk1; omega
        · have := HB2.out k hk1; omega) (by intro k hk; simp [Bq.lbs] at hk) (by
        intro k hk
        rw [List.nil_append] at hk
        exact (HTw.out _ (Fr.refl _ _)).new k (lbs_twins hk)) (by
        intro k hk
        obtain ⟨h, hh, hk1⟩ := Bq.mem_lbs.1 hk
        simp at hh
        subst hh
        simp [Value.ownBlock] at hk1
        omega) HTb.out hGc
    clear hBc hFc hMc HC3 HBb hGc
    go_wp2_with fail
    refine Calls.mono HC4.out ?_
    rintro e wd ⟨rfl, hFd⟩
    clear HC4
    go_wp2
    go_ret
    exact ⟨rfl, hFd⟩
end Go.Proofs.YtaefninikmaiiaaGreatDoor
/- Transactions that came in: how they lie in memory. Conditions as each lemma names them. -/
namespace Go.Proofs.YtaefninikmaiiaaGreatDoor
open Go.ChangeShapes Go.WideShapes Go.ChangeAt Go.RowKit Go.Lib
set_option linter.unusedVariables false
section
variable {H : Type} {enc : TypeId × Value → H}
theorem Tryz.undTs' : Tryz.prog.underlying 22 = some (.slice 63) := by kernel_rfl
set_option maxRecDepth 100000 in
theorem ts_open {w : World} {fuel : Nat} {v : Value} {d : DataW H} {ps : List MemPlace} (h : DataW.trod enc Tryz.prog w 0 (fun _ => true) true fuel 22 [v] = some (d, ps)) (hsz : ∀ n ∈ d.weights Tryz.prog 22, n ≤ reachBytes) :
    ∃ ao L cap ts, v = .slice ao L cap ∧ TRs w ao ts ∧ L = ts.length ∧ L ≤ cap := by
  rcases Go.Deep.open_slice Tryz.undTs' h with ⟨hcs, _⟩ | ⟨a, len, cap, m, n, D, Pl, hcs, hb, hl, hm, hmm, hx, hE⟩
  · simp only [List.cons.injEq, and_true] at hcs
    exact ⟨none, 0, 0, [], hcs, TRs.nil _ _, rfl, Nat.le_refl _⟩
  · simp only [List.cons.injEq, and_true] at hcs
    simp only [if_true] at hmm
    subst hmm
    rw [Tryz.cellsT] at hE hx
    have hd : d = .slice ((List.range len).map D) ((List.range (m - len)).map fun j => D (len + j)) := by have := congrArg Prod.fst hx; simpa using this
    have hr := reachBytes_lt
    have hW : ∀ i, i < len → ∀ q ∈ (D i).weights Tryz.prog 63, q ≤ reachBytes := by
      intro i hi q hq
      apply hsz
      rw [hd]
      simp only [DataW.weights, Tryz.undTs']
      refine List.mem_cons_of_mem _ (List.mem_append_left _ ?_)
      exact weightsAll_mem (List.mem_map.2 ⟨i, by simpa using hi, rfl⟩) _ hq
    have hO : ∀ i, i < len → ∃ t : Tm, (w.cells? 0 (a.add (i * 2)) 2 = some [.int .i64 t.n, .slice t.ao t.L t.cap]) ∧ t.at w := by
      intro i hi
      obtain ⟨cs', h1, h2⟩ := hE i (by omega)
      obtain ⟨n, ao, L, cap, ws, rfl, hT⟩ := tx_open h2 (hW i hi)
      exact ⟨⟨n, ao, L, cap, ws⟩, h1, hT⟩
    haveI : Inhabited Tm := ⟨Tm.zero⟩
    obtain ⟨F, hF⟩ := Go.Deep.choose_lt hO
    have hlen : len ≤ 140737488355328 := by
      have hw : len * Tryz.prog.bytesOf 63 ≤ reachBytes := by
        refine Nat.le_trans (Nat.mul_le_mul_right _ hl) (hsz _ ?_)
        rw [hd]
        simp only [DataW.weights, Tryz.undTs', List.length_map, List.length_range]
        rw [show len + (m - len) = m by omega]
        exact List.mem_cons_self
      have hb40 : 1 ≤ Tryz.prog.bytesOf 63 := by
        rw [show Tryz.prog.bytesOf 63 = 32 from by kernel_rfl]
        decide
      have := Nat.le_mul_of_pos_right len hb40
      omega
    refine ⟨some a, len, m, (List.range len).map F, hcs, ⟨fun h0 => ?_, by simpa using hlen, ?_⟩, by simp, hl⟩
    · simp only [List.length_map, List.length_range] at h0 ⊢
      have hc0 := (World.cells?_some (hF 0 (by omega)).1).2.2
      obtain ⟨b, off, spot⟩ := a
      have hspot : spot = none := by
        have := hc0 0 (by omega)
        simp at this
        simpa [Addr.add] using World.cell?_spot this
      subst hspot
      have hcell : ∀ i, i < len → ∀ j, j < 2 → w.cell? ⟨b, off + i * 2 + j, none⟩ = [Value.int .i64 (F i).n, .slice (F i).ao (F i).L (F i).cap][j]? := by
        intro i hi j hj
        have := (World.cells?_some (hF i (by omega)).1).2.2 j hj
        rw [show ((⟨b, off, none⟩ : Addr).add (i * 2)).add j = ⟨b, off + i * 2 + j, none⟩ from by rw [Addr.add_lit, Addr.add_lit]] at this
        exact this
      refine ⟨b, off, rfl, World.block_lt_of_cell? w ⟨b, off + 0 * 2 + 0, none⟩ (by rw [hcell 0 (by omega) 0 (by omega)]; rfl), fun i hi => ?_⟩
      have e : ((List.range len).map F).getD i Tm.zero = F i := by simp [List.getD, hi]
      rw [e]
      exact ⟨hcell i hi 0 (by omega), hcell i hi 1 (by omega)⟩
    · intro t ht
      obtain ⟨i, hi, rfl⟩ := List.mem_map.1 ht
      exact (hF i (by simpa using hi)).2
end
end Go.Proofs.YtaefninikmaiiaaGreatDoor

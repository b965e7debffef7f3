/- The document's Encode of a transaction. Conditions as each names them. -/
import Derived.Test.YtaefninikmaiiaaGreatDoorWant2
import Derived.Test.YtaefninikmaiiaaGreatDoorRefC
namespace Go.Proofs.YtaefninikmaiiaaGreatDoor
open Go.ChangeShapes Go.WideShapes Go.ChangeAt Go.RowKit Go.Lib
set_option linter.unusedVariables false
set_option linter.unusedSimpArgs false

theorem Fr.wide' {S : List Nat} {w w' : World} (h : Fr [] w w') : Fr S w w' := h.mono (by simp)
theorem WnTo.quiet {w w1 w2 : World} {v v1 : Value} {ys : List Nat} (h : WnTo w v w1 v1 ys) (hf : Fr [] w1 w2) : WnTo w v w2 v1 ys :=
  ⟨h.wn.keep hf (by simp), h.fr.trans hf (fun _ hx _ => hx) (by simp), h.mv⟩

set_option maxHeartbeats 4000000 in
set_option maxRecDepth 100000 in
theorem xEncode_no (n : Int) (ao : Option Addr) (L cap : Nat) (ws : List Wt) (w : World) (hW : WRs w ao ws) (hL : L = ws.length) (hn0 : -9223372036854775808 ≤ n) (hn1 : n ≤ 9223372036854775807) (hno : ¬ okT n ws) :
    Calls Tryz.prog 45 #[.agg #[.int .i64 n, .slice ao L cap]] w fun e w' => e = .returned (.tuple #[.slice none 0 0, .int .i64 1]) ∧ Fr [] w w' := by
  have HL : Hid (L = ws.length) := hL
  have HN : Hid (¬ okT n ws) := hno
  clear hL hno
  have hF0 : Fr [] w (w.alloc (.cells #[.int .i64 n, .slice ao L cap] 63)) := Fr.alloc _ _ _
  have hW0 := hW.keep hF0
  go_enter Tryz.func45, Tryz.ntmps45
  go_wp2_with fail
  refine (xCheck_any n ao L cap 1 ws _ hW0 HL.out hn0 hn1 (Or.inr ⟨HN.out, rfl⟩)).mono ?_
  rintro e w1 ⟨rfl, hF1⟩
  have hF := hF0.then hF1
  clear hF0 hF1 hW0
  go_wp2
  go_ret2
  exact ⟨rfl, hF⟩

theorem Wn.nil (w : World) : Wn w (.slice none 0 0) [] := World.ownsRow_nil _ _ _ _
set_option maxHeartbeats 8000000 in
set_option maxRecDepth 100000 in
theorem xEncode_ok (n : Int) (ao : Option Addr) (L cap : Nat) (ws : List Wt) (ys : List Nat) (w : World) (hW : WRs w ao ws) (hL : L = ws.length) (hok : okT n ws) (hys : ys = encT n.toNat ws) :
    Calls Tryz.prog 45 #[.agg #[.int .i64 n, .slice ao L cap]] w fun e w' => ∃ bo N cb, e = .returned (.tuple #[.slice bo N cb, .int .i64 0]) ∧ N = ys.length ∧ Wn w' (.slice bo N cb) ys ∧ (∀ k, (Value.slice bo N cb).ownBlock = some k → w.heap.size ≤ k) ∧ Fr [] w w' := by
  obtain ⟨N0, hNN⟩ : ∃ N0 : Nat, n = N0 := ⟨n.toNat, by have := hok.1; omega⟩
  subst hNN
  rw [Int.toNat_natCast] at hys
  obtain ⟨i0, hi0, hz0, hz1, hz2⟩ := info_parts Tryz.infoB
  have hL32 : L ≤ 32 := by rw [hL]; exact hok.2.2.1
  have hN1 := hok.1
  have hN2 := hok.2.1
  have HL : Hid (L = ws.length) := hL
  have HK : Hid (okT (N0 : Int) ws) := hok
  have HY : Hid (ys = encT N0 ws) := hys
  have hwn := u64_nat (N0 : Int) (by omega) (by omega)
  have hwl := u64_nat (L : Int) (by omega) (by omega)
  clear hL hok hys
  have hF0 : Fr [] w (w.alloc (.cells #[.int .i64 (N0 : Int), .slice ao L cap] 63)) := Fr.alloc _ _ _
  have hW0 := hW.keep hF0
  have c0 : (w.alloc (.cells #[.int .i64 (N0 : Int), .slice ao L cap] 63)).cell? ⟨w.heap.size, 0, none⟩ = some (.int .i64 (N0 : Int)) := cell_of_row _ _ _ _ _ _ (heap_alloc_new w _)
  have c1 : (w.alloc (.cells #[.int .i64 (N0 : Int), .slice ao L cap] 63)).cell? ⟨w.heap.size, 1, none⟩ = some (.slice ao L cap) := cell_of_row _ _ _ _ _ _ (heap_alloc_new w _)
  have hsz : w.heap.size < (w.alloc (.cells #[.int .i64 (N0 : Int), .slice ao L cap] 63)).heap.size := by simp
  obtain ⟨w0, HW0⟩ : ∃ w0, Hid (w.alloc (.cells #[.int .i64 (N0 : Int), .slice ao L cap] 63) = w0) := ⟨_, rfl⟩
  rw [HW0.out] at hF0 hW0 c0 c1 hsz
  have HC : Hid (∀ W, Fr [] w0 W → W.cell? ⟨w.heap.size, 0, none⟩ = some (.int .i64 (N0 : Int)) ∧ W.cell? ⟨w.heap.size, 1, none⟩ = some (.slice ao L cap)) := fun W hf => ⟨(World.cell?_of_block (hf.block _ hsz (by simp))).trans c0, (World.cell?_of_block (hf.block _ hsz (by simp))).trans c1⟩
  go_enter Tryz.func45, Tryz.ntmps45
  go_wp2_with fail
  rw [HW0.out]
  refine (xCheck_any (N0 : Int) ao L cap 0 ws _ hW0 HL.out (by omega) (by omega) (Or.inl ⟨HK.out, rfl⟩)).mono ?_
  rintro e w1 ⟨rfl, hF1⟩
  have k0 := (HC.out _ hF1).1
  have k1 := (HC.out _ hF1).2
  clear c0 c1
  go_wp2_with fail
  refine (refVar_any (.slice none 0 0) [] N0 _ (Wn.nil _) (by omega) (by simp)).mono ?_
  rintro e w2 ⟨bo2, n2, cb2, rfl, hT2⟩
  have hF2 : Fr [] w0 w2 := hF1.then hT2.fr
  have m1 := (HC.out _ hF2).2
  rw [List.nil_append] at hT2
  have hl2 := enc_length N0
  clear k0 k1
  go_wp2_with fail
  refine (refVar_any (.slice bo2 n2 cb2) (enc N0) L _ hT2.wn (by omega) (by omega)).mono ?_
  rintro e w3 ⟨bo3, n3, cb3, rfl, hT3⟩
  have hT13 := hT2.then hT3
  clear m1 hT2 hT3
  go_wp2_with fail
  go_loopw [4, 5] (fun bb ii wr => ∃ (i n' cb : Nat) (bo : Option Addr) (us : List Nat), bb = .slice bo n' cb ∧ ii = .int .i64 i ∧ i ≤ L ∧ Hid (us = enc N0 ++ enc L ++ encWs (ws.take i)) ∧ Hid (WnTo w1 (.slice none 0 0) wr (.slice bo n' cb) us)) (fun _ ii _ => L - (intOf ii).toNat)
  case atStart => exact ⟨0, n3, cb3, bo3, _, rfl, rfl, Nat.zero_le _, by simp [Hid, encWs], hT13⟩
  case round =>
    obtain ⟨i, n', cb, bo, us, rfl, rfl, hiL, HU, HT⟩ := hrel
    have hFr : Fr [] w0 wr := hF1.then HT.out.fr
    have q1 := (HC.out _ hFr).2
    have hul : us.length ≤ 20 + 2000 * i := by
      have a := encWs_length (ws.take i) (fun x hx => HK.out.2.2.2 x (List.mem_of_mem_take hx))
      have b := enc_length L
      rw [HU.out, List.length_append, List.length_append]
      rw [List.length_take] at a
      have : 2000 * min i ws.length ≤ 2000 * i := Nat.mul_le_mul_left _ (Nat.min_le_left _ _)
      omega
    by_cases hi : i < L
    · have hi' : i < ws.length := by rw [← HL.out]; exact hi
      obtain ⟨b, off, rfl, _, hc⟩ := (hW0.keep hFr).lies (by omega)
      obtain ⟨d0, d1, d2⟩ := hc i hi'
      have hokx := HK.out.2.2.2 _ (wgetD_mem ws i hi')
      obtain ⟨x, hxx⟩ : ∃ x, x = ws.getD i Wt.zero := ⟨_, rfl⟩
      rw [← hxx] at d0 d1 d2 hokx
      have HU2 : Hid (us ++ encW x = enc N0 ++ enc L ++ encWs (ws.take (i + 1))) := by
        show _ = _
        rw [wtake_snoc ws i hi', encWs_snoc, ← hxx, HU.out]
        simp only [List.append_assoc]
      clear hxx hc
      obtain ⟨key, val, drop⟩ := x
      have hx1 := hokx.2.1
      have hx2 := hokx.2.2.1
      clear hokx
      simp only at d0 d1 d2 hx1 hx2
      have hlt : (i : Int) < L := by omega
      obtain ⟨w4, HW4⟩ : ∃ w4, Hid (wr.alloc (.cells #[.string key, .string val, .bool drop] 124) = w4) := ⟨_, rfl⟩
      have hF4 : Fr [] wr w4 := by rw [← HW4.out]; exact Fr.alloc [] _ _
      have hB4 : w4.heap[wr.heap.size]? = some (.cells #[.string key, .string val, .bool drop] 124 (0, 0)) := by rw [← HW4.out]; exact heap_alloc_new wr _
      have HT4 := HT.out.quiet hF4
      have e0 : w4.cell? ⟨wr.heap.size, 0, none⟩ = some (.string key) := by rw [cell_of_row _ _ _ _ _ _ hB4]; rfl
      have hlt4 := lt_of_block hB4
      go_upto_region 9 with fail
      rw [HW4.out]
      go_wp2_with fail
      refine (refText_any (.slice bo n' cb) us key _ HT4.wn (by omega) (by omega)).mono ?_
      rintro e w5 ⟨bo5, n5, cb5, rfl, hT5⟩
      have HT5 := HT4.then hT5
      have hne : wr.heap.size ∉ (Value.slice bo n' cb).ownBlock.toList := by
        intro hh
        have := (World.ownsRow.lt HT.out.wn wr.heap.size (by simpa using hh)).2
        omega
      have hB5 := hT5.fr.keep hB4 hne
      have e1 : w5.cell? ⟨wr.heap.size, 1, none⟩ = some (.string val) := by rw [cell_of_row _ _ _ _ _ _ hB5]; rfl
      have e2 : w5.cell? ⟨wr.heap.size, 2, none⟩ = some (.bool drop) := by rw [cell_of_row _ _ _ _ _ _ hB5]; rfl
      have hek := encS_length key
      obtain ⟨vs, hvs⟩ : ∃ vs, vs = us ++ (enc key.size ++ strNs key) := ⟨_, rfl⟩
      rw [← hvs] at HT5
      have hvl : vs.length < 2^20 := by
        have : (enc key.size ++ strNs key).length ≤ 10 + key.size := hek.2
        rw [hvs, List.length_append]; omega
      have HVS : Hid (vs = us ++ encS key) := hvs
      obtain ⟨ao5, cap5, hsl⟩ := HT5.wn.slice
      cases hsl
      obtain ⟨Q, HQ⟩ : ∃ Q, Hid (Q = vs.length) := ⟨_, rfl⟩
      have HO : Hid (w5.ownsRow 0 5 1 (.slice bo5 vs.length cb5) vs.length (bts vs)) := HT5.wn
      have HT5' : Hid (WnTo w1 (.slice none 0 0) w5 (.slice bo5 vs.length cb5) vs) := HT5
      rw [← HQ.out] at HO HT5'
      have hQl : Q < 2^20 := by rw [HQ.out]; exact hvl
      rw [← HQ.out]
      clear hvs e0 hT5 HT5 HT4 hB4 hF4 d0 d1 d2 hvl
      cases drop with
      | true =>
        go_wp2_with (at_builtin; refine wpList_app1 _ rfl (.tmp 38) (.tmp 39) 26 rfl 5 i0 (.int .u8 0) 1 1 Tryz.undBs hi0 hz0 hz1 hz2 rfl (by decide) _ Q _ rfl (HO.out.alloc _) ⟨w5.heap.size, 0, none⟩ 1 [.int .u8 1] rfl rfl ?c1 ?c2 ?c3 ?c4 ?_)
        case c1 => intro j u hj; match j, hj with | 0, hj => simp at hj; subst hj; simp [Addr.add]
        case c2 => intro u hu; simp at hu; subst hu; rfl
        case c3 => omega
        case c4 => unfold maxLen; omega
        intro g' cap' w6 hown hgrow hmov
        have HR : Hid (WnTo w1 (.slice none 0 0) w6 (.slice (some ⟨g', 0, none⟩) (Q + 1) cap') (vs ++ [1])) := HT5'.out.step (z := 1) hown (by simp [HQ.out]) (by rw [bts_append]; rfl) hgrow hmov (by omega)
        have HU3 : Hid (vs ++ [1] = enc N0 ++ enc L ++ encWs (ws.take (i + 1))) := by show _ = _; rw [← HU2.out, HVS.out]; simp [encW, encV]
        clear hown hgrow hmov HO HT5' e1 e2
        go_wp2
        go_roundw
        case rel => exact ⟨i + 1, _, _, _, _, rfl, by simp, by omega, HU3, HR⟩
        case measure => simp [intOf]; omega
      | false =>
        go_wp2_with (at_builtin; refine wpList_app1 _ rfl (.tmp 41) (.tmp 42) 26 rfl 5 i0 (.int .u8 0) 1 1 Tryz.undBs hi0 hz0 hz1 hz2 rfl (by decide) _ Q _ rfl (HO.out.alloc _) ⟨w5.heap.size, 0, none⟩ 1 [.int .u8 0] rfl rfl ?c1 ?c2 ?c3 ?c4 ?_)
        case c1 => intro j u hj; match j, hj with | 0, hj => simp at hj; subst hj; simp [Addr.add]
        case c2 => intro u hu; simp at hu; subst hu; rfl
        case c3 => omega
        case c4 => unfold maxLen; omega
        intro g' cap' w6 hown hgrow hmov
        have HR : WnTo w1 (.slice none 0 0) w6 (.slice (some ⟨g', 0, none⟩) (Q + 1) cap') (vs ++ [0]) := HT5'.out.step (z := 0) hown (by simp [HQ.out]) (by rw [bts_append]; rfl) hgrow hmov (by omega)
        have hF56 : Fr (Value.slice bo5 Q cb5).ownBlock.toList w5 w6 := ((Fr.alloc [] w5 _).wide').then (Fr.grown hgrow (by intro k hk _; simp [hk]))
        have hne5 : wr.heap.size ∉ (Value.slice bo5 Q cb5).ownBlock.toList := by
          intro hh
          have hb : (Value.slice bo5 Q cb5).ownBlock = some wr.heap.size := by simpa using hh
          obtain ⟨cs, hcs⟩ := own_type HO.out _ hb
          rw [hB5] at hcs
          simp at hcs
        have hB6 := hF56.keep hB5 hne5
        have f1 : w6.cell? ⟨wr.heap.size, 1, none⟩ = some (.string val) := by rw [cell_of_row _ _ _ _ _ _ hB6]; rfl
        have hvl2 : (vs ++ [0]).length < 2^39 := by rw [List.length_append, ← HQ.out]; simp; omega
        have HU3 : Hid ((vs ++ [0]) ++ (enc val.size ++ strNs val) = enc N0 ++ enc L ++ encWs (ws.take (i + 1))) := by show _ = _; rw [← HU2.out, HVS.out]; simp [encW, encV, encS]
        clear hown hgrow hmov HO HT5' e1 e2 hB5 hB6 hF56
        go_wp2_with fail
        refine (refText_any (.slice (some ⟨g', 0, none⟩) (Q + 1) cap') (vs ++ [0]) val _ HR.wn hvl2 (by omega)).mono ?_
        rintro e w7 ⟨bo7, n7, cb7, rfl, hT7⟩
        have HR7 : Hid (WnTo w1 (.slice none 0 0) w7 (.slice bo7 n7 cb7) ((vs ++ [0]) ++ (enc val.size ++ strNs val))) := HR.then hT7
        clear HR hT7 f1
        go_wp2
        go_roundw
        case rel => exact ⟨i + 1, _, _, _, _, rfl, by simp, by omega, HU3, HR7⟩
        case measure => simp [intOf]; omega
    · have hle : (L : Int) ≤ i := by omega
      have HE : Hid (us = ys) := by
        show us = ys
        rw [HU.out, HY.out, List.take_of_length_le (by rw [← HL.out]; omega), HL.out, List.append_assoc]
        rfl
      have HR : Hid (n' = ys.length ∧ Wn wr (.slice bo n' cb) ys ∧ ∀ k, (Value.slice bo n' cb).ownBlock = some k → w.heap.size ≤ k) := by
        have hw := HT.out.wn
        have hnw := HT.out.mv.lt (B := w.heap.size) (by have := hF0.size; have := hF1.size; omega) (by intro k hk; simp [Value.ownBlock] at hk)
        obtain ⟨_, _, hsl⟩ := hw.slice
        cases hsl
        exact ⟨by rw [← HE.out], by rw [← HE.out]; exact hw, hnw⟩
      go_wp2
      go_ret2
      exact ⟨_, _, _, rfl, HR.out.1, HR.out.2.1, HR.out.2.2, hF0.then hFr⟩
end Go.Proofs.YtaefninikmaiiaaGreatDoor

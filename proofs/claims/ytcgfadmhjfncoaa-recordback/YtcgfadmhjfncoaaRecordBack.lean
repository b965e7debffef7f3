/- For every transaction, every place and every byte the law RecordBack returns true, and all read as they did. No conditions. -/
import Derived.Test.YtcgfadmhjfncoaaTwin
import Derived.Test.YtcgfadmhjfncoaaTxo
namespace Go.Proofs.Ytcgfadmhjfncoaa.recordBack
open Go.ChangeShapes Go.WideShapes Go.ChangeAt Go.RowKit Go.Lib
set_option linter.unusedVariables false

theorem row_arg {w : World} {k N : Nat} {ys : List Nat} (h : w.heap[k]? = some (.cells (bts ys).toArray 5 (0, 0))) (hN : N = ys.length) (hl : ∀ y ∈ ys, y < 256) (hm : N < 2^40) : BArg w (some ⟨k, 0, none⟩) N N ys :=
  ⟨hN, hl, Nat.le_refl _, by omega, fun _ => ⟨k, 0, rfl, lt_of_block h, fun j hj => by rw [cell_of_row _ _ _ _ _ _ h, Nat.zero_add]; simpa using bts_get ys j (by omega)⟩⟩
theorem arg_take {w : World} {k N : Nat} {ys : List Nat} (h : BArg w (some ⟨k, 0, none⟩) N N ys) (m : Nat) (hm : m ≤ N) : BArg w (some ⟨k, 0, none⟩) m N (ys.take m) := by
  have hN := h.len
  refine ⟨by rw [List.length_take]; omega, fun y hy => h.low y (List.mem_of_mem_take hy), hm, by have := h.most; omega, fun h0 => ?_⟩
  obtain ⟨b, off, e, hb, hc⟩ := h.lies (by omega)
  refine ⟨b, off, e, hb, fun j hj => ?_⟩
  rw [hc j (by omega)]
  have : (ys.take m).getD j 0 = ys.getD j 0 := by simp [List.getD, hj]
  rw [this]
theorem twin_owns {w : World} {t N : Nat} {ys : List Nat} (hN : N = ys.length) (hm : N < 2^40) (h : w.heap[t]? = some (.cells (bts (ys ++ [77])).toArray 5 (0, 0))) : w.ownsRow 0 5 1 (.slice (some ⟨t, 0, none⟩) N (N + 1)) N (bts ys) := by
  refine ⟨by rw [bts_length]; omega, .inr ⟨t, N + 1, (bts (ys ++ [77])).toArray, rfl, Nat.zero_le _, h, by omega, by simp only [maxLen]; omega, by simp [bts_length]; omega, ?_⟩⟩
  simp only [bts_append, Nat.mul_one]
  rw [List.take_append_of_le_length (by rw [bts_length]; omega), List.take_of_length_le (by rw [bts_length]; omega)]

set_option maxHeartbeats 8000000 in
set_option maxRecDepth 100000 in
theorem walk (n : Int) (ao : Option Addr) (L cap : Nat) (ws : List Wt) (cut : Nat) (hcut : cut < 65536) (more : Nat) (hmore : more < 256) (w : World) (hT : TArg w n ao L cap ws) :
    Calls Try.prog 4 #[.agg #[.int .i64 n, .slice ao L cap], .int .u16 (cut : Int), .int .u8 (more : Int)] w fun e w' => e = .returned (.bool true) ∧ Fr [] w w' := by
  obtain ⟨i0, hi, hz0, hz1, hz2⟩ := info_parts Try.infoB
  have HL : Hid (L = ws.length) := hT.len
  have hn0 := hT.n0
  have hn1 := hT.n1
  obtain ⟨w0, HW0⟩ : ∃ w0, Hid (w.alloc (.cells #[.int .i64 n, .slice ao L cap] 27) = w0) := ⟨_, rfl⟩
  have hF0 : Fr [] w w0 := by rw [← HW0.out]; exact Fr.alloc [] w _
  have hT0 : B2 w0 w.heap.size (.int .i64 n) (.slice ao L cap) := ⟨by rw [← HW0.out]; exact heap_alloc_new w _⟩
  go_enter Try.func4, Try.ntmps4
  go_wp2_with fail
  rw [HW0.out]
  refine (alive5_any _).mono ?_
  rintro e w1 ⟨rfl, hF1⟩
  have hG1 := hF0.then hF1
  have hT1 := hT0.keep hF1
  have x0 := hT1.c0
  have x1 := hT1.c1
  go_wp2_with fail
  refine (txSize_any n ao L cap ws _ (hT.rs.keep hG1) HL.out).mono ?_
  rintro e w2 ⟨N0, rfl, hN0, hF2⟩
  have hG2 := hG1.then hF2
  have hT2 := hT1.keep hF2
  have hN0b := hN0.2.1
  clear hF0 hF1 x0 x1
  go_wp2_with fail
  refine (beyond_any w2.heap.size (N0 + 1) _ (by omega) (by simp)).mono ?_
  rintro e w3 ⟨rfl, rfl⟩
  have hF3 : Fr [] w2 (w2.alloc (.cells #[.int .i64 ((N0 : Int) + 1)] 3)) := Fr.alloc _ _ _
  obtain ⟨w3, HW3⟩ : ∃ w3, Hid (w2.alloc (.cells #[.int .i64 ((N0 : Int) + 1)] 3) = w3) := ⟨_, rfl⟩
  rw [HW3.out] at hF3 ⊢
  have hG3 := hG2.then hF3
  have hT3 := hT2.keep hF3
  clear hF2 hF3 hG1 hG2 hT1 hT2 hN0
  by_cases hbig : 1048576 < N0 + 1
  · have hbd : decide (1048576 < N0 + 1) = true := by simpa using hbig
    rw [hbd]
    go_wp2_with fail
    refine (alive5_any _).mono ?_
    rintro e w4 ⟨rfl, hF4⟩
    go_wp2
    go_ret
    exact ⟨rfl, hG3.then hF4⟩
  · have hbd : decide (1048576 < N0 + 1) = false := by simpa using hbig
    rw [hbd]
    have x0 := hT3.c0
    have x1 := hT3.c1
    have hR3 := hT.rs.keep hG3
    by_cases hok : okT n ws
    · obtain ⟨n', rfl⟩ : ∃ m : Nat, n = (m : Int) := ⟨n.toNat, by have := hok.1; omega⟩
      have HK : Hid (okT (n' : Int) ws) := hok
      have hlen := encT_length n' ws hok
      obtain ⟨ys, hys⟩ : ∃ ys, ys = encT n' ws := ⟨_, rfl⟩
      obtain ⟨N, hN⟩ : ∃ N, N = ys.length := ⟨_, rfl⟩
      have hNb : 2 ≤ N ∧ N ≤ 65000 := by rw [hN, hys]; exact hlen
      have HY : Hid (ys = encT n' ws) := hys
      have HN : Hid (N = ys.length) := hN
      have HY' : Hid (ys = encT (n' : Int).toNat ws) := by show _ = _; rw [Int.toNat_natCast]; exact hys
      have hlow : Hid (∀ y ∈ ys, y < 256) := by show ∀ y ∈ ys, y < 256; rw [hys]; exact encT_lt n' ws
      clear hok hlen hys hN
      go_wp2_with fail
      refine (encode_ok (n' : Int) ao L cap N ws ys _ hR3 HL.out HK.out HY'.out HN.out).mono ?_
      rintro e w4 ⟨k, rfl, hk, hrow4, hF4⟩
      have hG4 := hG3.then hF4
      have hT4 := hT3.keep hF4
      have hR4 := hR3.keep hF4
      have hA4 := row_arg hrow4 HN.out hlow.out (by omega)
      have HD : Hid (decT ys = .ok (n', ws)) := by show _ = _; rw [HY.out]; exact decT_back n' ws HK.out
      clear hR3 hT3 x0 x1 hF4
      go_wp2_with fail
      refine (decode_ok (some ⟨k, 0, none⟩) N N n' ws ys _ hA4 HN.out (by rw [← HN.out]; omega) HD.out).mono ?_
      rintro e w5 ⟨k5, C, rfl, hk5, hC, hrow5, hF5⟩
      subst hC
      obtain ⟨C, hC⟩ : ∃ C, C = ws.length := ⟨_, rfl⟩
      have HC : Hid (C = ws.length) := hC
      rw [← hC]
      clear hC
      have hF6 : Fr [] w5 (w5.alloc (.cells #[.int .i64 (n' : Int), .slice (some ⟨k5, 0, none⟩) C C] 27)) := Fr.alloc _ _ _
      have c6 : (w5.alloc (.cells #[.int .i64 (n' : Int), .slice (some ⟨k5, 0, none⟩) C C] 27)).heap[w5.heap.size]? = some (.cells #[.int .i64 (n' : Int), .slice (some ⟨k5, 0, none⟩) C C] 27 (0, 0)) := heap_alloc_new w5 _
      obtain ⟨w6, HW6⟩ : ∃ w6, Hid (w5.alloc (.cells #[.int .i64 (n' : Int), .slice (some ⟨k5, 0, none⟩) C C] 27) = w6) := ⟨_, rfl⟩
      rw [HW6.out] at hF6 c6
      have hX6 : B2 w6 w5.heap.size (.int .i64 (n' : Int)) (.slice (some ⟨k5, 0, none⟩) C C) := ⟨c6⟩
      have hF46 := hF5.then hF6
      have hG6 := hG4.then hF46
      have hT6 := hT4.keep hF46
      have hR6 := hR4.keep hF46
      have hrow6 := hF46.keep hrow4 (by simp)
      have hV6 := (WRs.of_ok HK.out hrow5).keep hF6
      have y0 : (w5.alloc (.cells #[.int .i64 (n' : Int), .slice (some ⟨k5, 0, none⟩) C C] 27)).cell? ⟨w.heap.size, 0, none⟩ = some (.int .i64 (n' : Int)) := by rw [HW6.out]; exact hT6.c0
      have y1 : (w5.alloc (.cells #[.int .i64 (n' : Int), .slice (some ⟨k5, 0, none⟩) C C] 27)).cell? ⟨w.heap.size, 1, none⟩ = some (.slice ao L cap) := by rw [HW6.out]; exact hT6.c1
      have hn2 := HK.out.2.1
      clear hF5 hF6 hF46 c6 hrow4 hrow5 hR4 hT4 hA4
      go_wp2_with fail
      rw [HW6.out]
      refine (check_any (n' : Int) ao L cap 0 ws _ hR6 HL.out (by omega) (by omega) (Or.inl ⟨HK.out, rfl⟩)).mono ?_
      rintro e w7 ⟨rfl, hF7⟩
      have hG7 := hG6.then hF7
      have hT7 := hT6.keep hF7
      have hX7 := hX6.keep hF7
      have hR7 := hR6.keep hF7
      have hV7 := hV6.keep hF7
      have hrow7 := hF7.keep hrow6 (by simp)
      have a0 := hT7.c0
      have a1 := hT7.c1
      have b0 := hX7.c0
      have b1 := hX7.c1
      clear hF7 hT6 hX6 hR6 hV6 hrow6 y0 y1
      go_wp2_with fail
      refine (sameTxn_any (n' : Int) (n' : Int) (some ⟨k5, 0, none⟩) ao C L C cap true ws ws _ hV7 hR7 HC.out HL.out (by simp)).mono ?_
      rintro e w8 ⟨rfl, hF8⟩
      have hG8 := hG7.then hF8
      have hrow8 := hF8.keep hrow7 (by simp)
      have hA8 := row_arg hrow8 HN.out hlow.out (by omega)
      have hNz : ((N : Int) == 0) = false := by rw [beq_eq_false_iff_ne]; omega
      clear hF8 hT7 hX7 hR7 hV7 hrow7 a0 a1 b0 b1
      obtain ⟨m, hm⟩ : ∃ m : Nat, (cut : Int) % (N : Int) = m := ⟨cut % N, by omega⟩
      have hmN : m < N := by have := Int.emod_lt_of_pos (cut : Int) (show (0 : Int) < N by omega); omega
      have hmN' : (m : Int) ≤ N := by omega
      have hNN : ¬ N = 0 := by omega
      go_wp2_with fail
      have hE5 : decT (ys.take m) = .error 5 := by rw [HY.out]; exact decT_cut n' ws HK.out m (by rw [← HY.out, ← HN.out]; exact hmN)
      refine (decode_err (some ⟨k, 0, none⟩) m N 5 (ys.take m) _ (arg_take hA8 m (by omega)) (arg_take hA8 m (by omega)).len (by rw [List.length_take, ← HN.out]; omega) hE5).mono ?_
      clear hE5
      rintro e w9 ⟨rfl, hF9⟩
      have hF10 : Fr [] w9 (w9.alloc (.cells #[.int .i64 0, .slice none 0 0] 27)) := Fr.alloc _ _ _
      have hG10 := hG8.then (hF9.then hF10)
      have hA10 := hA8.keep (hF9.then hF10)
      clear hA8 hF9 hF10 hrow8 hm
      go_wp2_with fail
      refine (twin_any (some ⟨k, 0, none⟩) N N ys _ hA10 (by omega)).mono ?_
      rintro e w11 ⟨t, rfl, ht, hrow11, hF11⟩
      have hO := twin_owns HN.out (by omega) hrow11
      have hG11 := hG10.then hF11
      have hwt : w.heap.size ≤ t := by have := hG10.size; omega
      clear hA10 hF11
      go_wp2_with (at_builtin; refine wpList_append_fits _ rfl (.tmp 79) (.tmp 81) 22 rfl 0 5 i0 1 Try.undBs hi hz1 t N (N + 1) _ rfl (hO.alloc _) ⟨w11.heap.size, 0, none⟩ 1 1 [.int .u8 (more : Int)] rfl rfl ?c1 ?c2 ?c3 ?_)
      case c1 => intro j u hj; match j, hj with | 0, hj => simp at hj; subst hj; simp [Addr.add]
      case c2 => intro u hu; simp at hu; subst hu; rfl
      case c3 => omega
      intro w12 hO2 hg2
      have hrow12 := own_full hO2
      have hF12 : Fr [] w w12 := (hG11.then (Fr.alloc [] w11 _)).on (Fr.grown (S := [t]) hg2 (by intro k hk _; cases hk; simp)) (by intro y hy; simp at hy; omega)
      have e12 : bts ys ++ [.int .u8 (more : Int)] = bts (ys ++ [more]) := by rw [bts_append]; rfl
      rw [e12] at hrow12
      have hA12 : BArg w12 (some ⟨t, 0, none⟩) (N + 1) (N + 1) (ys ++ [more]) := row_arg hrow12 (by rw [List.length_append, ← HN.out]; rfl) (by
        intro y hy
        rcases List.mem_append.1 hy with h | h
        · exact hlow.out y h
        · simp at h; omega) (by omega)
      have hE4 : decT (ys ++ [more]) = .error 4 := by rw [HY.out]; exact decT_long n' ws HK.out more
      have hD12 := decode_err (some ⟨t, 0, none⟩) (N + 1) (N + 1) 4 (ys ++ [more]) _ hA12 hA12.len (by rw [List.length_append, ← HN.out]; simp; omega) hE4
      have HD12 : Hid (Calls Try.prog 9 #[.slice (some ⟨t, 0, none⟩) (N + 1) (N + 1)] w12 fun e w' => e = .returned (.tuple #[.agg #[.int .i64 0, .slice none 0 0], .int .i64 ((4 : Nat) : Int)]) ∧ Fr [] w12 w') := hD12
      have HF12 : Hid (Fr [] w w12) := hF12
      clear hO hO2 hg2 hrow12 e12 hA12 hE4 hD12 hF12 hrow11 hG11 hG10
      go_wp2_with fail
      refine HD12.out.mono ?_
      rintro e w13 ⟨rfl, hF13⟩
      have HG : Hid (Fr [] w w13) := HF12.out.then hF13
      clear hF13 HF12 HD12
      go_wp2
      go_ret
      exact ⟨rfl, HG.out.then (Fr.alloc [] _ _)⟩
    · have HN : Hid (¬ okT n ws) := hok
      clear hok
      go_wp2_with fail
      refine (encode_no n ao L cap ws _ hR3 HL.out hn0 hn1 HN.out).mono ?_
      rintro e w4 ⟨rfl, hF4⟩
      have hG4 := hG3.then hF4
      have hT4 := hT3.keep hF4
      have hR4 := hR3.keep hF4
      have y0 := hT4.c0
      have y1 := hT4.c1
      clear hR3 hT3 x0 x1 hF4
      go_wp2_with fail
      refine (check_any n ao L cap 1 ws _ hR4 HL.out hn0 hn1 (Or.inr ⟨HN.out, rfl⟩)).mono ?_
      rintro e w5 ⟨rfl, hF5⟩
      have HG : Hid (Fr [] w w5) := hG4.then hF5
      clear hF5 hG4 y0 y1 hT4 hR4
      go_wp2
      go_ret
      exact ⟨rfl, HG.out⟩

theorem own : ownKnob Try.prog.godebug = none := by kernel_rfl
theorem laidOut : laidOutB Try.prog = true := by kernel_rfl
set_option maxHeartbeats 4000000 in
set_option maxRecDepth 100000 in
theorem lifted (os : Os) (started : os.Started) (H : Type) (enc : TypeId × Value → H) :
    ReturnsInHanded {} Try.checked os 4 .any (Rows.recordBackSpec.pre6 enc Try.prog Try.f4 Rows.recordBackRow.domain false) (Rows.recordBackSpec.post enc Try.prog Try.f4 false true false false) := by
  refine returnsInHanded_of_change_sized (C := Try.checked) own started (by kernel_rfl) Try.func4
    (ChangeSpec.witness6 (enc := enc) (C := Try.checked) false ⟨#[], #[.agg #[.int .i64 0, .slice none 0 0], .int .u16 0, .int .u8 0], []⟩ 8 (by kernel_rfl) (by kernel_rfl) (by kernel_rfl) (by kernel_rfl)) ?_
  intro W base args ds gs before hval0 hW hcnd hsz0 _
  have hval : ∀ (j : Nat) t v, Try.f4.params[j]? = some t → args[j]? = some v → Value.okWide Try.prog W .any base t v := hval0
  have hsz : (DataW.weightsEach Try.prog (Try.f4.params.toList ++ Rows.recordBackSpec.plain.varTypes Try.prog) (ds ++ gs)).all (· ≤ reachBytes) = true := hsz0
  have hW' := hW
  obtain ⟨p, q, hA0, hV, rfl, hfz, hnd⟩ := hW
  have hA : DataW.TrodAll enc Try.prog W 0 (fun _ => true) true Try.f4.params.toList args.toList ds p := hA0
  rw [Try.params4] at hA hval hsz
  obtain ⟨v0, vs0, d0, ds0, p0, q0, hargs, rfl, rfl, h0, r0⟩ := trodAll_cons hA
  obtain ⟨v1, vs1, d1, ds1, p1, q1, rfl, rfl, rfl, h1, r1⟩ := trodAll_cons r0
  obtain ⟨v2, vs2, d2, ds2, p2, q2, rfl, rfl, rfl, h2, r2⟩ := trodAll_cons r1
  obtain ⟨rfl, rfl, rfl⟩ := trodAll_nil r2
  obtain rfl : args = #[v0, v1, v2] := by cases args; simp_all
  obtain ⟨rfl, rfl⟩ := trodVars_none hV
  obtain ⟨cs0, rfl, _⟩ := okWide_struct Try.underlying27 (hval 0 27 v0 rfl rfl)
  have k0 := h0
  have lt0 : ∀ x ∈ p0, x.block < W.heap.size := by obtain ⟨m, hm⟩ := k0; exact DataW.trod_lt m _ _ _ hm
  obtain ⟨n0, a0, len0, cap0, ws0, rfl, hB0⟩ : ∃ n ao L cap ws, cs0 = #[.int .i64 n, .slice ao L cap] ∧ TArg W n ao L cap ws := by
    obtain ⟨fuel, hf⟩ := h0
    obtain ⟨n, ao, L, cap, ws, e, hok⟩ := tx_open hf (fun n hn => of_decide_eq_true (List.all_eq_true.1 hsz n (DataW.weights_mem_each (j := 0) (t := 27) rfl rfl n hn)))
    exact ⟨n, ao, L, cap, ws, by cases cs0; simpa [Value.cells] using e, hok⟩
  obtain ⟨n1, rfl, rfl, rfl, w1⟩ := open_int Try.underlying34 (hval 1 34 v1 rfl rfl) h1
  have b1 := bounds_u16 w1
  obtain ⟨m1, rfl⟩ : ∃ m : Nat, n1 = (m : Int) := ⟨n1.toNat, by omega⟩
  obtain ⟨n2, rfl, rfl, rfl, w2⟩ := open_int Try.underlying5 (hval 2 5 v2 rfl rfl) h2
  have b2 := bounds_u8 w2
  obtain ⟨m2, rfl⟩ : ∃ m : Nat, n2 = (m : Int) := ⟨n2.toNat, by omega⟩
  clear hA0 hval0
  refine (walk n0 a0 len0 cap0 ws0 m1 (by omega) m2 (by omega) W hB0).mono fun e W' ⟨he, hf⟩ => ?_
  subst he
  have bel : Below W.heap.size W W' := hf.below (Nat.le_refl _) (by simp)
  exact ⟨_, rfl, _, _, _, [], _, [], hW', trodAll_mk1 (shut_bool Try.underlying4 _), (trodAll_cons_mk (Below.trod laidOut (by kernel_rfl) (of_decide_eq_true (by kernel_rfl)) k0 bel lt0) (trodAll_cons_mk (shut_int Try.underlying34 w1) (trodAll_cons_mk (shut_int Try.underlying5 w2) trodAll_mk0))), rfl, bel.frame _, fun h => by cases h⟩

theorem over : Rows.recordBackRow.holds Try.pinned (OpenSpec.ofChange Rows.recordBackSpec) :=
  OpenClaim.holds_of_wide 4 Try.f4 rfl rfl rfl rfl rfl rfl rfl ⟨rfl, rfl, rfl, rfl, rfl⟩ rfl rfl rfl rfl rfl (by kernel_rfl) Try.func4 (by kernel_rfl)
    (of_decide_eq_true (by kernel_rfl)) (by unfold Func.isWrapper; first | (rw [if_pos (by decide +kernel)]; kernel_rfl) | (rw [if_neg (by decide +kernel)]; exact ⟨rfl, rfl⟩))
    (fun os started H enc _ => lifted os started H enc)
end Go.Proofs.Ytcgfadmhjfncoaa.recordBack
namespace Go.Proofs.Ytcgfadmhjfncoaa
theorem recordback_holds : Rows.RecordBackSaid := recordBack.over
#print axioms recordback_holds
end Go.Proofs.Ytcgfadmhjfncoaa

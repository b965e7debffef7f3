/- For every slice of bytes the law RecordOne returns true, and the slice reads as it did. No conditions. -/
import Derived.Test.YtcgfadmhjfncoaaRec2
namespace Go.Proofs.Ytcgfadmhjfncoaa.recordOne
open Go.ChangeShapes Go.WideShapes Go.ChangeAt Go.RowKit Go.Lib
set_option linter.unusedVariables false

set_option maxHeartbeats 8000000 in
set_option maxRecDepth 100000 in
theorem walk (ao : Option Addr) (L cap : Nat) (xs : List Nat) (w : World) (hB : BArg w ao L cap xs) (hc : L ≤ 140737488351232) :
    Calls Try.prog 5 #[.slice ao L cap] w fun e w' => e = .returned (.bool true) ∧ Fr [] w w' := by
  have HL : Hid (L = xs.length) := hB.len
  by_cases hbig : 1048576 < L
  · have hbd : decide (1048576 < L) = true := by simpa using hbig
    go_enter Try.func5, Try.ntmps5
    go_wp2_with fail
    refine (alive5_any _).mono ?_
    rintro e w1 ⟨rfl, hF1⟩
    go_wp2_with fail
    refine (beyond_any w1.heap.size L _ (by omega) (by simp)).mono ?_
    rintro e w2 ⟨rfl, rfl⟩
    rw [hbd]
    have hG := hF1.then (Fr.alloc [] w1 (.cells #[.int .i64 (L : Int)] 3))
    go_wp2_with fail
    refine (alive5_any _).mono ?_
    rintro e w3 ⟨rfl, hF3⟩
    go_wp2
    go_ret
    exact ⟨rfl, hG.then hF3⟩
  · have hbd : decide (1048576 < L) = false := by simpa using hbig
    go_enter Try.func5, Try.ntmps5
    go_wp2_with fail
    refine (alive5_any _).mono ?_
    rintro e w1 ⟨rfl, hF1⟩
    go_wp2_with fail
    refine (beyond_any w1.heap.size L _ (by omega) (by simp)).mono ?_
    rintro e w2 ⟨rfl, rfl⟩
    rw [hbd]
    have hG := hF1.then (Fr.alloc [] w1 (.cells #[.int .i64 (L : Int)] 3))
    obtain ⟨w2, HW2⟩ : ∃ w2, Hid (w1.alloc (.cells #[.int .i64 (L : Int)] 3) = w2) := ⟨_, rfl⟩
    rw [HW2.out] at hG ⊢
    clear hF1 HW2
    have hB2 := hB.keep hG
    go_wp2_with fail
    cases hd : decT xs with
    | error c =>
      have HD : Hid (decT xs = .error c) := hd
      clear hd
      have hc0 : c ≠ 0 := decT_code HD.out
      have hcb : ((c : Int) != 0) = true := by rw [bne_iff_ne]; omega
      refine (decode_err ao L cap c xs _ hB2 HL.out (by rw [← HL.out]; omega) HD.out).mono ?_
      rintro e w3 ⟨rfl, hF3⟩
      have hG3 := hG.then hF3
      clear hF3 hc0
      go_wp2
      go_ret
      exact ⟨rfl, hG3.then (Fr.alloc [] _ _)⟩
    | ok p =>
      obtain ⟨n, ws⟩ := p
      obtain ⟨he, hok⟩ := decT_inv hB.low hd
      have HD : Hid (decT xs = .ok (n, ws)) := hd
      have HE : Hid (xs = encT n ws) := he
      have HK : Hid (okT (n : Int) ws) := hok
      clear hd he hok
      refine (decode_ok ao L cap n ws xs _ hB2 HL.out (by rw [← HL.out]; omega) HD.out).mono ?_
      rintro e w3 ⟨k, C, rfl, hk, hC, hrow, hF3⟩
      subst hC
      obtain ⟨C, hC⟩ : ∃ C, C = ws.length := ⟨_, rfl⟩
      have HC : Hid (C = ws.length) := hC
      rw [← hC]
      have hG3 := hG.then hF3
      have hF4 : Fr [] w3 (w3.alloc (.cells #[.int .i64 (n : Int), .slice (some ⟨k, 0, none⟩) C C] 27)) := Fr.alloc _ _ _
      have hR4 := (WRs.of_ok HK.out hrow).keep hF4
      have c0 : (w3.alloc (.cells #[.int .i64 (n : Int), .slice (some ⟨k, 0, none⟩) C C] 27)).heap[w3.heap.size]? = some (.cells #[.int .i64 (n : Int), .slice (some ⟨k, 0, none⟩) C C] 27 (0, 0)) := heap_alloc_new w3 _
      obtain ⟨w4, HW4⟩ : ∃ w4, Hid (w3.alloc (.cells #[.int .i64 (n : Int), .slice (some ⟨k, 0, none⟩) C C] 27) = w4) := ⟨_, rfl⟩
      rw [HW4.out] at hF4 hR4 c0
      have hG4 := hG3.then hF4
      have hT4 : B2 w4 w3.heap.size (.int .i64 (n : Int)) (.slice (some ⟨k, 0, none⟩) C C) := ⟨c0⟩
      have hx0 := hT4.c0
      have hx1 := hT4.c1
      have HY : Hid (xs = encT (n : Int).toNat ws) := by show _ = _; rw [Int.toNat_natCast]; exact HE.out
      have HYL : Hid (L = (encT (n : Int).toNat ws).length) := by show _ = _; rw [← HY.out]; exact HL.out
      have hn := HK.out.2.1
      clear hC hrow hF3 c0
      go_wp2_with fail
      rw [HW4.out]
      refine (encode_ok (n : Int) (some ⟨k, 0, none⟩) C C L ws xs _ hR4 HC.out HK.out HY.out HL.out).mono ?_
      rintro e w5 ⟨k5, rfl, hk5, hrow5, hF5⟩
      have hG5 := hG4.then hF5
      have hR5 := hR4.keep hF5
      have hT5 := hT4.keep hF5
      have hy0 := hT5.c0
      have hy1 := hT5.c1
      clear hx0 hx1 hT4 hR4
      go_wp2_with fail
      refine (size_ok (n : Int) (some ⟨k, 0, none⟩) C C L ws _ hR5 HC.out HK.out HYL.out).mono ?_
      rintro e w6 ⟨rfl, hF6⟩
      have hG6 := hG5.then hF6
      have hR6 := hR5.keep hF6
      have hT6 := hT5.keep hF6
      have hrow6 := hF6.keep hrow5 (by simp)
      have hz0 := hT6.c0
      have hz1 := hT6.c1
      have hLL : ((L : Int) == L) = true := by simp
      clear hy0 hy1 hT5 hR5
      go_wp2_with fail
      refine (check_any (n : Int) (some ⟨k, 0, none⟩) C C 0 ws _ hR6 HC.out (by omega) (by omega) (Or.inl ⟨HK.out, rfl⟩)).mono ?_
      rintro e w7 ⟨rfl, hF7⟩
      have hG7 := hG6.then hF7
      have hrow7 := hF7.keep hrow6 (by simp)
      have hB7 := hB.keep hG7
      clear hz0 hz1 hT6 hR6
      go_wp2_with fail
      refine (same_yes ao (some ⟨k5, 0, none⟩) L L cap L xs xs _ (hB7.rs (by omega)) (Rs.of_row hrow7 (by rw [← HL.out]; omega)) HL.out HL.out rfl).mono ?_
      rintro e w8 ⟨rfl, q, rfl⟩
      have HG : Hid (Fr [] w _) := hG7.then (Fr.drewN [] w7 q)
      clear hG7 hB7
      go_wp2
      go_ret
      exact ⟨rfl, HG.out⟩

theorem own : ownKnob Try.prog.godebug = none := by kernel_rfl
theorem laidOut : laidOutB Try.prog = true := by kernel_rfl
set_option maxRecDepth 100000 in
theorem lifted (os : Os) (started : os.Started) (H : Type) (enc : TypeId × Value → H) :
    ReturnsInHanded {} Try.checked os 5 .any (Rows.recordOneSpec.pre6 enc Try.prog Try.f5 Rows.recordOneRow.domain false) (Rows.recordOneSpec.post enc Try.prog Try.f5 false true false false) := by
  refine returnsInHanded_of_change_sized (C := Try.checked) own started (by kernel_rfl) Try.func5
    (ChangeSpec.witness6 (enc := enc) (C := Try.checked) false ⟨#[], #[.slice none 0 0], []⟩ 8 (by kernel_rfl) (by kernel_rfl) (by kernel_rfl) (by kernel_rfl)) ?_
  intro W base args ds gs before hval0 hW hcnd hsz0 _
  have hval : ∀ (j : Nat) t v, Try.f5.params[j]? = some t → args[j]? = some v → Value.okWide Try.prog W .any base t v := hval0
  have hsz : (DataW.weightsEach Try.prog (Try.f5.params.toList ++ Rows.recordOneSpec.plain.varTypes Try.prog) (ds ++ gs)).all (· ≤ reachBytes) = true := hsz0
  have hW' := hW
  obtain ⟨p, q, hA0, hV, rfl, hfz, hnd⟩ := hW
  have hA : DataW.TrodAll enc Try.prog W 0 (fun _ => true) true Try.f5.params.toList args.toList ds p := hA0
  rw [Try.params5] at hA hval hsz
  obtain ⟨v0, vs0, d0, ds0, p0, q0, hargs, rfl, rfl, h0, r0⟩ := trodAll_cons hA
  obtain ⟨rfl, rfl, rfl⟩ := trodAll_nil r0
  obtain rfl : args = #[v0] := by cases args; simp_all
  obtain ⟨rfl, rfl⟩ := trodVars_none hV
  obtain ⟨a0, len0, cap0, rfl⟩ := okWide_slice Try.undBs (hval 0 22 v0 rfl rfl)
  have k0 := h0
  have lt0 : ∀ x ∈ p0, x.block < W.heap.size := by obtain ⟨m, hm⟩ := k0; exact DataW.trod_lt m _ _ _ hm
  obtain ⟨z0, w0⟩ : ∃ zs, IsRow .u8 W a0 len0 cap0 zs := by
    obtain ⟨fuel, hf⟩ := h0
    rcases open_ints Try.undBs Try.underlying5 (by kernel_rfl) hf with ⟨hcs, _⟩ | ⟨x, l, c, zs, hcs, _, hl, hm, hz, _, hcell, hwz⟩
    · simp [Value.cells] at hcs
      obtain ⟨rfl, rfl, rfl⟩ := hcs
      exact ⟨[], .inl ⟨rfl, rfl, rfl, rfl⟩⟩
    · simp [Value.cells] at hcs
      obtain ⟨rfl, rfl, rfl⟩ := hcs
      exact ⟨zs, .inr ⟨_, rfl, hl, hm, by simpa using hz, hcell, hwz⟩⟩
  have hc0 : len0 ≤ 140737488351232 := by
    obtain ⟨fuel, hf⟩ := k0
    rcases open_ints Try.undBs Try.underlying5 (by kernel_rfl) hf with ⟨hcs, _⟩ | ⟨x, l, c, zs, hcs, _, hl, hm, hz, hx, hcell, hwz⟩
    · simp [Value.cells] at hcs
      omega
    · simp [Value.cells] at hcs
      obtain ⟨rfl, rfl, rfl⟩ := hcs
      have hd := congrArg Prod.fst hx
      simp only at hd
      have := sized_slice (j := 0) hsz rfl (by rw [hd]; rfl) Try.undBs
      rw [show Try.prog.bytesOf 5 = 1 from by kernel_rfl] at this
      simp [lits, reachBytes] at this hz
      omega
  obtain ⟨xs0, hB0⟩ := BArg.of_row w0
  clear hA0 hval0
  refine (walk a0 len0 cap0 xs0 W hB0 hc0).mono fun e W' ⟨he, hf⟩ => ?_
  subst he
  have bel : Below W.heap.size W W' := hf.below (Nat.le_refl _) (by simp)
  exact ⟨_, rfl, _, _, _, [], _, [], hW', trodAll_mk1 (shut_bool Try.underlying4 _), (trodAll_cons_mk (Below.trod laidOut (by kernel_rfl) (of_decide_eq_true (by kernel_rfl)) k0 bel lt0) trodAll_mk0), rfl, bel.frame _, fun h => by cases h⟩

theorem over : Rows.recordOneRow.holds Try.pinned (OpenSpec.ofChange Rows.recordOneSpec) :=
  OpenClaim.holds_of_wide 5 Try.f5 rfl rfl rfl rfl rfl rfl rfl ⟨rfl, rfl, rfl, rfl, rfl⟩ rfl rfl rfl rfl rfl (by kernel_rfl) Try.func5 (by kernel_rfl)
    (of_decide_eq_true (by kernel_rfl)) (by unfold Func.isWrapper; first | (rw [if_pos (by decide +kernel)]; kernel_rfl) | (rw [if_neg (by decide +kernel)]; exact ⟨rfl, rfl⟩))
    (fun os started H enc _ => lifted os started H enc)
end Go.Proofs.Ytcgfadmhjfncoaa.recordOne
namespace Go.Proofs.Ytcgfadmhjfncoaa
theorem recordone_holds : Rows.RecordOneSaid := recordOne.over
#print axioms recordone_holds
end Go.Proofs.Ytcgfadmhjfncoaa

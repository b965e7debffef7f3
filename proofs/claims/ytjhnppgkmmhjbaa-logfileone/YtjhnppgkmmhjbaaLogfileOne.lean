/- For every slice of bytes the law LogfileOne returns true, and the slice reads as it did. No conditions. -/
import Derived.Test.YtjhnppgkmmhjbaaAlive6
namespace Go.Proofs.Ytjhnppgkmmhjbaa.logfileOne
open Go.ChangeShapes Go.WideShapes Go.ChangeAt Go.RowKit Go.Lib
set_option linter.unusedVariables false

set_option maxHeartbeats 8000000 in
set_option maxRecDepth 100000 in
theorem walk (ao : Option Addr) (L cap : Nat) (xs : List Nat) (w : World) (hB : BArg w ao L cap xs) (hc : L ≤ 140737488351232) :
    Calls Try.prog 4 #[.slice ao L cap] w fun e w' => e = .returned (.bool true) ∧ Fr [] w w' := by
  have HL : Hid (L = xs.length) := hB.len
  by_cases hbig : 1048576 < L
  · have hbd : decide (1048576 < L) = true := by simpa using hbig
    go_enter Try.func4, Try.ntmps4
    go_wp2_with fail
    refine (alive6_any _).mono ?_
    rintro e w1 ⟨rfl, hF1⟩
    go_wp2_with fail
    refine (beyond_any w1.heap.size L _ (by omega) (by simp)).mono ?_
    rintro e w2 ⟨rfl, rfl⟩
    rw [hbd]
    have hG := hF1.then (Fr.alloc [] w1 (.cells #[.int .i64 (L : Int)] 3))
    go_wp2_with fail
    refine (alive6_any _).mono ?_
    rintro e w3 ⟨rfl, hF3⟩
    go_wp2
    go_ret
    exact ⟨rfl, hG.then hF3⟩
  · have hbd : decide (1048576 < L) = false := by simpa using hbig
    obtain ⟨ls, vs, c, hR⟩ := Rds.ex _ 1 xs (Nat.le_refl _) hB.low
    obtain ⟨he, hok, hst⟩ := Rds.inv hB.low hR
    have hcz := hst.zero (fun _ _ => decT_code)
    have HR : Hid (Rds 1 xs ls vs c) := hR
    have HE : Hid (xs = encL ls ++ vs) := he
    have HK : Hid (okL 1 ls) := hok
    obtain ⟨N, hN⟩ : ∃ N, N = ls.length := ⟨_, rfl⟩
    obtain ⟨G, hG⟩ : ∃ G, G = (encL ls).length := ⟨_, rfl⟩
    have HN : Hid (N = ls.length) := hN
    have HG : Hid (G = (encL ls).length) := hG
    have HGV : Hid (G + vs.length = xs.length) := by show _ = _; rw [hG, HE.out, List.length_append]
    have hGL : G ≤ L := by have := HGV.out; have := HL.out; omega
    have hcase : (c = 0 ∧ G = L) ∨ (c ≠ 0 ∧ G < L) := by
      have h1 := HGV.out
      have h2 := HL.out
      by_cases h0 : c = 0
      · have := hcz.1 h0
        rw [this] at h1
        simp at h1
        exact Or.inl ⟨h0, by omega⟩
      · refine Or.inr ⟨h0, ?_⟩
        have : vs.length ≠ 0 := fun hh => h0 (hcz.2 (List.eq_nil_of_length_eq_zero hh))
        omega
    have hNb : N ≤ 65536 := by rw [hN]; exact okL_few hok
    clear hR he hok hst hcz hN hG
    go_enter Try.func4, Try.ntmps4
    go_wp2_with fail
    refine (alive6_any _).mono ?_
    rintro e w1 ⟨rfl, hF1⟩
    go_wp2_with fail
    refine (beyond_any w1.heap.size L _ (by omega) (by simp)).mono ?_
    rintro e w2 ⟨rfl, rfl⟩
    rw [hbd]
    have hG2 := hF1.then (Fr.alloc [] w1 (.cells #[.int .i64 (L : Int)] 3))
    obtain ⟨w2, HW2⟩ : ∃ w2, Hid (w1.alloc (.cells #[.int .i64 (L : Int)] 3) = w2) := ⟨_, rfl⟩
    rw [HW2.out] at hG2 ⊢
    clear hF1 HW2
    have hB2 := hB.keep hG2
    go_wp2_with fail
    refine (lread_any ao L cap c xs vs ls _ hB2 (by rw [← HL.out]; omega) HR.out N G HN.out HGV.out).mono ?_
    rintro e w3 ⟨ro, rc, rfl, ds, hds, hO, hF3⟩
    have HDS : Hid (txs ds = ls) := hds
    have hG3 := hG2.then hF3
    have HLN : Hid (N = ds.length) := by show _ = _; rw [HN.out, ← hds, txs_length]
    have hT3 := hO.trs (by have := HLN.out; omega)
    clear hds hO hF3 hG2 hB2
    go_wp2_with fail
    refine (lencode_ok ro N rc G ds (encL ls) _ hT3 HLN.out (by rw [HDS.out]; exact HK.out) (by rw [HDS.out]) HG.out).mono ?_
    rintro e w4 ⟨qo, rfl, hH4, hF4⟩
    have hG4 := hG3.then hF4
    have hT4 := hT3.keep hF4
    have hB4 := hB.keep hG4
    have hA4 := hH4.arg HG.out (encL_lt ls) (by omega)
    have hRs : Rs w4 ao (encL ls) := by
      have h1 := (hB4.rs (by omega)).take G
      rw [HE.out] at h1
      have e1 : (encL ls ++ vs).take G = encL ls := by rw [HG.out, List.take_left]
      rw [e1] at h1
      exact h1
    have hRq : Rs w4 qo (encL ls) := hA4.rs (by omega)
    clear hG3 hT3 hF4 hH4 hA4
    have hcap := hB.fits
    have hGn : ¬ ((G : Int) < 0) := by omega
    obtain ⟨B, hcb, hgb⟩ : ∃ B, ((c : Int) == 0) = B ∧ ((G : Int) == (L : Int)) = B := by
      rcases hcase with ⟨h1, h2⟩ | ⟨h1, h2⟩
      · exact ⟨true, by rw [h1]; simp, by rw [h2]; simp⟩
      · exact ⟨false, by rw [beq_eq_false_iff_ne]; omega, by rw [beq_eq_false_iff_ne]; omega⟩
    have hd1 : decide ((G : Int) < 0) = false := by simp
    have hd2 : decide (L < G) = false := by simp; omega
    have hd3 : decide ((L : Int) < G) = false := by simp; omega
    clear hcase
    rcases ao with _ | ⟨b0, off, sp⟩
    · have hL0 : L = 0 := by
        rcases Nat.eq_zero_or_pos L with h1 | h1
        · exact h1
        · obtain ⟨_, _, e1, _⟩ := hB.lies h1; cases e1
      have hG0 : G = 0 := by omega
      subst hL0
      subst hG0
      have hBt : B = true := by rw [← hgb]; simp
      subst hBt
      clear hgb hd1 hd2 hd3
      go_wp2_with fail
      refine (same_yes qo _ 0 0 0 _ (encL ls) (encL ls) _ hRq hRs HG.out HG.out rfl).mono ?_
      rintro e w5 ⟨rfl, q, rfl⟩
      have hG5 := hG4.then (Fr.drewN [] w4 q)
      have hT5 := hT4.keep (Fr.drewN [] w4 q)
      clear hG4 hT4 hRs hRq hB4
      obtain ⟨w5, HW5⟩ : ∃ w5, Hid (w4.drewN q = w5) := ⟨_, rfl⟩
      rw [HW5.out] at hG5 hT5 ⊢
      clear HW5
      go_wp2_with fail
      go_loopw [8] (fun ii wr => ∃ (i : Nat), ii = .int .i64 i ∧ i ≤ N ∧ Fr [] w5 wr) (fun ii _ => N - (intOf ii).toNat)
      case atStart => exact ⟨0, rfl, Nat.zero_le _, Fr.refl _ _⟩
      case round =>
        obtain ⟨i, rfl, hiN, hFr⟩ := hrel
        by_cases hi : i < N
        · have hi' : i < ds.length := by rw [← HLN.out]; exact hi
          obtain ⟨bb, of2, rfl, _, hcs⟩ := (hT5.keep hFr).lies (by omega)
          have hx := hcs i hi'
          have hat := (hT5.keep hFr).each _ (tgetD_mem ds i hi')
          have hokx := okL_get HK.out i (by rw [← HN.out]; exact hi)
          rw [← HDS.out, txs_getD] at hokx
          obtain ⟨x, hxx⟩ : ∃ x, x = ds.getD i Tm.zero := ⟨_, rfl⟩
          rw [← hxx] at hx hat hokx
          clear hxx hcs
          obtain ⟨n, xo, M, cm, ws⟩ := x
          obtain ⟨c0, c1⟩ := hx
          obtain ⟨hk1, hk2⟩ := hokx
          have hn : n = (i : Int) + 1 := by simp only [Tm.tx] at hk2; omega
          subst hn
          have HK1 : Hid (okT ((i : Int) + 1) ws) := hk1
          simp only at c0 c1
          clear hk1 hk2
          have hat' : TArg wr ((i : Int) + 1) xo M cm ws := hat
          go_wp2_with fail
          refine (check_any ((i : Int) + 1) xo M cm 0 ws _ hat'.rs hat'.len (by omega) (by omega) (Or.inl ⟨HK1.out, rfl⟩)).mono ?_
          rintro e w6 ⟨rfl, hF6⟩
          have hG6 := hFr.then hF6
          clear hat hat' hFr hF6 c0 c1
          go_wp2
          go_roundw
          case rel => exact ⟨i + 1, by simp, by omega, hG6⟩
          case measure => simp [intOf]; omega
        · go_wp2
          go_ret
          exact ⟨rfl, hG5.then hFr⟩
    · go_wp2_with fail
      refine (same_yes qo _ G G G cap (encL ls) (encL ls) _ hRq hRs HG.out HG.out rfl).mono ?_
      rintro e w5 ⟨rfl, q, rfl⟩
      have hG5 := hG4.then (Fr.drewN [] w4 q)
      have hT5 := hT4.keep (Fr.drewN [] w4 q)
      clear hG4 hT4 hRs hRq hB4
      obtain ⟨w5, HW5⟩ : ∃ w5, Hid (w4.drewN q = w5) := ⟨_, rfl⟩
      rw [HW5.out] at hG5 hT5 ⊢
      clear HW5
      go_wp2_with fail
      go_loopw [8] (fun ii wr => ∃ (i : Nat), ii = .int .i64 i ∧ i ≤ N ∧ Fr [] w5 wr) (fun ii _ => N - (intOf ii).toNat)
      case atStart => exact ⟨0, rfl, Nat.zero_le _, Fr.refl _ _⟩
      case round =>
        obtain ⟨i, rfl, hiN, hFr⟩ := hrel
        by_cases hi : i < N
        · have hi' : i < ds.length := by rw [← HLN.out]; exact hi
          obtain ⟨bb, of2, rfl, _, hcs⟩ := (hT5.keep hFr).lies (by omega)
          have hx := hcs i hi'
          have hat := (hT5.keep hFr).each _ (tgetD_mem ds i hi')
          have hokx := okL_get HK.out i (by rw [← HN.out]; exact hi)
          rw [← HDS.out, txs_getD] at hokx
          obtain ⟨x, hxx⟩ : ∃ x, x = ds.getD i Tm.zero := ⟨_, rfl⟩
          rw [← hxx] at hx hat hokx
          clear hxx hcs
          obtain ⟨n, xo, M, cm, ws⟩ := x
          obtain ⟨c0, c1⟩ := hx
          obtain ⟨hk1, hk2⟩ := hokx
          have hn : n = (i : Int) + 1 := by simp only [Tm.tx] at hk2; omega
          subst hn
          have HK1 : Hid (okT ((i : Int) + 1) ws) := hk1
          simp only at c0 c1
          clear hk1 hk2
          have hat' : TArg wr ((i : Int) + 1) xo M cm ws := hat
          go_wp2_with fail
          refine (check_any ((i : Int) + 1) xo M cm 0 ws _ hat'.rs hat'.len (by omega) (by omega) (Or.inl ⟨HK1.out, rfl⟩)).mono ?_
          rintro e w6 ⟨rfl, hF6⟩
          have hG6 := hFr.then hF6
          clear hat hat' hFr hF6 c0 c1
          go_wp2
          go_roundw
          case rel => exact ⟨i + 1, by simp, by omega, hG6⟩
          case measure => simp [intOf]; omega
        · go_wp2
          go_ret
          exact ⟨rfl, hG5.then hFr⟩

theorem own : ownKnob Try.prog.godebug = none := by kernel_rfl
theorem laidOut : laidOutB Try.prog = true := by kernel_rfl
set_option maxHeartbeats 4000000 in
set_option maxRecDepth 100000 in
theorem lifted (os : Os) (started : os.Started) (H : Type) (enc : TypeId × Value → H) :
    ReturnsInHanded {} Try.checked os 4 .any (Rows.logfileOneSpec.pre6 enc Try.prog Try.f4 Rows.logfileOneRow.domain false) (Rows.logfileOneSpec.post enc Try.prog Try.f4 false true false false) := by
  refine returnsInHanded_of_change_sized (C := Try.checked) own started (by kernel_rfl) Try.func4
    (ChangeSpec.witness6 (enc := enc) (C := Try.checked) false ⟨#[], #[.slice none 0 0], []⟩ 8 (by kernel_rfl) (by kernel_rfl) (by kernel_rfl) (by kernel_rfl)) ?_
  intro W base args ds gs before hval0 hW hcnd hsz0 _
  have hval : ∀ (j : Nat) t v, Try.f4.params[j]? = some t → args[j]? = some v → Value.okWide Try.prog W .any base t v := hval0
  have hsz : (DataW.weightsEach Try.prog (Try.f4.params.toList ++ Rows.logfileOneSpec.plain.varTypes Try.prog) (ds ++ gs)).all (· ≤ reachBytes) = true := hsz0
  have hW' := hW
  obtain ⟨p, q, hA0, hV, rfl, hfz, hnd⟩ := hW
  have hA : DataW.TrodAll enc Try.prog W 0 (fun _ => true) true Try.f4.params.toList args.toList ds p := hA0
  rw [Try.params4] at hA hval hsz
  obtain ⟨v0, vs0, d0, ds0, p0, q0, hargs, rfl, rfl, h0, r0⟩ := trodAll_cons hA
  obtain ⟨rfl, rfl, rfl⟩ := trodAll_nil r0
  obtain rfl : args = #[v0] := by cases args; simp_all
  obtain ⟨rfl, rfl⟩ := trodVars_none hV
  obtain ⟨a0, len0, cap0, rfl⟩ := okWide_slice Try.undBs (hval 0 24 v0 rfl rfl)
  have k0 := h0
  have lt0 : ∀ x ∈ p0, x.block < W.heap.size := by obtain ⟨m, hm⟩ := k0; exact DataW.trod_lt m _ _ _ hm
  obtain ⟨z0, w0⟩ : ∃ zs, IsRow .u8 W a0 len0 cap0 zs := by
    obtain ⟨fuel, hf⟩ := h0
    rcases open_ints Try.undBs Try.underlying5 (by kernel_rfl) hf with ⟨hcs, _⟩ | ⟨x, l, c, zs, hcs, _, hl, hm, hz, _, hcell, hwz⟩
    · simp [Value.cells] at hcs
      obtain ⟨rfl, rfl, rfl⟩ := hcs
      exact ⟨[], .inl ⟨rfl, rfl, rfl, rfl⟩⟩
    · simp [Value.cells] at hcs
      obtain ⟨rfl, rfl, rfl⟩ := hcs
      exact ⟨zs, .inr ⟨_, rfl, hl, hm, by simpa using hz, hcell, hwz⟩⟩
  have hc0 : len0 ≤ 140737488351232 := by
    obtain ⟨fuel, hf⟩ := k0
    rcases open_ints Try.undBs Try.underlying5 (by kernel_rfl) hf with ⟨hcs, _⟩ | ⟨x, l, c, zs, hcs, _, hl, hm, hz, hx, hcell, hwz⟩
    · simp [Value.cells] at hcs
      omega
    · simp [Value.cells] at hcs
      obtain ⟨rfl, rfl, rfl⟩ := hcs
      have hd := congrArg Prod.fst hx
      simp only at hd
      have := sized_slice (j := 0) hsz rfl (by rw [hd]; rfl) Try.undBs
      rw [show Try.prog.bytesOf 5 = 1 from by kernel_rfl] at this
      simp [lits, reachBytes] at this hz
      omega
  obtain ⟨xs0, hB0⟩ := BArg.of_row w0
  clear hA0 hval0
  refine (walk a0 len0 cap0 xs0 W hB0 hc0).mono fun e W' ⟨he, hf⟩ => ?_
  subst he
  have bel : Below W.heap.size W W' := hf.below (Nat.le_refl _) (by simp)
  exact ⟨_, rfl, _, _, _, [], _, [], hW', trodAll_mk1 (shut_bool Try.underlying4 _), (trodAll_cons_mk (Below.trod laidOut (by kernel_rfl) (of_decide_eq_true (by kernel_rfl)) k0 bel lt0) trodAll_mk0), rfl, bel.frame _, fun h => by cases h⟩

theorem over : Rows.logfileOneRow.holds Try.pinned (OpenSpec.ofChange Rows.logfileOneSpec) :=
  OpenClaim.holds_of_wide 4 Try.f4 rfl rfl rfl rfl rfl rfl rfl ⟨rfl, rfl, rfl, rfl, rfl⟩ rfl rfl rfl rfl rfl (by kernel_rfl) Try.func4 (by kernel_rfl)
    (of_decide_eq_true (by kernel_rfl)) (by unfold Func.isWrapper; first | (rw [if_pos (by decide +kernel)]; kernel_rfl) | (rw [if_neg (by decide +kernel)]; exact ⟨rfl, rfl⟩))
    (fun os started H enc _ => lifted os started H enc)
end Go.Proofs.Ytjhnppgkmmhjbaa.logfileOne
namespace Go.Proofs.Ytjhnppgkmmhjbaa
theorem logfileone_holds : Rows.LogfileOneSaid := logfileOne.over
#print axioms logfileone_holds
end Go.Proofs.Ytjhnppgkmmhjbaa

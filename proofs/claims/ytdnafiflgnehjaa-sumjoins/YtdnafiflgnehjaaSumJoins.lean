/- For any two rows of bytes and every sum the law SumJoins returns true, and all read as they did. No conditions. -/
import Derived.Test.YtdnafiflgnehjaaPut
import Derived.SizedLaws
namespace Go.Proofs.Ytdnafiflgnehjaa.sumJoins
open Go.ChangeShapes Go.WideShapes Go.ChangeAt Go.RowKit Go.Lib
set_option linter.unusedVariables false

set_option maxHeartbeats 4000000 in
set_option maxRecDepth 100000 in
theorem walk (ao : Option Addr) (L ca : Nat) (xs : List Nat) (bo : Option Addr) (M cb : Nat) (ys : List Nat) (s : Nat) (hs : s < 4294967296) (w : World) (hA : BArg w ao L ca xs) (hLc : L ≤ 140737488351232) (hB : BArg w bo M cb ys) (hMc : M ≤ 140737488351232) :
    Calls Try.prog 5 #[.slice ao L ca, .slice bo M cb, .int .u32 (s : Int)] w fun e w' => e = .returned (.bool true) ∧ Fr [] w w' := by
  by_cases hL : 1048576 < L + M
  · have E : decide (1048576 < L + M) = true := by simp [hL]
    go_enter Try.func5, Try.ntmps5
    go_wp2_with fail
    refine (alive_any w).mono ?_
    rintro e w1 ⟨rfl, hF1⟩
    go_wp2_with fail
    refine (beyond2_any _ L M _ (by omega) (by omega) (by simp [World.cell?_alloc_at]) (by simp [World.cell?_alloc_at])).mono ?_
    rintro e w2 ⟨rfl, rfl⟩
    rw [E]
    go_wp2_with fail
    refine (alive_any _).mono ?_
    rintro e w3 ⟨rfl, hF3⟩
    have hF := (hF1.then (Fr.alloc [] w1 _)).then hF3
    go_wp2_with fail
    go_ret
    exact ⟨rfl, hF⟩
  · have E : decide (1048576 < L + M) = false := by simp [hL]
    go_enter Try.func5, Try.ntmps5
    go_wp2_with fail
    refine (alive_any w).mono ?_
    rintro e w1 ⟨rfl, hF1⟩
    go_wp2_with fail
    refine (beyond2_any _ L M _ (by omega) (by omega) (by simp [World.cell?_alloc_at]) (by simp [World.cell?_alloc_at])).mono ?_
    rintro e w2 ⟨rfl, rfl⟩
    rw [E]
    have hF2 := hF1.then (Fr.alloc [] w1 (Obj.cells #[Value.int IntKind.i64 (L : Int), Value.int IntKind.i64 (M : Int)] 3))
    obtain ⟨w2, hw2⟩ : ∃ w2, w2 = w1.alloc (Obj.cells #[Value.int IntKind.i64 (L : Int), Value.int IntKind.i64 (M : Int)] 3) := ⟨_, rfl⟩
    rw [← hw2] at hF2 ⊢
    clear hw2 hF1
    have hA2 := hA.keep hF2
    have hB2 := hB.keep hF2
    have hAl := hA.len
    have hBl := hB.len
    have HAl : Hid (L = xs.length) := hAl
    clear hAl hBl
    go_wp2_with (at_builtin; refine wpList_appB w2 rfl (.tmp 19) (.tmp 20) rfl (.slice none 0 0) 0 [] rfl (own_none w2) ao L ca xs rfl hA2 (by omega) ?_)
    intro bo1 n1 cap1 w3 hn1 hO1 hg1 hM1
    have HN1 : Hid (n1 = L) := by show n1 = L; omega
    replace hO1 : w3.ownsRow 0 5 1 (.slice bo1 n1 cap1) n1 (bts xs) := by simpa using hO1
    clear hn1
    have hF3 : Fr [] w2 w3 := Fr.grown (S := []) hg1 (by intro k hk; simp [Value.ownBlock] at hk)
    have hb1 : ∀ k, (Value.slice bo1 n1 cap1).ownBlock = some k → w2.heap.size ≤ k := hM1.lt (Nat.le_refl _) (by intro k hk; simp [Value.ownBlock] at hk)
    have hA3 := hA2.keep hF3
    have hB3 := hB2.keep hF3
    clear hg1 hM1
    go_wp2_with (at_builtin; refine wpList_appB w3 rfl (.tmp 22) (.tmp 23) rfl (.slice bo1 n1 cap1) n1 xs rfl hO1 bo M cb ys rfl hB3 (by have := HN1.out; omega) ?_)
    intro bo2 n2 cap2 w4 hn2 hO2 hg2 hM2
    have hF4 : Fr [] w2 w4 := hF3.on (Fr.grown (S := (Value.slice bo1 n1 cap1).ownBlock.toList) hg2 (by intro k hk _; rw [hk]; simp)) (by intro x hx; exact hb1 x (by simpa using hx))
    have hA4 := hA2.keep hF4
    have hB4 := hB2.keep hF4
    have hlow : ∀ x ∈ xs ++ ys, x < 256 := by
      intro x hx
      rcases List.mem_append.1 hx with hx | hx
      · exact hA.low x hx
      · exact hB.low x hx
    have hC4 := own_arg hO2 hlow (by have := HN1.out; omega)
    have hF := hF2.then hF4
    clear hO1 hO2 hg2 hM2 hn2
    obtain ⟨m0, HM0⟩ : ∃ m, Hid (more 0 xs = m) := ⟨_, rfl⟩
    have hm0 : m0 < 4294967296 := by rw [← HM0.out]; exact more_lt _ _
    obtain ⟨m1, HM1⟩ : ∃ m, Hid (more m0 ys = m) := ⟨_, rfl⟩
    have HM2 : Hid (more 0 (xs ++ ys) = m1) := by show _ = _; rw [← more_append 0 xs ys (by omega) hA.low, HM0.out, HM1.out]
    obtain ⟨k0, HK0⟩ : ∃ m, Hid (more s xs = m) := ⟨_, rfl⟩
    have hk0 : k0 < 4294967296 := by rw [← HK0.out]; exact more_lt _ _
    obtain ⟨k1, HK1⟩ : ∃ m, Hid (more k0 ys = m) := ⟨_, rfl⟩
    have HK2 : Hid (more s (xs ++ ys) = k1) := by show _ = _; rw [← more_append s xs ys hs hA.low, HK0.out, HK1.out]
    go_wp2_with fail
    refine (crc_any m0 ao L ca xs w4 hA4 HM0.out).mono ?_
    rintro e w5 ⟨rfl, hF5⟩
    go_wp2_with fail
    refine (more_any m0 m1 bo M cb ys w5 hm0 (hB4.keep hF5) HM1.out).mono ?_
    rintro e w6 ⟨rfl, hF6⟩
    have hF46 := hF5.then hF6
    go_wp2_with fail
    refine (crc_any m1 bo2 n2 cap2 (xs ++ ys) w6 (hC4.keep hF46) HM2.out).mono ?_
    rintro e w7 ⟨rfl, hF7⟩
    have hF47 := hF46.then hF7
    go_wp2_with fail
    refine (more_any s k0 ao L ca xs w7 hs (hA4.keep hF47) HK0.out).mono ?_
    rintro e w8 ⟨rfl, hF8⟩
    have hF48 := hF47.then hF8
    go_wp2_with fail
    refine (more_any k0 k1 bo M cb ys w8 hk0 (hB4.keep hF48) HK1.out).mono ?_
    rintro e w9 ⟨rfl, hF9⟩
    have hF49 := hF48.then hF9
    go_wp2_with fail
    refine (more_any s k1 bo2 n2 cap2 (xs ++ ys) w9 hs (hC4.keep hF49) HK2.out).mono ?_
    rintro e wa ⟨rfl, hFa⟩
    have hF4a := hF49.then hFa
    go_wp2_with fail
    refine (more_any s s none 0 0 [] wa hs ⟨rfl, by simp, Nat.le_refl _, by omega, fun h => by omega⟩ (more_nil s hs)).mono ?_
    rintro e wb ⟨rfl, hFb⟩
    have hFe := hF.then (hF4a.then hFb)
    go_wp2_with fail
    go_ret
    exact ⟨rfl, hFe⟩

theorem own : ownKnob Try.prog.godebug = none := by kernel_rfl
theorem laidOut : laidOutB Try.prog = true := by kernel_rfl
set_option maxRecDepth 100000 in
theorem lifted (os : Os) (started : os.Started) (H : Type) (enc : TypeId × Value → H) :
    ReturnsInHanded {} Try.checked os 5 .any (Rows.sumJoinsSpec.pre6 enc Try.prog Try.f5 Rows.sumJoinsRow.domain false) (Rows.sumJoinsSpec.post enc Try.prog Try.f5 false true false false) := by
  refine returnsInHanded_of_change_sized (C := Try.checked) own started (by kernel_rfl) Try.func5
    (ChangeSpec.witness6 (enc := enc) (C := Try.checked) false ⟨#[], #[.slice none 0 0, .slice none 0 0, .int .u32 0], []⟩ 8 (by kernel_rfl) (by kernel_rfl) (by kernel_rfl) (by kernel_rfl)) ?_
  intro W base args ds gs before hval0 hW hcnd hsz0 _
  have hval : ∀ (j : Nat) t v, Try.f5.params[j]? = some t → args[j]? = some v → Value.okWide Try.prog W .any base t v := hval0
  have hsz : (DataW.weightsEach Try.prog (Try.f5.params.toList ++ Rows.sumJoinsSpec.plain.varTypes Try.prog) (ds ++ gs)).all (· ≤ reachBytes) = true := hsz0
  have hW' := hW
  obtain ⟨p, q, hA0, hV, rfl, hfz, hnd⟩ := hW
  have hA : DataW.TrodAll enc Try.prog W 0 (fun _ => true) true Try.f5.params.toList args.toList ds p := hA0
  rw [Try.params5] at hA hval hsz
  obtain ⟨v0, vs0, d0, ds0, p0, q0, hargs, rfl, rfl, h0, r0⟩ := trodAll_cons hA
  obtain ⟨v1, vs1, d1, ds1, p1, q1, rfl, rfl, rfl, h1, r1⟩ := trodAll_cons r0
  obtain ⟨v2, vs2, d2, ds2, p2, q2, rfl, rfl, rfl, h2, r2⟩ := trodAll_cons r1
  obtain ⟨rfl, rfl, rfl⟩ := trodAll_nil r2
  obtain rfl : args = #[v0, v1, v2] := by cases args; simp_all
  obtain ⟨rfl, rfl⟩ := trodVars_none hV
  obtain ⟨a0, len0, cap0, rfl⟩ := okWide_slice Try.undBs (hval 0 22 v0 rfl rfl)
  have k0 := h0
  have lt0 : ∀ x ∈ p0, x.block < W.heap.size := by obtain ⟨m, hm⟩ := k0; exact DataW.trod_lt m _ _ _ hm
  obtain ⟨z0, w0⟩ : ∃ zs, IsRow .u8 W a0 len0 cap0 zs := by
    obtain ⟨fuel, hf⟩ := h0
    rcases open_ints Try.undBs Try.underlying5 (by kernel_rfl) hf with ⟨hcs, _⟩ | ⟨x, l, c, zs, hcs, _, hl, hm, hz, _, hcell, hwz⟩
    · simp [Value.cells] at hcs
      obtain ⟨rfl, rfl, rfl⟩ := hcs
      exact ⟨[], .inl ⟨rfl, rfl, rfl, rfl⟩⟩
    · simp [Value.cells] at hcs
      obtain ⟨rfl, rfl, rfl⟩ := hcs
      exact ⟨zs, .inr ⟨_, rfl, hl, hm, by simpa using hz, hcell, hwz⟩⟩
  have hc0 : len0 ≤ 140737488351232 := by
    obtain ⟨fuel, hf⟩ := k0
    rcases open_ints Try.undBs Try.underlying5 (by kernel_rfl) hf with ⟨hcs, _⟩ | ⟨x, l, c, zs, hcs, _, hl, hm, hz, hx, hcell, hwz⟩
    · simp [Value.cells] at hcs
      omega
    · simp [Value.cells] at hcs
      obtain ⟨rfl, rfl, rfl⟩ := hcs
      have hd := congrArg Prod.fst hx
      simp only at hd
      have := sized_slice (j := 0) hsz rfl (by rw [hd]; rfl) Try.undBs
      rw [show Try.prog.bytesOf 5 = 1 from by kernel_rfl] at this
      simp [lits, reachBytes] at this hz
      omega
  obtain ⟨xs0, hB0⟩ := BArg.of_row w0
  obtain ⟨a1, len1, cap1, rfl⟩ := okWide_slice Try.undBs (hval 1 22 v1 rfl rfl)
  have k1 := h1
  have lt1 : ∀ x ∈ p1, x.block < W.heap.size := by obtain ⟨m, hm⟩ := k1; exact DataW.trod_lt m _ _ _ hm
  obtain ⟨z1, w1⟩ : ∃ zs, IsRow .u8 W a1 len1 cap1 zs := by
    obtain ⟨fuel, hf⟩ := h1
    rcases open_ints Try.undBs Try.underlying5 (by kernel_rfl) hf with ⟨hcs, _⟩ | ⟨x, l, c, zs, hcs, _, hl, hm, hz, _, hcell, hwz⟩
    · simp [Value.cells] at hcs
      obtain ⟨rfl, rfl, rfl⟩ := hcs
      exact ⟨[], .inl ⟨rfl, rfl, rfl, rfl⟩⟩
    · simp [Value.cells] at hcs
      obtain ⟨rfl, rfl, rfl⟩ := hcs
      exact ⟨zs, .inr ⟨_, rfl, hl, hm, by simpa using hz, hcell, hwz⟩⟩
  have hc1 : len1 ≤ 140737488351232 := by
    obtain ⟨fuel, hf⟩ := k1
    rcases open_ints Try.undBs Try.underlying5 (by kernel_rfl) hf with ⟨hcs, _⟩ | ⟨x, l, c, zs, hcs, _, hl, hm, hz, hx, hcell, hwz⟩
    · simp [Value.cells] at hcs
      omega
    · simp [Value.cells] at hcs
      obtain ⟨rfl, rfl, rfl⟩ := hcs
      have hd := congrArg Prod.fst hx
      simp only at hd
      have := sized_slice (j := 1) hsz rfl (by rw [hd]; rfl) Try.undBs
      rw [show Try.prog.bytesOf 5 = 1 from by kernel_rfl] at this
      simp [lits, reachBytes] at this hz
      omega
  obtain ⟨xs1, hB1⟩ := BArg.of_row w1
  obtain ⟨n2, rfl, rfl, rfl, w2⟩ := open_int Try.underlying23 (hval 2 23 v2 rfl rfl) h2
  have b2 := bounds_u32 w2
  obtain ⟨m2, rfl⟩ : ∃ m : Nat, n2 = (m : Int) := ⟨n2.toNat, by omega⟩
  clear hA0 hval0
  refine (walk a0 len0 cap0 xs0 a1 len1 cap1 xs1 m2 (by omega) W hB0 hc0 hB1 hc1).mono fun e W' ⟨he, hf⟩ => ?_
  subst he
  have bel : Below W.heap.size W W' := hf.below (Nat.le_refl _) (by simp)
  exact ⟨_, rfl, _, _, _, [], _, [], hW', trodAll_mk1 (shut_bool Try.underlying4 _), (trodAll_cons_mk (Below.trod laidOut (by kernel_rfl) (of_decide_eq_true (by kernel_rfl)) k0 bel lt0) (trodAll_cons_mk (Below.trod laidOut (by kernel_rfl) (of_decide_eq_true (by kernel_rfl)) k1 bel lt1) (trodAll_cons_mk (shut_int Try.underlying23 w2) trodAll_mk0))), rfl, bel.frame _, fun h => by cases h⟩

theorem over : Rows.sumJoinsRow.holds Try.pinned (OpenSpec.ofChange Rows.sumJoinsSpec) :=
  OpenClaim.holds_of_wide 5 Try.f5 rfl rfl rfl rfl rfl rfl rfl ⟨rfl, rfl, rfl, rfl, rfl⟩ rfl rfl rfl rfl rfl (by kernel_rfl) Try.func5 (by kernel_rfl)
    (of_decide_eq_true (by kernel_rfl)) (by unfold Func.isWrapper; first | (rw [if_pos (by decide +kernel)]; kernel_rfl) | (rw [if_neg (by decide +kernel)]; exact ⟨rfl, rfl⟩))
    (fun os started H enc _ => lifted os started H enc)
end Go.Proofs.Ytdnafiflgnehjaa.sumJoins
namespace Go.Proofs.Ytdnafiflgnehjaa
theorem sumjoins_holds : Rows.SumJoinsSaid := sumJoins.over
#print axioms sumjoins_holds
end Go.Proofs.Ytdnafiflgnehjaa

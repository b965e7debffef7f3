/- For every row of bytes and every sum the law SumBytes returns true, and both read as they did. No conditions. -/
import Derived.Test.YtdnafiflgnehjaaHash
import Derived.SizedLaws
namespace Go.Proofs.Ytdnafiflgnehjaa.sumBytes
open Go.ChangeShapes Go.WideShapes Go.ChangeAt Go.RowKit Go.Lib
set_option linter.unusedVariables false

/-- The twin of a row reads as the row. -/
theorem twin_arg {w : World} {t L : Nat} {xs : List Nat} (hL : L = xs.length) (hl : ∀ x ∈ xs, x < 256) (hm : L < 2^40) (h : w.heap[t]? = some (.cells (bts (xs ++ [77])).toArray 5 (0, 0))) : BArg w (some ⟨t, 0, none⟩) L (L + 1) xs := by
  refine ⟨hL, hl, by omega, by omega, fun h0 => ⟨t, 0, rfl, lt_of_block h, fun j hj => ?_⟩⟩
  rw [cell_of_row _ _ _ _ _ _ h]
  have := bts_get (xs ++ [77]) j (by rw [List.length_append, ← hL]; omega)
  have e : (xs ++ [77]).getD j 0 = xs.getD j 0 := by simp [List.getD, List.getElem?_append_left (show j < xs.length by omega)]
  rw [e] at this
  simpa using this

set_option maxHeartbeats 4000000 in
set_option maxRecDepth 100000 in
theorem walk (ao : Option Addr) (L cap : Nat) (xs : List Nat) (s : Nat) (hs : s < 4294967296) (w : World) (hA : BArg w ao L cap xs) :
    Calls Try.prog 3 #[.slice ao L cap, .int .u32 (s : Int)] w fun e w' => e = .returned (.bool true) ∧ Fr [] w w' := by
  have hm := hA.most
  obtain ⟨m, HM⟩ : ∃ m, Hid (more s xs = m) := ⟨_, rfl⟩
  obtain ⟨m0, HM0⟩ : ∃ m, Hid (more 0 xs = m) := ⟨_, rfl⟩
  by_cases hL : 1048576 < L
  · have E : decide (1048576 < L) = true := by simp [hL]
    go_enter Try.func3, Try.ntmps3
    go_wp2_with fail
    refine (beyond_any _ L _ hm (by simp [World.cell?_alloc_at])).mono ?_
    rintro e w1 ⟨rfl, rfl⟩
    rw [E]
    go_wp2_with fail
    go_ret
    exact ⟨rfl, Fr.alloc _ _ _⟩
  · have E : decide (1048576 < L) = false := by simp [hL]
    go_enter Try.func3, Try.ntmps3
    go_wp2_with fail
    refine (beyond_any _ L _ hm (by simp [World.cell?_alloc_at])).mono ?_
    rintro e w1 ⟨rfl, rfl⟩
    rw [E]
    obtain ⟨w1, hw1⟩ : ∃ w1, w1 = w.alloc (Obj.cells #[Value.int IntKind.i64 (L : Int)] 3) := ⟨_, rfl⟩
    rw [← hw1]
    have hF1 : Fr [] w w1 := by rw [hw1]; exact Fr.alloc [] _ _
    clear hw1
    have hA1 := hA.keep hF1
    go_wp2_with fail
    refine (twin_any ao L cap xs w1 hA1 (by omega)).mono ?_
    rintro e w2 ⟨t, rfl, ht, hrow, hF2⟩
    have hA2 := hA1.keep hF2
    have hT2 := twin_arg hA.len hA.low (by omega) hrow
    have hF2' := hF1.then hF2
    go_wp2_with fail
    refine (crc_any m0 _ L _ xs w2 hT2 HM0.out).mono ?_
    rintro e w3 ⟨rfl, hF3⟩
    go_wp2_with fail
    refine (refCrc_any m0 _ L _ xs w3 (hA2.keep hF3) HM0.out).mono ?_
    rintro e w4 ⟨rfl, hF4⟩
    have hF24 := hF3.then hF4
    go_wp2_with fail
    refine (more_any s m _ L _ xs w4 hs (hT2.keep hF24) HM.out).mono ?_
    rintro e w5 ⟨rfl, hF5⟩
    have hF25 := hF24.then hF5
    go_wp2_with fail
    refine (refMore_any s m _ L _ xs w5 hs (hA2.keep hF25) HM.out).mono ?_
    rintro e w6 ⟨rfl, hF6⟩
    have hF26 := hF25.then hF6
    go_wp2_with fail
    refine (leftBytes_any t ao L cap xs w6 (hA2.keep hF26) (by omega) (hF26.keep hrow (by simp))).mono ?_
    rintro e w7 ⟨rfl, q, rfl⟩
    have hF7 := (hF2'.then hF26).then (Fr.drewN [] w6 q)
    go_wp2_with fail
    go_ret
    exact ⟨rfl, hF7⟩

theorem own : ownKnob Try.prog.godebug = none := by kernel_rfl
theorem laidOut : laidOutB Try.prog = true := by kernel_rfl
set_option maxRecDepth 100000 in
theorem lifted (os : Os) (started : os.Started) (H : Type) (enc : TypeId × Value → H) :
    ReturnsInHanded {} Try.checked os 3 .any (Rows.sumBytesSpec.pre6 enc Try.prog Try.f3 Rows.sumBytesRow.domain false) (Rows.sumBytesSpec.post enc Try.prog Try.f3 false true false false) := by
  refine returnsInHanded_of_change_sized (C := Try.checked) own started (by kernel_rfl) Try.func3
    (ChangeSpec.witness6 (enc := enc) (C := Try.checked) false ⟨#[], #[.slice none 0 0, .int .u32 0], []⟩ 8 (by kernel_rfl) (by kernel_rfl) (by kernel_rfl) (by kernel_rfl)) ?_
  intro W base args ds gs before hval0 hW hcnd hsz0 _
  have hval : ∀ (j : Nat) t v, Try.f3.params[j]? = some t → args[j]? = some v → Value.okWide Try.prog W .any base t v := hval0
  clear hsz0
  have hW' := hW
  obtain ⟨p, q, hA0, hV, rfl, hfz, hnd⟩ := hW
  have hA : DataW.TrodAll enc Try.prog W 0 (fun _ => true) true Try.f3.params.toList args.toList ds p := hA0
  rw [Try.params3] at hA hval
  obtain ⟨v0, vs0, d0, ds0, p0, q0, hargs, rfl, rfl, h0, r0⟩ := trodAll_cons hA
  obtain ⟨v1, vs1, d1, ds1, p1, q1, rfl, rfl, rfl, h1, r1⟩ := trodAll_cons r0
  obtain ⟨rfl, rfl, rfl⟩ := trodAll_nil r1
  obtain rfl : args = #[v0, v1] := by cases args; simp_all
  obtain ⟨rfl, rfl⟩ := trodVars_none hV
  obtain ⟨a0, len0, cap0, rfl⟩ := okWide_slice Try.undBs (hval 0 22 v0 rfl rfl)
  have k0 := h0
  have lt0 : ∀ x ∈ p0, x.block < W.heap.size := by obtain ⟨m, hm⟩ := k0; exact DataW.trod_lt m _ _ _ hm
  obtain ⟨z0, w0⟩ : ∃ zs, IsRow .u8 W a0 len0 cap0 zs := by
    obtain ⟨fuel, hf⟩ := h0
    rcases open_ints Try.undBs Try.underlying5 (by kernel_rfl) hf with ⟨hcs, _⟩ | ⟨x, l, c, zs, hcs, _, hl, hm, hz, _, hcell, hwz⟩
    · simp [Value.cells] at hcs
      obtain ⟨rfl, rfl, rfl⟩ := hcs
      exact ⟨[], .inl ⟨rfl, rfl, rfl, rfl⟩⟩
    · simp [Value.cells] at hcs
      obtain ⟨rfl, rfl, rfl⟩ := hcs
      exact ⟨zs, .inr ⟨_, rfl, hl, hm, by simpa using hz, hcell, hwz⟩⟩
  obtain ⟨xs0, hB0⟩ := BArg.of_row w0
  obtain ⟨n1, rfl, rfl, rfl, w1⟩ := open_int Try.underlying23 (hval 1 23 v1 rfl rfl) h1
  have b1 := bounds_u32 w1
  obtain ⟨m1, rfl⟩ : ∃ m : Nat, n1 = (m : Int) := ⟨n1.toNat, by omega⟩
  clear hA0 hval0
  refine (walk a0 len0 cap0 xs0 m1 (by omega) W hB0).mono fun e W' ⟨he, hf⟩ => ?_
  subst he
  have bel : Below W.heap.size W W' := hf.below (Nat.le_refl _) (by simp)
  exact ⟨_, rfl, _, _, _, [], _, [], hW', trodAll_mk1 (shut_bool Try.underlying4 _), (trodAll_cons_mk (Below.trod laidOut (by kernel_rfl) (of_decide_eq_true (by kernel_rfl)) k0 bel lt0) (trodAll_cons_mk (shut_int Try.underlying23 w1) trodAll_mk0)), rfl, bel.frame _, fun h => by cases h⟩

theorem over : Rows.sumBytesRow.holds Try.pinned (OpenSpec.ofChange Rows.sumBytesSpec) :=
  OpenClaim.holds_of_wide 3 Try.f3 rfl rfl rfl rfl rfl rfl rfl ⟨rfl, rfl, rfl, rfl, rfl⟩ rfl rfl rfl rfl rfl (by kernel_rfl) Try.func3 (by kernel_rfl)
    (of_decide_eq_true (by kernel_rfl)) (by unfold Func.isWrapper; first | (rw [if_pos (by decide +kernel)]; kernel_rfl) | (rw [if_neg (by decide +kernel)]; exact ⟨rfl, rfl⟩))
    (fun os started H enc _ => lifted os started H enc)
end Go.Proofs.Ytdnafiflgnehjaa.sumBytes
namespace Go.Proofs.Ytdnafiflgnehjaa
theorem sumbytes_holds : Rows.SumBytesSaid := sumBytes.over
#print axioms sumbytes_holds
end Go.Proofs.Ytdnafiflgnehjaa

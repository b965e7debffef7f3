/- For every row of bytes, kind and number the law CodecOne returns true, and all read as they did. No conditions. -/
import Derived.Test.YtcajoihfdeoikaaOne0
import Derived.Test.YtcajoihfdeoikaaOne1
import Derived.Test.YtcajoihfdeoikaaOne2
import Derived.Test.YtcajoihfdeoikaaOne3
namespace Go.Proofs.Ytcajoihfdeoikaa.codecOne
open Go.ChangeShapes Go.WideShapes Go.ChangeAt Go.RowKit Go.Lib
set_option linter.unusedVariables false
theorem own : ownKnob Try.prog.godebug = none := by kernel_rfl
theorem laidOut : laidOutB Try.prog = true := by kernel_rfl
set_option maxHeartbeats 4000000 in
set_option maxRecDepth 100000 in
theorem walk_big (ao : Option Addr) (L cap : Nat) (xs : List Nat) (k n : Int) (w : World) (h : BArg w ao L cap xs) (hbig : 1048576 < L) :
    Calls Try.prog 5 #[.slice ao L cap, .int .u8 k, .int .u64 n] w fun e w' => e = .returned (.bool true) ∧ Fr [] w w' := by
  go_enter Try.func5, Try.ntmps5
  go_wp2_with fail
  refine (alive_any _).mono ?_
  rintro e w1 ⟨rfl, hF1⟩
  go_wp2_with fail
  refine (beyond_any w1.heap.size L _ h.most (cell_of_row _ _ _ _ _ _ (heap_alloc_new w1 _))).mono ?_
  rintro e w2 ⟨rfl, rfl⟩
  rw [show decide (1048576 < L) = true by simpa using hbig]
  go_wp2_with fail
  refine (alive_any _).mono ?_
  rintro e w4 ⟨rfl, hF4⟩
  go_wp2
  go_ret
  exact ⟨rfl, (hF1.then (Fr.alloc [] w1 _)).then hF4⟩

theorem text_val (L : Nat) (xs : List Nat) (hL : L = xs.length) : (textF (L : Int) xs).1.size ≤ L := by
  unfold textF
  split
  · simp [ByteArray.size]
  · split
    · simp [ByteArray.size]
    · split
      · simp [ByteArray.size]
      · split
        · simp [ByteArray.size]
        · simp only
          rw [toBA_size, List.length_take, List.length_drop]
          omega
theorem walk_all (ao : Option Addr) (L cap : Nat) (xs : List Nat) (k n : Int) (w : World) (h : BArg w ao L cap xs) (hk0 : 0 ≤ k) (hk1 : k < 256) (hn0 : 0 ≤ n) (hn1 : n < 18446744073709551616) :
    Calls Try.prog 5 #[.slice ao L cap, .int .u8 k, .int .u64 n] w fun e w' => e = .returned (.bool true) ∧ Fr [] w w' := by
  by_cases hbig : 1048576 < L
  · exact walk_big ao L cap xs k n w h hbig
  have hLx := h.len
  have hsm : L ≤ 1048576 := by omega
  rcases (show k % 3 = 0 ∨ k % 3 = 1 ∨ k % 3 = 2 from by omega) with hk | hk | hk
  · have hb : (k % 3 == 0) = true := by rw [hk]; rfl
    by_cases hc : (shortF 0 0 xs).2.2 = 0
    · have hs := shortF_size xs 0 0 hc
      obtain ⟨b, off, rfl, _, _⟩ := h.lies (by omega)
      obtain ⟨M, hM⟩ : ∃ M, L = (shortF 0 0 xs).2.1 + M := ⟨L - (shortF 0 0 xs).2.1, by omega⟩
      rw [hM] at h hsm ⊢
      exact walk0_ok b off cap none _ M xs k n w h (by omega) hk0 hk1 hn0 hn1 hb hsm _ (shortF_val xs 0 0 (by omega) (by omega) h.low) (enc_short xs h.low hc) (show _ = _ by simp [rdBy, hc])
    · have he := short_err xs 0 0
      exact walk0_no 0 0 cap ao 0 L xs k n w h (shortF 0 0 xs).2.2 hc hk0 hk1 hn0 hn1 hb hsm (by omega) (show _ = _ by simp [rdBy, hc])
  · have hb : (k % 3 == 0) = false := by rw [hk]; rfl
    have hb1 : (k % 3 == 1) = true := by rw [hk]; rfl
    by_cases hc : (shortF 0 0 xs).2.2 = 0
    · have hs := shortF_size xs 0 0 hc
      obtain ⟨b, off, rfl, _, _⟩ := h.lies (by omega)
      obtain ⟨M, hM⟩ : ∃ M, L = (shortF 0 0 xs).2.1 + M := ⟨L - (shortF 0 0 xs).2.1, by omega⟩
      rw [hM] at h hsm ⊢
      have hv := shortF_val xs 0 0 (by omega) (by omega) h.low
      have hz := zag_bd ((shortF 0 0 xs).1 : Int) (by omega) (by omega)
      refine walk1_ok b off cap none _ M xs k n w h (by omega) hk0 hk1 hn0 hn1 hb hb1 hsm (zag ((shortF 0 0 xs).1 : Int)) hz.1 hz.2 ?_ (show _ = _ by simp [rdBy, intF, hc])
      show _ = _
      rw [zig_zag _ (by omega), Int.toNat_natCast]
      exact enc_short xs h.low hc
    · have he := short_err xs 0 0
      exact walk1_no 0 0 cap ao 0 L xs k n w h (shortF 0 0 xs).2.2 hc hk0 hk1 hn0 hn1 hb hb1 hsm (by omega) (show _ = _ by simp [rdBy, intF, hc])
  · have hb : (k % 3 == 0) = false := by rw [hk]; rfl
    have hb1 : (k % 3 == 1) = false := by rw [hk]; rfl
    have hb2 : (k % 3 != 2) = false := by rw [hk]; rfl
    by_cases hc : (textF (L : Int) xs).2.2 = 0
    · have hs := textF_size (L : Int) xs hc
      have hf := text_form L xs h.low hc
      have hv := text_val L xs hLx
      have hpos : 0 < (textF (L : Int) xs).2.1 := by
        have h1 := congrArg List.length hf
        rw [List.length_append, List.length_take] at h1
        have := enc_length (textF (L : Int) xs).1.size
        omega
      obtain ⟨b, off, rfl, _, _⟩ := h.lies (by omega)
      obtain ⟨M, hM⟩ : ∃ M, L = (textF (L : Int) xs).2.1 + M := ⟨L - (textF (L : Int) xs).2.1, by omega⟩
      obtain ⟨T, hT⟩ : ∃ T, T = textF (L : Int) xs := ⟨_, rfl⟩
      have hrd : rdBy (textF (L : Int)) ⟨#[]⟩ xs 0 = (T.1, xs.drop T.2.1, 0) := by rw [hT]; simp [rdBy, hc]
      rw [← hT] at hc hs hf hv hpos hM
      rw [hM] at h hsm hrd ⊢
      exact walk2_ok b off cap none _ M xs k n w h hpos hk0 hk1 hn0 hn1 hb hb1 hb2 hsm T.1 (by omega) hf (by rw [Int.natCast_add] at hrd; exact hrd)
    · refine walk2_no 0 0 cap ao 0 L xs k n w h (textF (L : Int) xs).2.2 hc hk0 hk1 hn0 hn1 hb hb1 hb2 hsm ?_ (show _ = _ by simp [rdBy, hc])
      intro h3
      rw [hLx]
      unfold textF at h3
      rw [if_neg (by omega)] at h3
      split at h3
      · rename_i h2
        have := short_err xs 0 0
        simp only at h3
        omega
      · rename_i h2
        exact (shortF_size xs 0 0 (by simpa using h2)).1

set_option maxRecDepth 100000 in
theorem lifted (os : Os) (started : os.Started) (H : Type) (enc : TypeId × Value → H) :
    ReturnsInHanded {} Try.checked os 5 .any (Rows.codecOneSpec.pre6 enc Try.prog Try.f5 Rows.codecOneRow.domain false) (Rows.codecOneSpec.post enc Try.prog Try.f5 false true false false) := by
  refine returnsInHanded_of_change (C := Try.checked) own started (by kernel_rfl) Try.func5
    (ChangeSpec.witness6 (enc := enc) (C := Try.checked) false ⟨#[], #[.slice none 0 0, .int .u8 0, .int .u64 0], []⟩ 8 (by kernel_rfl) (by kernel_rfl) (by kernel_rfl) (by kernel_rfl)) ?_
  intro W base args ds gs before hval0 hW hcnd _
  have hval : ∀ (j : Nat) t v, Try.f5.params[j]? = some t → args[j]? = some v → Value.okWide Try.prog W .any base t v := hval0
  have hW' := hW
  obtain ⟨p, q, hA0, hV, rfl, hfz, hnd⟩ := hW
  have hA : DataW.TrodAll enc Try.prog W 0 (fun _ => true) true Try.f5.params.toList args.toList ds p := hA0
  rw [Try.params5] at hA hval
  obtain ⟨v0, vs0, d0, ds0, p0, q0, hargs, rfl, rfl, h0, r0⟩ := trodAll_cons hA
  obtain ⟨v1, vs1, d1, ds1, p1, q1, rfl, rfl, rfl, h1, r1⟩ := trodAll_cons r0
  obtain ⟨v2, vs2, d2, ds2, p2, q2, rfl, rfl, rfl, h2, r2⟩ := trodAll_cons r1
  obtain ⟨rfl, rfl, rfl⟩ := trodAll_nil r2
  obtain rfl : args = #[v0, v1, v2] := by cases args; simp_all
  obtain ⟨rfl, rfl⟩ := trodVars_none hV
  obtain ⟨a0, len0, cap0, rfl⟩ := okWide_slice Try.undBs (hval 0 22 v0 rfl rfl)
  have k0 := h0
  have lt0 : ∀ x ∈ p0, x.block < W.heap.size := by obtain ⟨m, hm⟩ := k0; exact DataW.trod_lt m _ _ _ hm
  obtain ⟨z0, w0⟩ : ∃ zs, IsRow .u8 W a0 len0 cap0 zs := by
    obtain ⟨fuel, hf⟩ := h0
    rcases open_ints Try.undBs Try.undB (by kernel_rfl) hf with ⟨hcs, _⟩ | ⟨x, l, c, zs, hcs, _, hl, hm, hz, _, hcell, hwz⟩
    · simp [Value.cells] at hcs
      obtain ⟨rfl, rfl, rfl⟩ := hcs
      exact ⟨[], .inl ⟨rfl, rfl, rfl, rfl⟩⟩
    · simp [Value.cells] at hcs
      obtain ⟨rfl, rfl, rfl⟩ := hcs
      exact ⟨zs, .inr ⟨_, rfl, hl, hm, by simpa using hz, hcell, hwz⟩⟩
  obtain ⟨xs, hB⟩ := BArg.of_row w0
  obtain ⟨a1, rfl, rfl, rfl, w1⟩ := open_int Try.undB (hval 1 5 v1 rfl rfl) h1
  obtain ⟨a2, rfl, rfl, rfl, w2⟩ := open_int Try.underlying35 (hval 2 35 v2 rfl rfl) h2
  clear hA0 hval0
  have b1 := bounds_u8 w1
  have b2 := bounds_u64 w2
  refine (walk_all a0 len0 cap0 xs a1 a2 W hB b1.1 (by omega) b2.1 (by omega)).mono fun e W' ⟨he, hf⟩ => ?_
  subst he
  have bel : Below W.heap.size W W' := hf.below (Nat.le_refl _) (by simp)
  exact ⟨_, rfl, _, _, _, [], _, [], hW', trodAll_mk1 (shut_bool Try.underlying4 _), (trodAll_cons_mk (Below.trod laidOut (by kernel_rfl) (of_decide_eq_true (by kernel_rfl)) k0 bel lt0) (trodAll_cons_mk (shut_int Try.undB w1) (trodAll_cons_mk (shut_int Try.underlying35 w2) trodAll_mk0))), rfl, bel.frame _, fun h => by cases h⟩

theorem over : Rows.codecOneRow.holds Try.pinned (OpenSpec.ofChange Rows.codecOneSpec) :=
  OpenClaim.holds_of_wide 5 Try.f5 rfl rfl rfl rfl rfl rfl rfl ⟨rfl, rfl, rfl, rfl, rfl⟩ rfl rfl rfl rfl rfl (by kernel_rfl) Try.func5 (by kernel_rfl)
    (of_decide_eq_true (by kernel_rfl)) (by unfold Func.isWrapper; first | (rw [if_pos (by decide +kernel)]; kernel_rfl) | (rw [if_neg (by decide +kernel)]; exact ⟨rfl, rfl⟩))
    (fun os started H enc _ => lifted os started H enc)
end Go.Proofs.Ytcajoihfdeoikaa.codecOne
namespace Go.Proofs.Ytcajoihfdeoikaa
theorem codecone_holds : Rows.CodecOneSaid := codecOne.over
#print axioms codecone_holds
end Go.Proofs.Ytcajoihfdeoikaa

/- For every two numbers of 64 bits the law CodecApart returns true, and both read as they did. No conditions. -/
import Derived.Test.YtcajoihfdeoikaaAlive
namespace Go.Proofs.Ytcajoihfdeoikaa.codecApart
open Go.ChangeShapes Go.WideShapes Go.ChangeAt Go.RowKit Go.Lib
set_option linter.unusedVariables false
theorem own : ownKnob Try.prog.godebug = none := by kernel_rfl
set_option maxHeartbeats 4000000 in
set_option maxRecDepth 100000 in
theorem walk (a0 : Int) (a1 : Int) (w0 : (Lit.int .u64 a0).wf = true) (w1 : (Lit.int .u64 a1).wf = true) (w : World) :
    Calls Try.prog 6 #[.int .u64 a0, .int .u64 a1] w fun e w' => e = .returned (.bool true) ∧ Fr [] w w' := by
  have b0 : 0 ≤ a0 ∧ a0 < 18446744073709551616 := by have := bounds_u64 w0; omega
  have b1 : 0 ≤ a1 ∧ a1 < 18446744073709551616 := by have := bounds_u64 w1; omega
  clear w0 w1
  obtain ⟨N, rfl⟩ := Int.eq_ofNat_of_zero_le b0.1
  obtain ⟨M, rfl⟩ := Int.eq_ofNat_of_zero_le b1.1
  have hN : N < 2^64 := by omega
  have hM : M < 2^64 := by omega
  obtain ⟨la, hla⟩ : ∃ la, la = (enc N).length := ⟨_, rfl⟩
  obtain ⟨lb, hlb⟩ : ∃ lb, lb = (enc M).length := ⟨_, rfl⟩
  have ba := enc_length N
  have bb := enc_length M
  rw [← hla] at ba
  rw [← hlb] at bb
  obtain ⟨xa, hxa⟩ : ∃ xa, xa = enc N := ⟨_, rfl⟩
  obtain ⟨xb, hxb⟩ : ∃ xb, xb = enc M := ⟨_, rfl⟩
  have hmono : N > M → lb ≤ la := fun h => by rw [hla, hlb]; exact enc_mono M N (by omega)
  have hapart : N ≠ M → ∀ k, k = min la lb → xa.take k ≠ xb.take k := fun h k hk e => h (enc_apart N M k hN hM (by rw [hk, hla, hlb]) (by rw [← hxa, ← hxb]; exact e))
  have heq : N = M → xa = xb := fun h => by rw [hxa, hxb, h]
  have HA : Hid (la = xa.length) := by show _ = _; rw [hla, hxa]
  have HB : Hid (lb = xb.length) := by show _ = _; rw [hlb, hxb]
  have HXA : Hid (xa = enc N) := hxa
  have HXB : Hid (xb = enc M) := hxb
  clear hla hlb hxa hxb
  have Hmono : Hid (N > M → lb ≤ la) := hmono
  have Hapart : Hid (N ≠ M → ∀ k, k = min la lb → xa.take k ≠ xb.take k) := hapart
  have Heq : Hid (N = M → xa = xb) := heq
  clear hmono hapart heq
  go_enter Try.func6, Try.ntmps6
  go_wp2_with fail
  refine (newWriter_wr w w (Fr.refl _ _)).mono ?_
  rintro e w1 ⟨ga, rfl, _, hA1, _⟩
  go_wp2_with fail
  refine (newWriter_wr w w1 hA1.fr).mono ?_
  rintro e w2 ⟨gb, rfl, hgb, hB2, hF2⟩
  have hA2 := hA1.quiet hF2
  have hab : ga < gb := by have := hA1.wr.lt; omega
  clear hA1 hF2 hgb
  go_wp2_with fail
  refine (var_any ga _ _ _ _ hA2.wr b0.1 b0.2 (by decide)).mono ?_
  rintro e w3 ⟨rfl, va, hW3, hF3, hM3⟩
  rw [Int.toNat_natCast, List.nil_append, ← HXA.out] at hW3
  have hA3 := hA2.next hW3 hF3 hM3
  have hB3 : WB w w3 gb _ [] := hB2.keep hF3 (by intro x hx; rw [own_nil] at hx; rw [hx]; exact hA2.box) (by rw [own_nil]; omega) (by intro k hk; simp [Value.ownBlock] at hk)
  clear hA2 hB2 hW3 hF3 hM3
  go_wp2_with fail
  refine (var_any gb _ _ _ _ hB3.wr b1.1 b1.2 (by decide)).mono ?_
  rintro e w4 ⟨rfl, vb, hW4, hF4, hM4⟩
  rw [Int.toNat_natCast, List.nil_append, ← HXB.out] at hW4
  have hB4 := hB3.next hW4 hF4 hM4
  have hA4 : WB w w4 ga va xa := hA3.keep hF4 (by intro x hx; rw [own_nil] at hx; rw [hx]; exact hB3.box) (by rw [own_nil]; omega) (by intro k hk; rw [own_nil]; rintro rfl; exact hA3.wr.apart hB3.wr hk)
  clear hA3 hB3 hW4 hF4 hM4
  go_wp2_with fail
  refine (done_some ga _ xa _ hA4.wr (by rw [← HA.out]; omega) (by rw [← HA.out]; omega)).mono ?_
  rintro e w5 ⟨rfl, hrA5, hF5⟩
  have hB5 := hB4.quiet hF5
  rw [← HA.out]
  clear hA4 hF5 hB4
  go_wp2_with fail
  refine (done_some gb _ xb _ hB5.wr (by rw [← HB.out]; omega) (by rw [← HB.out]; omega)).mono ?_
  rintro e w6 ⟨rfl, hrB6, hF6⟩
  rw [← HB.out]
  have hrA6 := hF6.keep hrA5 (by simp)
  have h6 := hB5.fr.then hF6
  clear hrA5 hF6 hB5
  go_wp2_with fail
  refine (alive_any _).mono ?_
  rintro e w7 ⟨rfl, hF7⟩
  have hrA7 := hF7.keep hrA6 (by simp)
  have hrB7 := hF7.keep hrB6 (by simp)
  have h7 := h6.then hF7
  have RA : Rs w7 (some ⟨w4.heap.size, 0, none⟩) xa := Rs.of_row hrA7 (by rw [← HA.out]; omega)
  have RB : Rs w7 (some ⟨w5.heap.size, 0, none⟩) xb := Rs.of_row hrB7 (by rw [← HB.out]; omega)
  clear hrA6 hrB6 h6 hF7 hrA7 hrB7
  have la0 : ((la : Int) == 0) = false := by rw [beq_eq_false_iff_ne]; omega
  have lb0 : ((lb : Int) == 0) = false := by rw [beq_eq_false_iff_ne]; omega
  by_cases hNM : N = M
  · have hNMb : ((N : Int) == M) = true := by rw [beq_iff_eq]; omega
    have hle : (N : Int) ≤ M := by omega
    have e1 : decide (xa = xb) = true := by rw [decide_eq_true_eq]; exact Heq.out hNM
    have E1 : Hid (decide (xa = xb) = true) := e1
    clear hNM e1
    go_wp2_with fail
    refine (same_any _ _ la lb la lb xa xb w7 RA RB HA.out HB.out).mono ?_
    rintro e w8 ⟨rfl, q, rfl⟩
    go_wp2
    go_ret
    rw [E1.out]
    exact ⟨rfl, h7.then (Fr.drewN _ _ _)⟩
  · have hNMb : ((N : Int) == M) = false := by rw [beq_eq_false_iff_ne]; omega
    have fin : ∀ k, k = min la lb → Hid (xa.take k ≠ xb.take k) := fun k hk => Hapart.out hNM k hk
    clear hNM
    have hcases : ((M : Int) < N ∧ (lb : Int) ≤ la) ∨ (N : Int) ≤ M := by
      by_cases hgt : N > M
      · have := Hmono.out hgt
        exact Or.inl ⟨by omega, by omega⟩
      · exact Or.inr (by omega)
    rcases hcases with ⟨hgt, hll⟩ | hgt
    · by_cases hmn : lb < la
      · have hF := fin lb (by omega)
        clear fin
        go_wp2_with fail
        go_quiet ((go_at_call 29; exact Calls.quiet_of (same_no _ _ lb lb _ _ (xa.take lb) (xb.take lb) _ ((RA.take lb).drewN _) ((RB.take lb).drewN _) (by rw [List.length_take, ← HA.out]; omega) (by rw [List.length_take, ← HB.out]; omega) hF.out)))
        go_wp2
        go_ret
        exact ⟨rfl, h7.then (Fr.drewN _ _ _)⟩
      · have hF := fin la (by omega)
        clear fin
        have hmn' : la ≤ lb := by omega
        go_wp2_with fail
        go_quiet ((go_at_call 29; exact Calls.quiet_of (same_no _ _ la la _ _ (xa.take la) (xb.take la) _ ((RA.take la).drewN _) ((RB.take la).drewN _) (by rw [List.length_take, ← HA.out]; omega) (by rw [List.length_take, ← HB.out]; omega) hF.out)))
        go_wp2
        go_ret
        exact ⟨rfl, h7.then (Fr.drewN _ _ _)⟩
    · by_cases hmn : lb < la
      · have hF := fin lb (by omega)
        clear fin
        go_wp2_with fail
        go_quiet ((go_at_call 29; exact Calls.quiet_of (same_no _ _ lb lb _ _ (xa.take lb) (xb.take lb) _ ((RA.take lb).drewN _) ((RB.take lb).drewN _) (by rw [List.length_take, ← HA.out]; omega) (by rw [List.length_take, ← HB.out]; omega) hF.out)))
        go_wp2
        go_ret
        exact ⟨rfl, h7.then (Fr.drewN _ _ _)⟩
      · have hF := fin la (by omega)
        clear fin
        have hmn' : la ≤ lb := by omega
        go_wp2_with fail
        go_quiet ((go_at_call 29; exact Calls.quiet_of (same_no _ _ la la _ _ (xa.take la) (xb.take la) _ ((RA.take la).drewN _) ((RB.take la).drewN _) (by rw [List.length_take, ← HA.out]; omega) (by rw [List.length_take, ← HB.out]; omega) hF.out)))
        go_wp2
        go_ret
        exact ⟨rfl, h7.then (Fr.drewN _ _ _)⟩

set_option maxRecDepth 100000 in
theorem lifted (os : Os) (started : os.Started) (H : Type) (enc : TypeId × Value → H) :
    ReturnsInHanded {} Try.checked os 6 .any (Rows.codecApartSpec.pre6 enc Try.prog Try.f6 Rows.codecApartRow.domain false) (Rows.codecApartSpec.post enc Try.prog Try.f6 false true false false) := by
  refine returnsInHanded_of_change (C := Try.checked) own started (by kernel_rfl) Try.func6
    (ChangeSpec.witness6 (enc := enc) (C := Try.checked) false ⟨#[], #[.int .u64 0, .int .u64 0], []⟩ 8 (by kernel_rfl) (by kernel_rfl) (by kernel_rfl) (by kernel_rfl)) ?_
  intro W base args ds gs before hval0 hW hcnd _
  have hval : ∀ (j : Nat) t v, Try.f6.params[j]? = some t → args[j]? = some v → Value.okWide Try.prog W .any base t v := hval0
  have hW' := hW
  obtain ⟨p, q, hA0, hV, rfl, hfz, hnd⟩ := hW
  have hA : DataW.TrodAll enc Try.prog W 0 (fun _ => true) true Try.f6.params.toList args.toList ds p := hA0
  rw [Try.params6] at hA hval
  obtain ⟨v0, vs0, d0, ds0, p0, q0, hargs, rfl, rfl, h0, r0⟩ := trodAll_cons hA
  obtain ⟨v1, vs1, d1, ds1, p1, q1, rfl, rfl, rfl, h1, r1⟩ := trodAll_cons r0
  obtain ⟨rfl, rfl, rfl⟩ := trodAll_nil r1
  obtain rfl : args = #[v0, v1] := by cases args; simp_all
  obtain ⟨rfl, rfl⟩ := trodVars_none hV
  obtain ⟨a0, rfl, rfl, rfl, w0⟩ := open_int Try.underlying35 (hval 0 35 v0 rfl rfl) h0
  obtain ⟨a1, rfl, rfl, rfl, w1⟩ := open_int Try.underlying35 (hval 1 35 v1 rfl rfl) h1
  clear hA0 hval0
  simp only [List.append_nil] at hW'
  refine (walk a0 a1 w0 w1 W).mono fun e W' ⟨he, hf⟩ => ?_
  subst he
  have hb : Below W.heap.size W W' := hf.below (Nat.le_refl _) (by simp)
  exact ⟨_, rfl, _, _, _, [], [], [], hW', (trodAll_cons_mk (shut_bool Try.underlying4 _) trodAll_mk0), (trodAll_cons_mk (shut_int Try.underlying35 w0) (trodAll_cons_mk (shut_int Try.underlying35 w1) trodAll_mk0)), rfl,
    hb.frame _, fun h => by cases h⟩

theorem over : Rows.codecApartRow.holds Try.pinned (OpenSpec.ofChange Rows.codecApartSpec) :=
  OpenClaim.holds_of_wide 6 Try.f6 rfl rfl rfl rfl rfl rfl rfl ⟨rfl, rfl, rfl, rfl, rfl⟩ rfl rfl rfl rfl rfl (by kernel_rfl) Try.func6 (by kernel_rfl)
    (of_decide_eq_true (by kernel_rfl)) (by unfold Func.isWrapper; first | (rw [if_pos (by decide +kernel)]; kernel_rfl) | (rw [if_neg (by decide +kernel)]; exact ⟨rfl, rfl⟩))
    (fun os started H enc _ => lifted os started H enc)
end Go.Proofs.Ytcajoihfdeoikaa.codecApart
namespace Go.Proofs.Ytcajoihfdeoikaa
theorem codecapart_holds : Rows.CodecApartSaid := codecApart.over
#print axioms codecapart_holds
end Go.Proofs.Ytcajoihfdeoikaa

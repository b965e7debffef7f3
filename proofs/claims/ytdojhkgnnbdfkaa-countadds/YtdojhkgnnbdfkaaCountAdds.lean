/- For every log and every mark the law CountAdds returns true, and the log reads as it did. No conditions. -/
import Derived.Test.YtdojhkgnnbdfkaaLh22
import Derived.Test.YtdojhkgnnbdfkaaTxs
import Derived.SizedLaws
import Derived.ChangeMaps5
namespace Go.Proofs.Ytdojhkgnnbdfkaa.countAdds
open Go.ChangeShapes Go.WideShapes Go.ChangeAt Go.RowKit Go.Lib Go.ChangeMaps
set_option linter.unusedVariables false

theorem stL_nil_app : ∀ (a b : List Tm), stL (a ++ b) [] = stL a [] ++ stL b []
  | [], b => rfl
  | t :: r, b => by
    show _ :: stL (r ++ b) (nxt t.n []) = _ :: (stL r (nxt t.n []) ++ stL b [])
    have : nxt t.n [] = [] := rfl
    rw [this, stL_nil_app r b]
theorem stL_split (ts : List Tm) (k : Nat) : sumI (stL ts []) = sumI (stL (ts.take k) []) + sumI (stL (ts.drop k) []) := by
  rw [← sumI_app, ← stL_nil_app, List.take_append_drop]
theorem stL_snoc (ts : List Tm) (i : Nat) (h : i < ts.length) : sumI (stL (ts.take (i + 1)) []) = sumI (stL (ts.take i) []) + ((tnC (ts.getD i Tm.zero).ws false : Nat) : Int) := by
  rw [ttake_snoc ts i h, stL_nil_app, sumI_app]
  simp [stL, sumI, hits]
theorem stL_sum (ts : List Tm) (h : ∀ t ∈ ts, okT t.n t.ws) (hl : ts.length ≤ 65536) : 0 ≤ sumI (stL ts []) ∧ sumI (stL ts []) ≤ 68719476736 := by
  have h2 := sumI_bound (M := 1048576) (stL ts []) (stL_le ts [] h)
  rw [stL_len] at h2
  have h4 : ts.length * 1048576 ≤ 65536 * 1048576 := Nat.mul_le_mul_right _ hl
  omega
set_option maxHeartbeats 4000000 in
set_option maxRecDepth 100000 in
theorem walk (ao : Option Addr) (L cap : Nat) (ts : List Tm) (mk : Nat) (hmk : mk < 65536) (w : World) (hT : TRs w ao ts) (hL : L = ts.length) (hcap : L ≤ cap) :
    Calls Try.prog 6 #[.slice ao L cap, .int .u16 (mk : Int)] w fun e w' => e = .returned (.bool true) ∧ Fr [] w w' := by
  have hfew := hT.few
  rw [← hL] at hfew
  have HLv : Hid (∀ W, Calls Try.prog 9 #[] W fun e w' => e = .returned (.bool true) ∧ Fr [] W w') := fun W => lives22_any W
  have HG : Hid (∀ (m : Int) W, Fr [] w W → Calls Try.prog 12 #[.slice ao L cap, .int .i64 m, .slice none 0 0] W fun e w' => ∃ r c : Int, e = .returned (.tuple #[.int .i64 r, .int .i64 c]) ∧ LgP ts m [] r c ∧ Fr [] W w') := fun m W hf => nlog_any ao L cap ts m none 0 0 [] W (hT.keep hf) hL hcap ⟨fun h => by simp at h, by simp⟩ rfl (Nat.le_refl _)
  by_cases hok : LgOk ts 0 []
  · obtain ⟨ho1, _, _, _⟩ := hok
    obtain ⟨hok1, hL6⟩ := okL_ts ho1
    rw [← hL] at hL6
    have HG0 : Hid (∀ W, Fr [] w W → Calls Try.prog 12 #[.slice ao L cap, .int .i64 0, .slice none 0 0] W fun e w' => e = .returned (.tuple #[.int .i64 (sumI (stL ts [])), .int .i64 0]) ∧ Fr [] W w') := fun W hf => (HG.out 0 W hf).mono (by
      rintro e w' ⟨r, c, rfl, hP, h3⟩
      obtain ⟨rfl, rfl⟩ := hP.uniq (.inl ⟨⟨ho1, by omega, by omega, trivial⟩, rfl, rfl⟩)
      exact ⟨by simp, h3⟩)
    obtain ⟨k, hk⟩ : ∃ k, k = mk % (L + 1) := ⟨_, rfl⟩
    have hkL : k ≤ L := by have := Nat.mod_lt mk (show 0 < L + 1 by omega); omega
    have HG1 : Hid (∀ W, Fr [] w W → Calls Try.prog 12 #[.slice ao L cap, .int .i64 (k : Int), .slice none 0 0] W fun e w' => e = .returned (.tuple #[.int .i64 (sumI (stL (ts.drop k) [])), .int .i64 0]) ∧ Fr [] W w') := fun W hf => (HG.out (k : Int) W hf).mono (by
      rintro e w' ⟨r, c, rfl, hP, h3⟩
      obtain ⟨rfl, rfl⟩ := hP.uniq (.inl ⟨⟨ho1, by omega, by rw [← hL]; omega, trivial⟩, rfl, rfl⟩)
      exact ⟨by simp, h3⟩)
    have HSp : Hid (sumI (stL ts []) = sumI (stL (ts.take k) []) + sumI (stL (ts.drop k) [])) := stL_split ts k
    have HB : Hid (∀ i, 0 ≤ sumI (stL (ts.take i) []) ∧ sumI (stL (ts.take i) []) ≤ 68719476736) := fun i => stL_sum _ (fun t ht => hok1 t (List.mem_of_mem_take ht)) (by rw [List.length_take]; omega)
    have hb1 := stL_sum (ts.drop k) (fun t ht => hok1 t (List.mem_of_mem_drop ht)) (by rw [List.length_drop]; omega)
    have HSn : Hid (∀ i, i < L → sumI (stL (ts.take (i + 1)) []) = sumI (stL (ts.take i) []) + ((tnC (ts.getD i Tm.zero).ws false : Nat) : Int)) := fun i hi => stL_snoc ts i (by omega)
    have HTs : Hid (∀ W, Fr [] w W → TRs W ao ts) := fun W hf => hT.keep hf
    have HOk : Hid (∀ t ∈ ts, okT t.n t.ws) := hok1
    have HL : Hid (L = ts.length) := hL
    have hrem : ((mk : Int).tmod ((L : Int) + 1)) = (k : Int) := by
      rw [hk, show ((L : Int) + 1) = ((L + 1 : Nat) : Int) from by simp, Int.ofNat_tmod]
    obtain ⟨A, hA⟩ : ∃ A, A = sumI (stL ts []) := ⟨_, rfl⟩
    obtain ⟨Bd, hBd⟩ : ∃ Bd, Bd = sumI (stL (ts.drop k) []) := ⟨_, rfl⟩
    rw [← hA] at HG0 HSp
    rw [← hBd] at HG1 HSp hb1
    clear hA hBd hok1 ho1 hT hL HG hk
    have n1 : ((0 : Int) != 0) = false := rfl
    go_enter Try.func6, Try.ntmps6
    go_wp2_with fail
    with_reducible refine Calls.mono (HG0.out _ (Fr.refl _ _)) ?_
    rintro e w1 ⟨rfl, hF1⟩
    go_wp2_with fail
    with_reducible refine Calls.mono (HG1.out _ hF1) ?_
    rintro e w2 ⟨rfl, hF2⟩
    have HF2 : Hid (Fr [] w w2) := hF1.then hF2
    clear HG0 HG1 hF1 hF2
    go_wp2_with fail
    go_loopw [9, 10] (fun ss ii wr => ∃ (S : Int) (i : Nat), ss = .int .i64 S ∧ ii = .int .i64 i ∧ i ≤ k ∧ Hid (S = sumI (stL (ts.take i) [])) ∧ Fr [] w wr) (fun _ ii _ => k - (intOf ii).toNat)
    case atStart => exact ⟨0, 0, rfl, rfl, Nat.zero_le _, (by show _ = _; simp [stL, sumI]), HF2.out⟩
    case round =>
      obtain ⟨S, i, rfl, rfl, hik, HS, hF⟩ := hrel
      by_cases hi : i < k
      · have hi' : i < ts.length := by rw [← HL.out]; omega
        have hT := HTs.out _ hF
        obtain ⟨bb, off, rfl, _, hc⟩ := hT.lies (by omega)
        obtain ⟨d0, d1⟩ := hc i hi'
        have hok := HOk.out _ (tgetD_mem ts i hi')
        have hat := (HTs.out _ (Fr.refl _ _)).each _ (tgetD_mem ts i hi')
        have HS1 := HSn.out i (by omega)
        rw [← HS.out] at HS1
        have HS2 : Hid (S + ((tnC (ts.getD i Tm.zero).ws false : Nat) : Int) = sumI (stL (ts.take (i + 1)) [])) := HS1.symm
        have hS0 := HB.out i
        rw [← HS.out] at hS0
        clear HS1
        generalize ts.getD i Tm.zero = t at d0 d1 hok hat HS2
        obtain ⟨num, wo, wL, wc, ws⟩ := t
        simp only at d0 d1 hok hat HS2
        have HOf : Hid (∀ W, Fr [] w W → Calls Try.prog 7 #[.agg #[.int .i64 num, .slice wo wL wc], .bool false] W fun e w' => e = .returned (.tuple #[.int .i64 (tnC ws false : Int), .int .i64 0]) ∧ Fr [] W w') := fun W hf => (ntxn_any num wo wL wc ws false W (TArg.keep hat hf)).mono (by
          rintro e w' ⟨r, c, rfl, hP, h3⟩
          obtain ⟨rfl, rfl⟩ := hP.uniq (.inl ⟨hok, rfl, rfl⟩)
          exact ⟨rfl, h3⟩)
        have hX := tnC_le hok.2.2.1 false
        generalize tnC ws false = X at HOf HS2 hX
        clear hok hat hc hT HS
        go_wp2_with fail
        with_reducible refine Calls.mono (HOf.out _ hF) ?_
        rintro e w5 ⟨rfl, hF5⟩
        have HW : Hid (Fr [] w w5) := hF.then hF5
        clear hF5 d0 d1
        go_wp2_with fail
        go_roundw
        case rel => exact ⟨S + (X : Int), i + 1, rfl, by simp, by omega, HS2, HW.out⟩
        case measure => simp [intOf]; omega
      · obtain rfl : i = k := by omega
        have hii : ¬ ((i : Int) < (i : Int)) := by omega
        have hS0 := HB.out i
        rw [← HS.out] at hS0
        have hSe : (S + Bd == A) = true := by
          have h := HSp.out
          rw [← HS.out] at h
          simp [h]
        have n0 : ((0 : Int) == 0) = true := rfl
        clear HSp HS hi hik
        go_wp2_with fail
        with_reducible refine Calls.mono (HLv.out _) ?_
        rintro e w5 ⟨rfl, hF5⟩
        go_wp2_with fail
        go_ret
        exact ⟨rfl, hF.then hF5⟩
  · have HG0 : Hid (∀ W, Fr [] w W → Calls Try.prog 12 #[.slice ao L cap, .int .i64 0, .slice none 0 0] W fun e w' => e = .returned (.tuple #[.int .i64 0, .int .i64 1]) ∧ Fr [] W w') := fun W hf => (HG.out 0 W hf).mono (by
      rintro e w' ⟨r, c, rfl, hP, h3⟩
      obtain ⟨rfl, rfl⟩ := hP.uniq (.inr ⟨hok, rfl, rfl⟩)
      exact ⟨rfl, h3⟩)
    clear hT hL HG hok
    have n1 : ((1 : Int) != 0) = true := rfl
    go_enter Try.func6, Try.ntmps6
    go_wp2_with fail
    with_reducible refine Calls.mono (HG0.out _ (Fr.refl _ _)) ?_
    rintro e w1 ⟨rfl, hF1⟩
    go_wp2_with fail
    with_reducible refine Calls.mono (HLv.out _) ?_
    rintro e w5 ⟨rfl, hF5⟩
    go_wp2_with fail
    go_ret
    exact ⟨rfl, hF1.then hF5⟩

theorem own : ownKnob Try.prog.godebug = none := by kernel_rfl
theorem laidOut : laidOutB Try.prog = true := by kernel_rfl
set_option maxHeartbeats 4000000 in
set_option maxRecDepth 100000 in
theorem lifted (os : Os) (started : os.Started) (H : Type) (enc : TypeId × Value → H) :
    ReturnsInHanded {} Try.checked os 6 .any (Rows.countAddsSpec.pre6 enc Try.prog Try.f6 Rows.countAddsRow.domain false) (Rows.countAddsSpec.post enc Try.prog Try.f6 false true false false) := by
  refine returnsInHanded_of_change_sized (C := Try.checked) own started (by kernel_rfl) Try.func6
    (ChangeSpec.witness6 (enc := enc) (C := Try.checked) false ⟨#[], #[.slice none 0 0, .int .u16 0], []⟩ 8 (by kernel_rfl) (by kernel_rfl) (by kernel_rfl) (by kernel_rfl)) ?_
  intro W base args ds gs before hval0 hW hcnd hsz0 _
  have hval : ∀ (j : Nat) t v, Try.f6.params[j]? = some t → args[j]? = some v → Value.okWide Try.prog W .any base t v := hval0
  have hsz : (DataW.weightsEach Try.prog (Try.f6.params.toList ++ Rows.countAddsSpec.plain.varTypes Try.prog) (ds ++ gs)).all (· ≤ reachBytes) = true := hsz0
  have hW' := hW
  obtain ⟨p, q, hA0, hV, rfl, hfz, hnd⟩ := hW
  have hA : DataW.TrodAll enc Try.prog W 0 (fun _ => true) true Try.f6.params.toList args.toList ds p := hA0
  rw [Try.params6] at hA hval hsz
  obtain ⟨v0, vs0, d0, ds0, p0, q0, hargs, rfl, rfl, h0, r0⟩ := trodAll_cons hA
  obtain ⟨v1, vs1, d1, ds1, p1, q1, rfl, rfl, rfl, h1, r1⟩ := trodAll_cons r0
  obtain ⟨rfl, rfl, rfl⟩ := trodAll_nil r1
  obtain rfl : args = #[v0, v1] := by cases args; simp_all
  obtain ⟨rfl, rfl⟩ := trodVars_none hV
  have k0 := h0
  have lt0 : ∀ x ∈ p0, x.block < W.heap.size := by obtain ⟨m, hm⟩ := k0; exact DataW.trod_lt m _ _ _ hm
  obtain ⟨a0, len0, cap0, ts0, rfl, hB0, hL0, hC0⟩ : ∃ ao L cap ts, v0 = .slice ao L cap ∧ TRs W ao ts ∧ L = ts.length ∧ L ≤ cap := by
    obtain ⟨fuel, hf⟩ := h0
    obtain ⟨ao, L, cap, rfl⟩ := okWide_slice Try.undTs' (hval 0 30 v0 rfl rfl)
    exact ts_open hf (fun n hn => of_decide_eq_true (List.all_eq_true.1 hsz n (DataW.weights_mem_each (j := 0) (t := 30) rfl rfl n hn)))
  obtain ⟨n1, rfl, rfl, rfl, w1⟩ := open_int Try.underlying45 (hval 1 45 v1 rfl rfl) h1
  have b1 := bounds_u16 w1
  obtain ⟨m1, rfl⟩ : ∃ m : Nat, n1 = (m : Int) := ⟨n1.toNat, by omega⟩
  clear hA0 hval0
  refine (walk a0 len0 cap0 ts0 m1 (by omega) W hB0 hL0 hC0).mono fun e W' ⟨he, hf⟩ => ?_
  subst he
  have bel : Below W.heap.size W W' := hf.below (Nat.le_refl _) (by simp)
  exact ⟨_, rfl, _, _, _, [], _, [], hW', trodAll_mk1 (shut_bool Try.underlying4 _), (trodAll_cons_mk (Below.trod laidOut (by kernel_rfl) (of_decide_eq_true (by kernel_rfl)) k0 bel lt0) (trodAll_cons_mk (shut_int Try.underlying45 w1) trodAll_mk0)), rfl, bel.frame _, fun h => by cases h⟩

theorem over : Rows.countAddsRow.holds Try.pinned (OpenSpec.ofChange Rows.countAddsSpec) :=
  OpenClaim.holds_of_wide 6 Try.f6 rfl rfl rfl rfl rfl rfl rfl ⟨rfl, rfl, rfl, rfl, rfl⟩ rfl rfl rfl rfl rfl (by kernel_rfl) Try.func6 (by kernel_rfl)
    (of_decide_eq_true (by kernel_rfl)) (by unfold Func.isWrapper; first | (rw [if_pos (by decide +kernel)]; kernel_rfl) | (rw [if_neg (by decide +kernel)]; exact ⟨rfl, rfl⟩))
    (fun os started H enc _ => lifted os started H enc)
end Go.Proofs.Ytdojhkgnnbdfkaa.countAdds
namespace Go.Proofs.Ytdojhkgnnbdfkaa
theorem countadds_holds : Rows.CountAddsSaid := countAdds.over
#print axioms countadds_holds
end Go.Proofs.Ytdojhkgnnbdfkaa

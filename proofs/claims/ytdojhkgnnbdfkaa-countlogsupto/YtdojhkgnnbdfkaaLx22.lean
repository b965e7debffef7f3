/- How many steps a log takes: what the document's Log answers. Conditions: the slices hold no more than fits. -/
import Derived.Test.YtdojhkgnnbdfkaaPl22
import Derived.Test.YtdojhkgnnbdfkaaChk7
namespace Go.Proofs.Ytdojhkgnnbdfkaa
open Go.ChangeShapes Go.WideShapes Go.ChangeAt Go.RowKit Go.Lib
set_option linter.unusedVariables false
set_option linter.unusedSimpArgs false

/-- What stands when the loop begins its round i: in slot 8 the steps so far, in slot 9 how many beyond are passed. -/
structure LxI (w wr : World) (ts : List Tm) (bs : List Int) (M i k : Nat) (S T : Int) : Prop where
  sum : T = S + sumI (stL (ts.drop i) (bs.drop k))
  low : 0 ≤ S ∧ S ≤ ((i - M : Nat) : Int) * 69
  k : k ≤ bs.length
  mi : M ≤ i
  fr : Fr [] w wr
theorem bdrop_nil (bs : List Int) (k : Nat) (h : k = bs.length) : bs.drop k = [] := by rw [h]; simp
set_option maxHeartbeats 8000000 in
set_option maxRecDepth 100000 in
theorem xnlog_ok (ao : Option Addr) (L cap : Nat) (ts : List Tm) (M : Nat) (bo : Option Addr) (Lb cb : Nat) (bs : List Int) (w : World) (hT : TRs w ao ts) (hL : L = ts.length) (hI : IRs w bo bs) (hLb : Lb = bs.length) (hok : LgOk ts (M : Int) bs) :
    Calls Try.prog 13 #[.slice ao L cap, .int .i64 (M : Int), .slice bo Lb cb] w fun e w' => e = .returned (.tuple #[.int .i64 (sumI (stL (ts.drop M) bs)), .int .i64 0]) ∧ Fr [] w w' := by
  have hok' := hok
  obtain ⟨ho1, ho0, ho2, ho3⟩ := hok
  obtain ⟨hok1, hfew⟩ := okL_ts ho1
  have hML : M ≤ L := by omega
  have hL6 : L ≤ 65536 := by omega
  obtain ⟨cc, hcc⟩ := Bad.ex (txs ts) 1
  have hc0 : cc = 0 := hcc.ok.2 ho1
  subst hc0
  have HCk : Hid (∀ W, Fr [] w W → Calls Try.prog 26 #[.slice ao L cap] W fun e w' => e = .returned (.int .i64 0) ∧ Fr [] W w') := fun W hf => ycheck_any ao L cap 0 ts W (hT.keep hf) hL hcc
  have HMb : Hid (∀ W, Fr [] w W → Calls Try.prog 27 #[.slice ao L cap, .int .i64 (M : Int), .slice bo Lb cb] W fun e w' => e = .returned (.bool true) ∧ Fr [] W w') := fun W hf => (xplace_any ao L cap M bo Lb cb bs W (by omega) (hI.keep hf) hLb).mono (by
    rintro e w' ⟨⟨B, rfl, hB⟩, h2⟩
    have : B = true := hB.2 ⟨ho0, by omega, by rw [hL]; exact ho3⟩
    subst this
    exact ⟨rfl, h2⟩)
  have HTd : Hid (∀ W, Fr [] w W → TRs W ao ts) := fun W hf => hT.keep hf
  have HI0 : Hid (∀ W, Fr [] w W → IRs W bo bs) := fun W hf => hI.keep hf
  have HOk : Hid (∀ t ∈ ts, okT t.n t.ws) := hok1
  have HLb : Hid (Lb = bs.length) := hLb
  have HL : Hid (L = ts.length) := hL
  have hbf : Lb ≤ 17592186044416 := by rw [hLb]; exact hI.few
  clear hok1 hfew ho1 ho0 ho2 ho3 hT hI hcc hL hLb hok'
  obtain ⟨T, hTT⟩ : ∃ T, T = sumI (stL (ts.drop M) bs) := ⟨_, rfl⟩
  rw [← hTT]
  have HT : Hid (T = sumI (stL (ts.drop M) bs)) := hTT
  clear hTT
  have n1 : ((0 : Int) != 0) = false := rfl
  go_enter Try.func13, Try.ntmps13
  go_wp2_with fail
  with_reducible refine Calls.mono (HCk.out _ (Fr.refl _ _)) ?_
  rintro e w1 ⟨rfl, hF1⟩
  go_wp2_with fail
  with_reducible refine Calls.mono (HMb.out _ hF1) ?_
  rintro e w2 ⟨rfl, hF2⟩
  have HF2 : Hid (Fr [] w w2) := hF1.then hF2
  clear HCk HMb hF1 hF2
  go_wp2_with fail
  go_loopw [8, 9, 10] (fun ss kk ii wr => ∃ (S : Int) (k i : Nat), ss = .int .i64 S ∧ kk = .int .i64 k ∧ ii = .int .i64 i ∧ i ≤ L ∧ Hid (LxI w wr ts bs M i k S T)) (fun _ _ ii _ => L - (intOf ii).toNat)
  case atStart => exact ⟨0, 0, M, rfl, rfl, rfl, hML, ⟨by rw [HT.out]; simp, by simp, Nat.zero_le _, Nat.le_refl _, HF2.out⟩⟩
  case round =>
    obtain ⟨S, k, i, rfl, rfl, rfl, hiL, HX⟩ := hrel
    have hF := HX.out.fr
    by_cases hi : i < L
    · have hi' : i < ts.length := by rw [← HL.out]; exact hi
      have hT := HTd.out _ hF
      obtain ⟨bb, off, rfl, _, hc⟩ := hT.lies (by omega)
      obtain ⟨d0, d1⟩ := hc i hi'
      have hk := HOk.out _ (tgetD_mem ts i hi')
      have hat := (HTd.out _ (Fr.refl _ _)).each _ (tgetD_mem ts i hi')
      have HS1 : Hid (T = S + sumI (stL (ts.getD i Tm.zero :: ts.drop (i + 1)) (bs.drop k))) := by
        show _ = _
        rw [← tdrop22 ts i hi']
        exact HX.out.sum
      have hlow := HX.out.low
      have hmi := HX.out.mi
      have hS6 : 0 ≤ S ∧ S ≤ 65536 * 69 := by omega
      generalize ts.getD i Tm.zero = t at d0 d1 hk hat HS1
      obtain ⟨num, wo, wL, wc, ws⟩ := t
      simp only at d0 d1 hk hat
      have HOf : Hid (∀ sk W, Fr [] w W → Calls Try.prog 8 #[.agg #[.int .i64 num, .slice wo wL wc], .bool sk] W fun e w' => e = .returned (.tuple #[.int .i64 (tnC ws sk : Int), .int .i64 0]) ∧ Fr [] W w') := fun sk W hf => (xntxn_any num wo wL wc ws sk W (TArg.keep hat hf)).mono (by
        rintro e w' ⟨r, c, rfl, hP, h3⟩
        obtain ⟨rfl, rfl⟩ := hP.uniq (.inl ⟨hk, rfl, rfl⟩)
        exact ⟨rfl, h3⟩)
      have HTn : Hid (∀ sk, tnC ws sk ≤ 69) := fun sk => tnC_le hk.2.2.1 sk
      have HSn : Hid (T = S + (((tnC ws (hits num (bs.drop k)) : Nat) : Int) + sumI (stL (ts.drop (i + 1)) (nxt num (bs.drop k))))) := HS1.out
      have HLow : Hid (0 ≤ S ∧ S ≤ ((i - M : Nat) : Int) * 69) := hlow
      clear HS1 hk hat hc hT hlow
      have hkL := HX.out.k
      rw [← HLb.out] at hkL
      by_cases hkk : k < Lb
      · obtain ⟨cb0, coff, rfl, _, hcc⟩ := (HI0.out _ hF).lies (by rw [← HLb.out]; omega)
        have g0 := hcc k (by rw [← HLb.out]; exact hkk)
        have HD : Hid (bs.drop k = bs.getD k 0 :: bs.drop (k + 1)) := idrop_cons bs k (by rw [← HLb.out]; exact hkk)
        generalize bs.getD k 0 = x at g0 HD
        clear hcc HX
        by_cases hx : x = num
        · have hxe : (x == num) = true := by simp [hx]
          have HS2 : Hid (T = S + ((tnC ws true : Nat) : Int) + sumI (stL (ts.drop (i + 1)) (bs.drop (k + 1)))) := by
            have h := HSn.out
            rw [HD.out] at h
            simp only [hits, nxt, hxe, if_true, List.tail_cons] at h
            show _ = _
            omega
          clear HSn hx HD
          go_wp2_with fail
          go_quiet (fail)
          go_wp2_with fail
          with_reducible refine Calls.mono (HOf.out true _ (hF.then (by first | exact Fr.drewN [] _ _ | exact Fr.drew [] _ | exact Fr.refl _ _))) ?_
          rintro e w5 ⟨rfl, hF5⟩
          have HW : Hid (Fr [] w w5) := (hF.then (by first | exact Fr.drewN [] _ _ | exact Fr.drew [] _ | exact Fr.refl _ _)).then hF5
          have hx0 := HTn.out true
          clear hF5 d0 d1
          generalize tnC ws true = X at HS2 hx0
          go_wp2_with fail
          go_roundw
          case rel =>
            refine ⟨S + (X : Int), k + 1, i + 1, rfl, by simp, by simp, by omega, ⟨HS2.out, ?_, by rw [← HLb.out]; omega, by omega, HW.out⟩⟩
            have := HLow.out
            omega
          case measure => simp [intOf]; omega
        · have hxe : (x == num) = false := by simp [hx]
          have HS2 : Hid (T = S + ((tnC ws false : Nat) : Int) + sumI (stL (ts.drop (i + 1)) (bs.drop k))) := by
            have h := HSn.out
            rw [HD.out] at h
            simp only [hits, nxt, hxe, Bool.false_eq_true, if_false] at h
            rw [← HD.out] at h
            show _ = _
            omega
          clear HSn hx HD
          go_wp2_with fail
          go_quiet (fail)
          go_wp2_with fail
          with_reducible refine Calls.mono (HOf.out false _ (hF.then (by first | exact Fr.drewN [] _ _ | exact Fr.drew [] _ | exact Fr.refl _ _))) ?_
          rintro e w5 ⟨rfl, hF5⟩
          have HW : Hid (Fr [] w w5) := (hF.then (by first | exact Fr.drewN [] _ _ | exact Fr.drew [] _ | exact Fr.refl _ _)).then hF5
          have hx0 := HTn.out false
          clear hF5 d0 d1
          generalize tnC ws false = X at HS2 hx0
          go_wp2_with fail
          go_roundw
          case rel =>
            refine ⟨S + (X : Int), k, i + 1, rfl, by simp, by simp, by omega, ⟨HS2.out, ?_, by rw [← HLb.out]; omega, by omega, HW.out⟩⟩
            have := HLow.out
            omega
          case measure => simp [intOf]; omega
      · have hke : k = Lb := by omega
        have HS2 : Hid (T = S + ((tnC ws false : Nat) : Int) + sumI (stL (ts.drop (i + 1)) (bs.drop k))) := by
          have h := HSn.out
          have e0 := bdrop_nil bs k (by rw [← HLb.out]; exact hke)
          rw [e0] at h
          simp only [hits, nxt, Bool.false_eq_true, if_false] at h
          show _ = _
          rw [e0]
          omega
        clear HSn HX hke
        go_wp2_with fail
        go_quiet (fail)
        go_wp2_with fail
        with_reducible refine Calls.mono (HOf.out false _ (hF.then (by first | exact Fr.drewN [] _ _ | exact Fr.drew [] _ | exact Fr.refl _ _))) ?_
        rintro e w5 ⟨rfl, hF5⟩
        have HW : Hid (Fr [] w w5) := (hF.then (by first | exact Fr.drewN [] _ _ | exact Fr.drew [] _ | exact Fr.refl _ _)).then hF5
        have hx0 := HTn.out false
        clear hF5 d0 d1
        generalize tnC ws false = X at HS2 hx0
        go_wp2_with fail
        go_roundw
        case rel =>
          refine ⟨S + (X : Int), k, i + 1, rfl, by simp, by simp, by omega, ⟨HS2.out, ?_, by rw [← HLb.out]; omega, by omega, HW.out⟩⟩
          have := HLow.out
          omega
        case measure => simp [intOf]; omega
    · obtain rfl : i = L := by omega
      have HS2 : Hid (S = T) := by
        have h := HX.out.sum
        rw [HL.out, List.drop_length] at h
        show _ = _
        simp [stL, sumI] at h
        omega
      have hii : ¬ ((i : Int) < (i : Int)) := by omega
      clear HX hi hiL
      obtain rfl : S = T := HS2.out
      clear HS2
      go_wp2_with fail
      go_ret2
      exact ⟨rfl, hF⟩
set_option maxHeartbeats 8000000 in
set_option maxRecDepth 100000 in
theorem xnlog_no (ao : Option Addr) (L cap : Nat) (ts : List Tm) (m : Int) (bo : Option Addr) (Lb cb : Nat) (bs : List Int) (w : World) (hT : TRs w ao ts) (hL : L = ts.length) (hI : IRs w bo bs) (hLb : Lb = bs.length) (hok : ¬ LgOk ts m bs) :
    Calls Try.prog 13 #[.slice ao L cap, .int .i64 m, .slice bo Lb cb] w fun e w' => e = .returned (.tuple #[.int .i64 0, .int .i64 1]) ∧ Fr [] w w' := by
  obtain ⟨cc, hcc⟩ := Bad.ex (txs ts) 1
  have HCk : Hid (∀ W, Fr [] w W → Calls Try.prog 26 #[.slice ao L cap] W fun e w' => e = .returned (.int .i64 (cc : Int)) ∧ Fr [] W w') := fun W hf => ycheck_any ao L cap cc ts W (hT.keep hf) hL hcc
  have hLf := hT.few
  rw [← hL] at hLf
  by_cases h0 : cc = 0
  · have ho1 := hcc.ok.1 h0
    have HCk0 : Hid (∀ W, Fr [] w W → Calls Try.prog 26 #[.slice ao L cap] W fun e w' => e = .returned (.int .i64 0) ∧ Fr [] W w') := fun W hf => by
      have := HCk.out W hf
      rw [h0] at this
      exact this
    have n1 : ((0 : Int) != 0) = false := rfl
    have HMb : Hid (∀ W, Fr [] w W → Calls Try.prog 27 #[.slice ao L cap, .int .i64 m, .slice bo Lb cb] W fun e w' => e = .returned (.bool false) ∧ Fr [] W w') := fun W hf => (xplace_any ao L cap m bo Lb cb bs W hLf (hI.keep hf) hLb).mono (by
      rintro e w' ⟨⟨B, rfl, hB⟩, h3⟩
      have : B = false := by
        cases B with
        | false => rfl
        | true =>
          obtain ⟨q1, q2, q3⟩ := hB.1 rfl
          exact absurd ⟨ho1, q1, by rw [← hL]; exact q2, by rw [← hL]; exact q3⟩ hok
      subst this
      exact ⟨rfl, h3⟩)
    clear HCk hT hI hcc hok ho1 hL hLb
    go_enter Try.func13, Try.ntmps13
    go_wp2_with fail
    with_reducible refine Calls.mono (HCk0.out _ (Fr.refl _ _)) ?_
    rintro e w1 ⟨rfl, hF1⟩
    go_wp2_with fail
    with_reducible refine Calls.mono (HMb.out _ hF1) ?_
    rintro e w2 ⟨rfl, hF2⟩
    go_wp2_with fail
    go_ret2
    exact ⟨rfl, hF1.then hF2⟩
  · have n1 : ((cc : Int) != 0) = true := by simp; omega
    clear hT hI hcc hok hL hLb
    go_enter Try.func13, Try.ntmps13
    go_wp2_with fail
    with_reducible refine Calls.mono (HCk.out _ (Fr.refl _ _)) ?_
    rintro e w1 ⟨rfl, hF1⟩
    go_wp2_with fail
    go_ret2
    exact ⟨rfl, hF1⟩
theorem xnlog_any (ao : Option Addr) (L cap : Nat) (ts : List Tm) (m : Int) (bo : Option Addr) (Lb cb : Nat) (bs : List Int) (w : World) (hT : TRs w ao ts) (hL : L = ts.length) (hI : IRs w bo bs) (hLb : Lb = bs.length) :
    Calls Try.prog 13 #[.slice ao L cap, .int .i64 m, .slice bo Lb cb] w fun e w' => ∃ r c : Int, e = .returned (.tuple #[.int .i64 r, .int .i64 c]) ∧ LgP ts m bs r c ∧ Fr [] w w' := by
  by_cases hok : LgOk ts m bs
  · obtain ⟨M, rfl⟩ : ∃ M : Nat, m = (M : Int) := ⟨m.toNat, by have := hok.2.1; omega⟩
    refine (xnlog_ok ao L cap ts M bo Lb cb bs w hT hL hI hLb hok).mono ?_
    rintro e w' ⟨rfl, hf⟩
    exact ⟨_, _, rfl, .inl ⟨hok, by simp, rfl⟩, hf⟩
  · refine (xnlog_no ao L cap ts m bo Lb cb bs w hT hL hI hLb hok).mono ?_
    rintro e w' ⟨rfl, hf⟩
    exact ⟨_, _, rfl, .inr ⟨hok, rfl, rfl⟩, hf⟩
end Go.Proofs.Ytdojhkgnnbdfkaa

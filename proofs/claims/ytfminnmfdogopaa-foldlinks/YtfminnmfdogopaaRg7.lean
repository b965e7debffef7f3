/- The document's Scan and Get; entries that are the same. Conditions as each names them. -/
import Derived.Test.YtfminnmfdogopaaRf7
import Derived.Test.YtfminnmfdogopaaEq
namespace Go.Proofs.Ytfminnmfdogopaa
open Go.ChangeShapes Go.WideShapes Go.ChangeAt Go.RowKit Go.Lib Go.Maps Go.Sort
set_option linter.unusedVariables false
set_option linter.unusedSimpArgs false

theorem ScTold.all {l : List Tx} {f : Int} {key en : ByteArray} {ps : List Pr} {c : Nat} (h : ScTold l f key en ps c) : ∃ qs, ScTold l f ⟨#[]⟩ ⟨#[]⟩ qs c ∧ ps = qs.filter fun p => inS key en p.1 := by
  obtain ⟨hc, ⟨h0, rfl⟩ | ⟨rfl, hI⟩⟩ := h
  · exact ⟨[], ⟨hc, Or.inl ⟨h0, rfl⟩⟩, rfl⟩
  · obtain ⟨qs, hq⟩ := fo_is (l.take f.toNat)
    refine ⟨qs, ⟨hc, Or.inr ⟨rfl, hq.cong (fun s => by rw [call_fo, if_pos (inS_all2 s)])⟩⟩, ?_⟩
    exact hI.unique ((hq.filter (inS key en)).cong (fun s => (call_fo _ _ s).symm))
set_option maxHeartbeats 4000000 in
theorem zScan_any (ao : Option Addr) (L cap : Nat) (f : Int) (key en : ByteArray) (ps : List Pr) (c : Nat) (ts : List Tm) (w : World) (hT : TRs w ao ts) (hLe : L = ts.length) (hf0 : -9223372036854775808 ≤ f) (hf1 : f ≤ 9223372036854775807) (h : ScTold (txs ts) f key en ps c) :
    Calls Try.prog 14 #[.slice ao L cap, .int .i64 f, .string key, .string en] w fun e w' => ∃ ro N rc, e = .returned (.tuple #[.slice ro N rc, .int .i64 (c : Int)]) ∧ EOut w w' ro N rc ps ∧ ps.length < 1099511627776 ∧ Fr [] w w' := by
  obtain ⟨qs, hq, hpq⟩ := h.all
  have HC : Hid _ := zStore_any ao L cap f qs qs.length c ts w hT hLe hf0 hf1 hq rfl
  have HP : Hid (ps = qs.filter fun p => inS key en p.1) := hpq
  obtain ⟨N, hN⟩ : ∃ N, N = qs.length := ⟨_, rfl⟩
  have HN : Hid (N = qs.length) := hN
  rw [← hN] at HC
  clear hT hLe h hq hpq hN
  go_enter Try.func14, Try.ntmps14
  go_wp2_with fail
  refine Calls.mono HC.out ?_
  rintro e w1 ⟨ro, rc, rfl, hO, hql, hF1⟩
  have hql : qs.length < 1099511627776 := by rw [← HN.out]; exact hql
  have HS : Hid _ := zStretch_any ro N rc key en qs w1 (hO.ers hql) HN.out
  have HQl : Hid (qs.length < 1099511627776) := hql
  clear HC hO hql
  go_wp2_with fail
  refine Calls.mono HS.out ?_
  rintro e w2 ⟨ro', N', rc', rfl, hO2, hF2⟩
  have HR : Hid (EOut w w2 ro' N' rc' ps ∧ ps.length < 1099511627776 ∧ Fr [] w w2) := ⟨by rw [HP.out]; exact hO2.later hF1.size, by rw [HP.out]; exact Nat.lt_of_le_of_lt (List.length_filter_le _ _) HQl.out, hF1.then hF2⟩
  clear HS hO2 hF2 hF1
  go_wp2
  go_ret2
  exact ⟨ro', N', rc', rfl, HR.out⟩
set_option maxHeartbeats 4000000 in
set_option maxRecDepth 100000 in
theorem sameEntries_any (ro ro' : Option Addr) (N rc rc' : Nat) (ps : List Pr) (w : World) (h1 : ERs w ro ps) (h2 : ERs w ro' ps) (hN : N = ps.length) :
    Calls Try.prog 17 #[.slice ro N rc, .slice ro' N rc'] w fun e w' => e = .returned (.bool true) ∧ Fr [] w w' := by
  have HN : Hid (N = ps.length) := hN
  have hNf : N < 1099511627776 := by rw [hN]; exact h1.few
  have HE : Hid (∀ W, Fr [] w W → ERs W ro ps ∧ ERs W ro' ps) := fun W hf => ⟨h1.keep hf, h2.keep hf⟩
  clear hN h1 h2
  go_enter Try.func17, Try.ntmps17
  go_wp2_with fail
  go_loopw [5] (fun ii wr => ∃ (i : Nat), ii = .int .i64 i ∧ i ≤ N ∧ Fr [] w wr) (fun ii _ => N - (intOf ii).toNat)
  case atStart => exact ⟨0, rfl, Nat.zero_le _, Fr.refl _ _⟩
  case round =>
    obtain ⟨i, rfl, hiN, hFr⟩ := hrel
    by_cases hi : i < N
    · have hi' : i < ps.length := by rw [← HN.out]; exact hi
      obtain ⟨g, rfl, d0, d1⟩ := (HE.out _ hFr).1.at i hi'
      obtain ⟨g', rfl, d2, d3⟩ := (HE.out _ hFr).2.at i hi'
      obtain ⟨⟨k2, v2⟩, hyy⟩ : ∃ y, y = ps.getD i e0 := ⟨_, rfl⟩
      rw [← hyy] at d0 d1 d2 d3
      simp only at d0 d1 d2 d3
      clear hyy
      go_wp2_with fail
      go_quiet (fail)
      go_wp2
      exact ⟨⟨i + 1, by simp, by omega, hFr.then (Fr.drewN _ _ _)⟩, by simp [intOf]; omega⟩
    · go_wp2
      go_ret
      exact ⟨rfl, hFr⟩
theorem okK_iff (key : ByteArray) : okK key = true ↔ 1 ≤ key.size ∧ key.size ≤ 64 := by
  unfold okK
  simp only [Bool.and_eq_true, Bool.not_eq_true', beq_eq_false_iff_ne, decide_eq_true_eq, ne_eq, tl_nil]
  omega
/-- What place tells of a key is what the map says. -/
theorem place_fo {E : ByteArray → Option ByteArray} {ps : List Pr} {key : ByteArray} {i : Nat} {ok : Bool} (h : Is E ps) (hP : PlT ps key i ok) : (ok = true ∧ i < ps.length ∧ E key = some (ps.getD i e0).2) ∨ (ok = false ∧ E key = none) := by
  cases ok with
  | true =>
    obtain ⟨h1, h2⟩ := hP.is.1 rfl
    refine Or.inl ⟨rfl, h1, ?_⟩
    have hm : ps.getD i e0 ∈ ps := by simp [List.getD, h1]
    have := (h.mem _).1 hm
    rw [h2] at this
    exact this
  | false =>
    refine Or.inr ⟨rfl, ?_⟩
    cases hE : E key with
    | none => rfl
    | some v =>
      exfalso
      have hm := (h.mem (key, v)).2 hE
      obtain ⟨j, hj, e⟩ := List.mem_iff_getElem.1 hm
      have hg : (ps.getD j e0).1 = key := by simp [List.getD, hj, e]
      have hij : j = i := by
        rcases Nat.lt_trichotomy j i with h1 | h1 | h1
        · have := hP.lo j h1
          rw [hg, bl_irrefl] at this
          cases this
        · exact h1
        · have a := inc_getD h.inc h1 hj
          rw [hg] at a
          rw [hP.hi i (Nat.le_refl _) (by omega)] at a
          cases a
      subst hij
      have := hP.is.2 ⟨hj, hg⟩
      cases this
set_option maxHeartbeats 4000000 in
set_option maxRecDepth 100000 in
theorem zGet_any (ao : Option Addr) (L cap : Nat) (f : Int) (key val : ByteArray) (ok : Bool) (c : Nat) (ts : List Tm) (w : World) (hT : TRs w ao ts) (hLe : L = ts.length) (hf0 : -9223372036854775808 ≤ f) (hf1 : f ≤ 9223372036854775807) (hks : key.size ≤ 140737488355328) (h : GTold (txs ts) f key val ok c) :
    Calls Try.prog 12 #[.slice ao L cap, .int .i64 f, .string key] w fun e w' => e = .returned (.tuple #[.string val, .bool ok, .int .i64 (c : Int)]) ∧ Fr [] w w' := by
  have HL : Hid (L = ts.length) := hLe
  have HI : Hid (∀ W, Fr [] w W → TRs W ao ts) := fun W hf => hT.keep hf
  rcases h with ⟨hc, h0, rfl, rfl⟩ | ⟨hc, hk, rfl, rfl, rfl⟩ | ⟨hc, hk, rfl, hv, ho⟩
  · rcases hc with ⟨hb, _⟩ | ⟨hok, hb, rfl⟩ | ⟨_, _, h1⟩
    · have HB : Hid (Bad 1 (txs ts) c) := hb
      have hcb : ((c : Int) != 0) = true := by rw [bne_iff_ne]; omega
      clear hb h0 hLe
      go_enter Try.func12, Try.ntmps12
      go_wp2_with fail
      refine (zcheck_any ao L cap c ts _ hT HL.out HB.out).mono ?_
      rintro e w1 ⟨rfl, hF1⟩
      go_wp2
      refine bodyPost_ret (results_tmp3 rfl _ _ _) rfl ?_
      exact ⟨rfl, hF1⟩
    · have HK : Hid (okL 1 (txs ts)) := hok
      have hL2 : L ≤ 65536 := by have := okL_few hok; rw [txs_length] at this; omega
      rw [txs_length, ← hLe] at hb
      clear hok hLe h0
      by_cases h1 : f < 0
      · have h1' : decide (f < 0) = true := by simpa using h1
        go_enter Try.func12, Try.ntmps12
        go_wp2_with fail
        refine (zcheck_any ao L cap 0 ts _ hT HL.out (okL_bad HK.out)).mono ?_
        rintro e w1 ⟨rfl, hF1⟩
        go_wp2
        refine bodyPost_ret (results_tmp3 rfl _ _ _) rfl ?_
        exact ⟨rfl, hF1⟩
      · have h3 : (L : Int) < f := by
          by_cases h3 : (L : Int) < f
          · exact h3
          · exact absurd ⟨by omega, by omega⟩ hb
        go_enter Try.func12, Try.ntmps12
        go_wp2_with fail
        refine (zcheck_any ao L cap 0 ts _ hT HL.out (okL_bad HK.out)).mono ?_
        rintro e w1 ⟨rfl, hF1⟩
        go_wp2
        refine bodyPost_ret (results_tmp3 rfl _ _ _) rfl ?_
        exact ⟨rfl, hF1⟩
    · exact absurd h1 h0
  · obtain ⟨hok, hfn, hfl⟩ := hc.ok0
    obtain ⟨f', rfl⟩ : ∃ f' : Nat, f = (f' : Int) := ⟨f.toNat, by omega⟩
    have HO : Hid (okL 1 (txs ts)) := hok
    have hfL : f' ≤ L := by rw [txs_length] at hfl; omega
    have hL2 : L ≤ 65536 := by have := okL_few hok; rw [txs_length] at this; omega
    have HKy : Hid (false = true ↔ 1 ≤ key.size ∧ key.size ≤ 64) := by show _ ↔ _; rw [← okK_iff, hk]
    clear hc hok hfl hfn hLe hk
    go_enter Try.func12, Try.ntmps12
    go_wp2_with fail
    refine (zcheck_any ao L cap 0 ts _ hT HL.out (okL_bad HO.out)).mono ?_
    rintro e w1 ⟨rfl, hF1⟩
    go_wp2_with fail
    refine (xKey_any key false _ hks HKy.out).mono ?_
    rintro e w2 ⟨rfl, rfl⟩
    go_wp2
    refine bodyPost_ret (results_tmp3 rfl _ _ _) rfl ?_
    exact ⟨rfl, hF1⟩
  · obtain ⟨hok, hfn, hfl⟩ := hc.ok0
    obtain ⟨f', rfl⟩ : ∃ f' : Nat, f = (f' : Int) := ⟨f.toNat, by omega⟩
    have HO : Hid (okL 1 (txs ts)) := hok
    have hfL : f' ≤ L := by rw [txs_length] at hfl; omega
    have hL2 : L ≤ 65536 := by have := okL_few hok; rw [txs_length] at this; omega
    have HKy : Hid (true = true ↔ 1 ≤ key.size ∧ key.size ≤ 64) := by show _ ↔ _; rw [← okK_iff, hk]
    rw [Int.toNat_natCast] at hv ho
    have HV : Hid (val = (fo ((txs ts).take f') key).getD ⟨#[]⟩ ∧ ok = (fo ((txs ts).take f') key).isSome) := ⟨hv, ho⟩
    clear hc hok hfl hfn hLe hk hv ho
    go_enter Try.func12, Try.ntmps12
    go_wp2_with fail
    refine (zcheck_any ao L cap 0 ts _ hT HL.out (okL_bad HO.out)).mono ?_
    rintro e w1 ⟨rfl, hF1⟩
    go_wp2_with fail
    refine (xKey_any key true _ hks (by simpa using HKy.out)).mono ?_
    rintro e w2 ⟨rfl, rfl⟩
    have HC : Hid _ := zfold_any ao L cap f' ts w1 (HI.out _ hF1) HL.out HO.out hfL
    go_wp2_with fail
    refine Calls.mono HC.out ?_
    rintro e w3 ⟨ro, N, rc, ps, rfl, hO3, hQ, hql, hF3⟩
    have hG3 := hF1.then hF3
    have hE3 := hO3.ers hql
    have HP : Hid _ := zplace_any ro N rc ps key w3 hE3 hO3.len hQ.inc
    have HLn : Hid (N = ps.length) := hO3.len
    have HQ : Hid (Is (fo ((txs ts).take f')) ps) := hQ
    have HE3 : Hid (∀ W, Fr [] w3 W → ERs W ro ps) := fun W hf => hE3.keep hf
    clear HC hO3 hQ hE3 hF3
    have hNf : N < 1099511627776 := by rw [HLn.out]; exact hql
    go_wp2_with fail
    refine Calls.mono HP.out ?_
    rintro e w4 ⟨i, b, rfl, hPl, hF4⟩
    have hG4 := hG3.then hF4
    have hE4 := HE3.out _ hF4
    have hcase := place_fo HQ.out hPl
    clear HP hPl HE3
    obtain ⟨hv, ho⟩ := HV.out
    clear HV
    rcases hcase with ⟨rfl, hi, hfo⟩ | ⟨rfl, hfo⟩
    · rw [hfo] at hv ho
      simp only [Option.getD_some, Option.isSome_some] at hv ho
      obtain ⟨g, rfl, d0, d1⟩ := hE4.at i hi
      rw [← hv] at d1
      subst ho
      have hiN : i < N := by rw [HLn.out]; exact hi
      clear hv hfo hE4 hi hql
      go_wp2
      refine bodyPost_ret (results_tmp3 rfl _ _ _) rfl ?_
      exact ⟨rfl, hG4⟩
    · rw [hfo] at hv ho
      simp only [Option.getD_none, Option.isSome_none] at hv ho
      subst hv ho
      clear hfo hE4 hql
      go_wp2
      refine bodyPost_ret (results_tmp3 rfl _ _ _) rfl ?_
      exact ⟨rfl, hG4⟩
end Go.Proofs.Ytfminnmfdogopaa

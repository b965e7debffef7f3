/- The document's Store, Get, Stretch and Scan. Conditions as each names them. -/
import Derived.Test.YtfminnmfdogopaaFld7
import Derived.Test.YtfminnmfdogopaaRefC
namespace Go.Proofs.Ytfminnmfdogopaa
open Go.ChangeShapes Go.WideShapes Go.ChangeAt Go.RowKit Go.Lib Go.Maps Go.Sort
set_option linter.unusedVariables false
set_option linter.unusedSimpArgs false

theorem inS_all2 (s : ByteArray) : inS ⟨#[]⟩ ⟨#[]⟩ s = true := by
  have hE0 : (⟨#[]⟩ : ByteArray).toList = [] := (tl_nil _).2 rfl
  unfold inS
  rw [hE0]
  cases s.toList <;> simp [Op.bytesLess]
set_option maxHeartbeats 4000000 in
set_option maxRecDepth 100000 in
theorem zStore_any (ao : Option Addr) (L cap : Nat) (f : Int) (ps : List Pr) (N c : Nat) (ts : List Tm) (w : World) (hT : TRs w ao ts) (hLe : L = ts.length) (hf0 : -9223372036854775808 ≤ f) (hf1 : f ≤ 9223372036854775807) (h : ScTold (txs ts) f ⟨#[]⟩ ⟨#[]⟩ ps c) (hN : N = ps.length) :
    Calls Try.prog 39 #[.slice ao L cap, .int .i64 f] w fun e w' => ∃ ro rc, e = .returned (.tuple #[.slice ro N rc, .int .i64 (c : Int)]) ∧ EOut w w' ro N rc ps ∧ ps.length < 1099511627776 ∧ Fr [] w w' := by
  have HL : Hid (L = ts.length) := hLe
  have HI : Hid (∀ W, Fr [] w W → TRs W ao ts) := fun W hf => hT.keep hf
  obtain ⟨hc, ⟨h0, rfl⟩ | ⟨rfl, hI⟩⟩ := h
  · obtain rfl : N = 0 := hN
    rcases hc with ⟨hb, _⟩ | ⟨hok, hb, rfl⟩ | ⟨_, _, h1⟩
    · have HB : Hid (Bad 1 (txs ts) c) := hb
      have hcb : ((c : Int) != 0) = true := by rw [bne_iff_ne]; omega
      clear hb h0 hLe
      go_enter Try.func39, Try.ntmps39
      go_wp2_with fail
      refine (zcheck_any ao L cap c ts _ hT HL.out HB.out).mono ?_
      rintro e w1 ⟨rfl, hF1⟩
      go_wp2
      go_ret2
      exact ⟨none, 0, rfl, ⟨rfl, ⟨rfl, .inl ⟨rfl, rfl⟩⟩⟩, by simp, hF1⟩
    · have HK : Hid (okL 1 (txs ts)) := hok
      have hL2 : L ≤ 65536 := by have := okL_few hok; rw [txs_length] at this; omega
      rw [txs_length, ← hLe] at hb
      clear hok hLe h0
      by_cases h1 : f < 0
      · have h1' : decide (f < 0) = true := by simpa using h1
        go_enter Try.func39, Try.ntmps39
        go_wp2_with fail
        refine (zcheck_any ao L cap 0 ts _ hT HL.out (okL_bad HK.out)).mono ?_
        rintro e w1 ⟨rfl, hF1⟩
        go_wp2
        go_ret2
        exact ⟨none, 0, rfl, ⟨rfl, ⟨rfl, .inl ⟨rfl, rfl⟩⟩⟩, by simp, hF1⟩
      · have h3 : (L : Int) < f := by
          by_cases h3 : (L : Int) < f
          · exact h3
          · exact absurd ⟨by omega, by omega⟩ hb
        go_enter Try.func39, Try.ntmps39
        go_wp2_with fail
        refine (zcheck_any ao L cap 0 ts _ hT HL.out (okL_bad HK.out)).mono ?_
        rintro e w1 ⟨rfl, hF1⟩
        go_wp2
        go_ret2
        exact ⟨none, 0, rfl, ⟨rfl, ⟨rfl, .inl ⟨rfl, rfl⟩⟩⟩, by simp, hF1⟩
    · exact absurd h1 h0
  · obtain ⟨hok, hfn, hfl⟩ := hc.ok0
    obtain ⟨f', rfl⟩ : ∃ f' : Nat, f = (f' : Int) := ⟨f.toNat, by omega⟩
    have HO : Hid (okL 1 (txs ts)) := hok
    have hfL : f' ≤ L := by rw [txs_length] at hfl; omega
    have hL2 : L ≤ 65536 := by have := okL_few hok; rw [txs_length] at this; omega
    rw [Int.toNat_natCast] at hI
    have HIs : Hid (Is (fo ((txs ts).take f')) ps ∧ N = ps.length) := ⟨hI.cong (fun s => by rw [call_fo, if_pos (inS_all2 s)]), hN⟩
    clear hc hok hfl hfn hLe hI hN
    go_enter Try.func39, Try.ntmps39
    go_wp2_with fail
    refine (zcheck_any ao L cap 0 ts _ hT HL.out (okL_bad HO.out)).mono ?_
    rintro e w1 ⟨rfl, hF1⟩
    have HC : Hid _ := zfold_any ao L cap f' ts w1 (HI.out _ hF1) HL.out HO.out hfL
    go_wp2_with fail
    refine Calls.mono HC.out ?_
    rintro e w2 ⟨ro, N2, rc, qs, rfl, hO, hQ, hql, hF2⟩
    have hqp : qs = ps := hQ.unique HIs.out.1
    have hNN : N2 = N := by rw [hO.len, HIs.out.2, hqp]
    subst hNN
    have HR : Hid (EOut w w2 ro N2 rc ps ∧ ps.length < 1099511627776 ∧ Fr [] w w2) := ⟨by rw [← hqp]; exact hO.later hF1.size, by rw [← hqp]; exact hql, hF1.then hF2⟩
    clear HC hO hQ hql hqp hF2 HIs
    go_wp2
    go_ret2
    exact ⟨ro, rc, rfl, HR.out⟩
set_option maxHeartbeats 1000000 in
theorem zIn_any (s key en : ByteArray) (B : Bool) (w : World) (hB : B = inS key en s) : Calls Try.prog 61 #[.string s, .string key, .string en] w fun e w' => e = .returned (.bool B) ∧ Fr [] w w' := by
  obtain ⟨G, hG⟩ : ∃ G, Op.bytesLess s.toList key.toList = G := ⟨_, rfl⟩
  obtain ⟨K, hK⟩ : ∃ K, Op.bytesLess s.toList en.toList = K := ⟨_, rfl⟩
  by_cases hz : en.size = 0
  · have hE : (en.toList == ([] : List UInt8)) = true := by simp [(tl_nil en).2 hz]
    have hz1 : ((en.size : Int) == 0) = true := by rw [beq_iff_eq]; omega
    unfold inS at hB
    rw [hG, hE, hK] at hB
    simp only [Bool.true_or, Bool.and_true] at hB
    subst hB
    cases G <;>
    · go_enter Try.func61, Try.ntmps61
      go_wp2
      all_goals (go_ret; exact ⟨rfl, Fr.refl _ _⟩)
  · have hE : (en.toList == ([] : List UInt8)) = false := by rw [beq_eq_false_iff_ne]; exact fun h => hz ((tl_nil en).1 h)
    have hz1 : ((en.size : Int) == 0) = false := by rw [beq_eq_false_iff_ne]; omega
    unfold inS at hB
    rw [hG, hE, hK] at hB
    simp only [Bool.false_or] at hB
    subst hB
    cases G <;> cases K <;>
    · go_enter Try.func61, Try.ntmps61
      go_wp2
      all_goals (go_ret; exact ⟨rfl, Fr.refl _ _⟩)
set_option maxHeartbeats 4000000 in
set_option maxRecDepth 100000 in
theorem zStretch_any (ro : Option Addr) (N rc : Nat) (key en : ByteArray) (ps : List Pr) (w : World) (hE : ERs w ro ps) (hN : N = ps.length) :
    Calls Try.prog 40 #[.slice ro N rc, .string key, .string en] w fun e w' => ∃ ro' N' rc', e = .returned (.slice ro' N' rc') ∧ EOut w w' ro' N' rc' (ps.filter fun p => inS key en p.1) ∧ Fr [] w w' := by
  have HN : Hid (N = ps.length) := hN
  have hNf : N < 1099511627776 := by rw [hN]; exact hE.few
  have HE : Hid (∀ W, Fr [] w W → ERs W ro ps) := fun W hf => hE.keep hf
  clear hN hE
  go_enter Try.func40, Try.ntmps40
  go_wp2_with fail
  go_loopw [7, 8] (fun vv ii wr => ∃ (i N2 rc2 : Nat) (ro2 : Option Addr), vv = .slice ro2 N2 rc2 ∧ ii = .int .i64 i ∧ i ≤ N ∧ N2 ≤ i ∧ Hid (EOut w wr ro2 N2 rc2 ((ps.take i).filter fun p => inS key en p.1)) ∧ Fr [] w wr) (fun _ ii _ => N - (intOf ii).toNat)
  case atStart => exact ⟨0, 0, 0, none, rfl, rfl, Nat.zero_le _, Nat.le_refl _, ⟨rfl, ⟨rfl, .inl ⟨rfl, rfl⟩⟩⟩, Fr.refl _ _⟩
  case round =>
    obtain ⟨i, N2, rc2, ro2, rfl, rfl, hiN, hNi, HO, hFr⟩ := hrel
    by_cases hi : i < N
    · have hi' : i < ps.length := by rw [← HN.out]; exact hi
      obtain ⟨g, hro, d0, d1⟩ := (HE.out _ hFr).at i hi'
      have HD : Hid (∀ W, Fr [] wr W → W.cell? ⟨g, i * 2, none⟩ = some (.string (ps.getD i e0).1) ∧ W.cell? ⟨g, i * 2 + 1, none⟩ = some (.string (ps.getD i e0).2)) := fun W hf => by
        obtain ⟨g', hro', a, b⟩ := (HE.out _ (hFr.then hf)).at i hi'
        rw [hro] at hro'
        cases hro'
        exact ⟨a, b⟩
      obtain ⟨y, hyy⟩ : ∃ y, y = ps.getD i e0 := ⟨_, rfl⟩
      rw [← hyy] at d0 d1 HD
      have HY : Hid (ps.take (i + 1) = ps.take i ++ [y]) := by
        show _ = _
        rw [hyy, List.take_add_one]
        simp [List.getD, hi']
      clear hyy
      subst hro
      obtain ⟨k2, v2⟩ := y
      simp only at d0 d1 HD
      cases hB : inS key en k2 with
      | false =>
        have HC : Hid _ := zIn_any k2 key en false wr hB.symm
        have HO2 : Hid (∀ W, Fr [] wr W → EOut w W ro2 N2 rc2 ((ps.take (i + 1)).filter fun p => inS key en p.1)) := fun W hf => by
          rw [HY.out, List.filter_append]
          simp only [List.filter_cons, hB, List.filter_nil]
          simpa using HO.out.keep hf
        go_wp2_with fail
        refine Calls.mono HC.out ?_
        rintro e w2 ⟨rfl, hF2⟩
        have HR : Hid (EOut w w2 ro2 N2 rc2 ((ps.take (i + 1)).filter fun p => inS key en p.1) ∧ Fr [] w w2) := ⟨HO2.out _ hF2, hFr.then hF2⟩
        clear HC HO HO2 hF2 d0 d1 HD
        go_wp2
        go_roundw
        case rel => exact ⟨i + 1, N2, rc2, ro2, rfl, by simp, by omega, by omega, HR.out.1, HR.out.2⟩
        case measure => simp [intOf]; omega
      | true =>
        have HC : Hid _ := zIn_any k2 key en true wr hB.symm
        go_wp2_with fail
        refine Calls.mono HC.out ?_
        rintro e w2 ⟨rfl, hF2⟩
        obtain ⟨q0, q1⟩ := HD.out _ hF2
        have hO2 := HO.out.keep hF2
        have hG2 := hFr.then hF2
        have hsz := hG2.size
        have hlen := hO2.len
        have hrow : w2.ownsRow w.heap.size 47 2 (.slice ro2 N2 rc2) ((ps.take i).filter fun p => inS key en p.1).length (celsE ((ps.take i).filter fun p => inS key en p.1)) := by rw [← hlen]; exact hO2.row
        have HRow : Hid (w2.ownsRow w.heap.size 47 2 (.slice ro2 N2 rc2) ((ps.take i).filter fun p => inS key en p.1).length (celsE ((ps.take i).filter fun p => inS key en p.1))) := hrow
        have hlb : ((ps.take i).filter fun p => inS key en p.1).length + 1 < 2199023255552 := by rw [← hlen]; omega
        obtain ⟨qs, hqs⟩ : ∃ qs, qs = (ps.take i).filter fun p => inS key en p.1 := ⟨_, rfl⟩
        rw [← hqs] at HRow hlb hlen
        have HLn : Hid (N2 = qs.length) := hlen
        clear hlen
        have HQ : Hid (qs ++ [(k2, v2)] = (ps.take (i + 1)).filter fun p => inS key en p.1) := by
          show _ = _
          rw [HY.out, List.filter_append, hqs]
          simp [hB]
        clear HC HO hO2 hF2 hrow HD hqs d0 d1
        go_wp2_with (first
          | (at_builtin; refine wpList_appE _ rfl _ _ rfl w.heap.size (.slice ro2 N2 rc2) qs rfl (owns_keepB HRow.out (Fr.alloc [] w2 _) (by simp)) (some ⟨w2.heap.size, 0, none⟩) 1 1 [(k2, v2)] rfl (esl_new w2 (k2, v2)) hlb (by simp; omega) ?_
             intro bo n1 cap1 w3 hn1 hO3 hF3
             have hG3 : Fr [] w w3 := (hG2.then (Fr.alloc [] w2 _)).on hF3 (fun y hy => (owns_cells HRow.out (Option.mem_toList.1 hy)).1)
             have hn2 : n1 = N2 + 1 := by rw [hn1, HLn.out]; simp
             go_frame))
        go_roundw
        case rel => exact ⟨i + 1, n1, cap1, bo, rfl, by simp, by omega, by omega, ⟨by rw [← HQ.out]; exact hn1, by rw [← HQ.out]; exact hO3⟩, hG3⟩
        case measure => simp [intOf]; omega
    · obtain rfl : i = N := by omega
      have HO2 : Hid (EOut w wr ro2 N2 rc2 (ps.filter fun p => inS key en p.1)) := by
        have h1 := HO.out
        rw [HN.out, List.take_length] at h1
        exact h1
      go_wp2
      go_ret
      exact ⟨ro2, N2, rc2, rfl, HO2.out, hFr⟩
end Go.Proofs.Ytfminnmfdogopaa

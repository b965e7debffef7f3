/- For every log, every place of a cut and whatever bytes behind, the law LogfileBack returns true, and what came in reads as it did. No conditions. -/
import Derived.Test.YtjhnppgkmmhjbaaSame6
import Derived.Test.YtjhnppgkmmhjbaaPut
import Derived.Test.YtjhnppgkmmhjbaaTxs
import Derived.Test.YtjhnppgkmmhjbaaTwin
namespace Go.Proofs.Ytjhnppgkmmhjbaa.logfileBack
open Go.ChangeShapes Go.WideShapes Go.ChangeAt Go.RowKit Go.Lib
set_option linter.unusedVariables false

/-- What the law asks of the numbers. -/
theorem cutFacts (l : List Tx) (hok : okL 1 l) (k : Nat) (hk : k ≤ (encL l).length) : ∃ ls vs c, Rds 1 ((encL l).take k) ls vs c ∧ okL 1 ls ∧ (encL l).take k = encL ls ++ vs ∧ ls = l.take ls.length ∧ ls.length ≤ l.length ∧ (c = 0 ∨ c = 5) ∧ (c = 0 ↔ (encL ls).length = k) ∧ (encL ls).length ≤ k := by
  have hlow : ∀ x ∈ (encL l).take k, x < 256 := fun x hx => encL_lt l x (List.mem_of_mem_take hx)
  obtain ⟨ls, vs, c, hR⟩ := Rds.ex _ 1 ((encL l).take k) (Nat.le_refl _) hlow
  obtain ⟨he, hok2, hst⟩ := Rds.inv hlow hR
  obtain ⟨⟨m, hm⟩, hc⟩ := Rds.cut k hok hR
  have hcz := hst.zero (fun _ _ => decT_code)
  have hl := congrArg List.length he
  rw [List.length_take, List.length_append, Nat.min_eq_left hk] at hl
  refine ⟨ls, vs, c, hR, hok2, he, ?_, ?_, hc, ?_, by omega⟩
  · rw [hm, List.length_take]
    rcases Nat.le_total m l.length with h1 | h1
    · rw [Nat.min_eq_left h1]
    · rw [Nat.min_eq_right h1, List.take_of_length_le h1, List.take_of_length_le (Nat.le_refl _)]
  · rw [hm, List.length_take]; omega
  · rw [hcz]
    constructor
    · intro h1; rw [h1] at hl; simp at hl; omega
    · intro h1; exact List.eq_nil_of_length_eq_zero (by omega)
theorem moreFacts (l : List Tx) (hok : okL 1 l) (zs : List Nat) (hz : ∀ x ∈ zs, x < 256) : ∃ ls vs c, Rds 1 (encL l ++ zs) ls vs c ∧ okL 1 ls ∧ (encL ls).length + vs.length = (encL l ++ zs).length ∧ (encL l).length ≤ (encL ls).length ∧ l.length ≤ ls.length ∧ ls.take l.length = l := by
  have hlow : ∀ x ∈ encL l ++ zs, x < 256 := fun x hx => by
    rcases List.mem_append.1 hx with h | h
    · exact encL_lt l x h
    · exact hz x h
  obtain ⟨ls, vs, c, hR⟩ := Rds.ex _ 1 (encL l ++ zs) (Nat.le_refl _) hlow
  obtain ⟨he, hok2, hst⟩ := Rds.inv hlow hR
  obtain ⟨rs, e, _⟩ := Rds.ahead hok hR
  refine ⟨ls, vs, c, hR, hok2, by rw [he, List.length_append], ?_, ?_, ?_⟩
  · rw [e, encL_append, List.length_append]; omega
  · rw [e, List.length_append]; omega
  · rw [e, List.take_left]

theorem twin_own {w : World} {b G : Nat} {ys : List Nat} (h : w.heap[b]? = some (.cells (bts (ys ++ [77])).toArray 5 (0, 0))) (hG : G = ys.length) (hm : G < 2 ^ 40) : w.ownsRow 0 5 1 (.slice (some ⟨b, 0, none⟩) G (G + 1)) G (bts ys) := by
  refine ⟨by rw [bts_length]; omega, .inr ⟨b, G + 1, (bts (ys ++ [77])).toArray, rfl, Nat.zero_le _, h, by omega, ?_, ?_, ?_⟩⟩
  · unfold maxLen; have := hm; omega
  · simp [bts_length, hG]
  · rw [bts_append]
    have : G * 1 = (bts ys).length := by rw [bts_length]; omega
    rw [this]
    simp
theorem own_cap {w : World} {e : TypeId} {ro : Option Addr} {N rc n : Nat} {xs : List Value} (h : w.ownsRow 0 e 2 (.slice ro N rc) n xs) (hN : N = n) : N ≤ rc := by
  rcases h.2 with ⟨hv, h0⟩ | ⟨g, cap, cur, hv, _, _, hnc, _⟩
  · cases hv; omega
  · cases hv; omega
set_option maxHeartbeats 16000000 in
set_option maxRecDepth 100000 in
theorem walk (ao : Option Addr) (L cap : Nat) (ts : List Tm) (m : Nat) (hm : m < 4294967296) (bo : Option Addr) (M cb : Nat) (zs : List Nat) (w : World) (hT : TRs w ao ts) (hL : L = ts.length) (hC : L ≤ cap) (hB : BArg w bo M cb zs) (hc : M ≤ 140737488351232) :
    Calls Try.prog 3 #[.slice ao L cap, .int .u32 (m : Int), .slice bo M cb] w fun e w' => e = .returned (.bool true) ∧ Fr [] w w' := by
  have HL : Hid (L = ts.length) := hL
  clear hL
  go_enter Try.func3, Try.ntmps3
  go_wp2_with fail
  refine (alive6_any _).mono ?_
  rintro e w1 ⟨rfl, hF1⟩
  go_wp2_with fail
  refine (txnsSize_any ao L cap ts _ (hT.keep hF1) HL.out).mono ?_
  rintro e w2 ⟨K, rfl, hK, hF2⟩
  have hG2 := hF1.then hF2
  have hF3 : Fr [] w2 (w2.alloc (.cells #[.int .i64 (K : Int), .int .i64 (M : Int)] 3)) := Fr.alloc _ _ _
  clear hF1 hF2
  go_wp2_with fail
  refine (beyond2_any w2.heap.size K M _ hK (by omega) (by simp) (by simp)).mono ?_
  rintro e w3 ⟨B, rfl, hBB, rfl⟩
  have hG3 := hG2.then hF3
  obtain ⟨w3, HW3⟩ : ∃ w3, Hid (w2.alloc (.cells #[.int .i64 (K : Int), .int .i64 (M : Int)] 3) = w3) := ⟨_, rfl⟩
  rw [HW3.out] at hG3 ⊢
  clear hF3 hG2 HW3
  cases B with
  | true =>
    go_wp2_with fail
    refine (alive6_any _).mono ?_
    rintro e w4 ⟨rfl, hF4⟩
    go_wp2
    go_ret
    exact ⟨rfl, hG3.then hF4⟩
  | false =>
    have hM20 : M ≤ 1048576 := by have := hBB rfl; omega
    have hT3 := hT.keep hG3
    have hB3 := hB.keep hG3
    clear hBB hK
    obtain ⟨c, hbad⟩ := Bad.ex (txs ts) 1
    by_cases hc0 : c = 0
    · subst hc0
      have hok := (Bad.ok hbad).1 rfl
      clear hbad
      have HK : Hid (okL 1 (txs ts)) := hok
      have hL16 : L ≤ 65536 := by have := okL_few hok; rw [txs_length] at this; have := HL.out; omega
      have hG33 : (encL (txs ts)).length < 2 ^ 33 := encL_few hok
      obtain ⟨G, hG⟩ : ∃ G, G = (encL (txs ts)).length := ⟨_, rfl⟩
      have HG : Hid (G = (encL (txs ts)).length) := hG
      have hGb : G < 8589934592 := by omega
      have hLG : (L = 0 → G = 0) ∧ (0 < L → 0 < G) := by
        have := encL_length (okL_mem hok)
        rw [txs_length] at this
        have := HL.out
        constructor
        · intro h0; omega
        · intro h0; omega
      clear hok hG33 hG
      go_wp2_with fail
      refine (lencode_ok ao L cap G ts (encL (txs ts)) _ hT3 HL.out HK.out rfl HG.out).mono ?_
      rintro e w4 ⟨qo, rfl, hH4, hF4⟩
      have hG4 := hG3.then hF4
      have hA4 := hH4.arg HG.out (encL_lt _) (by omega)
      have hT4 := hT3.keep hF4
      have hB4 := hB3.keep hF4
      have hqo : (G = 0 → qo = none) ∧ (0 < G → ∃ kk, qo = some ⟨kk, 0, none⟩) := ⟨fun h0 => hH4.nil (by have := HG.out; omega), fun h0 => by obtain ⟨kk, e1, _⟩ := hH4.row (by have := HG.out; omega); exact ⟨kk, e1⟩⟩
      clear hG3 hF4 hH4 hT3 hB3
      have hRd : Rds 1 (encL (txs ts)) (txs ts) [] 0 := by
        obtain ⟨ls, vs, c, hR⟩ := Rds.ex _ 1 (encL (txs ts)) (Nat.le_refl _) (encL_lt _)
        obtain ⟨e1, e2, e3⟩ := Rds.back HK.out hR
        rw [e1, e2, e3] at hR
        exact hR
      go_wp2_with fail
      refine (lread_any qo G G 0 (encL (txs ts)) [] (txs ts) _ hA4 (by have := HG.out; omega) hRd L G (by rw [txs_length]; exact HL.out) (by have := HG.out; simp; omega)).mono ?_
      rintro e w5 ⟨ro, rc, rfl, ds, hds, hO5, hF5⟩
      have HDS : Hid (txs ds = txs ts) := hds
      have HLD : Hid (L = ds.length) := by show _ = _; have := congrArg List.length hds; rw [txs_length, txs_length] at this; have := HL.out; omega
      have hG5 := hG4.then hF5
      have hD5 := hO5.trs (by have := HLD.out; omega)
      have hT5 := hT4.keep hF5
      have hB5 := hB4.keep hF5
      have hA5 := hA4.keep hF5
      have hGG : ((G : Int) != (G : Int)) = false := by simp
      clear hds hO5 hF5 hG4 hT4 hB4 hA4 hRd
      go_wp2_with fail
      refine (sameTxns_any ro ao L L rc cap true ds ts _ hD5 hT5 HLD.out HL.out ⟨fun _ => HDS.out, fun _ => rfl⟩).mono ?_
      rintro e w6 ⟨rfl, hF6⟩
      have hG6 := hG5.then hF6
      have hT6 := hT5.keep hF6
      have hB6 := hB5.keep hF6
      have hA6 := hA5.keep hF6
      clear hF6 hG5 hT5 hB5 hA5 hD5 HDS HLD
      obtain ⟨k, hk⟩ : ∃ k, k = m % (G + 1) := ⟨_, rfl⟩
      have HKM : Hid (k = m % (G + 1)) := hk
      have hkG : k ≤ G := by have := Nat.mod_lt m (show 0 < G + 1 by omega); omega
      have hrem : (m : Int).tmod ((G : Int) + 1) = (k : Int) := by
        rw [hk]
        rw [show ((G : Int) + 1) = ((G + 1 : Nat) : Int) by omega]
        rw [Int.tmod_eq_emod_of_nonneg (by omega)]
        omega
      obtain ⟨ls2, vs2, c2, hR2, hok2, he2, htk2, hl2, hc2, hcz2, hle2⟩ := cutFacts (txs ts) HK.out k (by rw [← HG.out]; exact hkG)
      obtain ⟨N2, hN2⟩ : ∃ N2, N2 = ls2.length := ⟨_, rfl⟩
      obtain ⟨G2, hG2⟩ : ∃ G2, G2 = (encL ls2).length := ⟨_, rfl⟩
      have HN2 : Hid (N2 = ls2.length) := hN2
      have HG2 : Hid (G2 = (encL ls2).length) := hG2
      have hN2L : N2 ≤ L := by rw [txs_length] at hl2; have := HL.out; omega
      have hG2k : G2 ≤ k := by omega
      have HR2 : Hid (Rds 1 ((encL (txs ts)).take k) ls2 vs2 c2) := hR2
      have HK2 : Hid (okL 1 ls2) := hok2
      have HE2 : Hid ((encL (txs ts)).take k = encL ls2 ++ vs2) := he2
      have HT2 : Hid (ls2 = (txs ts).take N2) := by show _ = _; rw [hN2]; exact htk2
      have HV2 : Hid (G2 + vs2.length = ((encL (txs ts)).take k).length) := by show _ = _; rw [he2, List.length_append, hG2]
      obtain ⟨Z, hz1, hz2⟩ : ∃ Z, ((c2 : Int) == 0) = Z ∧ ((G2 : Int) == (k : Int)) = Z := by
        by_cases h0 : c2 = 0
        · exact ⟨true, by rw [h0]; simp, by rw [beq_iff_eq]; have := hcz2.1 h0; omega⟩
        · refine ⟨false, by rw [beq_eq_false_iff_ne]; omega, ?_⟩
          rw [beq_eq_false_iff_ne]
          intro h1
          exact h0 (hcz2.2 (by omega))
      have hc5 : c2 = 0 ∨ c2 = 5 := hc2
      clear hk hR2 hok2 he2 htk2 hl2 hc2 hcz2 hle2 hN2 hG2 HKM
      obtain ⟨ls3, vs3, c3, hR3, hok3, hln3, hge3, hll3, htk3⟩ := moreFacts (txs ts) HK.out zs hB.low
      obtain ⟨N3, hN3⟩ : ∃ N3, N3 = ls3.length := ⟨_, rfl⟩
      obtain ⟨G3, hG3⟩ : ∃ G3, G3 = (encL ls3).length := ⟨_, rfl⟩
      have HN3 : Hid (N3 = ls3.length) := hN3
      have hL3 : L ≤ N3 := by rw [txs_length] at hll3; have := HL.out; omega
      have hN3b : N3 ≤ 65536 := by have := okL_few hok3; omega
      have hGG3 : G ≤ G3 := by have := HG.out; omega
      have HR3 : Hid (Rds 1 (encL (txs ts) ++ zs) ls3 vs3 c3) := hR3
      have HV3 : Hid (G3 + vs3.length = (encL (txs ts) ++ zs).length) := by show _ = _; rw [← hln3, hG3]
      have HTK3 : Hid (ls3.take L = txs ts) := by show _ = _; rw [show L = (txs ts).length by rw [txs_length]; exact HL.out]; exact htk3
      clear hR3 hok3 hln3 hge3 hll3 htk3 hN3 hG3
      by_cases h0 : 0 < L
      · skip
        obtain ⟨kk, rfl⟩ := hqo.2 (hLG.2 h0)
        obtain ⟨ab, aof, rfl, _, _⟩ := hT6.lies (by have := HL.out; omega)
        have hAk := arg_take hA6 k hkG
        clear hqo hLG
        go_wp2_with fail
        refine (lread_any _ _ _ c2 _ vs2 ls2 _ hAk (by rw [List.length_take]; have := HG.out; omega) HR2.out N2 G2 HN2.out HV2.out).mono ?_
        rintro e w7 ⟨ro7, rc7, rfl, ds7, hds7, hO7, hF7⟩
        have HDS7 : Hid (txs ds7 = ls2) := hds7
        have HLD7 : Hid (N2 = ds7.length) := by show _ = _; rw [HN2.out, ← hds7, txs_length]
        have hG7 := hG6.then hF7
        have hD7 := hO7.trs (by have := HLD7.out; omega)
        have hT7 := hT6.keep hF7
        have hB7 := hB6.keep hF7
        have hA7 := hA6.keep hF7
        have hcN : ¬ ((L : Int) < (N2 : Int)) := by omega
        have hdN : decide ((L : Int) < (N2 : Int)) = false := by simp <;> omega
        have hdN' : decide (L < N2) = false := by simp <;> omega
        have hTk := hT7.take N2
        have HTk : Hid (N2 = (ts.take N2).length) := by show _ = _; rw [List.length_take]; have := HL.out; omega
        clear hds7 hO7 hF7 hG6 hT6 hB6 hA6 hAk
        go_wp2_with fail
        refine (sameTxns_any ro7 _ N2 N2 rc7 _ true ds7 (ts.take N2) _ hD7 hTk HLD7.out HTk.out ⟨fun _ => by rw [HDS7.out, HT2.out, txs_take], fun _ => rfl⟩).mono ?_
        rintro e w8 ⟨rfl, hF8⟩
        have hG8 := hG7.then hF8
        have hT8 := hT7.keep hF8
        have hB8 := hB7.keep hF8
        have hA8 := hA7.keep hF8
        have hD8 := hD7.keep hF8
        have hGk : ¬ ((k : Int) < (G2 : Int)) := by omega
        have hdG : decide ((k : Int) < (G2 : Int)) = false := by simp <;> omega
        have hdG' : decide (k < G2) = false := by simp <;> omega
        have hc5' : (((c2 : Int) != 0) && ((c2 : Int) != 5)) = false := by rcases hc5 with h | h <;> rw [h] <;> simp
        have hn5 : ((c2 : Int) != 0) = !Z := by rw [← hz1]; rfl
        have hn6 : Z = false → ((c2 : Int) != 5) = false := by
          intro hZ
          rw [hZ] at hz1
          rcases hc5 with h | h
          · rw [h] at hz1; simp at hz1
          · rw [h]; simp
        clear hF8 hG7 hT7 hB7 hA7 hD7 hTk
        cases Z with
        | true =>
          have hcz : ((c2 : Int) != 0) = false := hn5
          have hD := hn6
          clear hn5 hn6 hc5' hc5
          go_wp2_with fail
          refine (lencode_ok ro7 N2 rc7 G2 ds7 (encL ls2) _ hD8 HLD7.out (by rw [HDS7.out]; exact HK2.out) (by rw [HDS7.out]) HG2.out).mono ?_
          rintro e w9 ⟨qo9, rfl, hH9, hF9⟩
          have hG9 := hG8.then hF9
          have hT9 := hT8.keep hF9
          have hB9 := hB8.keep hF9
          have hA9 := hA8.keep hF9
          have hC9 := hH9.arg HG2.out (encL_lt _) (by omega)
          have hRq : Rs w9 qo9 (encL ls2) := hC9.rs (by omega)
          have hRb : Rs w9 (some ⟨kk, 0, none⟩) (encL ls2) := by
            have h1 := ((hA9.rs (by omega)).take k).take G2
            rw [HE2.out] at h1
            have e1 : (encL ls2 ++ vs2).take G2 = encL ls2 := by rw [HG2.out, List.take_left]
            rw [e1] at h1
            exact h1
          clear hF9 hG8 hT8 hB8 hA8 hD8 hH9 hC9
          go_wp2_with fail
          refine (same_yes qo9 _ G2 G2 G2 _ (encL ls2) (encL ls2) _ hRq hRb HG2.out HG2.out rfl).mono ?_
          rintro e w10 ⟨rfl, q, rfl⟩
          have hG10 := hG9.then (Fr.drewN [] w9 q)
          have hT10 := hT9.keep (Fr.drewN [] w9 q)
          have hB10 := hB9.keep (Fr.drewN [] w9 q)
          have hA10 := hA9.keep (Fr.drewN [] w9 q)
          clear hG9 hT9 hB9 hA9 hRq hRb
          obtain ⟨w10, HW10⟩ : ∃ w10, Hid (w9.drewN q = w10) := ⟨_, rfl⟩
          rw [HW10.out] at hG10 hT10 hB10 hA10 ⊢
          clear HW10
          go_wp2_with fail
          refine (twin_any _ _ _ (encL (txs ts)) _ hA10 (by omega)).mono ?_
          rintro e w11 ⟨tb, rfl, htb, hrow11, hF11⟩
          have hG11 := hG10.then hF11
          have hT11 := hT10.keep hF11
          have hB11 := hB10.keep hF11
          have hown : w11.ownsRow 0 5 1 (.slice (some ⟨tb, 0, none⟩) G (G + 1)) G (bts (encL (txs ts))) := twin_own hrow11 HG.out (by omega)
          have hsz10 := hG10.size
          clear hF11 hG10 hT10 hB10 hA10 hrow11
          go_wp2_with (at_builtin; refine wpList_appB w11 rfl (.tmp 135) (.tmp 136) rfl (.slice (some ⟨tb, 0, none⟩) G (G + 1)) G (encL (txs ts)) rfl hown bo M cb zs rfl hB11 (by omega) ?_)
          intro do12 n12 cap12 w12 hn12 hown12 hgrow12 hmv12
          have HN12 : Hid (n12 = G + M) := by show _ = _; omega
          have hF12 : Fr [tb] w11 w12 := Fr.grown hgrow12 (fun x hx _ => by simp [Value.ownBlock] at hx; simp [hx])
          have hG12 := hG11.on hF12 (by intro x hx; simp at hx; omega)
          have hT12 := hT.keep hG12
          have hA12 := own_arg hown12 (by intro x hx; rcases List.mem_append.1 hx with h | h; · exact encL_lt _ x h
                                          · exact hB.low x h) (by have := HN12.out; omega)
          have hn12b : n12 < 2 ^ 40 := by have := HN12.out; omega
          clear hn12 hown12 hgrow12 hmv12 hF12 hG11 hT11 hB11 hown
          go_wp2_with fail
          refine (lread_any do12 n12 cap12 c3 (encL (txs ts) ++ zs) vs3 ls3 _ hA12 (by rw [← hA12.len]; exact hn12b) HR3.out N3 G3 HN3.out HV3.out).mono ?_
          rintro e w13 ⟨ro13, rc13, rfl, ds13, hds13, hO13, hF13⟩
          have HDS13 : Hid (txs ds13 = ls3) := hds13
          have HLD13 : Hid (N3 = ds13.length) := by show _ = _; rw [HN3.out, ← hds13, txs_length]
          have hG13 := hG12.then hF13
          have hD13 := hO13.trs (by have := HLD13.out; omega)
          have hT13 := hT12.keep hF13
          have hrc : N3 ≤ rc13 := own_cap hO13.row HLD13.out
          have hTk13 := hD13.take L
          have HTk13 : Hid (L = (ds13.take L).length) := by show _ = _; rw [List.length_take]; have := HLD13.out; omega
          have HEQ : Hid (txs (ds13.take L) = txs ts) := by show _ = _; rw [← txs_take, HDS13.out]; exact HTK3.out
          clear hds13 hO13 hF13 hG12 hT12 hA12
          obtain ⟨zb, zo, rfl, _, _⟩ := hD13.lies (by have := HLD13.out; omega)
          go_wp2_with fail
          refine (sameTxns_any _ _ L L rc13 cap true (ds13.take L) ts _ hTk13 hT13 HTk13.out HL.out ⟨fun _ => HEQ.out, fun _ => rfl⟩).mono ?_
          rintro e w14 ⟨rfl, hF14⟩
          have hGF := hG13.then hF14
          clear hTk13 hT13 hD13 hG13 hF14
          go_wp2
          go_ret
          exact ⟨by simp, hGF⟩
        | false =>
          have hcz : ((c2 : Int) != 0) = true := hn5
          have hcy := hn6 rfl
          clear hn5 hn6 hc5' hc5
          go_wp2_with fail
          refine (lencode_ok ro7 N2 rc7 G2 ds7 (encL ls2) _ hD8 HLD7.out (by rw [HDS7.out]; exact HK2.out) (by rw [HDS7.out]) HG2.out).mono ?_
          rintro e w9 ⟨qo9, rfl, hH9, hF9⟩
          have hG9 := hG8.then hF9
          have hT9 := hT8.keep hF9
          have hB9 := hB8.keep hF9
          have hA9 := hA8.keep hF9
          have hC9 := hH9.arg HG2.out (encL_lt _) (by omega)
          have hRq : Rs w9 qo9 (encL ls2) := hC9.rs (by omega)
          have hRb : Rs w9 (some ⟨kk, 0, none⟩) (encL ls2) := by
            have h1 := ((hA9.rs (by omega)).take k).take G2
            rw [HE2.out] at h1
            have e1 : (encL ls2 ++ vs2).take G2 = encL ls2 := by rw [HG2.out, List.take_left]
            rw [e1] at h1
            exact h1
          clear hF9 hG8 hT8 hB8 hA8 hD8 hH9 hC9
          go_wp2_with fail
          refine (same_yes qo9 _ G2 G2 G2 _ (encL ls2) (encL ls2) _ hRq hRb HG2.out HG2.out rfl).mono ?_
          rintro e w10 ⟨rfl, q, rfl⟩
          have hG10 := hG9.then (Fr.drewN [] w9 q)
          have hT10 := hT9.keep (Fr.drewN [] w9 q)
          have hB10 := hB9.keep (Fr.drewN [] w9 q)
          have hA10 := hA9.keep (Fr.drewN [] w9 q)
          clear hG9 hT9 hB9 hA9 hRq hRb
          obtain ⟨w10, HW10⟩ : ∃ w10, Hid (w9.drewN q = w10) := ⟨_, rfl⟩
          rw [HW10.out] at hG10 hT10 hB10 hA10 ⊢
          clear HW10
          go_wp2_with fail
          refine (twin_any _ _ _ (encL (txs ts)) _ hA10 (by omega)).mono ?_
          rintro e w11 ⟨tb, rfl, htb, hrow11, hF11⟩
          have hG11 := hG10.then hF11
          have hT11 := hT10.keep hF11
          have hB11 := hB10.keep hF11
          have hown : w11.ownsRow 0 5 1 (.slice (some ⟨tb, 0, none⟩) G (G + 1)) G (bts (encL (txs ts))) := twin_own hrow11 HG.out (by omega)
          have hsz10 := hG10.size
          clear hF11 hG10 hT10 hB10 hA10 hrow11
          go_wp2_with (at_builtin; refine wpList_appB w11 rfl (.tmp 135) (.tmp 136) rfl (.slice (some ⟨tb, 0, none⟩) G (G + 1)) G (encL (txs ts)) rfl hown bo M cb zs rfl hB11 (by omega) ?_)
          intro do12 n12 cap12 w12 hn12 hown12 hgrow12 hmv12
          have HN12 : Hid (n12 = G + M) := by show _ = _; omega
          have hF12 : Fr [tb] w11 w12 := Fr.grown hgrow12 (fun x hx _ => by simp [Value.ownBlock] at hx; simp [hx])
          have hG12 := hG11.on hF12 (by intro x hx; simp at hx; omega)
          have hT12 := hT.keep hG12
          have hA12 := own_arg hown12 (by intro x hx; rcases List.mem_append.1 hx with h | h; · exact encL_lt _ x h
                                          · exact hB.low x h) (by have := HN12.out; omega)
          have hn12b : n12 < 2 ^ 40 := by have := HN12.out; omega
          clear hn12 hown12 hgrow12 hmv12 hF12 hG11 hT11 hB11 hown
          go_wp2_with fail
          refine (lread_any do12 n12 cap12 c3 (encL (txs ts) ++ zs) vs3 ls3 _ hA12 (by rw [← hA12.len]; exact hn12b) HR3.out N3 G3 HN3.out HV3.out).mono ?_
          rintro e w13 ⟨ro13, rc13, rfl, ds13, hds13, hO13, hF13⟩
          have HDS13 : Hid (txs ds13 = ls3) := hds13
          have HLD13 : Hid (N3 = ds13.length) := by show _ = _; rw [HN3.out, ← hds13, txs_length]
          have hG13 := hG12.then hF13
          have hD13 := hO13.trs (by have := HLD13.out; omega)
          have hT13 := hT12.keep hF13
          have hrc : N3 ≤ rc13 := own_cap hO13.row HLD13.out
          have hTk13 := hD13.take L
          have HTk13 : Hid (L = (ds13.take L).length) := by show _ = _; rw [List.length_take]; have := HLD13.out; omega
          have HEQ : Hid (txs (ds13.take L) = txs ts) := by show _ = _; rw [← txs_take, HDS13.out]; exact HTK3.out
          clear hds13 hO13 hF13 hG12 hT12 hA12
          obtain ⟨zb, zo, rfl, _, _⟩ := hD13.lies (by have := HLD13.out; omega)
          go_wp2_with fail
          refine (sameTxns_any _ _ L L rc13 cap true (ds13.take L) ts _ hTk13 hT13 HTk13.out HL.out ⟨fun _ => HEQ.out, fun _ => rfl⟩).mono ?_
          rintro e w14 ⟨rfl, hF14⟩
          have hGF := hG13.then hF14
          clear hTk13 hT13 hD13 hG13 hF14
          go_wp2
          go_ret
          exact ⟨by simp, hGF⟩
      · replace h0 : L = 0 := by omega
        rcases ao with _ | ⟨ab, aof, asp⟩
        · skip
          obtain rfl := hqo.1 (hLG.1 h0)
          subst h0
          have hG0 := hLG.1 rfl
          subst hG0
          have hk0 : k = 0 := by omega
          subst hk0
          have hn0 : N2 = 0 := by omega
          subst hn0
          have hg0 : G2 = 0 := by omega
          subst hg0
          have hAk : BArg w6 none 0 0 ((encL (txs ts)).take 0) := ⟨by simp, by simp, Nat.le_refl _, by omega, fun h => by omega⟩
          clear hqo hLG
          go_wp2_with fail
          refine (lread_any _ _ _ c2 _ vs2 ls2 _ hAk (by rw [List.length_take]; have := HG.out; omega) HR2.out 0 0 HN2.out HV2.out).mono ?_
          rintro e w7 ⟨ro7, rc7, rfl, ds7, hds7, hO7, hF7⟩
          have HDS7 : Hid (txs ds7 = ls2) := hds7
          have HLD7 : Hid (0 = ds7.length) := by show _ = _; rw [HN2.out, ← hds7, txs_length]
          have hG7 := hG6.then hF7
          have hD7 := hO7.trs (by have := HLD7.out; omega)
          have hT7 := hT6.keep hF7
          have hB7 := hB6.keep hF7
          have hA7 := hA6.keep hF7
          have hcN : ¬ ((0 : Int) < (0 : Int)) := by omega
          have hdN : decide ((0 : Int) < (0 : Int)) = false := by simp <;> omega
          have hdN' : decide (0 < 0) = false := by simp <;> omega
          have hTk := hT7.take 0
          have HTk : Hid (0 = (ts.take 0).length) := by show _ = _; rw [List.length_take]; have := HL.out; omega
          clear hds7 hO7 hF7 hG6 hT6 hB6 hA6 hAk
          go_wp2_with fail
          refine (sameTxns_any ro7 _ 0 0 rc7 _ true ds7 (ts.take 0) _ hD7 hTk HLD7.out HTk.out ⟨fun _ => by rw [HDS7.out, HT2.out, txs_take], fun _ => rfl⟩).mono ?_
          rintro e w8 ⟨rfl, hF8⟩
          have hG8 := hG7.then hF8
          have hT8 := hT7.keep hF8
          have hB8 := hB7.keep hF8
          have hA8 := hA7.keep hF8
          have hD8 := hD7.keep hF8
          have hGk : ¬ ((0 : Int) < (0 : Int)) := by omega
          have hdG : decide ((0 : Int) < (0 : Int)) = false := by simp <;> omega
          have hdG' : decide (0 < 0) = false := by simp <;> omega
          have hc5' : (((c2 : Int) != 0) && ((c2 : Int) != 5)) = false := by rcases hc5 with h | h <;> rw [h] <;> simp
          have hn5 : ((c2 : Int) != 0) = !Z := by rw [← hz1]; rfl
          have hn6 : Z = false → ((c2 : Int) != 5) = false := by
            intro hZ
            rw [hZ] at hz1
            rcases hc5 with h | h
            · rw [h] at hz1; simp at hz1
            · rw [h]; simp
          clear hF8 hG7 hT7 hB7 hA7 hD7 hTk
          cases Z with
          | true =>
            have hcz : ((c2 : Int) != 0) = false := hn5
            have hD := hn6
            clear hn5 hn6 hc5' hc5
            go_wp2_with fail
            refine (lencode_ok ro7 0 rc7 0 ds7 (encL ls2) _ hD8 HLD7.out (by rw [HDS7.out]; exact HK2.out) (by rw [HDS7.out]) HG2.out).mono ?_
            rintro e w9 ⟨qo9, rfl, hH9, hF9⟩
            have hG9 := hG8.then hF9
            have hT9 := hT8.keep hF9
            have hB9 := hB8.keep hF9
            have hA9 := hA8.keep hF9
            have hC9 := hH9.arg HG2.out (encL_lt _) (by omega)
            have hRq : Rs w9 qo9 (encL ls2) := hC9.rs (by omega)
            have hRb : Rs w9 none (encL ls2) := by
              have h1 := ((hA9.rs (by omega)).take 0).take 0
              rw [HE2.out] at h1
              have e1 : (encL ls2 ++ vs2).take 0 = encL ls2 := by rw [HG2.out, List.take_left]
              rw [e1] at h1
              exact h1
            clear hF9 hG8 hT8 hB8 hA8 hD8 hH9 hC9
            go_wp2_with fail
            refine (same_yes qo9 _ 0 0 0 _ (encL ls2) (encL ls2) _ hRq hRb HG2.out HG2.out rfl).mono ?_
            rintro e w10 ⟨rfl, q, rfl⟩
            have hG10 := hG9.then (Fr.drewN [] w9 q)
            have hT10 := hT9.keep (Fr.drewN [] w9 q)
            have hB10 := hB9.keep (Fr.drewN [] w9 q)
            have hA10 := hA9.keep (Fr.drewN [] w9 q)
            clear hG9 hT9 hB9 hA9 hRq hRb
            obtain ⟨w10, HW10⟩ : ∃ w10, Hid (w9.drewN q = w10) := ⟨_, rfl⟩
            rw [HW10.out] at hG10 hT10 hB10 hA10 ⊢
            clear HW10
            go_wp2_with fail
            refine (twin_any _ _ _ (encL (txs ts)) _ hA10 (by omega)).mono ?_
            rintro e w11 ⟨tb, rfl, htb, hrow11, hF11⟩
            have hG11 := hG10.then hF11
            have hT11 := hT10.keep hF11
            have hB11 := hB10.keep hF11
            have hown : w11.ownsRow 0 5 1 (.slice (some ⟨tb, 0, none⟩) 0 1) 0 (bts (encL (txs ts))) := twin_own hrow11 HG.out (by omega)
            have hsz10 := hG10.size
            clear hF11 hG10 hT10 hB10 hA10 hrow11
            go_wp2_with (at_builtin; refine wpList_appB w11 rfl (.tmp 135) (.tmp 136) rfl (.slice (some ⟨tb, 0, none⟩) 0 1) 0 (encL (txs ts)) rfl hown bo M cb zs rfl hB11 (by omega) ?_)
            intro do12 n12 cap12 w12 hn12 hown12 hgrow12 hmv12
            have HN12 : Hid (n12 = 0 + M) := by show _ = _; omega
            have hF12 : Fr [tb] w11 w12 := Fr.grown hgrow12 (fun x hx _ => by simp [Value.ownBlock] at hx; simp [hx])
            have hG12 := hG11.on hF12 (by intro x hx; simp at hx; omega)
            have hT12 := hT.keep hG12
            have hA12 := own_arg hown12 (by intro x hx; rcases List.mem_append.1 hx with h | h; · exact encL_lt _ x h
                                            · exact hB.low x h) (by have := HN12.out; omega)
            have hn12b : n12 < 2 ^ 40 := by have := HN12.out; omega
            clear hn12 hown12 hgrow12 hmv12 hF12 hG11 hT11 hB11 hown
            go_wp2_with fail
            refine (lread_any do12 n12 cap12 c3 (encL (txs ts) ++ zs) vs3 ls3 _ hA12 (by rw [← hA12.len]; exact hn12b) HR3.out N3 G3 HN3.out HV3.out).mono ?_
            rintro e w13 ⟨ro13, rc13, rfl, ds13, hds13, hO13, hF13⟩
            have HDS13 : Hid (txs ds13 = ls3) := hds13
            have HLD13 : Hid (N3 = ds13.length) := by show _ = _; rw [HN3.out, ← hds13, txs_length]
            have hG13 := hG12.then hF13
            have hD13 := hO13.trs (by have := HLD13.out; omega)
            have hT13 := hT12.keep hF13
            have hrc : N3 ≤ rc13 := own_cap hO13.row HLD13.out
            have hTk13 := hD13.take 0
            have HTk13 : Hid (0 = (ds13.take 0).length) := by show _ = _; rw [List.length_take]; have := HLD13.out; omega
            have HEQ : Hid (txs (ds13.take 0) = txs ts) := by show _ = _; rw [← txs_take, HDS13.out]; exact HTK3.out
            clear hds13 hO13 hF13 hG12 hT12 hA12
            rcases ro13 with _ | ⟨zb, zo, zsp⟩
            · go_wp2_with fail
              refine (sameTxns_any _ _ 0 0 rc13 cap true (ds13.take 0) ts _ hTk13 hT13 HTk13.out HL.out ⟨fun _ => HEQ.out, fun _ => rfl⟩).mono ?_
              rintro e w14 ⟨rfl, hF14⟩
              have hGF := hG13.then hF14
              clear hTk13 hT13 hD13 hG13 hF14
              go_wp2
              go_ret
              exact ⟨by simp, hGF⟩
            · go_wp2_with fail
              refine (sameTxns_any _ _ 0 0 rc13 cap true (ds13.take 0) ts _ hTk13 hT13 HTk13.out HL.out ⟨fun _ => HEQ.out, fun _ => rfl⟩).mono ?_
              rintro e w14 ⟨rfl, hF14⟩
              have hGF := hG13.then hF14
              clear hTk13 hT13 hD13 hG13 hF14
              go_wp2
              go_ret
              exact ⟨by simp, hGF⟩
          | false =>
            exfalso
            simp at hz2
        · skip
          obtain rfl := hqo.1 (hLG.1 h0)
          subst h0
          have hG0 := hLG.1 rfl
          subst hG0
          have hk0 : k = 0 := by omega
          subst hk0
          have hn0 : N2 = 0 := by omega
          subst hn0
          have hg0 : G2 = 0 := by omega
          subst hg0
          have hAk : BArg w6 none 0 0 ((encL (txs ts)).take 0) := ⟨by simp, by simp, Nat.le_refl _, by omega, fun h => by omega⟩
          clear hqo hLG
          go_wp2_with fail
          refine (lread_any _ _ _ c2 _ vs2 ls2 _ hAk (by rw [List.length_take]; have := HG.out; omega) HR2.out 0 0 HN2.out HV2.out).mono ?_
          rintro e w7 ⟨ro7, rc7, rfl, ds7, hds7, hO7, hF7⟩
          have HDS7 : Hid (txs ds7 = ls2) := hds7
          have HLD7 : Hid (0 = ds7.length) := by show _ = _; rw [HN2.out, ← hds7, txs_length]
          have hG7 := hG6.then hF7
          have hD7 := hO7.trs (by have := HLD7.out; omega)
          have hT7 := hT6.keep hF7
          have hB7 := hB6.keep hF7
          have hA7 := hA6.keep hF7
          have hcN : ¬ ((0 : Int) < (0 : Int)) := by omega
          have hdN : decide ((0 : Int) < (0 : Int)) = false := by simp <;> omega
          have hdN' : decide (0 < 0) = false := by simp <;> omega
          have hTk := hT7.take 0
          have HTk : Hid (0 = (ts.take 0).length) := by show _ = _; rw [List.length_take]; have := HL.out; omega
          clear hds7 hO7 hF7 hG6 hT6 hB6 hA6 hAk
          go_wp2_with fail
          refine (sameTxns_any ro7 _ 0 0 rc7 _ true ds7 (ts.take 0) _ hD7 hTk HLD7.out HTk.out ⟨fun _ => by rw [HDS7.out, HT2.out, txs_take], fun _ => rfl⟩).mono ?_
          rintro e w8 ⟨rfl, hF8⟩
          have hG8 := hG7.then hF8
          have hT8 := hT7.keep hF8
          have hB8 := hB7.keep hF8
          have hA8 := hA7.keep hF8
          have hD8 := hD7.keep hF8
          have hGk : ¬ ((0 : Int) < (0 : Int)) := by omega
          have hdG : decide ((0 : Int) < (0 : Int)) = false := by simp <;> omega
          have hdG' : decide (0 < 0) = false := by simp <;> omega
          have hc5' : (((c2 : Int) != 0) && ((c2 : Int) != 5)) = false := by rcases hc5 with h | h <;> rw [h] <;> simp
          have hn5 : ((c2 : Int) != 0) = !Z := by rw [← hz1]; rfl
          have hn6 : Z = false → ((c2 : Int) != 5) = false := by
            intro hZ
            rw [hZ] at hz1
            rcases hc5 with h | h
            · rw [h] at hz1; simp at hz1
            · rw [h]; simp
          clear hF8 hG7 hT7 hB7 hA7 hD7 hTk
          cases Z with
          | true =>
            have hcz : ((c2 : Int) != 0) = false := hn5
            have hD := hn6
            clear hn5 hn6 hc5' hc5
            go_wp2_with fail
            refine (lencode_ok ro7 0 rc7 0 ds7 (encL ls2) _ hD8 HLD7.out (by rw [HDS7.out]; exact HK2.out) (by rw [HDS7.out]) HG2.out).mono ?_
            rintro e w9 ⟨qo9, rfl, hH9, hF9⟩
            have hG9 := hG8.then hF9
            have hT9 := hT8.keep hF9
            have hB9 := hB8.keep hF9
            have hA9 := hA8.keep hF9
            have hC9 := hH9.arg HG2.out (encL_lt _) (by omega)
            have hRq : Rs w9 qo9 (encL ls2) := hC9.rs (by omega)
            have hRb : Rs w9 none (encL ls2) := by
              have h1 := ((hA9.rs (by omega)).take 0).take 0
              rw [HE2.out] at h1
              have e1 : (encL ls2 ++ vs2).take 0 = encL ls2 := by rw [HG2.out, List.take_left]
              rw [e1] at h1
              exact h1
            clear hF9 hG8 hT8 hB8 hA8 hD8 hH9 hC9
            go_wp2_with fail
            refine (same_yes qo9 _ 0 0 0 _ (encL ls2) (encL ls2) _ hRq hRb HG2.out HG2.out rfl).mono ?_
            rintro e w10 ⟨rfl, q, rfl⟩
            have hG10 := hG9.then (Fr.drewN [] w9 q)
            have hT10 := hT9.keep (Fr.drewN [] w9 q)
            have hB10 := hB9.keep (Fr.drewN [] w9 q)
            have hA10 := hA9.keep (Fr.drewN [] w9 q)
            clear hG9 hT9 hB9 hA9 hRq hRb
            obtain ⟨w10, HW10⟩ : ∃ w10, Hid (w9.drewN q = w10) := ⟨_, rfl⟩
            rw [HW10.out] at hG10 hT10 hB10 hA10 ⊢
            clear HW10
            go_wp2_with fail
            refine (twin_any _ _ _ (encL (txs ts)) _ hA10 (by omega)).mono ?_
            rintro e w11 ⟨tb, rfl, htb, hrow11, hF11⟩
            have hG11 := hG10.then hF11
            have hT11 := hT10.keep hF11
            have hB11 := hB10.keep hF11
            have hown : w11.ownsRow 0 5 1 (.slice (some ⟨tb, 0, none⟩) 0 1) 0 (bts (encL (txs ts))) := twin_own hrow11 HG.out (by omega)
            have hsz10 := hG10.size
            clear hF11 hG10 hT10 hB10 hA10 hrow11
            go_wp2_with (at_builtin; refine wpList_appB w11 rfl (.tmp 135) (.tmp 136) rfl (.slice (some ⟨tb, 0, none⟩) 0 1) 0 (encL (txs ts)) rfl hown bo M cb zs rfl hB11 (by omega) ?_)
            intro do12 n12 cap12 w12 hn12 hown12 hgrow12 hmv12
            have HN12 : Hid (n12 = 0 + M) := by show _ = _; omega
            have hF12 : Fr [tb] w11 w12 := Fr.grown hgrow12 (fun x hx _ => by simp [Value.ownBlock] at hx; simp [hx])
            have hG12 := hG11.on hF12 (by intro x hx; simp at hx; omega)
            have hT12 := hT.keep hG12
            have hA12 := own_arg hown12 (by intro x hx; rcases List.mem_append.1 hx with h | h; · exact encL_lt _ x h
                                            · exact hB.low x h) (by have := HN12.out; omega)
            have hn12b : n12 < 2 ^ 40 := by have := HN12.out; omega
            clear hn12 hown12 hgrow12 hmv12 hF12 hG11 hT11 hB11 hown
            go_wp2_with fail
            refine (lread_any do12 n12 cap12 c3 (encL (txs ts) ++ zs) vs3 ls3 _ hA12 (by rw [← hA12.len]; exact hn12b) HR3.out N3 G3 HN3.out HV3.out).mono ?_
            rintro e w13 ⟨ro13, rc13, rfl, ds13, hds13, hO13, hF13⟩
            have HDS13 : Hid (txs ds13 = ls3) := hds13
            have HLD13 : Hid (N3 = ds13.length) := by show _ = _; rw [HN3.out, ← hds13, txs_length]
            have hG13 := hG12.then hF13
            have hD13 := hO13.trs (by have := HLD13.out; omega)
            have hT13 := hT12.keep hF13
            have hrc : N3 ≤ rc13 := own_cap hO13.row HLD13.out
            have hTk13 := hD13.take 0
            have HTk13 : Hid (0 = (ds13.take 0).length) := by show _ = _; rw [List.length_take]; have := HLD13.out; omega
            have HEQ : Hid (txs (ds13.take 0) = txs ts) := by show _ = _; rw [← txs_take, HDS13.out]; exact HTK3.out
            clear hds13 hO13 hF13 hG12 hT12 hA12
            rcases ro13 with _ | ⟨zb, zo, zsp⟩
            · go_wp2_with fail
              refine (sameTxns_any _ _ 0 0 rc13 cap true (ds13.take 0) ts _ hTk13 hT13 HTk13.out HL.out ⟨fun _ => HEQ.out, fun _ => rfl⟩).mono ?_
              rintro e w14 ⟨rfl, hF14⟩
              have hGF := hG13.then hF14
              clear hTk13 hT13 hD13 hG13 hF14
              go_wp2
              go_ret
              exact ⟨by simp, hGF⟩
            · go_wp2_with fail
              refine (sameTxns_any _ _ 0 0 rc13 cap true (ds13.take 0) ts _ hTk13 hT13 HTk13.out HL.out ⟨fun _ => HEQ.out, fun _ => rfl⟩).mono ?_
              rintro e w14 ⟨rfl, hF14⟩
              have hGF := hG13.then hF14
              clear hTk13 hT13 hD13 hG13 hF14
              go_wp2
              go_ret
              exact ⟨by simp, hGF⟩
          | false =>
            exfalso
            simp at hz2
    · have HBD : Hid (Bad 1 (txs ts) c) := hbad
      have hcb : ((c : Int) != 0) = true := by rw [bne_iff_ne]; omega
      have hcc : ((c : Int) == (c : Int)) = true := by simp
      have HC0 : Hid (c ≠ 0) := hc0
      clear hbad hc0
      go_wp2_with fail
      refine (lencode_no ao L cap c ts _ hT3 HL.out HBD.out HC0.out).mono ?_
      rintro e w4 ⟨rfl, hF4⟩
      have hT4 := hT3.keep hF4
      have hG4 := hG3.then hF4
      clear hF4 hG3 hT3
      go_wp2_with fail
      refine (lcheck_any ao L cap c ts _ hT4 HL.out HBD.out).mono ?_
      rintro e w5 ⟨rfl, hF5⟩
      have hG5 := hG4.then hF5
      clear hF5 hG4 hT4
      go_wp2
      go_ret
      exact ⟨by simp, hG5⟩

theorem own : ownKnob Try.prog.godebug = none := by kernel_rfl
theorem laidOut : laidOutB Try.prog = true := by kernel_rfl
set_option maxHeartbeats 4000000 in
set_option maxRecDepth 100000 in
theorem lifted (os : Os) (started : os.Started) (H : Type) (enc : TypeId × Value → H) :
    ReturnsInHanded {} Try.checked os 3 .any (Rows.logfileBackSpec.pre6 enc Try.prog Try.f3 Rows.logfileBackRow.domain false) (Rows.logfileBackSpec.post enc Try.prog Try.f3 false true false false) := by
  refine returnsInHanded_of_change_sized (C := Try.checked) own started (by kernel_rfl) Try.func3
    (ChangeSpec.witness6 (enc := enc) (C := Try.checked) false ⟨#[], #[.slice none 0 0, .int .u32 0, .slice none 0 0], []⟩ 8 (by kernel_rfl) (by kernel_rfl) (by kernel_rfl) (by kernel_rfl)) ?_
  intro W base args ds gs before hval0 hW hcnd hsz0 _
  have hval : ∀ (j : Nat) t v, Try.f3.params[j]? = some t → args[j]? = some v → Value.okWide Try.prog W .any base t v := hval0
  have hsz : (DataW.weightsEach Try.prog (Try.f3.params.toList ++ Rows.logfileBackSpec.plain.varTypes Try.prog) (ds ++ gs)).all (· ≤ reachBytes) = true := hsz0
  have hW' := hW
  obtain ⟨p, q, hA0, hV, rfl, hfz, hnd⟩ := hW
  have hA : DataW.TrodAll enc Try.prog W 0 (fun _ => true) true Try.f3.params.toList args.toList ds p := hA0
  rw [Try.params3] at hA hval hsz
  obtain ⟨v0, vs0, d0, ds0, p0, q0, hargs, rfl, rfl, h0, r0⟩ := trodAll_cons hA
  obtain ⟨v1, vs1, d1, ds1, p1, q1, rfl, rfl, rfl, h1, r1⟩ := trodAll_cons r0
  obtain ⟨v2, vs2, d2, ds2, p2, q2, rfl, rfl, rfl, h2, r2⟩ := trodAll_cons r1
  obtain ⟨rfl, rfl, rfl⟩ := trodAll_nil r2
  obtain rfl : args = #[v0, v1, v2] := by cases args; simp_all
  obtain ⟨rfl, rfl⟩ := trodVars_none hV
  have k0 := h0
  have lt0 : ∀ x ∈ p0, x.block < W.heap.size := by obtain ⟨m, hm⟩ := k0; exact DataW.trod_lt m _ _ _ hm
  obtain ⟨a0, len0, cap0, ts0, rfl, hB0, hL0, hC0⟩ : ∃ ao L cap ts, v0 = .slice ao L cap ∧ TRs W ao ts ∧ L = ts.length ∧ L ≤ cap := by
    obtain ⟨fuel, hf⟩ := h0
    obtain ⟨ao, L, cap, rfl⟩ := okWide_slice Try.undTs' (hval 0 22 v0 rfl rfl)
    exact ts_open hf (fun n hn => of_decide_eq_true (List.all_eq_true.1 hsz n (DataW.weights_mem_each (j := 0) (t := 22) rfl rfl n hn)))
  obtain ⟨n1, rfl, rfl, rfl, w1⟩ := open_int Try.underlying23 (hval 1 23 v1 rfl rfl) h1
  have b1 := bounds_u32 w1
  obtain ⟨m1, rfl⟩ : ∃ m : Nat, n1 = (m : Int) := ⟨n1.toNat, by omega⟩
  obtain ⟨a2, len2, cap2, rfl⟩ := okWide_slice Try.undBs (hval 2 24 v2 rfl rfl)
  have k2 := h2
  have lt2 : ∀ x ∈ p2, x.block < W.heap.size := by obtain ⟨m, hm⟩ := k2; exact DataW.trod_lt m _ _ _ hm
  obtain ⟨z2, w2⟩ : ∃ zs, IsRow .u8 W a2 len2 cap2 zs := by
    obtain ⟨fuel, hf⟩ := h2
    rcases open_ints Try.undBs Try.underlying5 (by kernel_rfl) hf with ⟨hcs, _⟩ | ⟨x, l, c, zs, hcs, _, hl, hm, hz, _, hcell, hwz⟩
    · simp [Value.cells] at hcs
      obtain ⟨rfl, rfl, rfl⟩ := hcs
      exact ⟨[], .inl ⟨rfl, rfl, rfl, rfl⟩⟩
    · simp [Value.cells] at hcs
      obtain ⟨rfl, rfl, rfl⟩ := hcs
      exact ⟨zs, .inr ⟨_, rfl, hl, hm, by simpa using hz, hcell, hwz⟩⟩
  have hc2 : len2 ≤ 140737488351232 := by
    obtain ⟨fuel, hf⟩ := k2
    rcases open_ints Try.undBs Try.underlying5 (by kernel_rfl) hf with ⟨hcs, _⟩ | ⟨x, l, c, zs, hcs, _, hl, hm, hz, hx, hcell, hwz⟩
    · simp [Value.cells] at hcs
      omega
    · simp [Value.cells] at hcs
      obtain ⟨rfl, rfl, rfl⟩ := hcs
      have hd := congrArg Prod.fst hx
      simp only at hd
      have := sized_slice (j := 2) hsz rfl (by rw [hd]; rfl) Try.undBs
      rw [show Try.prog.bytesOf 5 = 1 from by kernel_rfl] at this
      simp [lits, reachBytes] at this hz
      omega
  obtain ⟨xs2, hB2⟩ := BArg.of_row w2
  clear hA0 hval0
  refine (walk a0 len0 cap0 ts0 m1 (by omega) a2 len2 cap2 xs2 W hB0 hL0 hC0 hB2 hc2).mono fun e W' ⟨he, hf⟩ => ?_
  subst he
  have bel : Below W.heap.size W W' := hf.below (Nat.le_refl _) (by simp)
  exact ⟨_, rfl, _, _, _, [], _, [], hW', trodAll_mk1 (shut_bool Try.underlying4 _), (trodAll_cons_mk (Below.trod laidOut (by kernel_rfl) (of_decide_eq_true (by kernel_rfl)) k0 bel lt0) (trodAll_cons_mk (shut_int Try.underlying23 w1) (trodAll_cons_mk (Below.trod laidOut (by kernel_rfl) (of_decide_eq_true (by kernel_rfl)) k2 bel lt2) trodAll_mk0))), rfl, bel.frame _, fun h => by cases h⟩

theorem over : Rows.logfileBackRow.holds Try.pinned (OpenSpec.ofChange Rows.logfileBackSpec) :=
  OpenClaim.holds_of_wide 3 Try.f3 rfl rfl rfl rfl rfl rfl rfl ⟨rfl, rfl, rfl, rfl, rfl⟩ rfl rfl rfl rfl rfl (by kernel_rfl) Try.func3 (by kernel_rfl)
    (of_decide_eq_true (by kernel_rfl)) (by unfold Func.isWrapper; first | (rw [if_pos (by decide +kernel)]; kernel_rfl) | (rw [if_neg (by decide +kernel)]; exact ⟨rfl, rfl⟩))
    (fun os started H enc _ => lifted os started H enc)
end Go.Proofs.Ytjhnppgkmmhjbaa.logfileBack
namespace Go.Proofs.Ytjhnppgkmmhjbaa
theorem logfileback_holds : Rows.LogfileBackSaid := logfileBack.over
#print axioms logfileback_holds
end Go.Proofs.Ytjhnppgkmmhjbaa

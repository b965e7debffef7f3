/- For every log, every place and every byte put there the law LogfileSpoils returns true, and what came in reads as it did. No conditions. -/
import Derived.Test.YtjhnppgkmmhjbabSame6
import Derived.Test.YtjhnppgkmmhjbabTxs
namespace Go.Proofs.Ytjhnppgkmmhjbab.logfileSpoils
open Go.ChangeShapes Go.WideShapes Go.ChangeAt Go.RowKit Go.Lib
set_option linter.unusedVariables false

structure Wd (w1 : World) where
  W : World
  h : Fr [] w1 W
instance (w1 : World) : Nonempty (Wd w1) := ⟨⟨w1, Fr.refl _ _⟩⟩
theorem wp_region_wd {P : Program} {w1 wr : World} {id : Nat} {Q : Exit → Act → World → Prop} {a : Act} {l : List Oper} (hm : P.follows .mixedOrders = true) (hB : Region.lexB .any l.toArray = true) (hf : Fr [] w1 wr)
    (h : wpQuiet P l.toArray (fun w' => ∃ x : Wd w1, w' = x.W) (fun a' => ∀ w', (∃ x : Wd w1, w' = x.W) → Q .normal a' w') l a) : (Code.region id l.toArray true).wp P Q a wr :=
  wp_region_quiet (C := fun w' => ∃ x : Wd w1, w' = x.W) hm hB ⟨⟨_, hf.then (Fr.drew [] wr)⟩, rfl⟩ (by simpa using h)

theorem take_set (xs : List Nat) (k e o : Nat) (h : e ≤ k) : (xs.set k o).take e = xs.take e := by
  apply List.ext_getElem?
  intro i
  rw [List.getElem?_take, List.getElem?_take]
  by_cases hi : i < e
  · rw [if_pos hi, if_pos hi, List.getElem?_set_ne (by omega)]
  · rw [if_neg hi, if_neg hi]
/-- What is told of a log of which one byte is another one. -/
theorem spoil (l : List Tx) (hok : okL 1 l) (k o n : Nat) (hk : k < (encL l).length) (ho : o < 256) (hne : (encL l).getD k 0 ≠ o) (h1 : (encL (l.take n)).length ≤ k) (h2 : k < (encL (l.take (n + 1))).length) (hn : n < l.length) :
    ∃ ls vs c, Rds 1 ((encL l).set k o) ls vs c ∧ okL 1 ls ∧ (encL ls).length + vs.length = ((encL l).set k o).length ∧ n ≤ ls.length ∧ ls.take n = l.take n ∧ (encL (l.take n)).length ≤ (encL ls).length ∧ (n < ls.length → ls.getD n Tx.zero ≠ l.getD n Tx.zero) := by
  have hlow : ∀ x ∈ (encL l).set k o, x < 256 := fun x hx => by
    rcases List.mem_or_eq_of_mem_set hx with h | h
    · exact encL_lt l x h
    · omega
  obtain ⟨ls, vs, c, hR⟩ := Rds.ex _ 1 ((encL l).set k o) (Nat.le_refl _) hlow
  obtain ⟨he, hok2, hst⟩ := Rds.inv hlow hR
  have hpre : ∀ j, j ≤ l.length → (encL l).take (encL (l.take j)).length = encL (l.take j) := by
    intro j hj
    have : encL l = encL (l.take j) ++ encL (l.drop j) := by rw [← encL_append, List.take_append_drop]
    rw [this, List.take_left]
  have hcut : (encL l).set k o = encL (l.take n) ++ ((encL l).set k o).drop (encL (l.take n)).length := by
    conv => lhs; rw [← List.take_append_drop (encL (l.take n)).length ((encL l).set k o)]
    rw [take_set _ _ _ _ h1, hpre n (by omega)]
  have hR' := hR
  rw [hcut] at hR'
  obtain ⟨rs, e, _⟩ := Rds.ahead (okL_take hok n) hR'
  have hln : (l.take n).length = n := by rw [List.length_take]; omega
  refine ⟨ls, vs, c, hR, hok2, by rw [he, List.length_append], ?_, ?_, ?_, ?_⟩
  · rw [e, List.length_append]; omega
  · rw [e]
    have h9 := List.take_left (l₁ := l.take n) (l₂ := rs)
    rw [hln] at h9
    exact h9
  · rw [e, encL_append, List.length_append]; omega
  · intro hlt heq
    have hrs : ∃ r, rs = l.getD n Tx.zero :: r := by
      cases rs with
      | nil => rw [e, List.append_nil, hln] at hlt; omega
      | cons t r =>
        refine ⟨r, ?_⟩
        rw [← heq, e]
        have : (l.take n ++ t :: r).getD n Tx.zero = t := by
          rw [List.getD, List.getElem?_append_right (by omega), hln]
          simp
        rw [this]
    obtain ⟨r, hr⟩ := hrs
    have hsn : l.take (n + 1) = l.take n ++ [l.getD n Tx.zero] := by
      rw [List.take_add_one]
      simp [List.getD, hn]
    have hls : ls = l.take (n + 1) ++ r := by rw [e, hr, hsn, List.append_assoc]; rfl
    have h3 : ((encL l).set k o).take (encL (l.take (n + 1))).length = encL (l.take (n + 1)) := by
      rw [he, hls, encL_append, List.append_assoc, List.take_left]
    have h4 := hpre (n + 1) (by omega)
    have h5 : (((encL l).set k o).take (encL (l.take (n + 1))).length)[k]? = ((encL l).take (encL (l.take (n + 1))).length)[k]? := by rw [h3, h4]
    rw [List.getElem?_take, List.getElem?_take, if_pos h2, if_pos h2, List.getElem?_set_self hk] at h5
    rw [List.getElem?_eq_getElem hk] at h5
    apply hne
    rw [List.getD, List.getElem?_eq_getElem hk]
    simpa using h5.symm
theorem own_cap {w : World} {e : TypeId} {ro : Option Addr} {N rc n : Nat} {xs : List Value} (h : w.ownsRow 0 e 2 (.slice ro N rc) n xs) (hN : N = n) : N ≤ rc := by
  rcases h.2 with ⟨hv, h0⟩ | ⟨g, cap, cur, hv, _, _, hnc, _⟩
  · cases hv; omega
  · cases hv; omega
theorem bts_set (xs : List Nat) (k o : Nat) : bts (xs.set k o) = (bts xs).set k (.int .u8 (o : Int)) := by
  simp [bts, List.map_set]

set_option maxHeartbeats 16000000 in
set_option maxRecDepth 100000 in
theorem walk (ao : Option Addr) (L cap : Nat) (ts : List Tm) (m : Nat) (hm : m < 4294967296) (y : Nat) (hy : y < 256) (w : World) (hT : TRs w ao ts) (hL : L = ts.length) (hC : L ≤ cap) :
    Calls Try.prog 3 #[.slice ao L cap, .int .u32 (m : Int), .int .u8 (y : Int)] w fun e w' => e = .returned (.bool true) ∧ Fr [] w w' := by
  have HL : Hid (L = ts.length) := hL
  clear hL
  go_enter Try.func3, Try.ntmps3
  go_wp2_with fail
  refine (alive6_any _).mono ?_
  rintro e w1 ⟨rfl, hF1⟩
  go_wp2_with fail
  refine (txnsSize_any ao L cap ts _ (hT.keep hF1) HL.out).mono ?_
  rintro e w2 ⟨K, rfl, hK, hF2⟩
  have hG2 := hF1.then hF2
  have hF3 : Fr [] w2 (w2.alloc (.cells #[.int .i64 (K : Int)] 3)) := Fr.alloc _ _ _
  clear hF1 hF2
  go_wp2_with fail
  refine (beyond_any w2.heap.size K _ (by omega) (by simp)).mono ?_
  rintro e w3 ⟨rfl, rfl⟩
  have hG3 := hG2.then hF3
  obtain ⟨w3, HW3⟩ : ∃ w3, Hid (w2.alloc (.cells #[.int .i64 (K : Int)] 3) = w3) := ⟨_, rfl⟩
  rw [HW3.out] at hG3 ⊢
  clear hF3 hG2 HW3
  by_cases hbig : 1048576 < K
  · have hbd : decide (1048576 < K) = true := by simpa using hbig
    rw [hbd]
    go_wp2_with fail
    refine (alive6_any _).mono ?_
    rintro e w4 ⟨rfl, hF4⟩
    go_wp2
    go_ret
    exact ⟨rfl, hG3.then hF4⟩
  · have hbd : decide (1048576 < K) = false := by simpa using hbig
    rw [hbd]
    have hT3 := hT.keep hG3
    clear hbig hbd hK
    obtain ⟨c, hbad⟩ := Bad.ex (txs ts) 1
    have HBD : Hid (Bad 1 (txs ts) c) := hbad
    by_cases hc0 : c = 0
    · subst hc0
      have hok := (Bad.ok hbad).1 rfl
      clear hbad
      have HK : Hid (okL 1 (txs ts)) := hok
      have hL16 : L ≤ 65536 := by have := okL_few hok; rw [txs_length] at this; have := HL.out; omega
      have hG33 : (encL (txs ts)).length < 2 ^ 33 := encL_few hok
      obtain ⟨G, hG⟩ : ∃ G, G = (encL (txs ts)).length := ⟨_, rfl⟩
      have HG : Hid (G = (encL (txs ts)).length) := hG
      have hGb : G < 8589934592 := by omega
      have hLG : 0 < G → 0 < L := by
        intro h0
        rcases Nat.eq_zero_or_pos L with h1 | h1
        · exfalso
          have : ts = [] := List.eq_nil_of_length_eq_zero (by have := HL.out; omega)
          rw [hG, this] at h0
          simp [txs, encL] at h0
        · exact h1
      clear hok hG33 hG
      go_wp2_with fail
      refine (lencode_ok ao L cap G ts (encL (txs ts)) _ hT3 HL.out HK.out rfl HG.out).mono ?_
      rintro e w4 ⟨qo, rfl, hH4, hF4⟩
      have hG4 := hG3.then hF4
      have hT4 := hT3.keep hF4
      have hs3 := hG3.size
      clear hF4 hG3 hT3
      by_cases h0 : 0 < G
      · obtain ⟨kk, rfl, hkk, hrow4⟩ := hH4.row (by have := HG.out; omega)
        obtain ⟨ab, aof, rfl, hablt, _⟩ := hT4.lies (by have := HL.out; have := hLG h0; omega)
        have hL0 := hLG h0
        have hg0 : ((G : Int) == 0) = false := by rw [beq_eq_false_iff_ne]; omega
        obtain ⟨k, hk⟩ : ∃ k, k = m % G := ⟨_, rfl⟩
        have hkG : k < G := by have := Nat.mod_lt m h0; omega
        have hrem : (m : Int).tmod (G : Int) = (k : Int) := by
          rw [hk, Int.tmod_eq_emod_of_nonneg (by omega)]
          omega
        obtain ⟨z, hz⟩ : ∃ z, z = (encL (txs ts)).getD k 0 := ⟨_, rfl⟩
        have HZ : Hid (z = (encL (txs ts)).getD k 0) := hz
        have hcell : w4.cell? ⟨kk, k, none⟩ = some (.int .u8 (z : Int)) := by
          rw [cell_of_row _ _ _ _ _ _ hrow4, hz]
          simpa using bts_get (encL (txs ts)) k (by have := HG.out; omega)
        clear hz hk hH4 hLG
        by_cases hzy : z = y
        · have hzb : ((z : Int) == (y : Int)) = true := by rw [beq_iff_eq]; omega
          clear hzy
          go_wp2_with fail
          go_ret
          exact ⟨rfl, hG4⟩
        · have hzb : ((z : Int) == (y : Int)) = false := by rw [beq_eq_false_iff_ne]; omega
          have HZY : Hid (z ≠ y) := hzy
          have hfz : w4.frozen? ⟨kk, k, none⟩ = false := by simp [World.frozen?, hrow4]
          clear hzy
          go_wp2_with fail
          clear hcell
          go_loopw [10, 11] (fun ee ii wr => ∃ (en i : Nat), ee = .int .i64 en ∧ ii = .int .i64 i ∧ i ≤ L ∧ en ≤ k ∧ Hid (en = (encL (txs (ts.take i))).length) ∧ Fr [] w4 wr) (fun _ ii _ => L - (intOf ii).toNat)
          case atStart => exact ⟨0, 0, rfl, rfl, Nat.zero_le _, Nat.zero_le _, by simp [Hid, txs, encL], Fr.refl _ _⟩
          case round =>
            obtain ⟨en, i, rfl, rfl, hiL, henk, HEN, hFr⟩ := hrel
            by_cases hi : i < L
            · have hTi := (hT4.keep hFr).take (i + 1)
              have HLi : Hid (i + 1 = (ts.take (i + 1)).length) := by show _ = _; rw [List.length_take]; have := HL.out; omega
              have hoki : okL 1 (txs (ts.take (i + 1))) := by rw [← txs_take]; exact okL_take HK.out _
              have HOKI : Hid (okL 1 (txs (ts.take (i + 1)))) := hoki
              obtain ⟨E, hE⟩ : ∃ E, E = (encL (txs (ts.take (i + 1)))).length := ⟨_, rfl⟩
              have HE : Hid (E = (encL (txs (ts.take (i + 1)))).length) := hE
              have hEb : E < 8589934592 := by have := encL_few hoki; omega
              clear hE hoki
              go_wp2_with fail
              refine (lencode_ok (some ⟨ab, aof, none⟩) (i + 1) cap E (ts.take (i + 1)) _ _ hTi HLi.out HOKI.out rfl HE.out).mono ?_
              rintro e w5 ⟨q5, rfl, _, hF5⟩
              have hG5 := hFr.then hF5
              clear hTi hF5 hFr
              by_cases hEk : k < E
              · have hEk' : (k : Int) < E := by omega
                have hrow5 := hG5.keep hrow4 (by simp)
                have hi' : i < ts.length := by have := HL.out; omega
                have hcell5 : w5.cell? ⟨kk, k, none⟩ = some (.int .u8 (z : Int)) := by
                  rw [cell_of_row _ _ _ _ _ _ hrow5, HZ.out]
                  simpa using bts_get (encL (txs ts)) k (by have := HG.out; omega)
                have hfz5 : w5.frozen? ⟨kk, k, none⟩ = false := by simp [World.frozen?, hrow5]
                obtain ⟨ls, vs, c', hR, hok', hln', hnl, htk, hle', hsp⟩ := spoil (txs ts) HK.out k y i (by have := HG.out; omega) hy (by rw [← HZ.out]; exact HZY.out) (by rw [txs_take, ← HEN.out]; exact henk) (by rw [txs_take, ← HE.out]; exact hEk) (by rw [txs_length]; exact hi')
                obtain ⟨N', hN'⟩ : ∃ N', N' = ls.length := ⟨_, rfl⟩
                obtain ⟨G', hG'⟩ : ∃ G', G' = (encL ls).length := ⟨_, rfl⟩
                have HN' : Hid (N' = ls.length) := hN'
                have HR : Hid (Rds 1 ((encL (txs ts)).set k y) ls vs c') := hR
                have HGV : Hid (G' + vs.length = ((encL (txs ts)).set k y).length) := by show _ = _; rw [← hln', hG']
                have hiN : i ≤ N' := by omega
                have hN16 : N' ≤ 65536 := by have := okL_few hok'; omega
                have henG : en ≤ G' := by rw [txs_take] at hle'; have := HEN.out; omega
                have HTK : Hid (ls.take i = txs (ts.take i)) := by show _ = _; rw [htk, txs_take]
                have HSP : Hid (i < ls.length → ls.getD i Tx.zero ≠ (txs ts).getD i Tx.zero) := hsp
                have hF6 : Fr [kk] w5 (w5.setCell ⟨kk, k, none⟩ (.int .u8 (y : Int))) := Fr.set _ _ _ (by simp)
                have hG6 : Fr [] w (w5.setCell ⟨kk, k, none⟩ (.int .u8 (y : Int))) := (hG4.then hG5).on hF6 (by intro x hx; simp at hx; omega)
                have hrow6 : (w5.setCell ⟨kk, k, none⟩ (.int .u8 (y : Int))).heap[kk]? = some (.cells (bts ((encL (txs ts)).set k y)).toArray 5 (0, 0)) := by
                  rw [row_setCell (j := k) (.int .u8 (y : Int)) hrow5, bts_set]
                  simp
                have hlow : ∀ x ∈ (encL (txs ts)).set k y, x < 256 := fun x hx => by
                  rcases List.mem_or_eq_of_mem_set hx with h | h
                  · exact encL_lt _ x h
                  · omega
                have hA6 := row_arg (N := G) hrow6 (by rw [List.length_set]; exact HG.out) hlow (by omega)
                clear hR hok' hln' hnl htk hle' hsp hN' hG' hlow hrow6 hF6 hrow5 hG5 hG4 hT4
                go_wp2_with fail
                refine (lread_any (some ⟨kk, 0, none⟩) G G c' ((encL (txs ts)).set k y) vs ls _ hA6 (by rw [List.length_set]; have := HG.out; omega) HR.out N' G' HN'.out HGV.out).mono ?_
                rintro e w7 ⟨ro, rc, rfl, ds, hds, hO7, hF7⟩
                have HDS : Hid (txs ds = ls) := hds
                have HLD : Hid (N' = ds.length) := by show _ = _; rw [HN'.out, ← hds, txs_length]
                have hG7 := hG6.then hF7
                have hD7 := hO7.trs (by have := HLD.out; omega)
                have hT7 := hT.keep hG7
                have hrc : N' ≤ rc := own_cap hO7.row HLD.out
                have hirc : i ≤ rc := by omega
                have hicap : i ≤ cap := by omega
                have HS0 : Hid (∀ W, Fr [] w7 W → ∀ rk, Calls Try.prog 10 #[.slice ro i rk, .slice (some ⟨ab, aof, none⟩) i cap] W fun e w' => e = .returned (.bool true) ∧ Fr [] W w') := fun W hf rk =>
                  sameTxns_any ro (some ⟨ab, aof, none⟩) i i rk cap true (ds.take i) (ts.take i) W ((hD7.take i).keep hf) ((hT7.take i).keep hf) (by rw [List.length_take]; have := HLD.out; omega) (by rw [List.length_take]; have := HL.out; omega) ⟨fun _ => by rw [← txs_take, HDS.out]; exact HTK.out, fun _ => rfl⟩
                have g1 : decide ((N' : Int) < (i : Int)) = false := by simp <;> omega
                have g2 : decide ((G' : Int) < (en : Int)) = false := by simp <;> omega
                have g3 : decide ((L : Int) ≤ (i : Int)) = false := by simp <;> omega
                have g4 : decide (N' < i) = false := by simp <;> omega
                have g5 : decide (G' < en) = false := by simp <;> omega
                have g6 : decide (L ≤ i) = false := by simp <;> omega
                clear hds hO7 hF7 hG6 hA6 hcell5 hfz5
                rcases ro with _ | ⟨rb, rof, rsp⟩
                · have hN0 : N' = 0 := by
                    rcases Nat.eq_zero_or_pos N' with h1 | h1
                    · exact h1
                    · obtain ⟨_, _, e1, _⟩ := hD7.lies (by have := HLD.out; omega); cases e1
                  have hi0 : i = 0 := by omega
                  subst hi0
                  have HS1 : Hid (∀ W, Fr [] w7 W → Calls Try.prog 10 #[.slice none 0 rc, .slice (some ⟨ab, aof, none⟩) 0 cap] W fun e w' => e = .returned (.bool true) ∧ Fr [] W w') := fun W hf => HS0.out W hf rc
                  clear HS0
                  subst hN0
                  go_wp2_with fail
                  refine wp_region_wd (w1 := w7) (by kernel_rfl) (by kernel_rfl) (Fr.refl _ _) ?_
                  repeat (go_big_quiet_step (first | (go_at_call 10; with_reducible refine (HS1.out _ (Wd.h _)).mono ?_; exact fun e w3 hh => ⟨hh.1, ⟨_, Fr.then (Wd.h _) hh.2⟩, rfl⟩)))
                  refine wpQuiet_nil ?_
                  rintro _ ⟨x, rfl⟩
                  have hG8 := x.h
                  obtain ⟨w8, hw8⟩ : ∃ w8, w8 = x.W := ⟨_, rfl⟩
                  rw [← hw8] at hG8 ⊢
                  have HG8 : Hid (Fr [] w7 w8) := hG8
                  clear hw8 HS1
                  clear hG8
                  go_wp2_with fail
                  refine wp_region_wd (w1 := w8) (by kernel_rfl) (by kernel_rfl) (Fr.refl _ _) ?_
                  repeat (go_big_quiet_step (fail))
                  refine wpQuiet_nil ?_
                  rintro _ ⟨x2, rfl⟩
                  have hG9 := x2.h
                  obtain ⟨w9, hw9⟩ : ∃ w9, w9 = x2.W := ⟨_, rfl⟩
                  rw [← hw9] at hG9 ⊢
                  have HG9 : Hid (Fr [] w8 w9) := hG9
                  clear hw9 hG9
                  go_wp2_with fail
                  go_ret
                  exact ⟨by simp, hG7.then (HG8.out.then HG9.out)⟩
                · have HS1 : Hid (∀ W, Fr [] w7 W → Calls Try.prog 10 #[.slice (some ⟨rb, rof, rsp⟩) i rc, .slice (some ⟨ab, aof, none⟩) i cap] W fun e w' => e = .returned (.bool true) ∧ Fr [] W w') := fun W hf => HS0.out W hf rc
                  clear HS0
                  go_wp2_with fail
                  refine wp_region_wd (w1 := w7) (by kernel_rfl) (by kernel_rfl) (Fr.refl _ _) ?_
                  repeat (go_big_quiet_step (first | (go_at_call 10; with_reducible refine (HS1.out _ (Wd.h _)).mono ?_; exact fun e w3 hh => ⟨hh.1, ⟨_, Fr.then (Wd.h _) hh.2⟩, rfl⟩)))
                  refine wpQuiet_nil ?_
                  rintro _ ⟨x, rfl⟩
                  have hG8 := x.h
                  obtain ⟨w8, hw8⟩ : ∃ w8, w8 = x.W := ⟨_, rfl⟩
                  rw [← hw8] at hG8 ⊢
                  have HG8 : Hid (Fr [] w7 w8) := hG8
                  clear hw8 HS1
                  by_cases hNi : N' = i
                  · have hnn : ((N' : Int) == (i : Int)) = true := by rw [beq_iff_eq]; omega
                    clear hG8
                    go_wp2_with fail
                    refine wp_region_wd (w1 := w8) (by kernel_rfl) (by kernel_rfl) (Fr.refl _ _) ?_
                    repeat (go_big_quiet_step (fail))
                    refine wpQuiet_nil ?_
                    rintro _ ⟨x2, rfl⟩
                    have hG9 := x2.h
                    obtain ⟨w9, hw9⟩ : ∃ w9, w9 = x2.W := ⟨_, rfl⟩
                    rw [← hw9] at hG9 ⊢
                    have HG9 : Hid (Fr [] w8 w9) := hG9
                    clear hw9 hG9
                    go_wp2_with fail
                    go_ret
                    exact ⟨by simp, hG7.then (HG8.out.then HG9.out)⟩
                  · have hnn : ((N' : Int) == (i : Int)) = false := by rw [beq_eq_false_iff_ne]; omega
                    have hii : i < N' := by omega
                    have hix : i < ds.length := by have := HLD.out; omega
                    have hil : i < ts.length := by have := HL.out; omega
                    obtain ⟨xb, xof, hxe, hxlt, hxc⟩ := hD7.lies (by omega)
                    cases hxe
                    obtain ⟨lb, lof, hle, hllt, hlc⟩ := hT7.lies (by omega)
                    cases hle
                    have hx := hxc i hix
                    have hl := hlc i hil
                    have hax := hD7.each _ (tgetD_mem ds i hix)
                    have hal := hT7.each _ (tgetD_mem ts i hil)
                    have hneq : ¬ ((ds.getD i Tm.zero).tx = (ts.getD i Tm.zero).tx) := by
                      have h1 := HSP.out (by have := HN'.out; omega)
                      rw [← HDS.out, txs_getD, txs_getD] at h1
                      exact h1
                    obtain ⟨tx, htx⟩ : ∃ tx, tx = ds.getD i Tm.zero := ⟨_, rfl⟩
                    obtain ⟨tl, htl⟩ : ∃ tl, tl = ts.getD i Tm.zero := ⟨_, rfl⟩
                    rw [← htx] at hx hax hneq
                    rw [← htl] at hl hal hneq
                    clear htx htl hxc hlc
                    obtain ⟨n1, x1, m1, k1, ws1⟩ := tx
                    obtain ⟨n2, x2, m2, k2, ws2⟩ := tl
                    obtain ⟨c0, c1⟩ := hx
                    obtain ⟨d0, d1⟩ := hl
                    simp only at c0 c1 d0 d1
                    have hax' : TArg w7 n1 x1 m1 k1 ws1 := hax
                    have hal' : TArg w7 n2 x2 m2 k2 ws2 := hal
                    have HS2 : Hid (∀ W, Fr [] w8 W → Calls Try.prog 11 #[.agg #[.int .i64 n1, .slice x1 m1 k1], .agg #[.int .i64 n2, .slice x2 m2 k2]] W fun e w' => e = .returned (.bool false) ∧ Fr [] W w') := fun W hf =>
                      sameTxn_any n1 n2 x1 x2 m1 m2 k1 k2 false ws1 ws2 W (hax'.rs.keep (HG8.out.then hf)) (hal'.rs.keep (HG8.out.then hf)) hax'.len hal'.len ⟨fun h => (by cases h), fun h => absurd (by simp [Tm.tx, h.1, h.2]) hneq⟩
                    have j0 : ∀ x : Wd w8, x.W.cell? ⟨rb, rof + i * 2, none⟩ = some (.int .i64 n1) := fun x => (World.cell?_of_block ((HG8.out.then x.h).block rb hxlt (by simp))).trans c0
                    have j1 : ∀ x : Wd w8, x.W.cell? ⟨rb, rof + i * 2 + 1, none⟩ = some (.slice x1 m1 k1) := fun x => (World.cell?_of_block ((HG8.out.then x.h).block rb hxlt (by simp))).trans c1
                    have j2 : ∀ x : Wd w8, x.W.cell? ⟨ab, aof + i * 2, none⟩ = some (.int .i64 n2) := fun x => (World.cell?_of_block ((HG8.out.then x.h).block ab hllt (by simp))).trans d0
                    have j3 : ∀ x : Wd w8, x.W.cell? ⟨ab, aof + i * 2 + 1, none⟩ = some (.slice x2 m2 k2) := fun x => (World.cell?_of_block ((HG8.out.then x.h).block ab hllt (by simp))).trans d1
                    clear hax hal hax' hal' hneq c0 c1 d0 d1 hxlt hllt hG8 hD7 hT7
                    go_wp2_with fail
                    refine wp_region_wd (w1 := w8) (by kernel_rfl) (by kernel_rfl) (Fr.refl _ _) ?_
                    repeat (go_big_quiet_step (first | (go_at_call 11; with_reducible refine (HS2.out _ (Wd.h _)).mono ?_; exact fun e w3 hh => ⟨hh.1, ⟨_, Fr.then (Wd.h _) hh.2⟩, rfl⟩)))
                    refine wpQuiet_nil ?_
                    rintro _ ⟨x9, rfl⟩
                    have hG9 := x9.h
                    obtain ⟨w9, hw9⟩ : ∃ w9, w9 = x9.W := ⟨_, rfl⟩
                    rw [← hw9] at hG9 ⊢
                    have HG9 : Hid (Fr [] w8 w9) := hG9
                    clear hw9 hG9 j0 j1 j2 j3 HS2
                    go_wp2_with fail
                    go_ret
                    exact ⟨by simp, hG7.then (HG8.out.then HG9.out)⟩
              · have hEk' : ¬ ((k : Int) < E) := by omega
                have hEk2 : (E : Int) ≤ k := by omega
                go_wp2
                go_roundw
                case rel => exact ⟨E, i + 1, rfl, by simp, by omega, by omega, HE.out, hG5⟩
                case measure => simp [intOf]; omega
            · exfalso
              have h1 := HEN.out
              rw [List.take_of_length_le (by rw [← HL.out]; omega), ← HG.out] at h1
              omega
      · have hG0 : G = 0 := by omega
        subst hG0
        obtain rfl := hH4.nil (by have := HG.out; omega)
        clear hH4
        go_wp2_with fail
        refine (lcheck_any ao L cap 0 ts _ hT4 HL.out HBD.out).mono ?_
        rintro e w5 ⟨rfl, hF5⟩
        have hG5 := hG4.then hF5
        clear hF5 hG4 hT4
        go_wp2
        go_ret
        exact ⟨by simp, hG5⟩
    · have hcb : ((c : Int) != 0) = true := by rw [bne_iff_ne]; omega
      have hcc : ((c : Int) == (c : Int)) = true := by simp
      have HC0 : Hid (c ≠ 0) := hc0
      clear hbad hc0
      go_wp2_with fail
      refine (lencode_no ao L cap c ts _ hT3 HL.out HBD.out HC0.out).mono ?_
      rintro e w4 ⟨rfl, hF4⟩
      have hT4 := hT3.keep hF4
      have hG4 := hG3.then hF4
      clear hF4 hG3 hT3
      go_wp2_with fail
      refine (lcheck_any ao L cap c ts _ hT4 HL.out HBD.out).mono ?_
      rintro e w5 ⟨rfl, hF5⟩
      have hG5 := hG4.then hF5
      clear hF5 hG4 hT4
      go_wp2
      go_ret
      exact ⟨by simp, hG5⟩

theorem own : ownKnob Try.prog.godebug = none := by kernel_rfl
theorem laidOut : laidOutB Try.prog = true := by kernel_rfl
set_option maxHeartbeats 4000000 in
set_option maxRecDepth 100000 in
theorem lifted (os : Os) (started : os.Started) (H : Type) (enc : TypeId × Value → H) :
    ReturnsInHanded {} Try.checked os 3 .any (Rows.logfileSpoilsSpec.pre6 enc Try.prog Try.f3 Rows.logfileSpoilsRow.domain false) (Rows.logfileSpoilsSpec.post enc Try.prog Try.f3 false true false false) := by
  refine returnsInHanded_of_change_sized (C := Try.checked) own started (by kernel_rfl) Try.func3
    (ChangeSpec.witness6 (enc := enc) (C := Try.checked) false ⟨#[], #[.slice none 0 0, .int .u32 0, .int .u8 0], []⟩ 8 (by kernel_rfl) (by kernel_rfl) (by kernel_rfl) (by kernel_rfl)) ?_
  intro W base args ds gs before hval0 hW hcnd hsz0 _
  have hval : ∀ (j : Nat) t v, Try.f3.params[j]? = some t → args[j]? = some v → Value.okWide Try.prog W .any base t v := hval0
  have hsz : (DataW.weightsEach Try.prog (Try.f3.params.toList ++ Rows.logfileSpoilsSpec.plain.varTypes Try.prog) (ds ++ gs)).all (· ≤ reachBytes) = true := hsz0
  have hW' := hW
  obtain ⟨p, q, hA0, hV, rfl, hfz, hnd⟩ := hW
  have hA : DataW.TrodAll enc Try.prog W 0 (fun _ => true) true Try.f3.params.toList args.toList ds p := hA0
  rw [Try.params3] at hA hval hsz
  obtain ⟨v0, vs0, d0, ds0, p0, q0, hargs, rfl, rfl, h0, r0⟩ := trodAll_cons hA
  obtain ⟨v1, vs1, d1, ds1, p1, q1, rfl, rfl, rfl, h1, r1⟩ := trodAll_cons r0
  obtain ⟨v2, vs2, d2, ds2, p2, q2, rfl, rfl, rfl, h2, r2⟩ := trodAll_cons r1
  obtain ⟨rfl, rfl, rfl⟩ := trodAll_nil r2
  obtain rfl : args = #[v0, v1, v2] := by cases args; simp_all
  obtain ⟨rfl, rfl⟩ := trodVars_none hV
  have k0 := h0
  have lt0 : ∀ x ∈ p0, x.block < W.heap.size := by obtain ⟨m, hm⟩ := k0; exact DataW.trod_lt m _ _ _ hm
  obtain ⟨a0, len0, cap0, ts0, rfl, hB0, hL0, hC0⟩ : ∃ ao L cap ts, v0 = .slice ao L cap ∧ TRs W ao ts ∧ L = ts.length ∧ L ≤ cap := by
    obtain ⟨fuel, hf⟩ := h0
    obtain ⟨ao, L, cap, rfl⟩ := okWide_slice Try.undTs' (hval 0 22 v0 rfl rfl)
    exact ts_open hf (fun n hn => of_decide_eq_true (List.all_eq_true.1 hsz n (DataW.weights_mem_each (j := 0) (t := 22) rfl rfl n hn)))
  obtain ⟨n1, rfl, rfl, rfl, w1⟩ := open_int Try.underlying23 (hval 1 23 v1 rfl rfl) h1
  have b1 := bounds_u32 w1
  obtain ⟨m1, rfl⟩ : ∃ m : Nat, n1 = (m : Int) := ⟨n1.toNat, by omega⟩
  obtain ⟨n2, rfl, rfl, rfl, w2⟩ := open_int Try.underlying5 (hval 2 5 v2 rfl rfl) h2
  have b2 := bounds_u8 w2
  obtain ⟨m2, rfl⟩ : ∃ m : Nat, n2 = (m : Int) := ⟨n2.toNat, by omega⟩
  clear hA0 hval0
  refine (walk a0 len0 cap0 ts0 m1 (by omega) m2 (by omega) W hB0 hL0 hC0).mono fun e W' ⟨he, hf⟩ => ?_
  subst he
  have bel : Below W.heap.size W W' := hf.below (Nat.le_refl _) (by simp)
  exact ⟨_, rfl, _, _, _, [], _, [], hW', trodAll_mk1 (shut_bool Try.underlying4 _), (trodAll_cons_mk (Below.trod laidOut (by kernel_rfl) (of_decide_eq_true (by kernel_rfl)) k0 bel lt0) (trodAll_cons_mk (shut_int Try.underlying23 w1) (trodAll_cons_mk (shut_int Try.underlying5 w2) trodAll_mk0))), rfl, bel.frame _, fun h => by cases h⟩

theorem over : Rows.logfileSpoilsRow.holds Try.pinned (OpenSpec.ofChange Rows.logfileSpoilsSpec) :=
  OpenClaim.holds_of_wide 3 Try.f3 rfl rfl rfl rfl rfl rfl rfl ⟨rfl, rfl, rfl, rfl, rfl⟩ rfl rfl rfl rfl rfl (by kernel_rfl) Try.func3 (by kernel_rfl)
    (of_decide_eq_true (by kernel_rfl)) (by unfold Func.isWrapper; first | (rw [if_pos (by decide +kernel)]; kernel_rfl) | (rw [if_neg (by decide +kernel)]; exact ⟨rfl, rfl⟩))
    (fun os started H enc _ => lifted os started H enc)
end Go.Proofs.Ytjhnppgkmmhjbab.logfileSpoils
namespace Go.Proofs.Ytjhnppgkmmhjbab
theorem logfilespoils_holds : Rows.LogfileSpoilsSaid := logfileSpoils.over
#print axioms logfilespoils_holds
end Go.Proofs.Ytjhnppgkmmhjbab

/- For every list of transactions and every row of bytes the law DepsChains returns true, and the lists read as they did. No conditions. -/
import Derived.Test.YtdcmjoildfofcaaLc11
import Derived.Test.YtdcmjoildfofcaaTxs
import Derived.Deep.RegionHeld3
namespace Go.Proofs.Ytdcmjoildfofcaa.depsChains
open Go.ChangeShapes Go.WideShapes Go.ChangeAt Go.RowKit Go.Lib Go.Maps
set_option linter.unusedVariables false
set_option linter.unusedSimpArgs false

theorem okL_of (ts : List Tm) : ∀ (i k : Nat), k + i = ts.length → (∀ j, k ≤ j → j < ts.length → okT (ts.getD j Tm.zero).n (ts.getD j Tm.zero).ws ∧ (ts.getD j Tm.zero).n = (j : Int) + 1) → okL (k + 1) (txs (ts.drop k))
  | 0, k, hk, h => by
    rw [List.drop_eq_nil_of_le (by omega)]
    exact trivial
  | i + 1, k, hk, h => by
    have hlt : k < ts.length := by omega
    rw [List.drop_eq_getElem_cons hlt]
    obtain ⟨h1, h2⟩ := h k (Nat.le_refl _) hlt
    have e : ts.getD k Tm.zero = ts[k] := by simp [List.getD, hlt]
    rw [e] at h1 h2
    exact ⟨h1, by show ts[k].n = ((k + 1 : Nat) : Int); rw [h2]; omega, okL_of ts i (k + 1) (by omega) (fun j hj => h j (by omega))⟩
/-- The numbers from 1 on that a test lets by. -/
def FL (q : Int → Bool) (k : Nat) : List Int := ((List.range k).map fun (j : Nat) => (j : Int) + 1).filter q
theorem FL_snoc (q : Int → Bool) (k : Nat) : FL q (k + 1) = if q ((k : Int) + 1) = true then FL q k ++ [(k : Int) + 1] else FL q k := by
  unfold FL
  rw [List.range_succ, List.map_append, List.filter_append]
  by_cases h : q ((k : Int) + 1) = true
  · simp [h]
  · simp [h]
theorem FL_mem (q : Int → Bool) (k : Nat) (x : Int) : x ∈ FL q k ↔ (∃ j : Nat, j < k ∧ x = (j : Int) + 1) ∧ q x = true := by
  unfold FL
  rw [List.mem_filter, List.mem_map]
  constructor
  · rintro ⟨⟨j, hj, rfl⟩, h⟩; exact ⟨⟨j, by simpa using hj, rfl⟩, h⟩
  · rintro ⟨⟨j, hj, rfl⟩, h⟩; exact ⟨⟨j, by simpa using hj, rfl⟩, h⟩
/-- Where one is open one is that waits for none. -/
theorem some_free {L : Lg} {en : Int → Prop} (hr : RisL L) : ∀ (n : Nat) (x : Int), x.toNat ≤ n → Op11 L en x → ∃ y, Op11 L en y ∧ ∀ m, Op11 L en m → ¬ Dep L y m := by
  intro n
  induction n with
  | zero =>
    intro x hx ho
    obtain ⟨⟨p, hp, e⟩, _⟩ := ho
    have := hr.pos p hp
    omega
  | succ n ih =>
    intro x hx ho
    by_cases h : ∀ m, Op11 L en m → ¬ Dep L x m
    · exact ⟨x, ho, h⟩
    · obtain ⟨m, hm⟩ : ∃ m, ¬ (Op11 L en m → ¬ Dep L x m) := Classical.not_forall.1 h
      obtain ⟨h1, h2⟩ : Op11 L en m ∧ Dep L x m := ⟨Classical.byContradiction fun h => hm (fun h' => absurd h' h), Classical.byContradiction fun h => hm (fun _ => h)⟩
      have := h2.lt hr
      exact ih m (by omega) h1
set_option maxHeartbeats 16000000 in
set_option maxRecDepth 100000 in
theorem walk (ao : Option Addr) (L cap : Nat) (ts : List Tm) (bo : Option Addr) (Bn bc : Nat) (bs : List Nat) (w : World) (hT : TRs w ao ts) (hLe : L = ts.length) (hcap : L ≤ cap) (hB : BArg w bo Bn bc bs) (hBn : Bn ≤ 140737488351232) :
    Calls Try.prog 4 #[.slice ao L cap, .slice bo Bn bc] w fun e w' => e = .returned (.bool true) ∧ Fr [] w w' := by
  classical
  have HL : Hid (L = ts.length) := hLe
  have HI : Hid (∀ W, Fr [] w W → TRs W ao ts) := fun W hf => hT.keep hf
  have HBs : Hid (∀ W, Fr [] w W → BArg W bo Bn bc bs) := fun W hf => hB.keep hf
  have hL63 : L ≤ 140737488355328 := by rw [hLe]; exact hT.few
  have HAl : Hid (∀ W, Calls _ _ _ _ _) := fun W => alive11_any W
  clear hLe hT hB
  go_enter Try.func4, Try.ntmps4
  by_cases hbig : 16 < L
  · have hb' : (16 : Int) < L := by omega
    go_wp2_with fail
    refine Calls.mono (HAl.out _) ?_
    rintro e w1 ⟨rfl, hF1⟩
    go_wp2_with fail
    refine Calls.mono (HAl.out _) ?_
    rintro e w2 ⟨rfl, hF2⟩
    have hG := hF1.then hF2
    go_wp2
    go_ret
    exact ⟨rfl, hG⟩
  have hb' : ¬ ((16 : Int) < L) := by omega
  have hL16 : L ≤ 16 := by omega
  clear hbig
  go_wp2_with fail
  refine Calls.mono (HAl.out _) ?_
  rintro e w1 ⟨rfl, hF1⟩
  go_wp2_with fail
  refine (txnsSize11 ao L cap ts _ (HI.out _ hF1) HL.out).mono ?_
  rintro e w2 ⟨N0, rfl, hN0b, hF2⟩
  have hG2 := hF1.then hF2
  clear hF1 hF2
  go_wp2_with fail
  refine (beyond_any w2.heap.size N0 _ (by omega) (by simp)).mono ?_
  rintro e w3 ⟨rfl, rfl⟩
  have hG3 := hG2.then (Fr.alloc [] w2 (.cells #[.int .i64 (N0 : Int)] 3))
  obtain ⟨w3, HW3⟩ : ∃ w3, Hid (w2.alloc (.cells #[.int .i64 (N0 : Int)] 3) = w3) := ⟨_, rfl⟩
  rw [HW3.out] at hG3 ⊢
  clear HW3 hG2
  obtain ⟨Bq, hBq⟩ : ∃ Bq, Bq = decide (1048576 < N0) := ⟨_, rfl⟩
  rw [← hBq]
  clear hBq
  cases Bq with
  | true =>
    go_wp2_with fail
    refine Calls.mono (HAl.out _) ?_
    rintro e w4 ⟨rfl, hF4⟩
    have hG4 := hG3.then hF4
    go_wp2
    go_ret
    exact ⟨rfl, hG4⟩
  | false =>
    clear HAl
    go_wp2_with fail
    refine (tl_new _).mono ?_
    rintro e w4 ⟨tb, B, rfl, hT4, hB4, hF4⟩
    have hG4 := hG3.then hF4
    have HT4 : Hid (Tl w4 tb B 0 [] (fun _ => False)) := hT4
    have HB4 : Hid (∀ j ∈ B, w.heap.size ≤ j) := fun j hj => Nat.le_trans hG3.size (hB4 j hj)
    clear hT4 hB4 hF4 hG3
    go_wp2_with fail
    go_loopw [6] (fun ii wr => ∃ (i : Nat) (B : List Nat), ii = .int .i64 i ∧ i ≤ L ∧ Hid (Tl wr tb B (65 * i) (LT ts i) (fun _ => False)) ∧ Hid (∀ j ∈ B, w.heap.size ≤ j) ∧ Hid (Num ts i ∧ ∀ j, j < i → okT (ts.getD j Tm.zero).n (ts.getD j Tm.zero).ws) ∧ Hid (Fr [] w wr)) (fun ii _ => L - (RowKit.intOf ii).toNat)
    case atStart => exact ⟨0, B, rfl, Nat.zero_le _, HT4.out, HB4.out, ⟨fun j hj => by omega, fun j hj => by omega⟩, hG4⟩
    case round =>
      clear HT4 HB4 hG4
      obtain ⟨i, B, rfl, hiL, HT, HB, HN, HF⟩ := hrel
      obtain ⟨wo, hwo⟩ : ∃ wo, wo = wr := ⟨_, rfl⟩
      subst hwo
      by_cases hi : i < L
      · have hi' : i < ts.length := by rw [← HL.out]; exact hi
        obtain ⟨ab, aof, rfl, _, hcs⟩ := (HI.out _ HF.out).lies (by omega)
        have hat := (HI.out _ HF.out).each _ (tgetD_mem ts i hi')
        have HC : Hid (∀ W, Fr [] w W → TAt W ab (aof + i * 2) (ts.getD i Tm.zero)) := fun W hf => by
          obtain ⟨b2, o2, e2, _, hc2⟩ := (HI.out W hf).lies (by omega)
          cases e2
          exact hc2 i hi'
        have HAt : Hid (∀ W, Fr [] w W → (ts.getD i Tm.zero).at W) := fun W hf => (HI.out W hf).each _ (tgetD_mem ts i hi')
        have HSn : Hid (LT ts (i + 1) = LT ts i ++ [((ts.getD i Tm.zero).n, keysW (ts.getD i Tm.zero).ws)]) := LT_snoc ts i hi'
        have HNs : Hid ((ts.getD i Tm.zero).n = (i : Int) + 1 → okT (ts.getD i Tm.zero).n (ts.getD i Tm.zero).ws → Num ts (i + 1) ∧ ∀ j, j < i + 1 → okT (ts.getD j Tm.zero).n (ts.getD j Tm.zero).ws) := fun h h2 => ⟨HN.out.1.snoc h, fun j hj => by
          by_cases e : j = i
          · rw [e]; exact h2
          · exact HN.out.2 j (by omega)⟩
        obtain ⟨x, hxx⟩ : ∃ x, x = ts.getD i Tm.zero := ⟨_, rfl⟩
        rw [← hxx] at HC HAt HSn HNs hat
        clear hxx hcs
        obtain ⟨nn, xo, M, cm, ws⟩ := x
        simp only at HSn HNs
        have hnb := hat.bounds
        simp only at hnb
        obtain ⟨c0, c1⟩ := HC.out _ HF.out
        simp only at c0 c1
        by_cases hok : okT nn ws
        · have HOK : Hid (okT nn ws) := hok
          go_wp2_with fail
          refine (check_any nn xo M cm 0 ws _ hat.rs hat.len hnb.1 hnb.2 (Or.inl ⟨hok, rfl⟩)).mono ?_
          rintro e w5 ⟨rfl, hF5⟩
          have hG5 := HF.out.then hF5
          obtain ⟨d0, d1⟩ := HC.out _ hG5
          simp only at d0 d1
          by_cases hni : nn = (i : Int) + 1
          · have hneq : (nn != (i : Int) + 1) = false := by rw [hni]; simp
            have HNi : Hid (nn = (i : Int) + 1) := hni
            have hatv : TArg w5 nn xo M cm ws := HAt.out _ hG5
            have hat0 : TArg w nn xo M cm ws := HAt.out w (Fr.refl _ _)
            have hWB : 0 < ws.length → ∀ a, xo = some a → a.block ∉ B := fun h0 a ha hm => by
              obtain ⟨b2, o2, e2, hb2, _⟩ := hat0.rs.lies h0
              rw [e2] at ha
              cases ha
              have := HB.out _ hm
              simp only at this
              omega
            have HAd : Hid (Calls _ _ _ _ _) := tl_add nn xo M cm ws w5 (HT.out.quiet hF5) hatv.rs hatv.len HOK.out (fun p hp => by rw [HNi.out]; exact LT_lt ts i (by omega) HN.out.1 p hp) (by omega) hWB
            clear hni hok c0 c1 hat hatv hat0 hWB
            go_wp2_with fail
            refine Calls.mono HAd.out ?_
            rintro e w8 ⟨xs, B', rfl, hAd, hT8, hB8, hF8⟩
            rw [← HSn.out] at hT8
            have hG8 : Fr [] w w8 := hG5.on hF8 HB.out
            have HB8 : Hid (∀ j ∈ B', w.heap.size ≤ j) := fun j hj => by
              rcases hB8 j hj with h1 | h1
              · exact HB.out j h1
              · exact Nat.le_trans hG5.size h1
            have HT8 : Hid (Tl w8 tb B' (65 * (i + 1)) (LT ts (i + 1)) (fun _ => False)) := hT8
            clear hT8 hB8 hF8 hAd HAd d0 d1
            go_wp2
            go_roundw
            case rel => exact ⟨i + 1, B', by simp, by omega, HT8.out, HB8.out, HNs.out HNi.out HOK.out, hG8⟩
            case measure => simp [RowKit.intOf]; omega
          · have hneq : (nn != (i : Int) + 1) = true := by simpa using hni
            clear hni
            go_wp2
            go_ret
            exact ⟨rfl, hG5⟩
        · go_wp2_with fail
          refine (check_any nn xo M cm 1 ws _ hat.rs hat.len hnb.1 hnb.2 (Or.inr ⟨hok, rfl⟩)).mono ?_
          rintro e w5 ⟨rfl, hF5⟩
          have hG5 := HF.out.then hF5
          go_wp2
          go_ret
          exact ⟨rfl, hG5⟩
      · obtain rfl : L = i := by omega
        have HN2 : Hid (Num ts ts.length) := by show Num _ _; rw [← HL.out]; exact HN.out.1
        have HOL : Hid (okL 1 (txs ts)) := by
          have := okL_of ts ts.length 0 (by omega) (fun j _ hj => ⟨HN.out.2 j (by rw [HL.out]; exact hj), HN.out.1 j (by rw [HL.out]; exact hj)⟩)
          show okL _ _
          simpa using this
        have HT0 : Hid (Tl wo tb B (65 * L) (LT ts ts.length) (fun _ => False)) := by show Tl _ _ _ _ _ _; rw [← HL.out]; exact HT.out
        clear HT HN
        obtain ⟨iB, hiB, hzB, hszB, hbB⟩ := info_parts Try.infoBl
        go_wp2_with (at_make; refine wpList_make_full _ rfl (.tmp 73) (.tmp 73) 34 rfl 0 4 iB _ 1 Try.undBools hiB hzB hszB .i64 .i64 ((L : Int) + 1) ((L : Int) + 1) (L + 1) rfl rfl (by omega) (by omega) ?b2 ?b3 ?b4 ?_)
        case b2 => rw [hbB]; omega
        case b3 => unfold maxLen; omega
        case b4 => exact Nat.zero_le _
        intro wd hown hgrow
        rw [made_bools] at hown
        have hrow : BR wd wo.heap.size (List.replicate (L + 1) false) := bools_full hown
        have hFd : Fr [] wo wd := Fr.grown (S := []) hgrow (by simp)
        obtain ⟨g, hg⟩ : ∃ g, g = wo.heap.size := ⟨_, rfl⟩
        rw [← hg] at hrow ⊢
        have hgB : g ∉ B := fun h => by have := HT0.out.mine _ h; omega
        have hgw : w.heap.size ≤ g := by rw [hg]; exact HF.out.size
        have HR0 : Hid (BR wd g (List.replicate (L + 1) false)) := hrow
        have HGB : Hid (g ∉ B) := hgB
        have HTd : Hid (Tl wd tb B (65 * L) (LT ts ts.length) (enR (List.replicate (L + 1) false))) := by
          have h1 := HT0.out.quiet hFd
          have e : enR (List.replicate (L + 1) false) = fun _ => False := by
            funext x
            apply propext
            constructor
            · rintro ⟨j, _, h⟩
              simp only [List.getD_eq_getElem?_getD, List.getElem?_replicate] at h
              split at h <;> cases h
            · exact fun h => h.elim
          show Tl _ _ _ _ _ _
          rw [e]
          exact h1
        have hGd := HF.out.then hFd
        clear hown hgrow hrow hFd hg hgB HT0 HF
        go_wp2_with fail
        go_loopw [10] (fun ii wr => ∃ (s : Nat) (rs : List Bool), ii = .int .i64 s ∧ s ≤ L ∧ Hid (Tl wr tb B (65 * L) (LT ts ts.length) (enR rs)) ∧ Hid (BR wr g rs) ∧ Hid (rs.length = L + 1 ∧ rs.getD 0 false = false ∧ cnt rs = s) ∧ Hid (Fr [] w wr)) (fun ii _ => L - (RowKit.intOf ii).toNat)
        case atStart => exact ⟨0, List.replicate (L + 1) false, rfl, Nat.zero_le _, HTd.out, HR0.out, ⟨by simp, by simp [List.getD_eq_getElem?_getD], cnt_rep _⟩, hGd⟩
        case round =>
          clear HTd HR0 hGd
          obtain ⟨s, rs, rfl, hsL, HTs, HRs, HRl, HFs⟩ := hrel
          obtain ⟨wt, hwt⟩ : ∃ wt, wt = wr := ⟨_, rfl⟩
          subst hwt
          by_cases hs : s < L
          · obtain ⟨q, hq⟩ : ∃ q : Int → Bool, ∀ x, q x = decide (Op11 (LT ts ts.length) (enR rs) x ∧ ∀ m, Op11 (LT ts ts.length) (enR rs) m → ¬ Dep (LT ts ts.length) x m) := ⟨fun x => decide _, fun _ => rfl⟩
            have HQ : Hid (∀ x, q x = true ↔ Op11 (LT ts ts.length) (enR rs) x ∧ ∀ m, Op11 (LT ts ts.length) (enR rs) m → ¬ Dep (LT ts ts.length) x m) := fun x => by rw [hq]; simp
            have HOp : Hid (∀ n : Nat, 1 ≤ n → n ≤ L → rs.getD n false = false → Op11 (LT ts ts.length) (enR rs) (n : Int)) := fun n h1 h2 h3 => ⟨(LT_num ts _ (Nat.le_refl _) HN2.out _).2 ⟨n - 1, by rw [← HL.out]; omega, by omega⟩, fun he => by rw [(enR_nat rs n).1 he] at h3; cases h3⟩
            clear hq
            go_wp2_with fail
            go_loopw [11, 12] (fun ll ii wr => ∃ (n : Nat) (so : Option Addr) (N c : Nat), ii = .int .i64 ((n : Int) + 1) ∧ n ≤ L ∧ ll = .slice so N c ∧ N ≤ n ∧ Hid (IOw wt.heap.size wr so N c (FL q n)) ∧ Hid (Fr [] wt wr)) (fun _ ii _ => L + 1 - (RowKit.intOf ii).toNat)
            case atStart => exact ⟨0, none, 0, 0, rfl, Nat.zero_le _, rfl, Nat.le_refl _, IOw.nil _ _, Fr.refl _ _⟩
            case round =>
              obtain ⟨n, so, N, c, rfl, hnL, rfl, hNn, HOf, HFf⟩ := hrel
              obtain ⟨wu, hwu⟩ : ∃ wu, wu = wr := ⟨_, rfl⟩
              subst hwu
              by_cases hn : n < L
              · have hRu := HRs.out.keep HFf.out (by simp)
                have HRu : Hid (∀ W, Fr [] wu W → ∀ j, j < L + 1 → W.cell? ⟨g, j, none⟩ = some (.bool (rs.getD j false))) := fun W hf j hj => (hRu.keep hf (by simp)).cell j (by rw [HRl.out.1]; exact hj)
                have hcn := HRu.out wu (Fr.refl _ _) (n + 1) (by omega)
                obtain ⟨b, hb⟩ : ∃ b, b = rs.getD (n + 1) false := ⟨_, rfl⟩
                rw [← hb] at hcn
                have HBn1 : Hid (b = rs.getD (n + 1) false) := hb
                have HSn : Hid (FL q (n + 1) = if q ((n : Int) + 1) = true then FL q n ++ [(n : Int) + 1] else FL q n) := FL_snoc q n
                have HCast : Hid ((((n : Int) + 1)) = (((n + 1 : Nat)) : Int)) := by show ((n : Int) + 1) = _; omega
                clear hb hRu
                cases b with
                | true =>
                  have hqf : q ((n : Int) + 1) = false := by
                    cases hh : q ((n : Int) + 1) with
                    | false => rfl
                    | true =>
                      have := ((HQ.out _).1 hh).1.2
                      exact absurd ((enR_nat rs (n + 1)).2 HBn1.out.symm) (by rw [← HCast.out]; exact this)
                  rw [hqf, if_neg (by simp)] at HSn
                  have hn1 : n + 1 < L + 1 := by omega
                  clear hqf
                  go_wp2
                  go_roundw
                  case rel => exact ⟨n + 1, so, N, c, by simp, by omega, rfl, by omega, (by rw [HSn.out]; exact HOf.out), HFf.out⟩
                  case measure => simp [RowKit.intOf]; omega
                | false =>
                  have HOn : Hid (Op11 (LT ts ts.length) (enR rs) ((n : Int) + 1)) := by
                    show Op11 _ _ _
                    rw [HCast.out]
                    exact HOp.out (n + 1) (by omega) (by omega) HBn1.out.symm
                  have HIf : Hid ((∃ i : Nat, 1 ≤ i ∧ i < n + 1 ∧ ¬ enR rs (i : Int) ∧ Rch (txs ts) i (n + 1)) ↔ ∃ m, Op11 (LT ts ts.length) (enR rs) m ∧ Dep (LT ts ts.length) ((n : Int) + 1) m) := by
                    have := chain_iff ts HN2.out HTs.out.ris HTs.out.order (n := n + 1) (by omega) (by rw [← HL.out]; omega) (by rw [← HCast.out]; exact HOn.out.2)
                    rw [← HCast.out] at this
                    exact this
                  have hn1 : n + 1 < L + 1 := by omega
                  have hle1 : decide ((n : Int) + 1 ≤ (L : Int)) = true := by simp; omega
                  go_wp2_with fail
                  clear hle1
                  go_loopw [13, 14] (fun cc ii wr => ∃ (cb : Bool) (i : Nat), cc = .bool cb ∧ ii = .int .i64 ((i : Int) + 1) ∧ i ≤ n ∧ Hid (cb = true ↔ ∃ i' : Nat, 1 ≤ i' ∧ i' < i + 1 ∧ ¬ enR rs (i' : Int) ∧ Rch (txs ts) i' (n + 1)) ∧ Hid (Fr [] wu wr)) (fun _ ii _ => n + 1 - (RowKit.intOf ii).toNat)
                  case atStart => exact ⟨false, 0, rfl, rfl, Nat.zero_le _, ⟨fun h => (by cases h), fun ⟨i', h1, h2, _⟩ => (by omega)⟩, Fr.refl _ _⟩
                  case round =>
                    obtain ⟨cb, i, rfl, rfl, hin, HCb, HFi⟩ := hrel
                    by_cases hgo : i < n ∧ cb = false
                    · obtain ⟨hi, rfl⟩ := hgo
                      have hlt : ((i : Int) + 1) < (n : Int) + 1 := by omega
                      have hce := HRu.out wr HFi.out (i + 1) (by omega)
                      obtain ⟨b, hb⟩ : ∃ b, b = rs.getD (i + 1) false := ⟨_, rfl⟩
                      rw [← hb] at hce
                      have HBi1 : Hid (b = rs.getD (i + 1) false) := hb
                      have hi1 : i + 1 < L + 1 := by omega
                      clear hb
                      cases b with
                      | true =>
                        have HC2 : Hid (false = true ↔ ∃ i' : Nat, 1 ≤ i' ∧ i' < i + 1 + 1 ∧ ¬ enR rs (i' : Int) ∧ Rch (txs ts) i' (n + 1)) := by
                          refine ⟨fun h => (by cases h), fun ⟨i', h1, h2, h3, h4⟩ => ?_⟩
                          by_cases e : i' = i + 1
                          · exact absurd ((enR_nat rs (i + 1)).2 HBi1.out.symm) (by rw [← e]; exact h3)
                          · exact HCb.out.2 ⟨i', h1, by omega, h3, h4⟩
                        go_wp2
                        go_roundw
                        case rel => exact ⟨false, i + 1, rfl, by simp, by omega, HC2.out, HFi.out⟩
                        case measure => simp [RowKit.intOf]; omega
                      | false =>
                        obtain ⟨R, HRr⟩ : ∃ R : Bool, Hid (R = true ↔ Rch (txs ts) (i + 1) (n + 1)) := ⟨decide (Rch (txs ts) (i + 1) (n + 1)), by show _ ↔ _; simp⟩
                        have hGi : Fr [] w wr := (HFs.out.then HFf.out).then HFi.out
                        have HCh : Hid (Calls _ _ _ _ _) := fChained_any ao L cap ((i : Int) + 1) ((n : Int) + 1) 0 R ts wr (HI.out _ hGi) HL.out hcap (by omega) (by omega) (by omega) (by omega) (Or.inr (Or.inr ⟨HOL.out, ⟨by omega, by omega, by rw [txs_length, ← HL.out]; omega⟩, rfl, by
                          rw [show ((i : Int) + 1).toNat = i + 1 from by omega, show ((n : Int) + 1).toNat = n + 1 from by omega]
                          exact HRr.out⟩))
                        have HC2 : Hid (R = true ↔ ∃ i' : Nat, 1 ≤ i' ∧ i' < i + 1 + 1 ∧ ¬ enR rs (i' : Int) ∧ Rch (txs ts) i' (n + 1)) := by
                          constructor
                          · intro h
                            refine ⟨i + 1, by omega, by omega, fun he => ?_, HRr.out.1 h⟩
                            have := (enR_nat rs (i + 1)).1 he
                            rw [← HBi1.out] at this
                            cases this
                          · rintro ⟨i', h1, h2, h3, h4⟩
                            by_cases e : i' = i + 1
                            · rw [e] at h4; exact HRr.out.2 h4
                            · have := HCb.out.2 ⟨i', h1, by omega, h3, h4⟩; cases this
                        go_wp2_with fail
                        refine Calls.mono HCh.out ?_
                        rintro e wx ⟨rfl, hFx⟩
                        rw [show ((0 : Nat) : Int) = 0 from rfl]
                        go_wp2
                        go_roundw
                        case rel => exact ⟨R, i + 1, rfl, by simp, by omega, HC2.out, HFi.out.then hFx⟩
                        case measure => simp [RowKit.intOf]; omega
                    · have HCb2 : Hid (cb = true ↔ ∃ m, Op11 (LT ts ts.length) (enR rs) m ∧ Dep (LT ts ts.length) ((n : Int) + 1) m) := by
                        show _ ↔ _
                        rw [← HIf.out]
                        constructor
                        · intro h
                          obtain ⟨i', h1, h2, h3⟩ := HCb.out.1 h
                          exact ⟨i', h1, by omega, h3⟩
                        · rintro ⟨i', h1, h2, h3⟩
                          cases hcb : cb with
                          | true => rfl
                          | false =>
                            have : ¬ i < n := fun h => hgo ⟨h, hcb⟩
                            have := HCb.out.2 ⟨i', h1, by omega, h3⟩
                            rw [hcb] at this
                            exact this
                      have HWt : Hid (Calls _ _ _ _ _) := tl_waits ((n : Int) + 1) wr (HTs.out.quiet (HFf.out.then HFi.out)) HOn.out
                      cases cb with
                      | true =>
                        have hlt2 : (¬ ((i : Int) + 1 < (n : Int) + 1)) ∨ ((i : Int) + 1 < (n : Int) + 1) := by omega
                        obtain ⟨m0, hm0⟩ := HCb2.out.1 rfl
                        have HM0 : Hid (Op11 (LT ts ts.length) (enR rs) m0 ∧ Dep (LT ts ts.length) ((n : Int) + 1) m0) := hm0
                        have hqf : q ((n : Int) + 1) = false := by
                          cases hh : q ((n : Int) + 1) with
                          | false => rfl
                          | true => exact absurd hm0.2 (((HQ.out _).1 hh).2 m0 hm0.1)
                        rw [hqf, if_neg (by simp)] at HSn
                        clear hgo HCb HIf hqf hm0 HCb2
                        rcases hlt2 with hlt2 | hlt2
                        all_goals (
                          go_wp2_with fail
                          refine Calls.mono HWt.out ?_
                          rintro e wx ⟨yo, Y, yc, ys, rfl, hOy, hWy, hFx⟩
                          have hY : 0 < Y := by rw [hOy.len]; exact List.length_pos_of_mem ((hWy.2 m0).2 HM0.out)
                          have hY' : (0 : Int) < Y := by omega
                          have HF2 : Hid (Fr [] wu wx) := HFi.out.then hFx
                          clear hOy hWy hFx
                          go_wp2
                          go_roundw
                          case rel => exact ⟨n + 1, so, N, c, by simp, by omega, rfl, by omega, (by rw [HSn.out]; exact HOf.out.keep HF2.out), HFf.out.then HF2.out⟩
                          case measure => simp [RowKit.intOf]; omega)
                      | false =>
                        have hlt2 : ¬ ((i : Int) + 1 < (n : Int) + 1) := by
                          intro h
                          exact hgo ⟨by omega, rfl⟩
                        have hnone : ∀ m, Op11 (LT ts ts.length) (enR rs) m → ¬ Dep (LT ts ts.length) ((n : Int) + 1) m := fun m h1 h2 => by have := HCb2.out.2 ⟨m, h1, h2⟩; cases this
                        have HNone : Hid (∀ m, Op11 (LT ts ts.length) (enR rs) m → ¬ Dep (LT ts ts.length) ((n : Int) + 1) m) := hnone
                        have hqt : q ((n : Int) + 1) = true := (HQ.out _).2 ⟨HOn.out, hnone⟩
                        rw [hqt, if_pos rfl] at HSn
                        clear hgo HCb HIf hqt hnone HCb2
                        go_wp2_with fail
                        refine Calls.mono HWt.out ?_
                        rintro e wx ⟨yo, Y, yc, ys, rfl, hOy, hWy, hFx⟩
                        have hY : Y = 0 := by
                          rw [hOy.len, List.length_eq_zero_iff]
                          exact List.eq_nil_iff_forall_not_mem.2 (fun m hm => by have := (hWy.2 m).1 hm; exact HNone.out m this.1 this.2)
                        subst hY
                        have hF2 : Fr [] wu wx := HFi.out.then hFx
                        have HO2 : Hid (∀ W, Fr [] wx W → IOw wt.heap.size W so N c (FL q n)) := fun W hf => HOf.out.keep (hF2.then hf)
                        have HB2 : Hid (∀ W W', Fr [] wx W → Fr (Value.slice so N c).ownBlock.toList W W' → Fr [] wt W') := fun W W' h1 h2 => HOf.out.on (Nat.le_refl _) HFf.out (hF2.then h1) h2
                        have hsz : wt.heap.size ≤ wx.heap.size := Nat.le_trans HFf.out.size hF2.size
                        clear hOy hWy hFx
                        go_wp2_with (first
                          | (at_builtin; refine wpList_appI wt.heap.size _ rfl _ _ rfl so N c _ rfl (HO2.out _ (Fr.alloc [] _ _)) _ _ ((n : Int) + 1) rfl ?hcell (by omega) ?hsize ?_
                             case hcell => exact cell_new1 _ _ _
                             case hsize => simp; omega
                             intro o' c' w9 hO9 hF9 _
                             have HR9 : Hid (_ ∧ _) := ⟨hO9, HB2.out _ _ (Fr.alloc [] _ _) hF9⟩
                             clear hO9 hF9
                             go_frame)
                          | fail)
                        go_roundw
                        case rel => exact ⟨n + 1, o', N + 1, c', by simp, by omega, rfl, by omega, (by rw [HSn.out]; exact HR9.out.1), HR9.out.2⟩
                        case measure => simp [RowKit.intOf]; omega
              · obtain rfl : L = n := by omega
                have hnL2 : ¬ ((L : Int) + 1 ≤ L) := by omega
                have hTu := HTs.out.quiet HFf.out
                have hNpos : 0 < N := by
                  rw [HOf.out.len]
                  obtain ⟨j, h1, h2, h3⟩ := cnt_open rs L HRl.out.1 HRl.out.2.1 (by rw [HRl.out.2.2]; exact hs)
                  obtain ⟨y, hy1, hy2⟩ := some_free hTu.ris _ _ (Nat.le_refl _) (HOp.out j h1 h2 h3)
                  refine List.length_pos_of_mem ((FL_mem q L y).2 ⟨?_, (HQ.out y).2 ⟨hy1, hy2⟩⟩)
                  obtain ⟨k, hk, e⟩ := (LT_num ts _ (Nat.le_refl _) HN2.out y).1 hy1.1
                  exact ⟨k, by rw [HL.out]; exact hk, e⟩
                have hN0 : ((N : Int) == 0) = false := by simp; omega
                obtain ⟨fg, rfl, _, _, hfc⟩ := HOf.out.cells hNpos
                have HFc : Hid (∀ j, j < N → ∃ k : Nat, 1 ≤ k ∧ k ≤ L ∧ wu.cell? ⟨fg, j, none⟩ = some (.int .i64 (k : Int)) ∧ Op11 (LT ts ts.length) (enR rs) (k : Int) ∧ ∀ m, Op11 (LT ts ts.length) (enR rs) m → ¬ Dep (LT ts ts.length) (k : Int) m) := fun j hj => by
                  have hm := igetD_mem (FL q L) j (by rw [← HOf.out.len]; exact hj)
                  obtain ⟨⟨k, hk, e⟩, hqk⟩ := (FL_mem q L _).1 hm
                  have e2 : (FL q L).getD j 0 = ((k + 1 : Nat) : Int) := by rw [e]; omega
                  refine ⟨k + 1, by omega, by omega, by rw [hfc j hj, e2], ?_⟩
                  rw [← e2]
                  exact (HQ.out _).1 hqk
                have HTu : Hid (Tl wu tb B (65 * L) (LT ts ts.length) (enR rs)) := hTu
                have HRu : Hid (BR wu g rs) := HRs.out.keep HFf.out (by simp)
                have hGu : Fr [] w wu := HFs.out.then HFf.out
                have HPk : Hid (∃ pv : Nat, pv < 256 ∧ ((s < Bn ∧ ∃ bb bof, bo = some ⟨bb, bof, none⟩ ∧ wu.cell? ⟨bb, bof + s, none⟩ = some (.int .u8 (pv : Int))) ∨ (¬ s < Bn ∧ pv = 0))) := by
                  by_cases hsb : s < Bn
                  · have hb := HBs.out _ hGu
                    obtain ⟨bb, bof, e, _, hc⟩ := hb.lies (by omega)
                    have hs2 : s < bs.length := by rw [← hb.len]; exact hsb
                    exact ⟨bs.getD s 0, hb.low _ (by simp [List.getD, hs2]), Or.inl ⟨hsb, bb, bof, e, hc s hsb⟩⟩
                  · exact ⟨0, by omega, Or.inr ⟨hsb, rfl⟩⟩
                clear hfc hTu HOp HQ HOf HTs HRs
                obtain ⟨pv, hpv, hpk⟩ := HPk.out
                obtain ⟨d, hd⟩ : ∃ d, d = pv % N := ⟨_, rfl⟩
                have hdN : d < N := by rw [hd]; exact Nat.mod_lt _ hNpos
                obtain ⟨k, hk1, hkL, hck, hko, hkf⟩ := HFc.out d hdN
                have HDo : Hid (Calls _ _ _ _ _) := tl_done (k : Int) wu HTu.out hko hkf
                have HKo : Hid (Op11 (LT ts ts.length) (enR rs) (k : Int)) := hko
                have HD : Hid (d = pv % N) := hd
                clear hd hko hkf HFc HPk
                have hmod : (pv : Int) % (N : Int) = (d : Int) := by rw [HD.out]; omega
                have hmod2 : Int.tmod (pv : Int) (N : Int) = (d : Int) := by rw [HD.out, Int.tmod_eq_emod_of_nonneg (by omega)]; omega
                have hNi : (N : Int) ≠ 0 := by omega
                have HEn : Hid (rs.getD k false = false) := by
                  cases hh : rs.getD k false with
                  | false => rfl
                  | true => exact absurd ((enR_nat rs k).2 hh) HKo.out.2
                rcases hpk with ⟨hsb, bb, bof, rfl, hcb⟩ | ⟨hsb, rfl⟩
                · have hsb' : (s : Int) < Bn := by omega
                  go_wp2_with fail
                  refine Calls.mono HDo.out ?_
                  rintro e wx ⟨zo, Z, zc, zs, rfl, hOz, hDz, hTz, hFz⟩
                  have hGx : Fr [] w wx := hGu.on hFz HB.out
                  have hRx := HRu.out.keep hFz HGB.out
                  have hcg := hRx.cell k (by rw [HRl.out.1]; omega)
                  have hfg := hRx.free k
                  have hFs := Fr.set (S := [g]) wx ⟨g, k, none⟩ (.bool true) (by simp)
                  have hkl : k < rs.length := by rw [HRl.out.1]; omega
                  have HNx : Hid (Tl (wx.setCell ⟨g, k, none⟩ (.bool true)) tb B (65 * L) (LT ts ts.length) (enR (rs.set k true)) ∧ BR (wx.setCell ⟨g, k, none⟩ (.bool true)) g (rs.set k true) ∧ ((rs.set k true).length = L + 1 ∧ (rs.set k true).getD 0 false = false ∧ cnt (rs.set k true) = s + 1) ∧ Fr [] w (wx.setCell ⟨g, k, none⟩ (.bool true))) := by
                    refine ⟨?_, hRx.put k true, ⟨by rw [List.length_set]; exact HRl.out.1, ?_, by rw [cnt_set rs k hkl HEn.out, HRl.out.2.2]⟩, hGx.on hFs (by simpa using hgw)⟩
                    · rw [enR_set rs k hkl]
                      exact hTz.keep hFs (fun j hj => by simpa using fun e => HGB.out (by rw [← e]; exact hj))
                    · cases h5 : (rs.set k true).getD 0 false with
                      | false => rfl
                      | true =>
                        rcases (set_getD rs k 0 hkl).1 h5 with h6 | h6
                        · rw [HRl.out.2.1] at h6; cases h6
                        · omega
                  have hk1L : k < L + 1 := by omega
                  clear hOz hDz hTz hFz hRx hFs hkl HDo
                  go_wp2
                  go_roundw
                  case rel => exact ⟨s + 1, rs.set k true, by simp, by omega, HNx.out.1, HNx.out.2.1, HNx.out.2.2.1, HNx.out.2.2.2⟩
                  case measure => simp [RowKit.intOf]; omega
                · have hsb' : ¬ ((s : Int) < Bn) := by omega
                  obtain rfl : d = 0 := by rw [HD.out]; exact Nat.zero_mod _
                  clear hmod hmod2
                  go_wp2_with fail
                  refine Calls.mono HDo.out ?_
                  rintro e wx ⟨zo, Z, zc, zs, rfl, hOz, hDz, hTz, hFz⟩
                  have hGx : Fr [] w wx := hGu.on hFz HB.out
                  have hRx := HRu.out.keep hFz HGB.out
                  have hcg := hRx.cell k (by rw [HRl.out.1]; omega)
                  have hfg := hRx.free k
                  have hFs := Fr.set (S := [g]) wx ⟨g, k, none⟩ (.bool true) (by simp)
                  have hkl : k < rs.length := by rw [HRl.out.1]; omega
                  have HNx : Hid (Tl (wx.setCell ⟨g, k, none⟩ (.bool true)) tb B (65 * L) (LT ts ts.length) (enR (rs.set k true)) ∧ BR (wx.setCell ⟨g, k, none⟩ (.bool true)) g (rs.set k true) ∧ ((rs.set k true).length = L + 1 ∧ (rs.set k true).getD 0 false = false ∧ cnt (rs.set k true) = s + 1) ∧ Fr [] w (wx.setCell ⟨g, k, none⟩ (.bool true))) := by
                    refine ⟨?_, hRx.put k true, ⟨by rw [List.length_set]; exact HRl.out.1, ?_, by rw [cnt_set rs k hkl HEn.out, HRl.out.2.2]⟩, hGx.on hFs (by simpa using hgw)⟩
                    · rw [enR_set rs k hkl]
                      exact hTz.keep hFs (fun j hj => by simpa using fun e => HGB.out (by rw [← e]; exact hj))
                    · cases h5 : (rs.set k true).getD 0 false with
                      | false => rfl
                      | true =>
                        rcases (set_getD rs k 0 hkl).1 h5 with h6 | h6
                        · rw [HRl.out.2.1] at h6; cases h6
                        · omega
                  have hk1L : k < L + 1 := by omega
                  clear hOz hDz hTz hFz hRx hFs hkl HDo
                  go_wp2
                  go_roundw
                  case rel => exact ⟨s + 1, rs.set k true, by simp, by omega, HNx.out.1, HNx.out.2.1, HNx.out.2.2.1, HNx.out.2.2.2⟩
                  case measure => simp [RowKit.intOf]; omega
          · obtain rfl : L = s := by omega
            have hall := cnt_done rs L HRl.out.1 HRl.out.2.1 HRl.out.2.2
            have HNo : Hid (∀ x, ¬ Op11 (LT ts ts.length) (enR rs) x) := fun x hx => by
              obtain ⟨k, hk, rfl⟩ := (LT_num ts _ (Nat.le_refl _) HN2.out x).1 hx.1
              have h1 := hall (k + 1) (by omega) (by rw [HL.out]; omega)
              refine hx.2 ⟨k + 1, by omega, h1⟩
            have HOp : Hid (Calls _ _ _ _ _) := tl_open wt HTs.out (by omega)
            clear hall
            go_wp2_with fail
            refine Calls.mono HOp.out ?_
            rintro e wx ⟨oo, O, oc, os, rfl, hOo, hRo, hMo, hFx⟩
            have hO0 : O = 0 := by
              rw [hOo.len, List.length_eq_zero_iff]
              exact List.eq_nil_iff_forall_not_mem.2 (fun x hx => HNo.out x ((hMo x).1 hx))
            subst hO0
            have hGx := HFs.out.then hFx
            clear hOo hRo hMo
            go_wp2
            go_ret
            exact ⟨rfl, hGx⟩

theorem own : ownKnob Try.prog.godebug = none := by kernel_rfl
theorem laidOut : laidOutB Try.prog = true := by kernel_rfl
set_option maxHeartbeats 4000000 in
set_option maxRecDepth 100000 in
theorem lifted (os : Os) (started : os.Started) (H : Type) (enc : TypeId × Value → H) :
    ReturnsInHanded {} Try.checked os 4 .any (Rows.depsChainsSpec.pre6 enc Try.prog Try.f4 Rows.depsChainsRow.domain false) (Rows.depsChainsSpec.post enc Try.prog Try.f4 false true false false) := by
  refine returnsInHanded_of_change_sized (C := Try.checked) own started (by kernel_rfl) Try.func4
    (ChangeSpec.witness6 (enc := enc) (C := Try.checked) false ⟨#[], #[.slice none 0 0, .slice none 0 0], []⟩ 8 (by kernel_rfl) (by kernel_rfl) (by kernel_rfl) (by kernel_rfl)) ?_
  intro W base args ds gs before hval0 hW hcnd hsz0 _
  have hval : ∀ (j : Nat) t v, Try.f4.params[j]? = some t → args[j]? = some v → Value.okWide Try.prog W .any base t v := hval0
  have hsz : (DataW.weightsEach Try.prog (Try.f4.params.toList ++ Rows.depsChainsSpec.plain.varTypes Try.prog) (ds ++ gs)).all (· ≤ reachBytes) = true := hsz0
  have hW' := hW
  obtain ⟨p, q, hA0, hV, rfl, hfz, hnd⟩ := hW
  have hA : DataW.TrodAll enc Try.prog W 0 (fun _ => true) true Try.f4.params.toList args.toList ds p := hA0
  rw [Try.params4] at hA hval hsz
  obtain ⟨v0, vs0, d0, ds0, p0, q0, hargs, rfl, rfl, h0, r0⟩ := trodAll_cons hA
  obtain ⟨v1, vs1, d1, ds1, p1, q1, rfl, rfl, rfl, h1, r1⟩ := trodAll_cons r0
  obtain ⟨rfl, rfl, rfl⟩ := trodAll_nil r1
  obtain rfl : args = #[v0, v1] := by cases args; simp_all
  obtain ⟨rfl, rfl⟩ := trodVars_none hV
  have k0 := h0
  have lt0 : ∀ x ∈ p0, x.block < W.heap.size := by obtain ⟨m, hm⟩ := k0; exact DataW.trod_lt m _ _ _ hm
  obtain ⟨a0, len0, cap0, ts0, rfl, hB0, hL0, hC0⟩ : ∃ ao L cap ts, v0 = .slice ao L cap ∧ TRs W ao ts ∧ L = ts.length ∧ L ≤ cap := by
    obtain ⟨fuel, hf⟩ := h0
    obtain ⟨ao, L, cap, rfl⟩ := okWide_slice Try.undTs' (hval 0 22 v0 rfl rfl)
    exact ts_open hf (fun n hn => of_decide_eq_true (List.all_eq_true.1 hsz n (DataW.weights_mem_each (j := 0) (t := 22) rfl rfl n hn)))
  obtain ⟨a1, len1, cap1, rfl⟩ := okWide_slice Try.undBs (hval 1 23 v1 rfl rfl)
  have k1 := h1
  have lt1 : ∀ x ∈ p1, x.block < W.heap.size := by obtain ⟨m, hm⟩ := k1; exact DataW.trod_lt m _ _ _ hm
  obtain ⟨z1, w1⟩ : ∃ zs, IsRow .u8 W a1 len1 cap1 zs := by
    obtain ⟨fuel, hf⟩ := h1
    rcases open_ints Try.undBs Try.underlying5 (by kernel_rfl) hf with ⟨hcs, _⟩ | ⟨x, l, c, zs, hcs, _, hl, hm, hz, _, hcell, hwz⟩
    · simp [Value.cells] at hcs
      obtain ⟨rfl, rfl, rfl⟩ := hcs
      exact ⟨[], .inl ⟨rfl, rfl, rfl, rfl⟩⟩
    · simp [Value.cells] at hcs
      obtain ⟨rfl, rfl, rfl⟩ := hcs
      exact ⟨zs, .inr ⟨_, rfl, hl, hm, by simpa using hz, hcell, hwz⟩⟩
  have hc1 : len1 ≤ 140737488351232 := by
    obtain ⟨fuel, hf⟩ := k1
    rcases open_ints Try.undBs Try.underlying5 (by kernel_rfl) hf with ⟨hcs, _⟩ | ⟨x, l, c, zs, hcs, _, hl, hm, hz, hx, hcell, hwz⟩
    · simp [Value.cells] at hcs
      omega
    · simp [Value.cells] at hcs
      obtain ⟨rfl, rfl, rfl⟩ := hcs
      have hd := congrArg Prod.fst hx
      simp only at hd
      have := sized_slice (j := 1) hsz rfl (by rw [hd]; rfl) Try.undBs
      rw [show Try.prog.bytesOf 5 = 1 from by kernel_rfl] at this
      simp [lits, reachBytes] at this hz
      omega
  obtain ⟨xs1, hB1⟩ := BArg.of_row w1
  clear hA0 hval0
  refine (walk a0 len0 cap0 ts0 a1 len1 cap1 xs1 W hB0 hL0 hC0 hB1 hc1).mono fun e W' ⟨he, hf⟩ => ?_
  subst he
  have bel : Below W.heap.size W W' := hf.below (Nat.le_refl _) (by simp)
  exact ⟨_, rfl, _, _, _, [], _, [], hW', trodAll_mk1 (shut_bool Try.underlying4 _), (trodAll_cons_mk (Below.trod laidOut (by kernel_rfl) (of_decide_eq_true (by kernel_rfl)) k0 bel lt0) (trodAll_cons_mk (Below.trod laidOut (by kernel_rfl) (of_decide_eq_true (by kernel_rfl)) k1 bel lt1) trodAll_mk0)), rfl, bel.frame _, fun h => by cases h⟩

theorem over : Rows.depsChainsRow.holds Try.pinned (OpenSpec.ofChange Rows.depsChainsSpec) :=
  OpenClaim.holds_of_wide 4 Try.f4 rfl rfl rfl rfl rfl rfl rfl ⟨rfl, rfl, rfl, rfl, rfl⟩ rfl rfl rfl rfl rfl (by kernel_rfl) Try.func4 (by kernel_rfl)
    (of_decide_eq_true (by kernel_rfl)) (by unfold Func.isWrapper; first | (rw [if_pos (by decide +kernel)]; kernel_rfl) | (rw [if_neg (by decide +kernel)]; exact ⟨rfl, rfl⟩))
    (fun os started H enc _ => lifted os started H enc)
end Go.Proofs.Ytdcmjoildfofcaa.depsChains
namespace Go.Proofs.Ytdcmjoildfofcaa
theorem depschains_holds : Rows.DepsChainsSaid := depsChains.over
#print axioms depschains_holds
end Go.Proofs.Ytdcmjoildfofcaa

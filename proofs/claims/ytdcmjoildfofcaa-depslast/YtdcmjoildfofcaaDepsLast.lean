/- For every list of transactions and every row of bytes the law DepsLast returns true, and the lists read as they did. No conditions. -/
import Derived.Test.YtdcmjoildfofcaaLm11
import Derived.Test.YtdcmjoildfofcaaTxs
import Derived.Deep.RegionHeld3
namespace Go.Proofs.Ytdcmjoildfofcaa.depsLast
open Go.ChangeShapes Go.WideShapes Go.ChangeAt Go.RowKit Go.Lib Go.Maps
set_option linter.unusedVariables false
set_option linter.unusedSimpArgs false

set_option maxHeartbeats 16000000 in
set_option maxRecDepth 100000 in
theorem walk (ao : Option Addr) (L cap : Nat) (ts : List Tm) (bo : Option Addr) (Bn bc : Nat) (bs : List Nat) (w : World) (hT : TRs w ao ts) (hLe : L = ts.length) (hcap : L ≤ cap) (hB : BArg w bo Bn bc bs) (hBn : Bn ≤ 140737488351232) :
    Calls Try.prog 5 #[.slice ao L cap, .slice bo Bn bc] w fun e w' => e = .returned (.bool true) ∧ Fr [] w w' := by
  classical
  have HL : Hid (L = ts.length) := hLe
  have HI : Hid (∀ W, Fr [] w W → TRs W ao ts) := fun W hf => hT.keep hf
  have HBs : Hid (∀ W, Fr [] w W → BArg W bo Bn bc bs) := fun W hf => hB.keep hf
  have hL63 : L ≤ 140737488355328 := by rw [hLe]; exact hT.few
  have HAl : Hid (∀ W, Calls _ _ _ _ _) := fun W => alive11_any W
  clear hLe hT hB
  go_enter Try.func5, Try.ntmps5
  by_cases hbig : 40 < L
  · have hb' : (40 : Int) < L := by omega
    go_wp2_with fail
    refine Calls.mono (HAl.out _) ?_
    rintro e w1 ⟨rfl, hF1⟩
    go_wp2_with fail
    refine Calls.mono (HAl.out _) ?_
    rintro e w2 ⟨rfl, hF2⟩
    have hG := hF1.then hF2
    go_wp2
    go_ret
    exact ⟨rfl, hG⟩
  have hb' : ¬ ((40 : Int) < L) := by omega
  have hL40 : L ≤ 40 := by omega
  clear hbig
  go_wp2_with fail
  refine Calls.mono (HAl.out _) ?_
  rintro e w1 ⟨rfl, hF1⟩
  go_wp2_with fail
  refine (txnsSize11 ao L cap ts _ (HI.out _ hF1) HL.out).mono ?_
  rintro e w2 ⟨N0, rfl, hN0b, hF2⟩
  have hG2 := hF1.then hF2
  clear hF1 hF2
  go_wp2_with fail
  refine (beyond_any w2.heap.size N0 _ (by omega) (by simp)).mono ?_
  rintro e w3 ⟨rfl, rfl⟩
  have hG3 := hG2.then (Fr.alloc [] w2 (.cells #[.int .i64 (N0 : Int)] 3))
  obtain ⟨w3, HW3⟩ : ∃ w3, Hid (w2.alloc (.cells #[.int .i64 (N0 : Int)] 3) = w3) := ⟨_, rfl⟩
  rw [HW3.out] at hG3 ⊢
  clear HW3 hG2
  obtain ⟨Bq, hBq⟩ : ∃ Bq, Bq = decide (1048576 < N0) := ⟨_, rfl⟩
  rw [← hBq]
  clear hBq
  cases Bq with
  | true =>
    go_wp2_with fail
    refine Calls.mono (HAl.out _) ?_
    rintro e w4 ⟨rfl, hF4⟩
    have hG4 := hG3.then hF4
    go_wp2
    go_ret
    exact ⟨rfl, hG4⟩
  | false =>
    clear HAl
    go_wp2_with fail
    refine (tl_new _).mono ?_
    rintro e w4 ⟨tb, B, rfl, hT4, hB4, hF4⟩
    have hG4 := hG3.then hF4
    have HT4 : Hid (Tl w4 tb B 0 [] (fun _ => False)) := hT4
    have HB4 : Hid (∀ j ∈ B, w.heap.size ≤ j) := fun j hj => Nat.le_trans hG3.size (hB4 j hj)
    clear hT4 hB4 hF4 hG3
    go_wp2_with fail
    go_loopw [6] (fun ii wr => ∃ (i : Nat) (B : List Nat) (en : Int → Prop), ii = .int .i64 i ∧ i ≤ L ∧ Hid (Tl wr tb B (65 * i) (LT ts i) en) ∧ Hid (∀ j ∈ B, w.heap.size ≤ j) ∧ Hid (Num ts i) ∧ Hid (Fr [] w wr)) (fun ii _ => L - (RowKit.intOf ii).toNat)
    case atStart => exact ⟨0, B, _, rfl, Nat.zero_le _, HT4.out, HB4.out, fun j hj => by omega, hG4⟩
    case round =>
      clear HT4 HB4 hG4
      obtain ⟨i, B, en, rfl, hiL, HT, HB, HN, HF⟩ := hrel
      obtain ⟨wo, hwo⟩ : ∃ wo, wo = wr := ⟨_, rfl⟩
      subst hwo
      by_cases hi : i < L
      · have hi' : i < ts.length := by rw [← HL.out]; exact hi
        obtain ⟨ab, aof, rfl, _, hcs⟩ := (HI.out _ HF.out).lies (by omega)
        have hat := (HI.out _ HF.out).each _ (tgetD_mem ts i hi')
        have HC : Hid (∀ W, Fr [] w W → TAt W ab (aof + i * 2) (ts.getD i Tm.zero)) := fun W hf => by
          obtain ⟨b2, o2, e2, _, hc2⟩ := (HI.out W hf).lies (by omega)
          cases e2
          exact hc2 i hi'
        have HAt : Hid (∀ W, Fr [] w W → (ts.getD i Tm.zero).at W) := fun W hf => (HI.out W hf).each _ (tgetD_mem ts i hi')
        have HSn : Hid (LT ts (i + 1) = LT ts i ++ [((ts.getD i Tm.zero).n, keysW (ts.getD i Tm.zero).ws)]) := LT_snoc ts i hi'
        have HNs : Hid ((ts.getD i Tm.zero).n = (i : Int) + 1 → Num ts (i + 1)) := fun h => HN.out.snoc h
        obtain ⟨x, hxx⟩ : ∃ x, x = ts.getD i Tm.zero := ⟨_, rfl⟩
        rw [← hxx] at HC HAt HSn HNs hat
        clear hxx hcs
        obtain ⟨nn, xo, M, cm, ws⟩ := x
        simp only at HSn HNs
        have hnb := hat.bounds
        simp only at hnb
        obtain ⟨c0, c1⟩ := HC.out _ HF.out
        simp only at c0 c1
        by_cases hok : okT nn ws
        · have HOK : Hid (okT nn ws) := hok
          have hM32 : M ≤ 32 := by have h1 : M = ws.length := hat.len; rw [h1]; exact hok.2.2.1
          go_wp2_with fail
          refine (check_any nn xo M cm 0 ws _ hat.rs hat.len hnb.1 hnb.2 (Or.inl ⟨hok, rfl⟩)).mono ?_
          rintro e w5 ⟨rfl, hF5⟩
          have hG5 := HF.out.then hF5
          obtain ⟨d0, d1⟩ := HC.out _ hG5
          simp only at d0 d1
          by_cases hni : nn = (i : Int) + 1
          · have hneq : (nn != (i : Int) + 1) = false := by rw [hni]; simp
            have HT5 : Hid (Tl wo tb B (65 * i) (LT ts i) en) := HT.out
            have HNi : Hid (nn = (i : Int) + 1) := hni
            clear hni hok c0 c1 hat
            go_wp2_with fail
            refine (tl_open _ (HT5.out.quiet hF5) (by omega)).mono ?_
            rintro e w6 ⟨so, N, c, ys, rfl, hO6, hR6, hM6, hF6⟩
            have hG6 := hG5.then hF6
            have HT6 : Hid (Tl w6 tb B (65 * i) (LT ts i) en) := HT5.out.quiet (hF5.then hF6)
            have HY : Hid (Ris ys ∧ ∀ x, x ∈ ys ↔ Op11 (LT ts i) en x) := ⟨hR6, hM6⟩
            have HNy : Hid (N = ys.length) := hO6.len
            have HO6 : Hid (IOw w5.heap.size w6 so N c ys) := hO6
            have hN40 : N ≤ 40 := by
              rw [hO6.len]
              refine Nat.le_trans (hR6.few (a := 1) (n := i) (fun x hx => ?_)) (by omega)
              obtain ⟨h1, _⟩ := (hM6 x).1 hx
              obtain ⟨j, hj, rfl⟩ := (LT_num ts i (by omega) HN.out x).1 h1
              omega
            obtain ⟨p, hp⟩ : ∃ p : Int → Bool, ∀ x, p x = decide (∃ k ∈ keysW ws, lst (LT ts i) k = x) := ⟨fun x => decide (∃ k ∈ keysW ws, lst (LT ts i) k = x), fun _ => rfl⟩
            have HP : Hid (∀ x, p x = true ↔ ∃ k ∈ keysW ws, lst (LT ts i) k = x) := fun x => by rw [hp]; simp
            clear hO6 hR6 hM6 hF6 hF5 hG5 HT5 hp d0 d1 HT
            go_wp2_with fail
            go_loopw [8, 9] (fun ll kk wr => ∃ (k : Int) (r : Nat) (wo2 : Option Addr) (Q qc : Nat), kk = .int .i64 k ∧ Hid (k = (r : Int) - 1) ∧ ll = .slice wo2 Q qc ∧ Q + r ≤ N ∧ Hid (IOw w6.heap.size wr wo2 Q qc ((ys.drop r).filter p).reverse) ∧ Hid (Fr [] w6 wr)) (fun _ kk _ => (RowKit.intOf kk + 1).toNat)
            case atStart => exact ⟨(N : Int) - 1, N, none, 0, 0, rfl, rfl, rfl, by omega, (by rw [List.drop_eq_nil_of_le (by rw [← HNy.out]; exact Nat.le_refl _)]; exact IOw.nil _ _), Fr.refl _ _⟩
            case round =>
              obtain ⟨k, r, wo2, Q, qc, rfl, HKr, rfl, hQr, HOq, HFq⟩ := hrel
              have hG7 := hG6.then HFq.out
              cases r with
              | succ q =>
                obtain rfl : (q : Int) = k := by have := HKr.out; omega
                clear HKr
                obtain ⟨wk, hwk⟩ : ∃ wk, wk = wr := ⟨_, rfl⟩
                subst hwk
                have hqy : q < ys.length := by have := HNy.out; omega
                obtain ⟨g, rfl, _, _, hcy⟩ := (HO6.out.keep HFq.out).cells (by omega)
                obtain ⟨y, hye⟩ : ∃ y, y = ys.getD q 0 := ⟨_, rfl⟩
                have HYc : Hid (∀ W, Fr [] wk W → W.cell? ⟨g, q, none⟩ = some (.int .i64 y)) := fun W hf => by
                  obtain ⟨g2, e2, _, _, hc2⟩ := ((HO6.out.keep HFq.out).keep hf).cells (by omega)
                  cases e2
                  rw [hye]
                  exact hc2 q (by omega)
                have HD := drop_filter ys p q hqy
                rw [← hye] at HD
                have HD : Hid (((ys.drop q).filter p).reverse = _) := HD
                clear hcy hye
                go_wp2_with fail
                go_loopw [8, 10] (fun ll qq wr => ∃ (j : Nat), ll = .slice wo2 Q qc ∧ qq = .int .i64 j ∧ j ≤ M ∧ Hid (∀ t, t < j → lst (LT ts i) (ws.getD t Wt.zero).key ≠ y) ∧ Hid (Fr [] wk wr)) (fun _ qq _ => M - (RowKit.intOf qq).toNat)
                case atStart => exact ⟨0, rfl, rfl, Nat.zero_le _, fun t ht => by omega, Fr.refl _ _⟩
                case round =>
                  obtain ⟨j, rfl, rfl, hjM, HJ, HFj⟩ := hrel
                  have hG8 := hG7.then HFj.out
                  obtain ⟨d0, d1⟩ := HC.out _ hG8
                  simp only at d0 d1
                  have yc := HYc.out _ HFj.out
                  have hatj : TArg wr nn xo M cm ws := HAt.out _ hG8
                  by_cases hj : j < M
                  · have hj' : j < ws.length := by have h1 := hatj.len; omega
                    obtain ⟨b2, o2, rfl, _, hc2⟩ := hatj.rs.lies (by omega)
                    obtain ⟨f0, f1, f2⟩ := hc2 j hj'
                    have hkz := (hatj.rs.each _ (wgetD_mem11 ws j hj')).1
                    have HKm : Hid ((ws.getD j Wt.zero).key ∈ keysW ws) := List.mem_map.2 ⟨_, wgetD_mem11 ws j hj', rfl⟩
                    obtain ⟨kx, hkx⟩ : ∃ kx, kx = ws.getD j Wt.zero := ⟨_, rfl⟩
                    rw [← hkx] at f0 f1 f2 hkz HKm
                    have HKx : Hid (kx = ws.getD j Wt.zero) := hkx
                    clear hkx hc2
                    obtain ⟨key, val, drop⟩ := kx
                    simp only at f0 hkz HKm
                    obtain ⟨z, hz⟩ : ∃ z, lst (LT ts i) key = z := ⟨_, rfl⟩
                    have HZ : Hid (lst (LT ts i) key = z) := hz
                    have HLs : Hid (∀ q, Calls Try.prog 17 #[.pointer (some ⟨tb, 0, none⟩), .string key] (wr.drewN q) fun e w' => e = .returned (.int .i64 z) ∧ w' = wr.drewN q) := fun q => by
                      rw [← hz]
                      exact tl_last_same key (HT6.out.quiet ((HFq.out.then HFj.out).then (Fr.drewN _ _ _))) hkz
                    clear hz hatj f1 f2
                    by_cases hzy : z = y
                    · have heq : (z == y) = true := by rw [hzy]; simp
                      have hpy : p y = true := (HP.out y).2 ⟨key, HKm.out, by rw [HZ.out, hzy]⟩
                      rw [hpy, if_pos rfl] at HD
                      have HZy : Hid (z = y) := hzy
                      clear hzy hpy
                      go_wp2_with fail
                      go_quiet ((go_at_call 17; exact Calls.quiet_of_same (HLs.out _)))
                      obtain ⟨wz, HWz⟩ : ∃ wz, Hid (wr.drewN nq = wz) := ⟨_, rfl⟩
                      rw [HWz.out]
                      have hFz : Fr [] wk wz := by rw [← HWz.out]; exact HFj.out.then (Fr.drewN _ _ _)
                      have yz := HYc.out _ hFz
                      have HOz : Hid (∀ W, Fr [] wz W → IOw w6.heap.size W wo2 Q qc ((ys.drop (q + 1)).filter p).reverse) := fun W hf => HOq.out.keep (hFz.then hf)
                      have HBz : Hid (∀ W W', Fr [] wz W → Fr (Value.slice wo2 Q qc).ownBlock.toList W W' → Fr [] w6 W') := fun W W' h1 h2 => HOq.out.on (Nat.le_refl _) HFq.out (hFz.then h1) h2
                      have hsz : w6.heap.size ≤ wz.heap.size := Nat.le_trans HFq.out.size hFz.size
                      clear HWz d0 d1 yc f0
                      go_wp2_with (first
                        | (at_builtin; refine wpList_appI w6.heap.size _ rfl _ _ rfl wo2 Q qc _ rfl (HOz.out _ (Fr.alloc [] _ _)) _ _ y rfl ?hcell (by omega) ?hsize ?_
                           case hcell => exact cell_new1 _ _ _
                           case hsize => simp; omega
                           intro o' c' w9 hO9 hF9 _
                           have HR9 : Hid (_ ∧ _) := ⟨hO9, HBz.out _ _ (Fr.alloc [] _ _) hF9⟩
                           clear hO9 hF9
                           go_frame)
                        | fail)
                      go_roundw
                      case rel => exact ⟨(q : Int) - 1, q, o', Q + 1, c', by simp, rfl, rfl, by omega, (by rw [HD.out]; exact HR9.out.1), HR9.out.2⟩
                      case measure => simp [RowKit.intOf]
                    · have heq : (z == y) = false := by simpa using hzy
                      have HJ2 : Hid (∀ t, t < j + 1 → lst (LT ts i) (ws.getD t Wt.zero).key ≠ y) := fun t ht => by
                        by_cases e : t = j
                        · rw [e, ← HKx.out]
                          show lst (LT ts i) key ≠ y
                          rw [HZ.out]
                          exact hzy
                        · exact HJ.out t (by omega)
                      go_wp2_with fail
                      go_quiet ((go_at_call 17; exact Calls.quiet_of_same (HLs.out _)))
                      go_wp2
                      go_roundw
                      case rel => exact ⟨j + 1, rfl, by simp, by omega, HJ2.out, HFj.out.then (Fr.drewN _ _ _)⟩
                      case measure => simp [RowKit.intOf]; omega
                  · obtain rfl : M = j := by omega
                    have hpy : p y = false := by
                      cases hq : p y with
                      | false => rfl
                      | true =>
                        obtain ⟨k, hk, e⟩ := (HP.out y).1 hq
                        obtain ⟨u, hu, rfl⟩ := List.mem_map.1 hk
                        obtain ⟨t, ht, rfl⟩ := List.getElem_of_mem hu
                        have := HJ.out t (by have h1 := hatj.len; omega)
                        simp only [List.getD, List.getElem?_eq_getElem ht, Option.getD_some] at this
                        exact absurd e this
                    rw [hpy, if_neg (by simp)] at HD
                    clear hpy hatj
                    go_wp2
                    go_roundw
                    case rel => exact ⟨(q : Int) - 1, q, wo2, Q, qc, by simp, rfl, rfl, by omega, (by rw [HD.out]; exact HOq.out.keep HFj.out), HFq.out.then HFj.out⟩
                    case measure => simp [RowKit.intOf]
              | zero =>
                obtain rfl : (-1 : Int) = k := by have := HKr.out; omega
                clear HKr
                rw [List.drop_zero] at HOq
                obtain ⟨wv, hwv⟩ : ∃ wv, wv = wr := ⟨_, rfl⟩
                subst hwv
                obtain ⟨d0, d1⟩ := HC.out _ hG7
                simp only at d0 d1
                have hatv : TArg wv nn xo M cm ws := HAt.out _ hG7
                have hat0 : TArg w nn xo M cm ws := HAt.out w (Fr.refl _ _)
                have hWB : 0 < ws.length → ∀ a, xo = some a → a.block ∉ B := fun h0 a ha hm => by
                  obtain ⟨b2, o2, e2, hb2, _⟩ := hat0.rs.lies h0
                  rw [e2] at ha
                  cases ha
                  have := HB.out _ hm
                  simp only at this
                  omega
                have HMn : Hid (M = ws.length) := hatv.len
                have hTv := HT6.out.quiet HFq.out
                have HAd : Hid (Calls _ _ _ _ _) := tl_add nn xo M cm ws wv hTv hatv.rs hatv.len HOK.out (fun p hp => by rw [HNi.out]; exact LT_lt ts i (by omega) HN.out p hp) (by omega) hWB
                have HBm : Hid (∀ j ∈ B, j < w6.heap.size) := HT6.out.mine
                have HEn : Hid (¬ en ((i : Int) + 1)) := fun he => by
                  obtain ⟨p, hp, e⟩ := hTv.ended _ he
                  have := LT_lt ts i (by omega) HN.out p hp
                  omega
                clear hatv hat0 hWB hTv
                go_wp2_with fail
                refine Calls.mono HAd.out ?_
                rintro e w8 ⟨xs, B', rfl, hAd, hT8, hB8, hF8⟩
                rw [← HSn.out] at hT8
                have hG8 : Fr [] w w8 := hG7.on hF8 HB.out
                have HB8 : Hid (∀ j ∈ B', w.heap.size ≤ j) := fun j hj => by
                  rcases hB8 j hj with h1 | h1
                  · exact HB.out j h1
                  · exact Nat.le_trans hG7.size h1
                have hxs := add_filter hAd HY.out.1 HY.out.2 HP.out
                rw [← hxs] at HOq
                have hQ : Q = xs.length := by rw [HOq.out.len, List.length_reverse]
                have HQ : Hid (Q = xs.length) := hQ
                have HO8 : Hid (IOw w6.heap.size w8 wo2 Q qc xs.reverse) := HOq.out.keepS hF8 (fun k hk hB => by
                  have := (HOq.out.blk hk).1
                  have := HBm.out k hB
                  omega)
                have HT8 : Hid (Tl w8 tb B' (65 * (i + 1)) (LT ts (i + 1)) en) := hT8
                have HAd2 : Hid (AdT (LT ts i) en (keysW ws) xs) := hAd
                have hOp : Op11 (LT ts (i + 1)) en ((i : Int) + 1) := ⟨⟨(nn, keysW ws), by rw [HSn.out]; simp, HNi.out⟩, HEn.out⟩
                have HWt : Hid (Calls _ _ _ _ _) := tl_waits ((i : Int) + 1) w8 hT8 hOp
                have HOp : Hid (Op11 (LT ts (i + 1)) en ((i : Int) + 1)) := hOp
                rw [← hQ]
                clear hT8 hB8 hF8 hAd hxs hQ HAd HOq hOp d0 d1
                go_wp2_with fail
                refine Calls.mono HWt.out ?_
                rintro e w9 ⟨zo, Z, zc, zs, rfl, hO9, hW9, hF9⟩
                have hzx : zs = xs := by
                  have hr := HT8.out.ris
                  rw [HSn.out] at hW9 hr
                  rw [HNi.out] at hW9 hr
                  exact add_waits hr HAd2.out hW9
                subst hzx
                obtain rfl : Q = Z := by rw [HQ.out, hO9.len]
                have hG9 := hG8.then hF9
                have HZ9 : Hid (∀ W, Fr [] w9 W → IOw w8.heap.size W zo Q zc zs ∧ IOw w6.heap.size W wo2 Q qc zs.reverse) := fun W hf => ⟨hO9.keep hf, HO8.out.keep (hF9.then hf)⟩
                have HT9 : Hid (∀ W, Fr [] w9 W → Tl W tb B' (65 * (i + 1)) (LT ts (i + 1)) en) := fun W hf => HT8.out.quiet (hF9.then hf)
                have hqq : ((Q : Int) != (Q : Int)) = false := by simp
                clear hO9 hW9 hF9 HWt HO8 HT8 hG8
                go_wp2_with fail
                go_loopw [15] (fun kk wr => ∃ (k : Nat), kk = .int .i64 k ∧ k ≤ Q ∧ Hid (Fr [] w9 wr)) (fun kk _ => Q - (RowKit.intOf kk).toNat)
                case atStart => exact ⟨0, rfl, Nat.zero_le _, Fr.refl _ _⟩
                case round =>
                  obtain ⟨k, rfl, hkQ, HFk⟩ := hrel
                  by_cases hk : k < Q
                  · obtain ⟨r1, r2⟩ := HZ9.out _ HFk.out
                    obtain ⟨g1, rfl, _, _, hc1⟩ := r1.cells (by omega)
                    obtain ⟨g2, rfl, _, _, hc2⟩ := r2.cells (by omega)
                    obtain ⟨d, hd⟩ : ∃ d : Nat, d = Q - 1 - k := ⟨_, rfl⟩
                    have hdQ : d < Q := by omega
                    have hdI : (Q : Int) - 1 - (k : Int) = (d : Int) := by omega
                    have e1 := hc1 k hk
                    have e2 := hc2 d hdQ
                    rw [hd, HQ.out, rev_getD zs k (by rw [← HQ.out]; exact hk), ← HQ.out, ← hd] at e2
                    obtain ⟨v, hv⟩ : ∃ v, v = zs.getD k 0 := ⟨_, rfl⟩
                    rw [← hv] at e1 e2
                    have hvv : (v != v) = false := by simp
                    clear hv hd hc1 hc2 r1 r2
                    go_wp2_with fail
                    go_quiet (fail)
                    go_wp2
                    go_roundw
                    case rel => exact ⟨k + 1, by simp, by omega, HFk.out.then (Fr.drewN _ _ _)⟩
                    case measure => simp [RowKit.intOf]; omega
                  · obtain rfl : Q = k := by omega
                    obtain ⟨wx, hwx⟩ : ∃ wx, wx = wr := ⟨_, rfl⟩
                    subst hwx
                    have hGx := hG9.then HFk.out
                    have HTx : Hid (∀ W, Fr [] wx W → Tl W tb B' (65 * (i + 1)) (LT ts (i + 1)) en) := fun W hf => HT9.out _ (HFk.out.then hf)
                    clear HT9 HZ9
                    go_wp2_with fail
                    go_loopw [16] (fun kk wr => ∃ (k : Nat), kk = .int .i64 k ∧ k ≤ M ∧ Hid (Fr [] wx wr)) (fun kk _ => M - (RowKit.intOf kk).toNat)
                    case atStart => exact ⟨0, rfl, Nat.zero_le _, Fr.refl _ _⟩
                    case round =>
                      obtain ⟨j, rfl, hjM, HFj⟩ := hrel
                      have hGj := hGx.then HFj.out
                      obtain ⟨d0, d1⟩ := HC.out _ hGj
                      simp only at d0 d1
                      by_cases hj : j < M
                      · have hatj : TArg wr nn xo M cm ws := HAt.out _ hGj
                        have hj' : j < ws.length := by have h1 := hatj.len; omega
                        obtain ⟨b2, o2, rfl, _, hc2⟩ := hatj.rs.lies (by omega)
                        obtain ⟨f0, f1, f2⟩ := hc2 j hj'
                        have hkz := (hatj.rs.each _ (wgetD_mem11 ws j hj')).1
                        have hKm : (ws.getD j Wt.zero).key ∈ keysW ws := List.mem_map.2 ⟨_, wgetD_mem11 ws j hj', rfl⟩
                        obtain ⟨key, hkey⟩ : ∃ key, key = (ws.getD j Wt.zero).key := ⟨_, rfl⟩
                        rw [← hkey] at f0 hkz hKm
                        have HLs := tl_last key wr (HTx.out _ HFj.out) hkz
                        rw [show lst (LT ts (i + 1)) key = (i : Int) + 1 from by rw [HSn.out, lst_snoc, if_pos hKm]; exact HNi.out] at HLs
                        have HLs : Hid (Calls _ _ _ _ _) := HLs
                        have hii : ((i : Int) + 1 != (i : Int) + 1) = false := by simp
                        clear hkey hKm hatj hc2 f1 f2
                        go_wp2_with fail
                        refine Calls.mono HLs.out ?_
                        rintro e wy ⟨rfl, hFy⟩
                        go_wp2
                        go_roundw
                        case rel => exact ⟨j + 1, by simp, by omega, HFj.out.then hFy⟩
                        case measure => simp [RowKit.intOf]; omega
                      · obtain rfl : M = j := by omega
                        have hTj := HTx.out _ HFj.out
                        have HTj : Hid (Tl wr tb B' (65 * (i + 1)) (LT ts (i + 1)) en) := hTj
                        have HNn : Hid (Num ts (i + 1)) := HNs.out HNi.out
                        clear hTj
                        by_cases hib : i < Bn
                        · have hib' : (i : Int) < Bn := by omega
                          obtain ⟨bb, bof, rfl, _, hcb⟩ := (HBs.out _ hGj).lies (by omega)
                          have hb := hcb i hib
                          obtain ⟨v, hv⟩ : ∃ v, v = bs.getD i 0 := ⟨_, rfl⟩
                          rw [← hv] at hb
                          clear hv hcb
                          by_cases h2 : (v : Int) % 2 = 0
                          · have h2' : ((v : Int) % 2 == 0) = true := by simpa using h2
                            clear h2
                            go_wp2_with fail
                            refine (tl_open _ HTj.out (by omega)).mono ?_
                            rintro e wy ⟨oo, O, oc, os, rfl, hOo, hRo, hMo, hFy⟩
                            have hO0 : 0 < O := by
                              rw [hOo.len]
                              exact List.length_pos_of_mem ((hMo _).2 HOp.out)
                            obtain ⟨g, rfl, _, _, hco⟩ := hOo.cells hO0
                            have hc0 := hco 0 hO0
                            obtain ⟨u, hu⟩ : ∃ u, u = os.getD 0 0 := ⟨_, rfl⟩
                            rw [← hu] at hc0
                            have hul : 0 < os.length := by rw [← hOo.len]; exact hO0
                            have huo : Op11 (LT ts (i + 1)) en u := by rw [hu]; exact (hMo _).1 (igetD_mem os 0 hul)
                            have hule : ∀ x, Op11 (LT ts (i + 1)) en x → u ≤ x := fun x hx => by rw [hu]; exact ris_head hRo hul x ((hMo x).2 hx)
                            have hTy := HTj.out.quiet hFy
                            have HDn : Hid (Calls _ _ _ _ _) := tl_done u wy hTy huo (least_free hTy.ris hule)
                            have hGy := hGj.then hFy
                            clear hOo hRo hMo hco hu hul huo hule hTy
                            go_wp2_with fail
                            refine Calls.mono HDn.out ?_
                            rintro e wz ⟨zo2, Z2, zc2, zs2, rfl, hOz, hDz, hTz, hFz⟩
                            have hGz : Fr [] w wz := hGy.on hFz HB8.out
                            have HTz : Hid (Tl wz tb B' (65 * (i + 1)) (LT ts (i + 1)) (fun x => en x ∨ x = u)) := hTz
                            clear hOz hDz hTz hFz HDn
                            go_wp2
                            go_roundw
                            case rel => exact ⟨i + 1, B', _, by simp, by omega, HTz.out, HB8.out, HNn.out, hGz⟩
                            case measure => simp [RowKit.intOf]; omega
                          · have h2' : ((v : Int) % 2 == 0) = false := by simpa using h2
                            clear h2
                            go_wp2
                            go_roundw
                            case rel => exact ⟨i + 1, B', en, by simp, by omega, HTj.out, HB8.out, HNn.out, hGj⟩
                            case measure => simp [RowKit.intOf]; omega
                        · have hib' : ¬ ((i : Int) < Bn) := by omega
                          go_wp2
                          go_roundw
                          case rel => exact ⟨i + 1, B', en, by simp, by omega, HTj.out, HB8.out, HNn.out, hGj⟩
                          case measure => simp [RowKit.intOf]; omega
          · have hneq : (nn != (i : Int) + 1) = true := by simpa using hni
            clear hni
            go_wp2
            go_ret
            exact ⟨rfl, hG5⟩
        · go_wp2_with fail
          refine (check_any nn xo M cm 1 ws _ hat.rs hat.len hnb.1 hnb.2 (Or.inr ⟨hok, rfl⟩)).mono ?_
          rintro e w5 ⟨rfl, hF5⟩
          have hG5 := HF.out.then hF5
          go_wp2
          go_ret
          exact ⟨rfl, hG5⟩
      · go_wp2
        go_ret
        exact ⟨rfl, HF.out⟩

theorem own : ownKnob Try.prog.godebug = none := by kernel_rfl
theorem laidOut : laidOutB Try.prog = true := by kernel_rfl
set_option maxHeartbeats 4000000 in
set_option maxRecDepth 100000 in
theorem lifted (os : Os) (started : os.Started) (H : Type) (enc : TypeId × Value → H) :
    ReturnsInHanded {} Try.checked os 5 .any (Rows.depsLastSpec.pre6 enc Try.prog Try.f5 Rows.depsLastRow.domain false) (Rows.depsLastSpec.post enc Try.prog Try.f5 false true false false) := by
  refine returnsInHanded_of_change_sized (C := Try.checked) own started (by kernel_rfl) Try.func5
    (ChangeSpec.witness6 (enc := enc) (C := Try.checked) false ⟨#[], #[.slice none 0 0, .slice none 0 0], []⟩ 8 (by kernel_rfl) (by kernel_rfl) (by kernel_rfl) (by kernel_rfl)) ?_
  intro W base args ds gs before hval0 hW hcnd hsz0 _
  have hval : ∀ (j : Nat) t v, Try.f5.params[j]? = some t → args[j]? = some v → Value.okWide Try.prog W .any base t v := hval0
  have hsz : (DataW.weightsEach Try.prog (Try.f5.params.toList ++ Rows.depsLastSpec.plain.varTypes Try.prog) (ds ++ gs)).all (· ≤ reachBytes) = true := hsz0
  have hW' := hW
  obtain ⟨p, q, hA0, hV, rfl, hfz, hnd⟩ := hW
  have hA : DataW.TrodAll enc Try.prog W 0 (fun _ => true) true Try.f5.params.toList args.toList ds p := hA0
  rw [Try.params5] at hA hval hsz
  obtain ⟨v0, vs0, d0, ds0, p0, q0, hargs, rfl, rfl, h0, r0⟩ := trodAll_cons hA
  obtain ⟨v1, vs1, d1, ds1, p1, q1, rfl, rfl, rfl, h1, r1⟩ := trodAll_cons r0
  obtain ⟨rfl, rfl, rfl⟩ := trodAll_nil r1
  obtain rfl : args = #[v0, v1] := by cases args; simp_all
  obtain ⟨rfl, rfl⟩ := trodVars_none hV
  have k0 := h0
  have lt0 : ∀ x ∈ p0, x.block < W.heap.size := by obtain ⟨m, hm⟩ := k0; exact DataW.trod_lt m _ _ _ hm
  obtain ⟨a0, len0, cap0, ts0, rfl, hB0, hL0, hC0⟩ : ∃ ao L cap ts, v0 = .slice ao L cap ∧ TRs W ao ts ∧ L = ts.length ∧ L ≤ cap := by
    obtain ⟨fuel, hf⟩ := h0
    obtain ⟨ao, L, cap, rfl⟩ := okWide_slice Try.undTs' (hval 0 22 v0 rfl rfl)
    exact ts_open hf (fun n hn => of_decide_eq_true (List.all_eq_true.1 hsz n (DataW.weights_mem_each (j := 0) (t := 22) rfl rfl n hn)))
  obtain ⟨a1, len1, cap1, rfl⟩ := okWide_slice Try.undBs (hval 1 23 v1 rfl rfl)
  have k1 := h1
  have lt1 : ∀ x ∈ p1, x.block < W.heap.size := by obtain ⟨m, hm⟩ := k1; exact DataW.trod_lt m _ _ _ hm
  obtain ⟨z1, w1⟩ : ∃ zs, IsRow .u8 W a1 len1 cap1 zs := by
    obtain ⟨fuel, hf⟩ := h1
    rcases open_ints Try.undBs Try.underlying5 (by kernel_rfl) hf with ⟨hcs, _⟩ | ⟨x, l, c, zs, hcs, _, hl, hm, hz, _, hcell, hwz⟩
    · simp [Value.cells] at hcs
      obtain ⟨rfl, rfl, rfl⟩ := hcs
      exact ⟨[], .inl ⟨rfl, rfl, rfl, rfl⟩⟩
    · simp [Value.cells] at hcs
      obtain ⟨rfl, rfl, rfl⟩ := hcs
      exact ⟨zs, .inr ⟨_, rfl, hl, hm, by simpa using hz, hcell, hwz⟩⟩
  have hc1 : len1 ≤ 140737488351232 := by
    obtain ⟨fuel, hf⟩ := k1
    rcases open_ints Try.undBs Try.underlying5 (by kernel_rfl) hf with ⟨hcs, _⟩ | ⟨x, l, c, zs, hcs, _, hl, hm, hz, hx, hcell, hwz⟩
    · simp [Value.cells] at hcs
      omega
    · simp [Value.cells] at hcs
      obtain ⟨rfl, rfl, rfl⟩ := hcs
      have hd := congrArg Prod.fst hx
      simp only at hd
      have := sized_slice (j := 1) hsz rfl (by rw [hd]; rfl) Try.undBs
      rw [show Try.prog.bytesOf 5 = 1 from by kernel_rfl] at this
      simp [lits, reachBytes] at this hz
      omega
  obtain ⟨xs1, hB1⟩ := BArg.of_row w1
  clear hA0 hval0
  refine (walk a0 len0 cap0 ts0 a1 len1 cap1 xs1 W hB0 hL0 hC0 hB1 hc1).mono fun e W' ⟨he, hf⟩ => ?_
  subst he
  have bel : Below W.heap.size W W' := hf.below (Nat.le_refl _) (by simp)
  exact ⟨_, rfl, _, _, _, [], _, [], hW', trodAll_mk1 (shut_bool Try.underlying4 _), (trodAll_cons_mk (Below.trod laidOut (by kernel_rfl) (of_decide_eq_true (by kernel_rfl)) k0 bel lt0) (trodAll_cons_mk (Below.trod laidOut (by kernel_rfl) (of_decide_eq_true (by kernel_rfl)) k1 bel lt1) trodAll_mk0)), rfl, bel.frame _, fun h => by cases h⟩

theorem over : Rows.depsLastRow.holds Try.pinned (OpenSpec.ofChange Rows.depsLastSpec) :=
  OpenClaim.holds_of_wide 5 Try.f5 rfl rfl rfl rfl rfl rfl rfl ⟨rfl, rfl, rfl, rfl, rfl⟩ rfl rfl rfl rfl rfl (by kernel_rfl) Try.func5 (by kernel_rfl)
    (of_decide_eq_true (by kernel_rfl)) (by unfold Func.isWrapper; first | (rw [if_pos (by decide +kernel)]; kernel_rfl) | (rw [if_neg (by decide +kernel)]; exact ⟨rfl, rfl⟩))
    (fun os started H enc _ => lifted os started H enc)
end Go.Proofs.Ytdcmjoildfofcaa.depsLast
namespace Go.Proofs.Ytdcmjoildfofcaa
theorem depslast_holds : Rows.DepsLastSaid := depsLast.over
#print axioms depslast_holds
end Go.Proofs.Ytdcmjoildfofcaa

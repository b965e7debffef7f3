/- Texts of this claim laid together, one behind the other: contracts and plain lemmas; conditions as each names them. -/
import Derived.Test.YtaaghcimfcjehaaGreatDoorGp47
/- The walk of the law TraceHolds. Conditions: the numbers' names are laid; the events are at most 4194304. -/
namespace Go.Proofs.YtaaghcimfcjehaaGreatDoor
open Go.ChangeShapes Go.WideShapes Go.ChangeAt Go.RowKit Go.Lib Go.Maps
set_option linter.unusedVariables false
set_option linter.unusedSimpArgs false

set_option maxHeartbeats 16000000 in
set_option maxRecDepth 100000 in
theorem tholds_any (c : Cf) (lo : Option Addr) (M mc : Nat) (ts : List Tm) (m : Int) (bo : Option Addr) (bn bc : Nat) (xs : List Int) (ho : Option Addr) (hl hcp : Nat) (eo : Option Addr) (en ec : Nat) (es : List Ev) (w : World)
    (hN : Nms w) (hT : TRs w lo ts) (hM : M = ts.length) (hMc : M ≤ mc) (hX : IRs w bo xs) (hbn : bn = xs.length) (hbc : bn ≤ bc) (hE : ERs w eo es) (hen : en = es.length) (hec : en ≤ ec) (hk : es.length ≤ 4194304) (hec2 : ec ≤ 9223372036854775807) :
    Calls Tryz.prog 5 #[.agg #[.int .i64 c.l, .int .i64 c.s, .int .i64 c.w, .int .i64 c.q, .slice lo M mc, .int .i64 m, .slice bo bn bc, .slice ho hl hcp, .slice eo en ec]] w fun e w' => e = .returned (.bool true) ∧ Fr [] w w' := by
  obtain ⟨wa, hwa⟩ : ∃ wa, wa = w.alloc (.cells #[.int .i64 c.l, .int .i64 c.s, .int .i64 c.w, .int .i64 c.q, .slice lo M mc, .int .i64 m, .slice bo bn bc, .slice ho hl hcp, .slice eo en ec] 31) := ⟨_, rfl⟩
  have f1 : Fr [] w wa := by rw [hwa]; exact Fr.alloc _ _ _
  have r5 : wa.heap[w.heap.size]? = some (.cells #[.int .i64 c.l, .int .i64 c.s, .int .i64 c.w, .int .i64 c.q, .slice lo M mc, .int .i64 m, .slice bo bn bc, .slice ho hl hcp, .slice eo en ec] 31 (0, 0)) := by rw [hwa]; exact heap_alloc_new _ _
  have HW : Hid (w.alloc (.cells #[.int .i64 c.l, .int .i64 c.s, .int .i64 c.w, .int .i64 c.q, .slice lo M mc, .int .i64 m, .slice bo bn bc, .slice ho hl hcp, .slice eo en ec] 31) = wa) := by show _ = _; rw [hwa]
  have HFa : Hid (Fr [] w wa) := f1
  have HK : Hid (∀ W o k kc l, Fr [] w W → ERs W o l → k = l.length → k ≤ kc → l.length ≤ 4194304 → Calls Tryz.prog 10 #[.agg #[.int .i64 c.l, .int .i64 c.s, .int .i64 c.w, .int .i64 c.q], .slice lo M mc, .agg #[.int .i64 m, .slice bo bn bc, .slice ho hl hcp], .slice o k kc] W fun e w' => e = .returned (.tuple #[.int .i64 ((tkN c ts m xs l : Nat) : Int), .int .i64 (tkC c ts m xs l)]) ∧ Fr [] W w') := fun W o k kc l hf hl1 hl2 hl3 hl4 => tk_any c lo M mc ts m bo bn bc xs ho hl hcp o k kc l W (hN.keep hf (by simp)) (hT.keep hf) hM hMc (hX.keep hf) hbn hbc hl1 hl2 hl3 hl4
  have HLi : Hid (∀ W, Fr [] w W → Calls _ _ _ W _) := fun W hf => lives_any W (hN.keep hf (by simp))
  have HB : Hid (∀ W, Fr [] wa W → W.heap[w.heap.size]? = some (.cells #[.int .i64 c.l, .int .i64 c.s, .int .i64 c.w, .int .i64 c.q, .slice lo M mc, .int .i64 m, .slice bo bn bc, .slice ho hl hcp, .slice eo en ec] 31 (0, 0))) := fun W hf => hf.keep r5 (by simp)
  have HE : Hid (ERs w eo es ∧ en = es.length) := ⟨hE, hen⟩
  have HLk : Hid (Beg ts m xs → Lk (txs ts)) := fun h => lk_of h.1
  have hkk : en ≤ 4194304 := by omega
  have HKK : Hid (es.length ≤ 4194304) := hk
  clear hwa f1 r5 hT hM hMc hX hbn hbc hE hen hN hk
  obtain ⟨nb, hnb⟩ : ∃ nb, nb = w.heap.size := ⟨_, rfl⟩
  have HNb : Hid (w.heap.size = nb) := hnb.symm
  rw [← hnb] at HB
  clear hnb
  have HC : Hid (∀ W, Fr [] wa W → W.cell? ⟨nb, 0, none⟩ = some (.int .i64 c.l) ∧ W.cell? ⟨nb, 1, none⟩ = some (.int .i64 c.s) ∧ W.cell? ⟨nb, 2, none⟩ = some (.int .i64 c.w) ∧ W.cell? ⟨nb, 3, none⟩ = some (.int .i64 c.q) ∧ W.cell? ⟨nb, 4, none⟩ = some (.slice lo M mc) ∧ W.cell? ⟨nb, 5, none⟩ = some (.int .i64 m) ∧ W.cell? ⟨nb, 6, none⟩ = some (.slice bo bn bc) ∧ W.cell? ⟨nb, 7, none⟩ = some (.slice ho hl hcp) ∧ W.cell? ⟨nb, 8, none⟩ = some (.slice eo en ec)) := fun W hf => by
    have h := HB.out W hf
    exact ⟨by rw [cell_of_row _ _ _ _ _ _ h]; rfl, by rw [cell_of_row _ _ _ _ _ _ h]; rfl, by rw [cell_of_row _ _ _ _ _ _ h]; rfl, by rw [cell_of_row _ _ _ _ _ _ h]; rfl, by rw [cell_of_row _ _ _ _ _ _ h]; rfl, by rw [cell_of_row _ _ _ _ _ _ h]; rfl, by rw [cell_of_row _ _ _ _ _ _ h]; rfl, by rw [cell_of_row _ _ _ _ _ _ h]; rfl, by rw [cell_of_row _ _ _ _ _ _ h]; rfl⟩
  clear HB
  go_enter Tryz.func5, Tryz.ntmps5
  go_upto_region 1 with fail
  rw [HW.out, HNb.out]
  obtain ⟨k0, k1, k2, k3, k4, k5, k6, k7, k8⟩ := HC.out wa (Fr.refl _ _)
  go_wp2_with fail
  refine Calls.mono (HK.out wa eo en ec es HFa.out (HE.out.1.keep HFa.out) HE.out.2 hec HKK.out) ?_
  rintro e w1 ⟨rfl, hf1⟩
  have HF1 : Hid (Fr [] wa w1) := hf1
  clear hf1 k0 k1 k2 k3 k4 k5 k6 k7 k8 HW
  obtain ⟨k0, k1, k2, k3, k4, k5, k6, k7, k8⟩ := HC.out w1 HF1.out
  have HWays : Hid (_ ∨ _ ∨ _) := tkC_ways c ts m xs es
  have HBg : Hid (tkC c ts m xs es = 0 ∨ tkC c ts m xs es = 14 → c.may ∧ Beg ts m xs ∧ tkN c ts m xs es = (goes c (txs ts) (sy0 m xs) es).1) := tk_begs
  have HL1 : Hid (Calls _ _ _ _ _) := HLi.out w1 (HFa.out.then HF1.out)
  obtain ⟨n1, hn1⟩ : ∃ n1, n1 = tkN c ts m xs es := ⟨_, rfl⟩
  obtain ⟨c1, hc1⟩ : ∃ c1, c1 = tkC c ts m xs es := ⟨_, rfl⟩
  rw [← hn1, ← hc1] at HWays HBg ⊢
  rw [← HE.out.2] at HWays
  clear hn1 hc1
  by_cases hno : c1 = 0 ∨ c1 = 14
  · obtain ⟨hmay, hbeg, hgo⟩ := HBg.out hno
    have hne : n1 ≤ en := by rcases HWays.out with ⟨_, h⟩ | ⟨_, h, _⟩ | ⟨_, h⟩ <;> omega
    have HGo : Hid (n1 = (goes c (txs ts) (sy0 m xs) es).1) := hgo
    have HMy : Hid (c.may ∧ Lk (txs ts)) := ⟨hmay, HLk.out hbeg⟩
    have H0 : Hid (Ho c (txs ts) (sy0 m xs) es 0 (sy0 m xs) 0 0) := ho_zero hmay hbeg es
    have hw16 : 1 ≤ c.w ∧ c.w ≤ 65536 := by have := hmay.2.2.1; omega
    have q0 : ((c1 != 0) && (c1 != 14)) = false := by rcases hno with rfl | rfl <;> rfl
    have HT6 : Hid ((txs ts).length ≤ 65536) := HMy.out.2.len
    have HEe : Hid (∀ x ∈ es, EEach x) := HE.out.1.each
    have HEr : Hid (∀ W, Fr [] wa W → ERs W eo es) := fun W hf => HE.out.1.keep (HFa.out.then hf)
    have HEn : Hid (en = es.length) := HE.out.2
    clear HWays HBg hbeg hmay hgo HLk HK HE HKK HL1
    rcases hno with rfl | rfl
    · go_wp2_with fail
      go_loopw [5, 6, 7, 8] (fun v5 v6 v7 v8 wr => ∃ (M5 M6 M7 : Int) (i : Nat) (s : Sy) (d t : Nat), v5 = .int .i64 M5 ∧ v6 = .int .i64 M6 ∧ v7 = .int .i64 M7 ∧ v8 = .int .i64 i ∧ i ≤ n1 ∧ Hid (M5 = s.ma) ∧ Hid (M6 = s.read) ∧ Hid (M7 = (d : Int) - (t : Int)) ∧ Hid (Ho c (txs ts) (sy0 m xs) es i s d t) ∧ Fr [] wa wr) (fun _ _ _ v8 _ => n1 - (RowKit.intOf v8).toNat)
      case atStart => exact ⟨m, m, 0, 0, sy0 m xs, 0, 0, rfl, rfl, rfl, rfl, Nat.zero_le _, (by show _ = _; rfl), (by show _ = _; rfl), (by show _ = _; simp), H0, HF1.out⟩
      case round =>
        obtain ⟨M5, M6, M7, i, s, d, t, rfl, rfl, rfl, rfl, hin, HM5, HM6, HM7, HH, hF⟩ := hrel
        obtain rfl : M5 = s.ma := HM5.out
        obtain rfl : M6 = s.read := HM6.out
        obtain rfl : M7 = (d : Int) - (t : Int) := HM7.out
        clear HM5 HM6 HM7
        obtain ⟨k0, k1, k2, k3, k4, k5, k6, k7, k8⟩ := HC.out wr hF
        by_cases hi : i < n1
        · have hi' : i < es.length := by rw [← HEn.out]; omega
          obtain ⟨bb, off, rfl, _, hcE⟩ := (HEr.out _ hF).lies (by omega)
          obtain ⟨d0, d1, d2, d3, d4, d5⟩ := hcE i hi'
          have hEe := HEe.out _ (egetD_mem es i hi')
          obtain ⟨hNx, hNn⟩ := ho_next HH.out (by rw [← HGo.out]; exact hi) HMy.out.1 HMy.out.2 HEe.out
          have hle := HH.out.out
          have hdi := HH.out.di
          have hm0 := HH.out.m0
          have hrd := HH.out.iv.low
          have hrt := HH.out.iv.top
          have hT6 := HT6.out
          generalize es.getD i Ev.no = E at d0 d1 d2 d3 d4 d5 hEe hNx hNn
          generalize (stp c (txs ts) s E).2 = s' at hNx hNn
          have HNx : Hid (Nx c s s' E) := hNx
          have HH1 : Hid (Ho c (txs ts) (sy0 m xs) es (i + 1) s' (d + if E.k = 3 then 1 else 0) (t + if E.k = 4 then 1 else 0)) := hNn
          have hmm : ¬ (E.m < s.ma) := by have := hNx.ma; have := hNx.up; omega
          have hmd : decide (E.m < s.ma) = false := by simp; omega
          have hEn := hEe.n
          have hEm := hEe.m
          clear hNx hNn hcE hEe HH
          unfold I6 at hEn hEm hm0
          obtain ⟨w3, HW3⟩ : ∃ w3, Hid (wr.alloc (.cells #[.int .i64 E.t, .int .u8 E.k, .int .i64 E.n, .int .i64 E.s, .int .i64 E.c, .int .i64 E.m] 62) = w3) := ⟨_, rfl⟩
          obtain ⟨B9, HB9⟩ : ∃ B9, Hid (B9 = wr.heap.size) := ⟨_, rfl⟩
          have hF3 : Fr [] wr w3 := by rw [← HW3.out]; exact Fr.alloc [] wr _
          have hby : w3.heap[B9]? = some (.cells #[.int .i64 E.t, .int .u8 E.k, .int .i64 E.n, .int .i64 E.s, .int .i64 E.c, .int .i64 E.m] 62 (0, 0)) := by rw [← HW3.out, HB9.out]; exact heap_alloc_new wr _
          have e1 : w3.cell? ⟨B9, 1, none⟩ = some (.int .u8 E.k) := by rw [cell_of_row _ _ _ _ _ _ hby]; rfl
          have e2 : w3.cell? ⟨B9, 2, none⟩ = some (.int .i64 E.n) := by rw [cell_of_row _ _ _ _ _ _ hby]; rfl
          have e5 : w3.cell? ⟨B9, 5, none⟩ = some (.int .i64 E.m) := by rw [cell_of_row _ _ _ _ _ _ hby]; rfl
          have hG3 : Fr [] wa w3 := hF.then hF3
          clear hby
          go_upto_region 11 with fail
          rw [HW3.out, ← HB9.out]
          clear HW3 HB9 d0 d1 d2 d3 d4 d5 k0 k1 k2 k3 k4 k5 k6 k7 k8 hF3
          obtain ⟨_, _, k2, _⟩ := HC.out w3 hG3
          by_cases hk : E.k = 1
          · have hk1 : (E.k == 1) = true := by simp [hk]
            have hk3 : (E.k == 3) = false := by simp [hk]
            have hk4 : (E.k == 4) = false := by simp [hk]
            obtain ⟨y1, y2⟩ := HNx.out.one hk
            have hne2 : (E.n != s.read + 1) = false := by simp [y1]
            have HH2 : Hid (Ho c (txs ts) (sy0 m xs) es (i + 1) s' d t) := by
              have h := HH1.out
              rw [if_neg (by omega), if_neg (by omega), Nat.add_zero, Nat.add_zero] at h
              exact h
            have HY : Hid (s.read + 1 = s'.read) := y2.symm
            have HO : Hid (((d : Int) - (t : Int)) = ((d : Int) - (t : Int))) := rfl
            have HM : Hid (E.m = s'.ma) := HNx.out.ma
            clear HNx HH1
            go_wp2_with fail
            go_roundw
            case rel => exact ⟨E.m, s.read + 1, ((d : Int) - (t : Int)), i + 1, s', d, t, rfl, rfl, rfl, by simp, by omega, HM, HY.out.trans rfl, (by show _ = _; omega), HH2, hG3⟩
            case measure => simp [RowKit.intOf]; omega
          · by_cases hkb : E.k = 3
            · have hk := hkb
              have hk1 : (E.k == 1) = false := by simp [hk]
              have hk3 : (E.k == 3) = true := by simp [hk]
              have hk4 : (E.k == 4) = false := by simp [hk]
              obtain ⟨y1, y2⟩ := HNx.out.dis hk
              have hne3 : (E.n != s.read) = false := by simp [y1]
              have hwi : decide (c.w < E.n - s.ma) = false := by simp; omega
              have hwi' : ¬ (c.w < E.n - s.ma) := by omega
              have HH2 : Hid (Ho c (txs ts) (sy0 m xs) es (i + 1) s' (d + 1) t) := by
                have h := HH1.out
                rw [if_pos hk, if_neg (by omega), Nat.add_zero] at h
                exact h
              have HY : Hid (s.read = s'.read) := (HNx.out.oth (by omega)).symm
              have HM : Hid (E.m = s'.ma) := HNx.out.ma
              clear HNx HH1
              go_wp2_with fail
              go_roundw
              case rel => exact ⟨E.m, s.read, ((d : Int) - (t : Int) + 1), i + 1, s', d + 1, t, rfl, rfl, rfl, by simp, by omega, HM, HY.out.trans rfl, (by show _ = _; omega), HH2, hG3⟩
              case measure => simp [RowKit.intOf]; omega
            · by_cases hkc : E.k = 4
              · have hk0 := hk
                have hk := hkc
                have hk1 : (E.k == 1) = false := by simp [hk]
                have hk3 : (E.k == 3) = false := by simp [hk]
                have hk4 : (E.k == 4) = true := by simp [hk]
                have HH2 : Hid (Ho c (txs ts) (sy0 m xs) es (i + 1) s' d (t + 1)) := by
                  have h := HH1.out
                  rw [if_neg (by omega), if_pos hk, Nat.add_zero] at h
                  exact h
                have hle2 := HH2.out.out
                have HY : Hid (s.read = s'.read) := (HNx.out.oth (by omega)).symm
                have HM : Hid (E.m = s'.ma) := HNx.out.ma
                clear HNx HH1
                go_wp2_with fail
                go_roundw
                case rel => exact ⟨E.m, s.read, ((d : Int) - (t : Int) - 1), i + 1, s', d, t + 1, rfl, rfl, rfl, by simp, by omega, HM, HY.out.trans rfl, (by show _ = _; omega), HH2, hG3⟩
                case measure => simp [RowKit.intOf]; omega
              · have hka := hk
                have hk1 : (E.k == 1) = false := by simp [hka]
                have hk3 : (E.k == 3) = false := by simp [hkb]
                have hk4 : (E.k == 4) = false := by simp [hkc]
                have HH2 : Hid (Ho c (txs ts) (sy0 m xs) es (i + 1) s' d t) := by
                  have h := HH1.out
                  rw [if_neg hkb, if_neg hkc, Nat.add_zero, Nat.add_zero] at h
                  exact h
                have HY : Hid (s.read = s'.read) := (HNx.out.oth hka).symm
                have HM : Hid (E.m = s'.ma) := HNx.out.ma
                clear HNx HH1
                go_wp2_with fail
                go_roundw
                case rel => exact ⟨E.m, s.read, ((d : Int) - (t : Int)), i + 1, s', d, t, rfl, rfl, rfl, by simp, by omega, HM, HY.out.trans rfl, (by show _ = _; omega), HH2, hG3⟩
                case measure => simp [RowKit.intOf]; omega
        · obtain rfl : i = n1 := by omega
          have hii : ¬ ((i : Int) < (i : Int)) := by omega
          have HL1 : Hid (Calls _ _ _ _ _) := HLi.out wr (HFa.out.then hF)
          clear HH hi hin
          go_wp2_with fail
          refine Calls.mono HL1.out ?_
          rintro e w2 ⟨rfl, hf2⟩
          have HF2 : Hid (Fr [] w w2) := (HFa.out.then hF).then hf2
          clear hf2
          go_wp2_with fail
          go_ret
          exact ⟨rfl, HF2.out⟩
    · go_wp2_with fail
      go_loopw [5, 6, 7, 8] (fun v5 v6 v7 v8 wr => ∃ (M5 M6 M7 : Int) (i : Nat) (s : Sy) (d t : Nat), v5 = .int .i64 M5 ∧ v6 = .int .i64 M6 ∧ v7 = .int .i64 M7 ∧ v8 = .int .i64 i ∧ i ≤ n1 ∧ Hid (M5 = s.ma) ∧ Hid (M6 = s.read) ∧ Hid (M7 = (d : Int) - (t : Int)) ∧ Hid (Ho c (txs ts) (sy0 m xs) es i s d t) ∧ Fr [] wa wr) (fun _ _ _ v8 _ => n1 - (RowKit.intOf v8).toNat)
      case atStart => exact ⟨m, m, 0, 0, sy0 m xs, 0, 0, rfl, rfl, rfl, rfl, Nat.zero_le _, (by show _ = _; rfl), (by show _ = _; rfl), (by show _ = _; simp), H0, HF1.out⟩
      case round =>
        obtain ⟨M5, M6, M7, i, s, d, t, rfl, rfl, rfl, rfl, hin, HM5, HM6, HM7, HH, hF⟩ := hrel
        obtain rfl : M5 = s.ma := HM5.out
        obtain rfl : M6 = s.read := HM6.out
        obtain rfl : M7 = (d : Int) - (t : Int) := HM7.out
        clear HM5 HM6 HM7
        obtain ⟨k0, k1, k2, k3, k4, k5, k6, k7, k8⟩ := HC.out wr hF
        by_cases hi : i < n1
        · have hi' : i < es.length := by rw [← HEn.out]; omega
          obtain ⟨bb, off, rfl, _, hcE⟩ := (HEr.out _ hF).lies (by omega)
          obtain ⟨d0, d1, d2, d3, d4, d5⟩ := hcE i hi'
          have hEe := HEe.out _ (egetD_mem es i hi')
          obtain ⟨hNx, hNn⟩ := ho_next HH.out (by rw [← HGo.out]; exact hi) HMy.out.1 HMy.out.2 HEe.out
          have hle := HH.out.out
          have hdi := HH.out.di
          have hm0 := HH.out.m0
          have hrd := HH.out.iv.low
          have hrt := HH.out.iv.top
          have hT6 := HT6.out
          generalize es.getD i Ev.no = E at d0 d1 d2 d3 d4 d5 hEe hNx hNn
          generalize (stp c (txs ts) s E).2 = s' at hNx hNn
          have HNx : Hid (Nx c s s' E) := hNx
          have HH1 : Hid (Ho c (txs ts) (sy0 m xs) es (i + 1) s' (d + if E.k = 3 then 1 else 0) (t + if E.k = 4 then 1 else 0)) := hNn
          have hmm : ¬ (E.m < s.ma) := by have := hNx.ma; have := hNx.up; omega
          have hmd : decide (E.m < s.ma) = false := by simp; omega
          have hEn := hEe.n
          have hEm := hEe.m
          clear hNx hNn hcE hEe HH
          unfold I6 at hEn hEm hm0
          obtain ⟨w3, HW3⟩ : ∃ w3, Hid (wr.alloc (.cells #[.int .i64 E.t, .int .u8 E.k, .int .i64 E.n, .int .i64 E.s, .int .i64 E.c, .int .i64 E.m] 62) = w3) := ⟨_, rfl⟩
          obtain ⟨B9, HB9⟩ : ∃ B9, Hid (B9 = wr.heap.size) := ⟨_, rfl⟩
          have hF3 : Fr [] wr w3 := by rw [← HW3.out]; exact Fr.alloc [] wr _
          have hby : w3.heap[B9]? = some (.cells #[.int .i64 E.t, .int .u8 E.k, .int .i64 E.n, .int .i64 E.s, .int .i64 E.c, .int .i64 E.m] 62 (0, 0)) := by rw [← HW3.out, HB9.out]; exact heap_alloc_new wr _
          have e1 : w3.cell? ⟨B9, 1, none⟩ = some (.int .u8 E.k) := by rw [cell_of_row _ _ _ _ _ _ hby]; rfl
          have e2 : w3.cell? ⟨B9, 2, none⟩ = some (.int .i64 E.n) := by rw [cell_of_row _ _ _ _ _ _ hby]; rfl
          have e5 : w3.cell? ⟨B9, 5, none⟩ = some (.int .i64 E.m) := by rw [cell_of_row _ _ _ _ _ _ hby]; rfl
          have hG3 : Fr [] wa w3 := hF.then hF3
          clear hby
          go_upto_region 11 with fail
          rw [HW3.out, ← HB9.out]
          clear HW3 HB9 d0 d1 d2 d3 d4 d5 k0 k1 k2 k3 k4 k5 k6 k7 k8 hF3
          obtain ⟨_, _, k2, _⟩ := HC.out w3 hG3
          by_cases hk : E.k = 1
          · have hk1 : (E.k == 1) = true := by simp [hk]
            have hk3 : (E.k == 3) = false := by simp [hk]
            have hk4 : (E.k == 4) = false := by simp [hk]
            obtain ⟨y1, y2⟩ := HNx.out.one hk
            have hne2 : (E.n != s.read + 1) = false := by simp [y1]
            have HH2 : Hid (Ho c (txs ts) (sy0 m xs) es (i + 1) s' d t) := by
              have h := HH1.out
              rw [if_neg (by omega), if_neg (by omega), Nat.add_zero, Nat.add_zero] at h
              exact h
            have HY : Hid (s.read + 1 = s'.read) := y2.symm
            have HO : Hid (((d : Int) - (t : Int)) = ((d : Int) - (t : Int))) := rfl
            have HM : Hid (E.m = s'.ma) := HNx.out.ma
            clear HNx HH1
            go_wp2_with fail
            go_roundw
            case rel => exact ⟨E.m, s.read + 1, ((d : Int) - (t : Int)), i + 1, s', d, t, rfl, rfl, rfl, by simp, by omega, HM, HY.out.trans rfl, (by show _ = _; omega), HH2, hG3⟩
            case measure => simp [RowKit.intOf]; omega
          · by_cases hkb : E.k = 3
            · have hk := hkb
              have hk1 : (E.k == 1) = false := by simp [hk]
              have hk3 : (E.k == 3) = true := by simp [hk]
              have hk4 : (E.k == 4) = false := by simp [hk]
              obtain ⟨y1, y2⟩ := HNx.out.dis hk
              have hne3 : (E.n != s.read) = false := by simp [y1]
              have hwi : decide (c.w < E.n - s.ma) = false := by simp; omega
              have hwi' : ¬ (c.w < E.n - s.ma) := by omega
              have HH2 : Hid (Ho c (txs ts) (sy0 m xs) es (i + 1) s' (d + 1) t) := by
                have h := HH1.out
                rw [if_pos hk, if_neg (by omega), Nat.add_zero] at h
                exact h
              have HY : Hid (s.read = s'.read) := (HNx.out.oth (by omega)).symm
              have HM : Hid (E.m = s'.ma) := HNx.out.ma
              clear HNx HH1
              go_wp2_with fail
              go_roundw
              case rel => exact ⟨E.m, s.read, ((d : Int) - (t : Int) + 1), i + 1, s', d + 1, t, rfl, rfl, rfl, by simp, by omega, HM, HY.out.trans rfl, (by show _ = _; omega), HH2, hG3⟩
              case measure => simp [RowKit.intOf]; omega
            · by_cases hkc : E.k = 4
              · have hk0 := hk
                have hk := hkc
                have hk1 : (E.k == 1) = false := by simp [hk]
                have hk3 : (E.k == 3) = false := by simp [hk]
                have hk4 : (E.k == 4) = true := by simp [hk]
                have HH2 : Hid (Ho c (txs ts) (sy0 m xs) es (i + 1) s' d (t + 1)) := by
                  have h := HH1.out
                  rw [if_neg (by omega), if_pos hk, Nat.add_zero] at h
                  exact h
                have hle2 := HH2.out.out
                have HY : Hid (s.read = s'.read) := (HNx.out.oth (by omega)).symm
                have HM : Hid (E.m = s'.ma) := HNx.out.ma
                clear HNx HH1
                go_wp2_with fail
                go_roundw
                case rel => exact ⟨E.m, s.read, ((d : Int) - (t : Int) - 1), i + 1, s', d, t + 1, rfl, rfl, rfl, by simp, by omega, HM, HY.out.trans rfl, (by show _ = _; omega), HH2, hG3⟩
                case measure => simp [RowKit.intOf]; omega
              · have hka := hk
                have hk1 : (E.k == 1) = false := by simp [hka]
                have hk3 : (E.k == 3) = false := by simp [hkb]
                have hk4 : (E.k == 4) = false := by simp [hkc]
                have HH2 : Hid (Ho c (txs ts) (sy0 m xs) es (i + 1) s' d t) := by
                  have h := HH1.out
                  rw [if_neg hkb, if_neg hkc, Nat.add_zero, Nat.add_zero] at h
                  exact h
                have HY : Hid (s.read = s'.read) := (HNx.out.oth hka).symm
                have HM : Hid (E.m = s'.ma) := HNx.out.ma
                clear HNx HH1
                go_wp2_with fail
                go_roundw
                case rel => exact ⟨E.m, s.read, ((d : Int) - (t : Int)), i + 1, s', d, t, rfl, rfl, rfl, by simp, by omega, HM, HY.out.trans rfl, (by show _ = _; omega), HH2, hG3⟩
                case measure => simp [RowKit.intOf]; omega
        · obtain rfl : i = n1 := by omega
          have hii : ¬ ((i : Int) < (i : Int)) := by omega
          have HL1 : Hid (Calls _ _ _ _ _) := HLi.out wr (HFa.out.then hF)
          clear HH hi hin
          go_wp2_with fail
          refine Calls.mono HL1.out ?_
          rintro e w2 ⟨rfl, hf2⟩
          have HF2 : Hid (Fr [] w w2) := (HFa.out.then hF).then hf2
          clear hf2
          go_wp2_with fail
          go_ret
          exact ⟨rfl, HF2.out⟩
  · have h71 : c1 = 7 ∨ c1 = 1 := by rcases HWays.out with ⟨h, _⟩ | ⟨h, _⟩ | ⟨h, _⟩ <;> omega
    obtain rfl : n1 = 0 := by rcases HWays.out with ⟨h, _⟩ | ⟨h, _⟩ | ⟨_, h⟩ <;> omega
    clear HWays HBg hno
    rcases h71 with rfl | rfl
    · go_wp2_with fail
      refine Calls.mono HL1.out ?_
      rintro e w2 ⟨rfl, hf2⟩
      have HF2 : Hid (Fr [] w w2) := (HFa.out.then HF1.out).then hf2
      clear hf2
      go_wp2_with fail
      go_ret
      exact ⟨rfl, HF2.out⟩
    · go_wp2_with fail
      refine Calls.mono HL1.out ?_
      rintro e w2 ⟨rfl, hf2⟩
      have HF2 : Hid (Fr [] w w2) := (HFa.out.then HF1.out).then hf2
      clear hf2
      go_wp2_with fail
      go_ret
      exact ⟨rfl, HF2.out⟩
end Go.Proofs.YtaaghcimfcjehaaGreatDoor

/- The walk of the law GatePlays. Conditions: how its arguments lie in memory; the library's table lies as its variable lays it. -/
import Derived.Test.YtleklocdejldnaaDoorGk12
namespace Go.Proofs.YtleklocdejldnaaDoor
open BigFrame Go.ChangeShapes Go.WideShapes Go.ChangeAt Go.RowKit Go.Lib Go.Maps
set_option linter.unusedVariables false
set_option linter.unusedSimpArgs false

theorem twinI_own {w : World} {b L : Nat} {ns : List Int} (hL : L = ns.length) (hLs : L < 2^21) (hrow : w.heap[b]? = some (.cells (intsC (ns ++ [7777])).toArray 3 (0, 0))) : w.ownsRow 0 3 1 (.slice (some ⟨b, 0, none⟩) L (L + 1)) L (intsC ns) := by
  refine ⟨by rw [intsC_length, hL]; omega, .inr ⟨b, L + 1, (intsC (ns ++ [7777])).toArray, rfl, Nat.zero_le _, hrow, by omega, by simp only [maxLen]; omega, by simp [intsC_length, hL], ?_⟩⟩
  simp only [intsC, List.map_append]
  rw [Nat.mul_one, List.take_append_of_le_length (by simp; omega), List.take_of_length_le (by simp; omega)]
set_option maxRecDepth 100000 in
theorem zero_gate0 : Tryd.zeroCells53[0]? = some (.bool false) := by kernel_rfl
theorem newBk_one : Bq.newBk.all (·.oneCell') = true := by first | decide | simp [Bq.newBk, Value.oneCell']
theorem infoBk : (Tryd.prog.info? 45).map (·.size) = some 12 := by kernel_rfl
set_option maxHeartbeats 32000000 in
set_option maxRecDepth 100000 in
theorem gpl_ok (mk : Int) (hmk : -9223372036854775808 ≤ mk ∧ mk ≤ 9223372036854775807) (ao : Option Addr) (L cap : Nat) (bs : List Int) (bo : Option Addr) (M cb : Nat) (ns : List Int) (w : World) (hA : IRs w ao bs) (hLe : L = bs.length) (hN : IRs w bo ns) (hMe : M = ns.length) (hT : Tz w) (hok : Gok mk bs) :
    Calls Tryd.prog 3 #[.int .i64 mk, .slice ao L cap, .slice bo M cb] w fun e w' => e = .returned (.bool true) ∧ Fr [] w w' := by
  have HL : Hid (L = bs.length) := hLe
  have HM : Hid (M = ns.length) := hMe
  have HA : Hid (∀ W, Fr [] w W → IRs W ao bs) := fun W hf => hA.keep hf
  have HN : Hid (∀ W, Fr [] w W → IRs W bo ns) := fun W hf => hN.keep hf
  have HTz : Hid (∀ W, Fr [] w W → Tz W) := fun W hf => hT.keep hf (by simp)
  have HOk : Hid (Gok mk bs) := hok
  have hLL : L ≤ 17592186044416 := by have := hA.few; omega
  have hMM : M ≤ 17592186044416 := by have := hN.few; omega
  clear hA hLe hN hMe hT hok hmk
  have HBy : Hid (∀ (V : World) (k : Nat), V.heap[k]? = some (.cells #[.int .i64 (L : Int), .int .i64 (M : Int)] 3 (0, 0)) → Calls Tryd.prog 6 #[.slice (some ⟨k, 0, none⟩) 2 2] V fun e w' => e = .returned (.bool (decide (1048576 < L + M))) ∧ V = w') := fun V k hb =>
    beyond2_any k L M _ (by omega) (by omega) (by rw [cell_of_row _ _ _ _ _ _ hb]; rfl) (by rw [cell_of_row _ _ _ _ _ _ hb]; rfl)
  go_enter Tryd.func3, Tryd.ntmps3
  go_wp2_with fail
  refine Calls.mono (HBy.out _ _ (heap_alloc_new w _)) ?_
  rintro e w2 ⟨rfl, rfl⟩
  have hG2 : Fr [] w (w.alloc (.cells #[.int .i64 (L : Int), .int .i64 (M : Int)] 3)) := Fr.alloc _ _ _
  obtain ⟨w2, HW2⟩ : ∃ w2, Hid (w.alloc (.cells #[.int .i64 (L : Int), .int .i64 (M : Int)] 3) = w2) := ⟨_, rfl⟩
  rw [HW2.out] at hG2 ⊢
  by_cases hbig : 1048576 < L + M
  · have hbd : decide (1048576 < L + M) = true := by simpa using hbig
    rw [hbd]
    go_wp2
    go_ret
    exact ⟨rfl, hG2⟩
  have hbd : decide (1048576 < L + M) = false := by simpa using hbig
  rw [hbd]
  have hLs : L < 1048577 := by omega
  have hMs : M < 1048577 := by omega
  clear hbig hbd HW2 HBy
  go_wp2_with fail
  refine (twinIs_any ao L cap bs _ (HA.out _ hG2) HL.out (by omega)).mono ?_
  rintro e w3 ⟨b, rfl, hb, hrow3, hF3⟩
  have HG3 : Hid (Fr [] w w3) := hG2.then hF3
  have hwb : w.heap.size ≤ b := by have := hG2.size; omega
  have hb3 : b < w3.heap.size := lt_of_block hrow3
  have HRow : Hid (∀ W, Fr [] w3 W → W.heap[b]? = some (.cells (intsC (bs ++ [7777])).toArray 3 (0, 0))) := fun W hf => hf.keep hrow3 (by simp)
  have HX : Hid (IRs w3 (some ⟨b, 0, none⟩) bs) := by
    refine ⟨fun h0 => ⟨b, 0, rfl, hb3, fun i hi => ?_⟩, (HA.out _ (Fr.refl _ _)).few⟩
    rw [cell_of_row _ _ _ _ _ _ hrow3, List.getElem?_toArray, Nat.zero_add, intsC_get _ _ (by simp; omega)]
    have e : (bs ++ [7777]).getD i 0 = bs.getD i 0 := by simp [List.getD, List.getElem?_append_left hi]
    rw [e]
  clear hrow3 hF3 hG2 hb
  have HN1 : Hid (Calls _ _ _ _ _) := gg_new mk (some ⟨b, 0, none⟩) L (L + 1) bs w3 HX.out HL.out HOk.out
  go_wp2_with fail
  refine Calls.mono HN1.out ?_
  rintro e w4 ⟨g, rfl, hg, hG4, hF4⟩
  have HN2 : Hid (Calls _ _ _ _ _) := onew_any mk ao L cap bs w4 (HA.out _ (HG3.out.then hF4)) HL.out HOk.out
  have HG4 : Hid (GG w4 g mk bs) := hG4
  have HF4 : Hid (Fr [] w3 w4) := hF4
  clear hG4 hF4 HN1
  go_wp2_with fail
  refine Calls.mono HN2.out ?_
  rintro e w5 ⟨gs, lo, c5, rfl, hgs, hO5, hlo, hF5⟩
  obtain ⟨gb, hgb⟩ : ∃ gb, gb = [g] := ⟨_, rfl⟩
  obtain ⟨ob, hob⟩ : ∃ ob, ob = [gs] := ⟨_, rfl⟩
  obtain ⟨m0, hm0⟩ : ∃ m0, m0 = mk := ⟨_, rfl⟩
  obtain ⟨xs0, hx0⟩ : ∃ xs0, xs0 = bs := ⟨_, rfl⟩
  have HP5 : Hid (Pq w5 (some ⟨g, 0, none⟩) (some ⟨gs, 0, none⟩) gb ob lo m0 xs0) := by
    rw [hm0, hx0]
    exact Or.inr ⟨g, gs, L, c5, rfl, rfl, hgb, hob, HG4.out.keep hF5 (by simp), hO5⟩
  have HF35 : Hid (Fr [] w3 w5) := HF4.out.then hF5
  have HGb : Hid (∀ k ∈ gb ++ ob, w.heap.size ≤ k ∧ b < k) := fun k hk => by
    have h1 := HG3.out.size
    have h2 := HF4.out.size
    rw [hgb, hob] at hk
    simp at hk
    omega
  have HLo : Hid (∀ k, qb lo = some k → b < k) := fun k hk => by
    have := hlo k hk
    have := HF4.out.size
    omega
  clear hgb hob hm0 hx0 hg hgs hO5 hlo hF5 HN2 HG4 HF4 HX HOk
  have hw35 : w3.heap.size ≤ w5.heap.size := HF35.out.size
  have HLf : Hid (Calls _ _ _ _ _) := leftIs_any b ao L cap bs w5 (HA.out _ (HG3.out.then HF35.out)) HL.out (by omega) (HRow.out _ HF35.out)
  go_wp2_with fail
  refine Calls.mono HLf.out ?_
  rintro e w6 ⟨rfl, hF6⟩
  have HF36 : Hid (Fr [] w3 w6) := HF35.out.then hF6
  have HP6 : Hid (Pq w6 (some ⟨g, 0, none⟩) (some ⟨gs, 0, none⟩) gb ob lo m0 xs0) := HP5.out.quiet hF6
  have hs56 := hF6.size
  obtain ⟨bk, HBk⟩ : ∃ bk, Hid (bk = w6.heap.size) := ⟨_, rfl⟩
  obtain ⟨wl, HWl⟩ : ∃ wl, Hid (wl = w6.alloc (Obj.cells #[.int .i64 0, .slice none 0 0, .slice none 0 0, .slice none 0 0, .slice none 0 0, .slice none 0 0, .slice none 0 0, .slice none 0 0, .slice none 0 0, .slice none 0 0, .slice none 0 0, .slice none 0 0] 45)) := ⟨_, rfl⟩
  have HGn : Hid (∀ k ∈ gb ++ ob, w.heap.size ≤ k ∧ k < w6.heap.size) := fun k hk => ⟨(HGb.out k hk).1, HP6.out.glt k hk⟩
  clear hF6 HLf HP5
  go_upto_region 9 with fail
  rw [← HWl.out, ← HBk.out]
  have hFl : Fr [] w6 wl := by rw [HWl.out]; exact Fr.alloc _ _ _
  have hBl : wl.heap[bk]? = some (.cells Bq.newBk 45 (0, 0)) := by rw [HWl.out, HBk.out]; exact heap_alloc_new w6 _
  have hbk1 : w6.heap.size ≤ bk := by rw [HBk.out]; exact Nat.le_refl _
  have hbkl : bk < wl.heap.size := lt_of_block hBl
  have h06 : w.heap.size ≤ w6.heap.size := by have := HG3.out.size; omega
  have HK0 : Hid (Kp w w6 wl (some ⟨g, 0, none⟩) (some ⟨gs, 0, none⟩) gb ob bk 0 lo [] m0 xs0) := ⟨HP6.out.quiet hFl, ⟨_, _, Bq.B2.new hBl hbk1⟩, by simp [Bq.lbs], by simp [Bq.lbs], (HG3.out.then HF36.out).then hFl, HGn.out, h06⟩
  have HC1 : Hid (Calls _ _ _ _ _) := kp_tell HK0.out (some ⟨b, 0, none⟩) L (L + 1) ⟨L, intsC bs, Bq.Cut.of (twinI_own HL.out (by omega) (HRow.out _ (HF36.out.then hFl))), by omega⟩ (fun k hk hm => by simp [Bq.lbs] at hm) (fun k hk => by
    simp [Value.ownBlock] at hk
    subst hk
    exact ⟨hwb, fun e => by have := HLo.out b e; omega⟩) (by omega)
  clear hFl hBl HP6 HK0 HWl HBk
  go_wp2_with fail
  refine Calls.mono HC1.out ?_
  rintro e wa ⟨rfl, hKa, _⟩
  have HKa : Hid _ := hKa
  have HBe : Hid (Calls _ _ _ _ _) := pq_beyond hKa.pq (HTz.out _ hKa.fr)
  have hxs0 := hKa.pq.few
  clear hKa HC1
  go_wp2_with fail
  refine Calls.mono HBe.out ?_
  rintro e wb ⟨o, N, c, rfl, hO, hFb⟩
  have hNx := hO.len
  have HC2 : Hid (Calls _ _ _ _ _) := kp_row HKa.out hFb hO (by omega) (by omega)
  clear hO hFb HBe HKa hNx
  go_wp2_with fail
  refine Calls.mono HC2.out ?_
  rintro e wc ⟨rfl, hKc, _⟩
  have HC3 : Hid (Calls _ _ _ _ _) := kp_apart hKc
  clear hKc HC2
  go_wp2_with fail
  refine Calls.mono HC3.out ?_
  rintro e wd ⟨rfl, hPd, hFd, ⟨cs, hcb, hcs⟩, _⟩
  have HPd : Hid (Pq wd (some ⟨g, 0, none⟩) (some ⟨gs, 0, none⟩) gb ob lo m0 xs0) := hPd
  have HFd : Hid (Fr [] w wd) := hFd
  have HCb : Hid (wd.heap[bk]? = some (.cells cs 45 (0, 0)) ∧ cs.size = 12) := ⟨hcb, hcs⟩
  have HLk : Hid (Calls _ _ _ _ _) := pq_looks hPd (HTz.out _ hFd) 1
  clear hPd hFd hcb hcs HC3
  go_wp2_with fail
  refine Calls.mono HLk.out ?_
  rintro e we ⟨rfl, hFe⟩
  have HPe : Hid (Pq we (some ⟨g, 0, none⟩) (some ⟨gs, 0, none⟩) gb ob lo m0 xs0) := HPd.out.quiet hFe
  have HFe : Hid (Fr [] w we) := HFd.out.then hFe
  have hce := hFe.keep HCb.out.1 (by simp)
  have hlte : bk < we.heap.size := lt_of_block hce
  have hcsz := HCb.out.2
  obtain ⟨z, HZ⟩ : ∃ z, Hid (z = we.heap.size) := ⟨_, rfl⟩
  obtain ⟨wf, HWf⟩ : ∃ wf, Hid (wf = we.alloc (.cells Tryd.zeroCells53 53)) := ⟨_, rfl⟩
  clear hFe HLk HPd HFd HCb
  go_upto_region 15 with fail
  rw [← HWf.out, ← HZ.out]
  have hFf : Fr [] we wf := by rw [HWf.out]; exact Fr.alloc _ _ _
  have hzf : wf.heap[z]? = some (.cells Tryd.zeroCells53 53 (0, 0)) := by rw [HWf.out, HZ.out]; exact heap_alloc_new we _
  have hcf := hFf.keep hce (by simp)
  have hz1 : bk ≠ z := by rw [HZ.out]; omega
  have hz6 : w6.heap.size ≤ z := by rw [HZ.out]; omega
  have hinf := infoBk
  have hone : Bq.newBk.all (·.oneCell') = true := newBk_one
  have hns : Bq.newBk.size = 12 := rfl
  have hFg : Fr [bk] wf (wf.setRow bk Bq.newBk) := Fr.setRow _ _ _
  have hBg : (wf.setRow bk Bq.newBk).heap[bk]? = some (.cells Bq.newBk 45 (0, 0)) := setRow_heap wf bk cs Bq.newBk 45 (0, 0) hcf
  have hPg : Pq (wf.setRow bk Bq.newBk) (some ⟨g, 0, none⟩) (some ⟨gs, 0, none⟩) gb ob lo m0 xs0 := (HPe.out.quiet hFf).keep hFg (fun k c hk _ => by
      rcases hk with hk | hk
      · simpa using blk_ne hk hcf (by decide)
      · simpa using blk_ne hk hcf (by decide)) (fun b hb2 => by
      obtain ⟨c, hc⟩ := (HPe.out.quiet hFf).rowT hb2
      simpa using blk_ne hc hcf (by decide))
  have HKg : Hid (Kp w w6 (wf.setRow bk Bq.newBk) (some ⟨g, 0, none⟩) (some ⟨gs, 0, none⟩) gb ob bk 0 lo [] m0 xs0) := ⟨hPg, ⟨_, _, Bq.B2.new hBg hbk1⟩, by simp [Bq.lbs], by simp [Bq.lbs], (HFe.out.then hFf).on hFg (by simp; omega), HGn.out, h06⟩
  have HZg : Hid (ZG (wf.setRow bk Bq.newBk) z) := ⟨_, hFg.keep hzf (by simpa using hz1.symm), zero_gate0⟩
  obtain ⟨wg, HWg⟩ : ∃ wg, Hid (wf.setRow bk Bq.newBk = wg) := ⟨_, rfl⟩
  rw [HWg.out] at HKg HZg
  have HCf : Hid (wf.heap[bk]? = some (.cells cs 45 (0, 0))) := hcf
  clear hFf hzf hcf hFg hBg hPg HPe HFe hce HWf HZ
  go_wp2_with (refine wpList_store_row rfl 45 _ _ rfl bk Bq.newBk rfl rfl 45 cs HCf.out hinf hcsz hone ?_; rw [HWg.out])
  go_loopw [15] (fun ii wr => ∃ (i T : Nat) (lo : Option Addr) (hI : List Bq.HB) (m : Int) (xs : List Int), ii = .int .i64 i ∧ i ≤ M ∧ T ≤ 20 ∧ T ≤ i ∧ Hid (Kp w w6 wr (some ⟨g, 0, none⟩) (some ⟨gs, 0, none⟩) gb ob bk T lo hI m xs) ∧ Hid (ZG wr z)) (fun ii _ => M - (RowKit.intOf ii).toNat)
  case atStart => exact ⟨0, 0, lo, [], m0, xs0, rfl, Nat.zero_le _, by omega, Nat.le_refl _, HKg, HZg⟩
  case round =>
    clear HKg HZg HCf
    obtain ⟨i, T, lo, hI, m, xs, rfl, hi1, hT20, hTi, HK, HZ⟩ := hrel
    by_cases hi : i < M
    · have hin : i < ns.length := by rw [← HM.out]; exact hi
      obtain ⟨nb, nof, rfl, hnbl, hnat⟩ := (HN.out _ (Fr.refl _ _)).lies (by omega)
      have HC : Hid (∀ W, Fr [] w W → W.cell? ⟨nb, nof + i, none⟩ = some (.int .i64 (ns.getD i 0))) := fun W hf => (World.cell?_of_block (hf.block nb hnbl (by simp))).trans (hnat i hin)
      obtain ⟨n, hn⟩ : ∃ n, n = ns.getD i 0 := ⟨_, rfl⟩
      rw [← hn] at HC
      clear hn hnat
      have k1 := HC.out _ HK.out.fr
      obtain ⟨up, er, m2, xs2, hd⟩ := kp_done HK.out n
      have HD : Hid (Calls _ _ _ _ _) := hd
      clear hd
      go_wp2_with fail
      refine Calls.mono HD.out ?_
      rintro e x1 ⟨rfl, hX1, hd2⟩
      have HD2 : Hid (Calls _ _ _ _ _) := hd2
      have k2 := HC.out _ hX1
      clear hd2 hX1 HD k1
      go_wp2_with fail
      refine Calls.mono HD2.out ?_
      rintro e x2 ⟨rfl, ⟨lo2, hK2⟩, hz2⟩
      have HK2 : Hid _ := hK2
      have HZ2 : Hid (ZG x2 z) := hz2 z hz6 HZ.out
      have k3 := HC.out _ hK2.fr
      have HLk : Hid (Calls _ _ _ _ _) := pq_looks hK2.pq (HTz.out _ hK2.fr) n
      have q1 : (up != up) = false := by simp
      have q2 : (er != er) = false := by simp
      clear hK2 hz2 HD2 HK HZ k2
      go_wp2_with fail
      refine Calls.mono HLk.out ?_
      rintro e x3 ⟨rfl, hX3⟩
      have HK3 := HK2.out.quiet hX3
      have HZ3 := HZ2.out.keep hX3 (by simp)
      have k4 := HC.out _ HK3.fr
      have HLz : Hid (Calls _ _ _ _ _) := zg_looks HZ3 n
      have HK3 : Hid _ := HK3
      have HZ3 : Hid (ZG x3 z) := HZ3
      clear hX3 HLk HK2 HZ2 k3
      go_wp2_with fail
      refine Calls.mono HLz.out ?_
      rintro e x4 ⟨rfl, hX4⟩
      have HK4 : Hid _ := HK3.out.quiet hX4
      have HZ4 : Hid (ZG x4 z) := HZ3.out.keep hX4 (by simp)
      clear hX4 HLz HK3 HZ3 k4 q1 q2
      by_cases h20 : i < 20
      · have h20i : (i : Int) < 20 := by omega
        have HBe : Hid (Calls _ _ _ _ _) := pq_beyond HK4.out.pq (HTz.out _ HK4.out.fr)
        have hxs2 := HK4.out.pq.few
        go_wp2_with fail
        refine Calls.mono HBe.out ?_
        rintro e x5 ⟨o, N, c, rfl, hO, hX5⟩
        have hNx := hO.len
        have HC2 : Hid (Calls _ _ _ _ _) := kp_row HK4.out hX5 hO (by omega) (by omega)
        have HZ5 : Hid (ZG x5 z) := HZ4.out.keep hX5 (by simp)
        clear hO hX5 HBe hNx HK4 HZ4
        go_wp2_with fail
        refine Calls.mono HC2.out ?_
        rintro e x6 ⟨rfl, hK6, hz6b⟩
        have HK6 : Hid _ := hK6
        have HZ6 : Hid (ZG x6 z) := hz6b z HZ5.out
        clear hK6 hz6b HC2 HZ5
        go_wp2
        go_roundw
        case rel => exact ⟨i + 1, T + 1, lo2, _, m2, xs2, by simp, by omega, by omega, by omega, HK6, HZ6⟩
        case measure => simp [RowKit.intOf]; omega
      · have h20i : ¬ (i : Int) < 20 := by omega
        go_wp2
        go_roundw
        case rel => exact ⟨i + 1, T, lo2, hI, m2, xs2, by simp, by omega, by omega, by omega, HK4, HZ4⟩
        case measure => simp [RowKit.intOf]; omega
    · have hil : ¬ (i : Int) < (M : Int) := by omega
      have HDz : Hid (Calls _ _ _ _ _) := adone_none (some ⟨z, 0, none⟩) 1 wr HZ.out.no
      go_wp2_with fail
      refine Calls.mono HDz.out ?_
      rintro e y1 ⟨rfl, rfl⟩
      have HAp : Hid (Calls _ _ _ _ _) := kp_apart HK.out
      clear HDz hil
      go_wp2_with fail
      refine Calls.mono HAp.out ?_
      rintro e y2 ⟨rfl, hP2, hF2, _, _⟩
      have HP2 : Hid (∀ W, Fr [] y2 W → Pq W (some ⟨g, 0, none⟩) (some ⟨gs, 0, none⟩) gb ob lo m xs) := fun W hf => hP2.quiet hf
      have HF2 : Hid (Fr [] w y2) := hF2
      have hxs := hP2.few
      clear HAp hP2 hF2 HK
      go_wp2_with fail
      refine Calls.mono (pq_beyond (HP2.out _ (Fr.refl _ _)) (HTz.out _ HF2.out)) ?_
      rintro e y3 ⟨o3, N3, c3, rfl, hO3, hY3⟩
      go_wp2_with fail
      refine Calls.mono (pq_obeyond (HP2.out _ hY3)) ?_
      rintro e y4 ⟨o4, N4, c4, rfl, hO4, hY4⟩
      have e1 := hO3.len
      have e2 := hO4.len
      obtain rfl : N4 = N3 := by omega
      have HS : Hid (Calls _ _ _ _ _) := same12 o3 o4 N4 c3 c4 xs y4 ((hO3.rs (by omega)).keep hY4) (hO4.rs (by omega)) e1 (by omega)
      have hY4 := hY3.then hY4
      clear hO3 hO4 e1 e2 hY3
      go_wp2_with fail
      refine Calls.mono HS.out ?_
      rintro e y5 ⟨rfl, hY5⟩
      have hY5 := hY4.then hY5
      clear HS hY4
      go_wp2_with fail
      refine Calls.mono (pq_mark (HP2.out _ hY5)) ?_
      rintro e y6 ⟨rfl, hY6⟩
      have hY6 := hY5.then hY6
      have q1 : (m == m) = true := by simp
      clear hY5
      go_wp2_with fail
      refine Calls.mono (pq_omark (HP2.out _ hY6)) ?_
      rintro e y7 ⟨rfl, hY7⟩
      go_wp2
      go_ret
      exact ⟨rfl, HF2.out.then (hY6.then hY7)⟩
set_option maxHeartbeats 32000000 in
set_option maxRecDepth 100000 in
theorem gpl_no (mk : Int) (hmk : -9223372036854775808 ≤ mk ∧ mk ≤ 9223372036854775807) (ao : Option Addr) (L cap : Nat) (bs : List Int) (bo : Option Addr) (M cb : Nat) (ns : List Int) (w : World) (hA : IRs w ao bs) (hLe : L = bs.length) (hN : IRs w bo ns) (hMe : M = ns.length) (hT : Tz w) (hok : ¬ Gok mk bs) :
    Calls Tryd.prog 3 #[.int .i64 mk, .slice ao L cap, .slice bo M cb] w fun e w' => e = .returned (.bool true) ∧ Fr [] w w' := by
  have HL : Hid (L = bs.length) := hLe
  have HM : Hid (M = ns.length) := hMe
  have HA : Hid (∀ W, Fr [] w W → IRs W ao bs) := fun W hf => hA.keep hf
  have HN : Hid (∀ W, Fr [] w W → IRs W bo ns) := fun W hf => hN.keep hf
  have HTz : Hid (∀ W, Fr [] w W → Tz W) := fun W hf => hT.keep hf (by simp)
  have HOk : Hid (¬ Gok mk bs) := hok
  have hLL : L ≤ 17592186044416 := by have := hA.few; omega
  have hMM : M ≤ 17592186044416 := by have := hN.few; omega
  clear hA hLe hN hMe hT hok hmk
  have HBy : Hid (∀ (V : World) (k : Nat), V.heap[k]? = some (.cells #[.int .i64 (L : Int), .int .i64 (M : Int)] 3 (0, 0)) → Calls Tryd.prog 6 #[.slice (some ⟨k, 0, none⟩) 2 2] V fun e w' => e = .returned (.bool (decide (1048576 < L + M))) ∧ V = w') := fun V k hb =>
    beyond2_any k L M _ (by omega) (by omega) (by rw [cell_of_row _ _ _ _ _ _ hb]; rfl) (by rw [cell_of_row _ _ _ _ _ _ hb]; rfl)
  go_enter Tryd.func3, Tryd.ntmps3
  go_wp2_with fail
  refine Calls.mono (HBy.out _ _ (heap_alloc_new w _)) ?_
  rintro e w2 ⟨rfl, rfl⟩
  have hG2 : Fr [] w (w.alloc (.cells #[.int .i64 (L : Int), .int .i64 (M : Int)] 3)) := Fr.alloc _ _ _
  obtain ⟨w2, HW2⟩ : ∃ w2, Hid (w.alloc (.cells #[.int .i64 (L : Int), .int .i64 (M : Int)] 3) = w2) := ⟨_, rfl⟩
  rw [HW2.out] at hG2 ⊢
  by_cases hbig : 1048576 < L + M
  · have hbd : decide (1048576 < L + M) = true := by simpa using hbig
    rw [hbd]
    go_wp2
    go_ret
    exact ⟨rfl, hG2⟩
  have hbd : decide (1048576 < L + M) = false := by simpa using hbig
  rw [hbd]
  have hLs : L < 1048577 := by omega
  have hMs : M < 1048577 := by omega
  clear hbig hbd HW2 HBy
  go_wp2_with fail
  refine (twinIs_any ao L cap bs _ (HA.out _ hG2) HL.out (by omega)).mono ?_
  rintro e w3 ⟨b, rfl, hb, hrow3, hF3⟩
  have HG3 : Hid (Fr [] w w3) := hG2.then hF3
  have hwb : w.heap.size ≤ b := by have := hG2.size; omega
  have hb3 : b < w3.heap.size := lt_of_block hrow3
  have HRow : Hid (∀ W, Fr [] w3 W → W.heap[b]? = some (.cells (intsC (bs ++ [7777])).toArray 3 (0, 0))) := fun W hf => hf.keep hrow3 (by simp)
  have HX : Hid (IRs w3 (some ⟨b, 0, none⟩) bs) := by
    refine ⟨fun h0 => ⟨b, 0, rfl, hb3, fun i hi => ?_⟩, (HA.out _ (Fr.refl _ _)).few⟩
    rw [cell_of_row _ _ _ _ _ _ hrow3, List.getElem?_toArray, Nat.zero_add, intsC_get _ _ (by simp; omega)]
    have e : (bs ++ [7777]).getD i 0 = bs.getD i 0 := by simp [List.getD, List.getElem?_append_left hi]
    rw [e]
  clear hrow3 hF3 hG2 hb
  have HN1 : Hid (Calls _ _ _ _ _) := gg_new_no mk (some ⟨b, 0, none⟩) L (L + 1) bs w3 HX.out HL.out HOk.out
  go_wp2_with fail
  refine Calls.mono HN1.out ?_
  rintro e w4 ⟨rfl, hF4⟩
  have HN2 : Hid (Calls _ _ _ _ _) := onew_no mk ao L cap bs w4 (HA.out _ (HG3.out.then hF4)) HL.out HOk.out
  have HF4 : Hid (Fr [] w3 w4) := hF4
  clear hF4 HN1
  go_wp2_with fail
  refine Calls.mono HN2.out ?_
  rintro e w5 ⟨rfl, hF5⟩
  obtain ⟨gb, hgb⟩ : ∃ gb : List Nat, gb = [] := ⟨_, rfl⟩
  obtain ⟨ob, hob⟩ : ∃ ob : List Nat, ob = [] := ⟨_, rfl⟩
  obtain ⟨lo, hlo⟩ : ∃ lo : Option Addr, lo = none := ⟨_, rfl⟩
  obtain ⟨m0, hm0⟩ : ∃ m0 : Int, m0 = 0 := ⟨_, rfl⟩
  obtain ⟨xs0, hx0⟩ : ∃ xs0 : List Int, xs0 = [] := ⟨_, rfl⟩
  have HP5 : Hid (Pq w5 none none gb ob lo m0 xs0) := Or.inl ⟨rfl, rfl, hgb, hob, hlo, hm0, hx0⟩
  have HF35 : Hid (Fr [] w3 w5) := HF4.out.then hF5
  have HGb : Hid (∀ k ∈ gb ++ ob, w.heap.size ≤ k ∧ b < k) := fun k hk => by rw [hgb, hob] at hk; simp at hk
  have HLo : Hid (∀ k, qb lo = some k → b < k) := fun k hk => by rw [hlo] at hk; cases hk
  clear hgb hob hm0 hx0 hlo hF5 HN2 HF4 HX HOk
  have hw35 : w3.heap.size ≤ w5.heap.size := HF35.out.size
  have HLf : Hid (Calls _ _ _ _ _) := leftIs_any b ao L cap bs w5 (HA.out _ (HG3.out.then HF35.out)) HL.out (by omega) (HRow.out _ HF35.out)
  go_wp2_with fail
  refine Calls.mono HLf.out ?_
  rintro e w6 ⟨rfl, hF6⟩
  have HF36 : Hid (Fr [] w3 w6) := HF35.out.then hF6
  have HP6 : Hid (Pq w6 none none gb ob lo m0 xs0) := HP5.out.quiet hF6
  have hs56 := hF6.size
  obtain ⟨bk, HBk⟩ : ∃ bk, Hid (bk = w6.heap.size) := ⟨_, rfl⟩
  obtain ⟨wl, HWl⟩ : ∃ wl, Hid (wl = w6.alloc (Obj.cells #[.int .i64 0, .slice none 0 0, .slice none 0 0, .slice none 0 0, .slice none 0 0, .slice none 0 0, .slice none 0 0, .slice none 0 0, .slice none 0 0, .slice none 0 0, .slice none 0 0, .slice none 0 0] 45)) := ⟨_, rfl⟩
  have HGn : Hid (∀ k ∈ gb ++ ob, w.heap.size ≤ k ∧ k < w6.heap.size) := fun k hk => ⟨(HGb.out k hk).1, HP6.out.glt k hk⟩
  clear hF6 HLf HP5
  go_upto_region 9 with fail
  rw [← HWl.out, ← HBk.out]
  have hFl : Fr [] w6 wl := by rw [HWl.out]; exact Fr.alloc _ _ _
  have hBl : wl.heap[bk]? = some (.cells Bq.newBk 45 (0, 0)) := by rw [HWl.out, HBk.out]; exact heap_alloc_new w6 _
  have hbk1 : w6.heap.size ≤ bk := by rw [HBk.out]; exact Nat.le_refl _
  have hbkl : bk < wl.heap.size := lt_of_block hBl
  have h06 : w.heap.size ≤ w6.heap.size := by have := HG3.out.size; omega
  have HK0 : Hid (Kp w w6 wl none none gb ob bk 0 lo [] m0 xs0) := ⟨HP6.out.quiet hFl, ⟨_, _, Bq.B2.new hBl hbk1⟩, by simp [Bq.lbs], by simp [Bq.lbs], (HG3.out.then HF36.out).then hFl, HGn.out, h06⟩
  have HC1 : Hid (Calls _ _ _ _ _) := kp_tell HK0.out (some ⟨b, 0, none⟩) L (L + 1) ⟨L, intsC bs, Bq.Cut.of (twinI_own HL.out (by omega) (HRow.out _ (HF36.out.then hFl))), by omega⟩ (fun k hk hm => by simp [Bq.lbs] at hm) (fun k hk => by
    simp [Value.ownBlock] at hk
    subst hk
    exact ⟨hwb, fun e => by have := HLo.out b e; omega⟩) (by omega)
  clear hFl hBl HP6 HK0 HWl HBk
  go_wp2_with fail
  refine Calls.mono HC1.out ?_
  rintro e wa ⟨rfl, hKa, _⟩
  have HKa : Hid _ := hKa
  have HBe : Hid (Calls _ _ _ _ _) := pq_beyond hKa.pq (HTz.out _ hKa.fr)
  have hxs0 := hKa.pq.few
  clear hKa HC1
  go_wp2_with fail
  refine Calls.mono HBe.out ?_
  rintro e wb ⟨o, N, c, rfl, hO, hFb⟩
  have hNx := hO.len
  have HC2 : Hid (Calls _ _ _ _ _) := kp_row HKa.out hFb hO (by omega) (by omega)
  clear hO hFb HBe HKa hNx
  go_wp2_with fail
  refine Calls.mono HC2.out ?_
  rintro e wc ⟨rfl, hKc, _⟩
  have HC3 : Hid (Calls _ _ _ _ _) := kp_apart hKc
  clear hKc HC2
  go_wp2_with fail
  refine Calls.mono HC3.out ?_
  rintro e wd ⟨rfl, hPd, hFd, ⟨cs, hcb, hcs⟩, _⟩
  have HPd : Hid (Pq wd none none gb ob lo m0 xs0) := hPd
  have HFd : Hid (Fr [] w wd) := hFd
  have HCb : Hid (wd.heap[bk]? = some (.cells cs 45 (0, 0)) ∧ cs.size = 12) := ⟨hcb, hcs⟩
  have HLk : Hid (Calls _ _ _ _ _) := pq_looks hPd (HTz.out _ hFd) 1
  clear hPd hFd hcb hcs HC3
  go_wp2_with fail
  refine Calls.mono HLk.out ?_
  rintro e we ⟨rfl, hFe⟩
  have HPe : Hid (Pq we none none gb ob lo m0 xs0) := HPd.out.quiet hFe
  have HFe : Hid (Fr [] w we) := HFd.out.then hFe
  have hce := hFe.keep HCb.out.1 (by simp)
  have hlte : bk < we.heap.size := lt_of_block hce
  have hcsz := HCb.out.2
  obtain ⟨z, HZ⟩ : ∃ z, Hid (z = we.heap.size) := ⟨_, rfl⟩
  obtain ⟨wf, HWf⟩ : ∃ wf, Hid (wf = we.alloc (.cells Tryd.zeroCells53 53)) := ⟨_, rfl⟩
  clear hFe HLk HPd HFd HCb
  go_upto_region 15 with fail
  rw [← HWf.out, ← HZ.out]
  have hFf : Fr [] we wf := by rw [HWf.out]; exact Fr.alloc _ _ _
  have hzf : wf.heap[z]? = some (.cells Tryd.zeroCells53 53 (0, 0)) := by rw [HWf.out, HZ.out]; exact heap_alloc_new we _
  have hcf := hFf.keep hce (by simp)
  have hz1 : bk ≠ z := by rw [HZ.out]; omega
  have hz6 : w6.heap.size ≤ z := by rw [HZ.out]; omega
  have hinf := infoBk
  have hone : Bq.newBk.all (·.oneCell') = true := newBk_one
  have hns : Bq.newBk.size = 12 := rfl
  have hFg : Fr [bk] wf (wf.setRow bk Bq.newBk) := Fr.setRow _ _ _
  have hBg : (wf.setRow bk Bq.newBk).heap[bk]? = some (.cells Bq.newBk 45 (0, 0)) := setRow_heap wf bk cs Bq.newBk 45 (0, 0) hcf
  have hPg : Pq (wf.setRow bk Bq.newBk) none none gb ob lo m0 xs0 := (HPe.out.quiet hFf).keep hFg (fun k c hk _ => by
      rcases hk with hk | hk
      · simpa using blk_ne hk hcf (by decide)
      · simpa using blk_ne hk hcf (by decide)) (fun b hb2 => by
      obtain ⟨c, hc⟩ := (HPe.out.quiet hFf).rowT hb2
      simpa using blk_ne hc hcf (by decide))
  have HKg : Hid (Kp w w6 (wf.setRow bk Bq.newBk) none none gb ob bk 0 lo [] m0 xs0) := ⟨hPg, ⟨_, _, Bq.B2.new hBg hbk1⟩, by simp [Bq.lbs], by simp [Bq.lbs], (HFe.out.then hFf).on hFg (by simp; omega), HGn.out, h06⟩
  have HZg : Hid (ZG (wf.setRow bk Bq.newBk) z) := ⟨_, hFg.keep hzf (by simpa using hz1.symm), zero_gate0⟩
  obtain ⟨wg, HWg⟩ : ∃ wg, Hid (wf.setRow bk Bq.newBk = wg) := ⟨_, rfl⟩
  rw [HWg.out] at HKg HZg
  have HCf : Hid (wf.heap[bk]? = some (.cells cs 45 (0, 0))) := hcf
  clear hFf hzf hcf hFg hBg hPg HPe HFe hce HWf HZ
  go_wp2_with (refine wpList_store_row rfl 45 _ _ rfl bk Bq.newBk rfl rfl 45 cs HCf.out hinf hcsz hone ?_; rw [HWg.out])
  go_loopw [15] (fun ii wr => ∃ (i T : Nat) (lo : Option Addr) (hI : List Bq.HB) (m : Int) (xs : List Int), ii = .int .i64 i ∧ i ≤ M ∧ T ≤ 20 ∧ T ≤ i ∧ Hid (Kp w w6 wr none none gb ob bk T lo hI m xs) ∧ Hid (ZG wr z)) (fun ii _ => M - (RowKit.intOf ii).toNat)
  case atStart => exact ⟨0, 0, lo, [], m0, xs0, rfl, Nat.zero_le _, by omega, Nat.le_refl _, HKg, HZg⟩
  case round =>
    clear HKg HZg HCf
    obtain ⟨i, T, lo, hI, m, xs, rfl, hi1, hT20, hTi, HK, HZ⟩ := hrel
    by_cases hi : i < M
    · have hin : i < ns.length := by rw [← HM.out]; exact hi
      obtain ⟨nb, nof, rfl, hnbl, hnat⟩ := (HN.out _ (Fr.refl _ _)).lies (by omega)
      have HC : Hid (∀ W, Fr [] w W → W.cell? ⟨nb, nof + i, none⟩ = some (.int .i64 (ns.getD i 0))) := fun W hf => (World.cell?_of_block (hf.block nb hnbl (by simp))).trans (hnat i hin)
      obtain ⟨n, hn⟩ : ∃ n, n = ns.getD i 0 := ⟨_, rfl⟩
      rw [← hn] at HC
      clear hn hnat
      have k1 := HC.out _ HK.out.fr
      obtain ⟨up, er, m2, xs2, hd⟩ := kp_done HK.out n
      have HD : Hid (Calls _ _ _ _ _) := hd
      clear hd
      go_wp2_with fail
      refine Calls.mono HD.out ?_
      rintro e x1 ⟨rfl, hX1, hd2⟩
      have HD2 : Hid (Calls _ _ _ _ _) := hd2
      have k2 := HC.out _ hX1
      clear hd2 hX1 HD k1
      go_wp2_with fail
      refine Calls.mono HD2.out ?_
      rintro e x2 ⟨rfl, ⟨lo2, hK2⟩, hz2⟩
      have HK2 : Hid _ := hK2
      have HZ2 : Hid (ZG x2 z) := hz2 z hz6 HZ.out
      have k3 := HC.out _ hK2.fr
      have HLk : Hid (Calls _ _ _ _ _) := pq_looks hK2.pq (HTz.out _ hK2.fr) n
      have q1 : (up != up) = false := by simp
      have q2 : (er != er) = false := by simp
      clear hK2 hz2 HD2 HK HZ k2
      go_wp2_with fail
      refine Calls.mono HLk.out ?_
      rintro e x3 ⟨rfl, hX3⟩
      have HK3 := HK2.out.quiet hX3
      have HZ3 := HZ2.out.keep hX3 (by simp)
      have k4 := HC.out _ HK3.fr
      have HLz : Hid (Calls _ _ _ _ _) := zg_looks HZ3 n
      have HK3 : Hid _ := HK3
      have HZ3 : Hid (ZG x3 z) := HZ3
      clear hX3 HLk HK2 HZ2 k3
      go_wp2_with fail
      refine Calls.mono HLz.out ?_
      rintro e x4 ⟨rfl, hX4⟩
      have HK4 : Hid _ := HK3.out.quiet hX4
      have HZ4 : Hid (ZG x4 z) := HZ3.out.keep hX4 (by simp)
      clear hX4 HLz HK3 HZ3 k4 q1 q2
      by_cases h20 : i < 20
      · have h20i : (i : Int) < 20 := by omega
        have HBe : Hid (Calls _ _ _ _ _) := pq_beyond HK4.out.pq (HTz.out _ HK4.out.fr)
        have hxs2 := HK4.out.pq.few
        go_wp2_with fail
        refine Calls.mono HBe.out ?_
        rintro e x5 ⟨o, N, c, rfl, hO, hX5⟩
        have hNx := hO.len
        have HC2 : Hid (Calls _ _ _ _ _) := kp_row HK4.out hX5 hO (by omega) (by omega)
        have HZ5 : Hid (ZG x5 z) := HZ4.out.keep hX5 (by simp)
        clear hO hX5 HBe hNx HK4 HZ4
        go_wp2_with fail
        refine Calls.mono HC2.out ?_
        rintro e x6 ⟨rfl, hK6, hz6b⟩
        have HK6 : Hid _ := hK6
        have HZ6 : Hid (ZG x6 z) := hz6b z HZ5.out
        clear hK6 hz6b HC2 HZ5
        go_wp2
        go_roundw
        case rel => exact ⟨i + 1, T + 1, lo2, _, m2, xs2, by simp, by omega, by omega, by omega, HK6, HZ6⟩
        case measure => simp [RowKit.intOf]; omega
      · have h20i : ¬ (i : Int) < 20 := by omega
        go_wp2
        go_roundw
        case rel => exact ⟨i + 1, T, lo2, hI, m2, xs2, by simp, by omega, by omega, by omega, HK4, HZ4⟩
        case measure => simp [RowKit.intOf]; omega
    · have hil : ¬ (i : Int) < (M : Int) := by omega
      have HDz : Hid (Calls _ _ _ _ _) := adone_none (some ⟨z, 0, none⟩) 1 wr HZ.out.no
      go_wp2_with fail
      refine Calls.mono HDz.out ?_
      rintro e y1 ⟨rfl, rfl⟩
      have HAp : Hid (Calls _ _ _ _ _) := kp_apart HK.out
      clear HDz hil
      go_wp2_with fail
      refine Calls.mono HAp.out ?_
      rintro e y2 ⟨rfl, hP2, hF2, _, _⟩
      have HP2 : Hid (∀ W, Fr [] y2 W → Pq W none none gb ob lo m xs) := fun W hf => hP2.quiet hf
      have HF2 : Hid (Fr [] w y2) := hF2
      have hxs := hP2.few
      clear HAp hP2 hF2 HK
      go_wp2_with fail
      refine Calls.mono (pq_beyond (HP2.out _ (Fr.refl _ _)) (HTz.out _ HF2.out)) ?_
      rintro e y3 ⟨o3, N3, c3, rfl, hO3, hY3⟩
      go_wp2_with fail
      refine Calls.mono (pq_obeyond (HP2.out _ hY3)) ?_
      rintro e y4 ⟨o4, N4, c4, rfl, hO4, hY4⟩
      have e1 := hO3.len
      have e2 := hO4.len
      obtain rfl : N4 = N3 := by omega
      have HS : Hid (Calls _ _ _ _ _) := same12 o3 o4 N4 c3 c4 xs y4 ((hO3.rs (by omega)).keep hY4) (hO4.rs (by omega)) e1 (by omega)
      have hY4 := hY3.then hY4
      clear hO3 hO4 e1 e2 hY3
      go_wp2_with fail
      refine Calls.mono HS.out ?_
      rintro e y5 ⟨rfl, hY5⟩
      have hY5 := hY4.then hY5
      clear HS hY4
      go_wp2_with fail
      refine Calls.mono (pq_mark (HP2.out _ hY5)) ?_
      rintro e y6 ⟨rfl, hY6⟩
      have hY6 := hY5.then hY6
      have q1 : (m == m) = true := by simp
      clear hY5
      go_wp2_with fail
      refine Calls.mono (pq_omark (HP2.out _ hY6)) ?_
      rintro e y7 ⟨rfl, hY7⟩
      go_wp2
      go_ret
      exact ⟨rfl, HF2.out.then (hY6.then hY7)⟩
theorem gpl (mk : Int) (ao : Option Addr) (L cap : Nat) (bs : List Int) (bo : Option Addr) (M cb : Nat) (ns : List Int) (w : World) (hmk : -9223372036854775808 ≤ mk ∧ mk ≤ 9223372036854775807) (hA : IRs w ao bs) (hLe : L = bs.length) (hN : IRs w bo ns) (hMe : M = ns.length) (hT : Tz w) :
    Calls Tryd.prog 3 #[.int .i64 mk, .slice ao L cap, .slice bo M cb] w fun e w' => e = .returned (.bool true) ∧ Fr [] w w' := by
  by_cases hok : Gok mk bs
  · exact gpl_ok mk hmk ao L cap bs bo M cb ns w hA hLe hN hMe hT hok
  · exact gpl_no mk hmk ao L cap bs bo M cb ns w hA hLe hN hMe hT hok
end Go.Proofs.YtleklocdejldnaaDoor

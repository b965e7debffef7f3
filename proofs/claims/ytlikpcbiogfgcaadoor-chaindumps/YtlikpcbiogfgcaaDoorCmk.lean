/- The walk of the law ChainMarks. Conditions: how its arguments lie in memory. -/
import Derived.Test.YtlikpcbiogfgcaaDoorLw8
import Derived.Test.YtlikpcbiogfgcaaDoorUa8
import Derived.Test.YtlikpcbiogfgcaaDoorTwV
import Derived.Test.YtlikpcbiogfgcaaDoorVz
namespace Go.Proofs.YtlikpcbiogfgcaaDoor
open BigFrame Go.ChangeShapes Go.WideShapes Go.ChangeAt Go.RowKit Go.Lib
set_option linter.unusedVariables false
set_option linter.unusedSimpArgs false

theorem AtTold.one {vs : List Vn} {k : Int} {x x' : Vn} {ok ok' : Bool} {c c' : Nat} (h : AtTold vs k x ok c) (g : AtTold vs k x' ok' c') : x = x' ∧ ok = ok' ∧ c = c' := by
  rcases h with ⟨rfl, h1, rfl, rfl⟩ | ⟨rfl, h1, d, hd, rfl, rfl⟩ <;> rcases g with ⟨rfl, g1, rfl, rfl⟩ | ⟨rfl, g1, d', hd', rfl, rfl⟩
  · exact ⟨rfl, rfl, rfl⟩
  · exact absurd g1 h1
  · exact absurd h1 g1
  · rw [hd.one hd']; exact ⟨rfl, rfl, rfl⟩
theorem CoTold.one {vs : List Vn} {k : Int} {us us' : List Vn} {n n' c c' : Nat} (h : CoTold vs k us n c) (g : CoTold vs k us' n' c') : us = us' ∧ n = n' ∧ c = c' := by
  rcases h with ⟨rfl, h1, rfl, rfl⟩ | ⟨rfl, h1, d, hd, rfl, rfl⟩ <;> rcases g with ⟨rfl, g1, rfl, rfl⟩ | ⟨rfl, g1, d', hd', rfl, rfl⟩
  · exact ⟨rfl, rfl, rfl⟩
  · exact absurd g1 h1
  · exact absurd h1 g1
  · rw [hd.one hd']; exact ⟨rfl, rfl, rfl⟩
theorem CoTold.sub {vs : List Vn} {k : Int} {us : List Vn} {n c : Nat} (h : CoTold vs k us n c) : us.Sublist vs := by
  rcases h with ⟨_, _, rfl, _⟩ | ⟨_, _, _, _, _, rfl⟩
  · exact List.nil_sublist _
  · exact List.drop_sublist _ _
theorem twin_own {w : World} {b L : Nat} {vs : List Vn} (hL : L = vs.length) (hLs : L < 2^21) (hrow : w.heap[b]? = some (.cells (vnsC (vs ++ [spV])).toArray 24 (0, 0))) : w.ownsRow 0 24 3 (.slice (some ⟨b, 0, none⟩) L (L + 1)) L (vnsC vs) := by
  refine ⟨by rw [vnsC_length, hL], .inr ⟨b, L + 1, (vnsC (vs ++ [spV])).toArray, rfl, Nat.zero_le _, hrow, by omega, by simp only [maxLen]; omega, by simp [vnsC_length, hL], ?_⟩⟩
  simp only [vnsC_append]
  rw [List.take_append_of_le_length (by rw [vnsC_length]; omega), List.take_of_length_le (by rw [vnsC_length]; omega)]
set_option maxHeartbeats 8000000 in
set_option maxRecDepth 100000 in
theorem cmk (ao : Option Addr) (L cap : Nat) (vs : List Vn) (mk : Int) (le : Int) (w : World) (hV : VRs w ao vs) (hLe : L = vs.length) (hcap : L ≤ cap) (h1 : -9223372036854775808 ≤ mk ∧ mk ≤ 9223372036854775807) (h2 : -9223372036854775808 ≤ le ∧ le ≤ 9223372036854775807) :
    Calls Tryd.prog 4 #[.slice ao L cap, .int .i64 mk, .int .i64 le] w fun e w' => e = .returned (.bool true) ∧ Fr [] w w' := by
  have HL : Hid (L = vs.length) := hLe
  have HV : Hid (∀ W, Fr [] w W → VRs W ao vs) := fun W hf => hV.keep hf
  clear hV hLe
  go_enter Tryd.func4, Tryd.ntmps4
  go_wp2_with fail
  refine (vsize_any ao L cap vs _ (HV.out _ (Fr.refl _ _)) HL.out).mono ?_
  rintro e w1 ⟨N0, rfl, hLN, hNb, rfl⟩
  go_wp2_with fail
  refine (beyond_any w.heap.size N0 _ (by omega) (by simp)).mono ?_
  rintro e w2 ⟨rfl, rfl⟩
  have hG2 : Fr [] w (w.alloc (.cells #[.int .i64 (N0 : Int)] 3)) := Fr.alloc _ _ _
  obtain ⟨w2, HW2⟩ : ∃ w2, Hid (w.alloc (.cells #[.int .i64 (N0 : Int)] 3) = w2) := ⟨_, rfl⟩
  rw [HW2.out] at hG2 ⊢
  by_cases hbig : 1048576 < N0
  · have hbd : decide (1048576 < N0) = true := by simpa using hbig
    rw [hbd]
    go_wp2
    go_ret
    exact ⟨rfl, hG2⟩
  · have hbd : decide (1048576 < N0) = false := by simpa using hbig
    rw [hbd]
    have hLs : L < 1048577 := by omega
    clear hbig hbd HW2 hLN hNb
    go_wp2_with fail
    refine (twinVs_any ao L cap vs _ (HV.out _ hG2) HL.out (by omega)).mono ?_
    rintro e w4 ⟨b, rfl, hb, hrow4, hF4⟩
    have hG4 := hG2.then hF4
    have HG4 : Hid (Fr [] w w4) := hG4
    have hwb : w.heap.size ≤ b := by have := hG2.size; omega
    have hb4 : b < w4.heap.size := lt_of_block hrow4
    have HRow : Hid (∀ W, Fr [] w4 W → W.heap[b]? = some (.cells (vnsC (vs ++ [spV])).toArray 24 (0, 0))) := fun W hf => hf.keep hrow4 (by simp)
    have HX : Hid (∀ W, Fr [] w4 W → VRs W (some ⟨b, 0, none⟩) vs) := fun W hf => VRs.of_own (twin_own HL.out (by omega) (HRow.out W hf)) HL.out (HV.out _ (Fr.refl _ _)).few (HV.out _ (Fr.refl _ _)).each
    have HI4 : Hid (∀ W, Fr [] w4 W → VRs W ao vs) := fun W hf => HV.out W (HG4.out.then hf)
    clear hrow4 hF4 hG2 hG4 hb
    go_wp2_with fail
    refine (at_any (some ⟨b, 0, none⟩) L (L + 1) mk vs _ (HX.out _ (Fr.refl _ _)) HL.out).mono ?_
    rintro e w5 ⟨⟨n1, v1, p1⟩, ok1, c1, rfl, hA1, hF5⟩
    obtain ⟨y5, HY5⟩ : ∃ y5, Hid (w5.alloc (.cells #[.int .i64 n1, .string v1, .bool p1] 24) = y5) := ⟨_, rfl⟩
    have hb5 : y5.heap[w5.heap.size]? = some (.cells #[.int .i64 n1, .string v1, .bool p1] 24 (0, 0)) := by rw [← HY5.out]; exact heap_alloc_new w5 _
    have hG5 : Fr [] w4 y5 := by rw [← HY5.out]; exact hF5.then (Fr.alloc _ _ _)
    go_wp2_with fail
    rw [HY5.out]
    refine (uat_any ao L cap mk vs _ (HI4.out _ hG5) HL.out).mono ?_
    rintro e w6 ⟨⟨n2, v2, p2⟩, ok2, c2, rfl, hA2, hF6⟩
    obtain ⟨e1, rfl, rfl⟩ := hA1.one hA2
    cases e1
    obtain ⟨y6, HY6⟩ : ∃ y6, Hid (w6.alloc (.cells #[.int .i64 n1, .string v1, .bool p1] 24) = y6) := ⟨_, rfl⟩
    have hb6 : y6.heap[w6.heap.size]? = some (.cells #[.int .i64 n1, .string v1, .bool p1] 24 (0, 0)) := by rw [← HY6.out]; exact heap_alloc_new w6 _
    have hF66 : Fr [] y5 y6 := by rw [← HY6.out]; exact hF6.then (Fr.alloc _ _ _)
    have hG6 := hG5.then hF66
    have hb56 := hF66.keep hb5 (by simp)
    clear hA1 hA2 hb5 hF5 hF6 hG5 hF66 HY5
    go_wp2_with fail
    rw [HY6.out]
    refine (collect_any (some ⟨b, 0, none⟩) L (L + 1) le vs _ (HX.out _ hG6) HL.out (by omega)).mono ?_
    rintro e w7 ⟨ro, N, rc, us, g1, d1, rfl, hC1, hO7, hF7⟩
    have hG7 := hG6.then hF7
    go_wp2_with fail
    refine (ucollect_any ao L cap le vs _ (HI4.out _ hG7) HL.out hcap).mono ?_
    rintro e w8 ⟨ro2, N2, rc2, us2, g2, d2, rfl, hC2, hN2, hR8, hF8⟩
    obtain ⟨rfl, rfl, rfl⟩ := hC1.one hC2
    have hG8 := hG7.then hF8
    have hsub := hC1.sub
    have HUe : Hid (us.length ≤ L ∧ ∀ x ∈ us, VEach x) := ⟨by rw [HL.out]; exact hsub.length_le, fun x hx => (HV.out _ (Fr.refl _ _)).each x (hsub.subset hx)⟩
    have HO7 : Hid (∀ W, Fr [] w8 W → VOut w4 W ro N rc us) := fun W hf => by
      have h1 := hO7.later hG6.size
      obtain ⟨rf, h3, h4⟩ := h1.own
      refine ⟨⟨rf, h3, h4.1, ?_⟩, h1.len, h1.cap⟩
      rcases h4.2 with h5 | ⟨g, cp, cur, hv, hb, hg, hr⟩
      · exact Or.inl h5
      · exact Or.inr ⟨g, cp, cur, hv, hb, (hF8.then hf).keep hg (by simp), hr⟩
    have hNu : N = us.length := hO7.len
    have HNu : Hid (N = us.length) := hNu
    have hNL : N ≤ L := by rw [hNu]; exact HUe.out.1
    have HS1 : Hid (Calls _ _ _ _ _) := sameVs_any ro ro2 N N2 rc rc2 true us us w8 ((HO7.out _ (Fr.refl _ _)).rs (by have := HUe.out.1; omega) HUe.out.2) hR8 hNu hN2 (by simp)
    have HLf : Hid (∀ W, Fr [] w8 W → Calls Tryd.prog 14 #[.slice (some ⟨b, 0, none⟩) L (L + 1), .slice ao L cap] W fun e w' => e = .returned (.bool true) ∧ Fr [] W w') := fun W hf => leftVs_any b ao L cap vs W (HI4.out _ (hG8.then hf)) HL.out (by omega) (HRow.out _ (hG8.then hf))
    have hx5 := (hF7.then hF8).keep hb56 (by simp)
    have hx6 := (hF7.then hF8).keep hb6 (by simp)
    have a0 : w8.cell? ⟨w5.heap.size, 0, none⟩ = some (.int .i64 n1) := by rw [cell_of_row _ _ _ _ _ _ hx5]; rfl
    have a1 : w8.cell? ⟨w5.heap.size, 1, none⟩ = some (.string v1) := by rw [cell_of_row _ _ _ _ _ _ hx5]; rfl
    have a2 : w8.cell? ⟨w5.heap.size, 2, none⟩ = some (.bool p1) := by rw [cell_of_row _ _ _ _ _ _ hx5]; rfl
    have b0 : w8.cell? ⟨w6.heap.size, 0, none⟩ = some (.int .i64 n1) := by rw [cell_of_row _ _ _ _ _ _ hx6]; rfl
    have b1 : w8.cell? ⟨w6.heap.size, 1, none⟩ = some (.string v1) := by rw [cell_of_row _ _ _ _ _ _ hx6]; rfl
    have b2 : w8.cell? ⟨w6.heap.size, 2, none⟩ = some (.bool p1) := by rw [cell_of_row _ _ _ _ _ _ hx6]; rfl
    have hgd := Tryd.guardVn
    have hq : ∀ w', (Op.equalIn 10000 24 (.agg #[.int .i64 n1, .string v1, .bool p1]) (.agg #[.int .i64 n1, .string v1, .bool p1])).run Tryd.prog w' = .ok true w' := fun w' => by
      have := vn_in w' ⟨n1, v1, p1⟩ ⟨n1, v1, p1⟩
      rw [(sameV_iff _ _).2 rfl] at this
      exact this
    have q1 : ((c1 : Int) != c1) = false := by simp
    have q2 : ((g1 : Int) != g1) = false := by simp
    have q3 : ((d1 : Int) != d1) = false := by simp
    have q4 : (ok1 != ok1) = false := by simp
    have HR : Hid (Fr [] w4 w8) := hG8
    clear hC1 hC2 hN2 hR8 hF7 hF8 hG7 hG8 hG6 hx5 hx6 hb56 hb6 hO7 hsub hNu HY6
    go_wp2_with fail
    refine Calls.mono HS1.out ?_
    rintro e x2 ⟨rfl, hf2⟩
    go_wp2_with fail
    refine (HLf.out _ hf2).mono ?_
    rintro e w9 ⟨rfl, hf4⟩
    have HG9 : Hid (Fr [] w8 w9) := hf2.then hf4
    obtain ⟨bk, HBk⟩ : ∃ bk, Hid (bk = w9.heap.size) := ⟨_, rfl⟩
    obtain ⟨wl, HWl⟩ : ∃ wl, Hid (wl = w9.alloc (Obj.cells #[.int .i64 0, .slice none 0 0, .slice none 0 0, .slice none 0 0, .slice none 0 0, .slice none 0 0, .slice none 0 0, .slice none 0 0, .slice none 0 0, .slice none 0 0, .slice none 0 0, .slice none 0 0] 45)) := ⟨_, rfl⟩
    clear HS1 HLf hf2 hf4 a0 a1 a2 b0 b1 b2 hq hgd q1 q2 q3 q4
    go_upto_region 11 with fail
    rw [← HWl.out, ← HBk.out]
    have HFl : Hid (Fr [] w9 wl) := by rw [HWl.out]; exact Fr.alloc _ _ _
    have hBl : wl.heap[bk]? = some (.cells Bq.newBk 45 (0, 0)) := by rw [HWl.out, HBk.out]; exact heap_alloc_new w9 _
    have HG8l : Hid (Fr [] w8 wl) := HG9.out.then HFl.out
    have HG4l : Hid (Fr [] w4 wl) := HR.out.then HG8l.out
    have hbk1 : w4.heap.size ≤ bk := by rw [HBk.out]; exact (HR.out.then HG9.out).size
    have hs4 : w.heap.size ≤ w4.heap.size := HG4.out.size
    have HB0 : Hid (Bq.B2 w wl bk 0 (.slice none 0 0) (.slice none 0 0) [] []) := Bq.B2.new hBl (by omega)
    have HC1 : Hid _ := Bq.versions_any HB0.out (some ⟨b, 0, none⟩) L (L + 1) ⟨L, vnsC vs, Bq.Cut.of (twin_own HL.out (by omega) (HRow.out _ HG4l.out)), by omega⟩ (fun k hk hm => by simp [Bq.lbs] at hm) (by omega)
    clear hBl
    go_wp2_with fail
    refine Calls.mono HC1.out ?_
    rintro e wa ⟨rfl, rB1, hBa, hFa, hMa⟩
    have HBa : Hid (Bq.B2 w wa bk (0 + 1) rB1 (.slice none 0 0) ([] ++ [⟨.slice (some ⟨b, 0, none⟩) L (L + 1), .slice none 0 0, 0 + 1⟩]) []) := hBa
    have HFa : Hid (Fr [bk] wl wa) := hFa
    have HOx : Hid (VOut w4 wl ro N rc us) := HO7.out _ HG8l.out
    have Hbl : Hid (∀ k, (Value.slice ro N rc).ownBlock = some k → w4.heap.size ≤ k ∧ k < bk) := fun k hk => by
      obtain ⟨rf, h3, h4⟩ := (HO7.out _ HG9.out).own
      have hk2 : (Value.slice ro N rf).ownBlock = some k := by rw [Bq.ownBlock_cap ro N N rf rc]; exact hk
      rcases h4.2 with ⟨e, _⟩ | ⟨g, cp, cur, e, hb, hg, _⟩
      · cases e; simp [Value.ownBlock] at hk2
      · cases e
        simp [Value.ownBlock] at hk2
        subst hk2
        exact ⟨hb, by rw [HBk.out]; exact lt_of_block hg⟩
    have HPx : Hid (Bq.P0 Bq.kVersion wa ⟨.slice ro N rc, .slice none 0 0, 0 + 1 + 1⟩) := (Bq.P0.of_out HOx.out (by omega)).keep HFa.out (fun k hk hm => by have := (Hbl.out k hk).2; simp at hm; omega)
    have HC2 : Hid _ := Bq.versions_any HBa.out ro N rc HPx.out (fun k hk hm => by
      obtain ⟨h, hh, hk1⟩ := Bq.mem_lbs.1 hm
      simp at hh
      subst hh
      simp [Value.ownBlock] at hk1
      have := (Hbl.out k hk).1
      omega) (by omega)
    have hMB : ∀ k, rB1.ownBlock = some k → w.heap.size ≤ k := HBa.out.rBn
    clear hBa hFa hMa HC1 HB0
    go_wp2_with fail
    refine Calls.mono HC2.out ?_
    rintro e wb ⟨rfl, rB2, hBb, hFb, hMb⟩
    have hGb : Fr [] w wb := by
      refine ((HG4.out.then HG4l.out).on HFa.out (by intro x hx; simp at hx; omega)).on hFb ?_
      intro x hx
      rcases List.mem_cons.1 hx with h | h
      · omega
      · exact hMB x (by simpa using h)
    have HC4 : Hid _ := hBb.apart (by
        intro k hk
        obtain ⟨h, hh, hk1⟩ := Bq.mem_lbs.1 hk
        simp at hh
        rcases hh with rfl | rfl
        · simp [Value.ownBlock] at hk1; omega
        · have := (Hbl.out k hk1).1; omega) (by intro k hk; simp [Bq.lbs] at hk) hGb
    clear hBb hFb hMb HC2 HBa hGb
    go_wp2_with fail
    refine Calls.mono HC4.out ?_
    rintro e wd ⟨rfl, hFd⟩
    clear HC4
    go_wp2
    go_ret
    exact ⟨rfl, hFd⟩
end Go.Proofs.YtlikpcbiogfgcaaDoor

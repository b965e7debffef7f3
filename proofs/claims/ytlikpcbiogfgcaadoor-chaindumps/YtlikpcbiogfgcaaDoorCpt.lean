/- The walk of the law ChainPuts. Conditions: how its arguments lie in memory. -/
import Derived.Test.YtlikpcbiogfgcaaDoorCmk
import Derived.Test.YtlikpcbiogfgcaaDoorUp8
import Derived.Test.YtlikpcbiogfgcaaDoorUc8
import Derived.Deep.RegionHeld3
namespace Go.Proofs.YtlikpcbiogfgcaaDoor
open BigFrame Go.ChangeShapes Go.WideShapes Go.ChangeAt Go.RowKit Go.Lib
set_option linter.unusedVariables false
set_option linter.unusedSimpArgs false

theorem beyond2_any (k N M : Nat) (w : World) (hN : N ≤ 9007199254740992) (hM : M ≤ 9007199254740992) (h0 : w.cell? ⟨k, 0, none⟩ = some (.int .i64 (N : Int))) (h1 : w.cell? ⟨k, 1, none⟩ = some (.int .i64 (M : Int))) :
    Calls Tryd.prog 6 #[.slice (some ⟨k, 0, none⟩) 2 2] w fun e w' => e = .returned (.bool (decide (1048576 < N + M))) ∧ w = w' := by
  by_cases h : 1048576 < N
  · have h' : (1048576 : Int) < N := by omega
    have E : Hid (decide (1048576 < N + M) = true) := by show decide _ = true; simp; omega
    go_enter Tryd.func6, Tryd.ntmps6
    go_wp2_with fail
    refine wp_loop_rounds 1 ?_
    rw [rounds_succ]
    go_wp2
    go_ret
    rw [E.out]
    exact ⟨rfl, rfl⟩
  · have h' : (N : Int) ≤ 1048576 := by omega
    by_cases h3 : 1048576 < N + M
    · have h3' : (1048576 : Int) < (N : Int) + M := by omega
      have E : Hid (decide (1048576 < N + M) = true) := by show decide _ = true; simp; omega
      go_enter Tryd.func6, Tryd.ntmps6
      go_wp2_with fail
      refine wp_loop_rounds 2 ?_
      rw [rounds_succ]
      go_wp2
      rw [rounds_succ]
      go_wp2
      go_ret
      rw [E.out]
      exact ⟨rfl, rfl⟩
    · have h3' : (N : Int) + M ≤ 1048576 := by omega
      have E : Hid (decide (1048576 < N + M) = false) := by show decide _ = false; simp; omega
      go_enter Tryd.func6, Tryd.ntmps6
      go_wp2_with fail
      refine wp_loop_rounds 3 ?_
      rw [rounds_succ]
      go_wp2
      rw [rounds_succ]
      go_wp2
      rw [rounds_succ]
      go_wp2
      go_ret
      rw [E.out]
      exact ⟨rfl, rfl⟩
theorem PuTold.one {vs : List Vn} {v : Vn} {us us' : List Vn} {ok ok' : Bool} {c c' : Nat} (h : PuTold vs v us ok c) (g : PuTold vs v us' ok' c') : us = us' ∧ ok = ok' ∧ c = c' := by
  rcases h with ⟨rfl, h1, rfl, rfl⟩ | ⟨rfl, h1, h2, d, hd, h3⟩ <;> rcases g with ⟨rfl, g1, rfl, rfl⟩ | ⟨rfl, g1, g2, d', hd', g3⟩
  · exact ⟨rfl, rfl, rfl⟩
  · exact absurd ⟨g1, g2⟩ h1
  · exact absurd ⟨h1, h2⟩ g1
  · obtain rfl := hd.one hd'
    rcases h3 with ⟨h3, rfl, rfl⟩ | ⟨h3, rfl, rfl⟩ <;> rcases g3 with ⟨g3, rfl, rfl⟩ | ⟨g3, rfl, rfl⟩
    · exact ⟨rfl, rfl, rfl⟩
    · exact absurd h3 g3
    · exact absurd g3 h3
    · exact ⟨rfl, rfl, rfl⟩
theorem PuTold.sub {vs : List Vn} {v : Vn} {us : List Vn} {ok : Bool} {c : Nat} (h : PuTold vs v us ok c) : us.length ≤ vs.length + 1 ∧ ∀ x ∈ us, x ∈ vs ∨ x = v := by
  rcases h with ⟨_, _, rfl, _⟩ | ⟨_, _, _, d, _, ⟨_, rfl, _⟩ | ⟨_, rfl, _⟩⟩
  · simp
  · exact ⟨by omega, fun x hx => Or.inl hx⟩
  · refine ⟨by simp; omega, fun x hx => ?_⟩
    simp only [List.mem_append, List.mem_singleton] at hx
    rcases hx with (hx | hx) | hx
    · exact Or.inl (List.mem_of_mem_take hx)
    · exact Or.inr hx
    · exact Or.inl (List.mem_of_mem_drop hx)
set_option maxHeartbeats 8000000 in
set_option maxRecDepth 100000 in
theorem cpt (ao : Option Addr) (L cap : Nat) (vs : List Vn) (n0 : Int) (v0 : ByteArray) (p0 : Bool) (w : World) (hV : VRs w ao vs) (hLe : L = vs.length) (hcap : L ≤ cap) (hv : VEach ⟨n0, v0, p0⟩) :
    Calls Tryd.prog 3 #[.slice ao L cap, .agg #[.int .i64 n0, .string v0, .bool p0]] w fun e w' => e = .returned (.bool true) ∧ Fr [] w w' := by
  have HL : Hid (L = vs.length) := hLe
  have HV : Hid (∀ W, Fr [] w W → VRs W ao vs) := fun W hf => hV.keep hf
  have HVe : Hid (VEach ⟨n0, v0, p0⟩) := hv
  have hvs : v0.size ≤ 140737488355328 := hv.v
  clear hV hLe hv
  have hbx : (w.alloc (.cells #[.int .i64 n0, .string v0, .bool p0] 24)).heap[w.heap.size]? = some (.cells #[.int .i64 n0, .string v0, .bool p0] 24 (0, 0)) := heap_alloc_new w _
  have hF0 : Fr [] w (w.alloc (.cells #[.int .i64 n0, .string v0, .bool p0] 24)) := Fr.alloc _ _ _
  go_enter Tryd.func3, Tryd.ntmps3
  go_wp2_with fail
  obtain ⟨w1, HW1⟩ : ∃ w1, Hid (w.alloc (.cells #[.int .i64 n0, .string v0, .bool p0] 24) = w1) := ⟨_, rfl⟩
  rw [HW1.out] at hbx hF0 ⊢
  obtain ⟨bx, hbxe⟩ : ∃ bx, bx = w.heap.size := ⟨_, rfl⟩
  rw [← hbxe] at hbx ⊢
  have HX0 : Hid (∀ W, Fr [] w1 W → W.cell? ⟨bx, 0, none⟩ = some (.int .i64 n0) ∧ W.cell? ⟨bx, 1, none⟩ = some (.string v0) ∧ W.cell? ⟨bx, 2, none⟩ = some (.bool p0)) := fun W hf => by
    have := hf.keep hbx (by simp)
    exact ⟨by rw [cell_of_row _ _ _ _ _ _ this]; rfl, by rw [cell_of_row _ _ _ _ _ _ this]; rfl, by rw [cell_of_row _ _ _ _ _ _ this]; rfl⟩
  have hbxl : bx < w1.heap.size := lt_of_block hbx
  have hn1 : ¬ bx = w1.heap.size := by omega
  have hn2 : ¬ w1.heap.size = bx := by omega
  obtain ⟨_, c1, _⟩ := HX0.out w1 (Fr.refl _ _)
  clear HW1 hbxe hbx
  have HSz : Hid (∀ W, Fr [] w1 W → Calls Tryd.prog 7 #[.slice ao L cap] W fun e w' => ∃ N : Nat, e = .returned (.int .i64 (N : Int)) ∧ L ≤ N ∧ N ≤ 9007199254740992 ∧ Fr [] w1 w' ∧ w'.cell? ⟨bx, 1, none⟩ = some (.string v0) ∧ bx < w'.heap.size) := fun W hf => by
    refine (vsize_any ao L cap vs W (HV.out _ (hF0.then hf)) HL.out).mono ?_
    rintro e w' ⟨N, rfl, h1, h2, rfl⟩
    exact ⟨N, rfl, h1, h2, hf, (HX0.out _ hf).2.1, by have := hf.size; omega⟩
  have HBy : Hid (∀ (N : Nat) (V : World) (k : Nat), N ≤ 9007199254740992 → V.heap[k]? = some (.cells #[.int .i64 (N : Int), .int .i64 (v0.size : Int)] 3 (0, 0)) → Calls Tryd.prog 6 #[.slice (some ⟨k, 0, none⟩) 2 2] V fun e w' => e = .returned (.bool (decide (1048576 < N + v0.size))) ∧ V = w') := fun N V k hN hb =>
    beyond2_any k N v0.size _ hN (by omega) (by rw [cell_of_row _ _ _ _ _ _ hb]; rfl) (by rw [cell_of_row _ _ _ _ _ _ hb]; rfl)
  go_region_held3 (fun W => W.cell? ⟨bx, 1, none⟩ = some (.string v0)) (go_keep)
    (first
      | (go_at_call 7; with_reducible refine Calls.mono (HSz.out _ (Fr.drew _ _)) ?_; rintro e w2 ⟨N0, rfl, hLN, hNb, hF2, k1, kl⟩)
      | (go_at_call 6; with_reducible refine Calls.mono (HBy.out N0 _ _ hNb (heap_alloc_new w2 _)) ?_; rintro e w3 ⟨rfl, hw3⟩; have hG3 : Fr [] w1 w3 := hF2.then (by rw [← hw3]; exact Fr.alloc _ _ _); clear hw3; have k3 := (HX0.out _ hG3).2.1))
  have hG2 : Fr [] w w3 := hF0.then hG3
  have HX3 : Hid (∀ W, Fr [] w3 W → W.cell? ⟨bx, 0, none⟩ = some (.int .i64 n0) ∧ W.cell? ⟨bx, 1, none⟩ = some (.string v0) ∧ W.cell? ⟨bx, 2, none⟩ = some (.bool p0)) := fun W hf => HX0.out W (hG3.then hf)
  clear HX0 HSz HBy k1 k3 kl c1 hG3 hF2 hn1 hn2 hbxl
  by_cases hbig : 1048576 < N0 + v0.size
  · have hbd : decide (1048576 < N0 + v0.size) = true := by simpa using hbig
    rw [hbd]
    go_wp2
    go_ret
    exact ⟨rfl, hG2⟩
  · have hbd : decide (1048576 < N0 + v0.size) = false := by simpa using hbig
    rw [hbd]
    have hLs : L < 1048577 := by omega
    clear hbig hbd hLN hNb
    go_wp2_with fail
    refine (twinVs_any ao L cap vs _ (HV.out _ hG2) HL.out (by omega)).mono ?_
    rintro e w4 ⟨b, rfl, hb, hrow4, hF4⟩
    have hG4 := hG2.then hF4
    have HG4 : Hid (Fr [] w w4) := hG4
    have hwb : w.heap.size ≤ b := by have := hG2.size; omega
    have hb4 : b < w4.heap.size := lt_of_block hrow4
    have HRow : Hid (∀ W, Fr [] w4 W → W.heap[b]? = some (.cells (vnsC (vs ++ [spV])).toArray 24 (0, 0))) := fun W hf => hf.keep hrow4 (by simp)
    have HX : Hid (∀ W, Fr [] w4 W → VRs W (some ⟨b, 0, none⟩) vs) := fun W hf => VRs.of_own (twin_own HL.out (by omega) (HRow.out W hf)) HL.out (HV.out _ (Fr.refl _ _)).few (HV.out _ (Fr.refl _ _)).each
    have HI4 : Hid (∀ W, Fr [] w4 W → VRs W ao vs) := fun W hf => HV.out W (HG4.out.then hf)
    have HX4 : Hid (∀ W, Fr [] w4 W → W.cell? ⟨bx, 0, none⟩ = some (.int .i64 n0) ∧ W.cell? ⟨bx, 1, none⟩ = some (.string v0) ∧ W.cell? ⟨bx, 2, none⟩ = some (.bool p0)) := fun W hf => HX3.out W (hF4.then hf)
    obtain ⟨a0, a1, a2⟩ := HX4.out w4 (Fr.refl _ _)
    clear hrow4 hF4 hG2 hG4 hb HX3
    go_wp2_with fail
    refine (put_any (some ⟨b, 0, none⟩) L (L + 1) ⟨n0, v0, p0⟩ vs _ (HX.out _ (Fr.refl _ _)) HL.out (by omega) HVe.out).mono ?_
    rintro e w7 ⟨ro, N, rc, us, ok1, d1, rfl, hC1, hO7, hF7⟩
    have hG7 : Fr [] w4 w7 := hF7
    obtain ⟨b0, b1, b2⟩ := HX4.out w7 hG7
    clear a0 a1 a2
    go_wp2_with fail
    refine (uput_any ao L cap n0 v0 p0 vs _ (HI4.out _ hG7) HL.out HVe.out).mono ?_
    rintro e w8 ⟨ro2, N2, rc2, us2, ok2, d2, rfl, hC2, hN2, hR8, hF8⟩
    obtain ⟨rfl, rfl, rfl⟩ := hC1.one hC2
    have hG8 := hG7.then hF8
    obtain ⟨hsl, hsm⟩ := hC1.sub
    have HUe : Hid (us.length ≤ L + 1 ∧ ∀ x ∈ us, VEach x) := ⟨by rw [HL.out]; exact hsl, fun x hx => by
      rcases hsm x hx with h | h
      · exact (HV.out _ (Fr.refl _ _)).each x h
      · rw [h]; exact HVe.out⟩
    have HO7 : Hid (∀ W, Fr [] w8 W → VOut w4 W ro N rc us) := fun W hf => by
      have h1 := hO7.later (Nat.le_refl _)
      obtain ⟨rf, h3, h4⟩ := h1.own
      refine ⟨⟨rf, h3, h4.1, ?_⟩, h1.len, h1.cap⟩
      rcases h4.2 with h5 | ⟨g, cp, cur, hv, hb, hg, hr⟩
      · exact Or.inl h5
      · exact Or.inr ⟨g, cp, cur, hv, hb, (hF8.then hf).keep hg (by simp), hr⟩
    have hNu : N = us.length := hO7.len
    have HNu : Hid (N = us.length) := hNu
    have hNL : N ≤ L + 1 := by rw [hNu]; exact HUe.out.1
    obtain ⟨ck, hck⟩ := CkT.ex vs
    have HK1 : Hid (∀ W, Fr [] w8 W → Calls _ _ _ _ _) := fun W hf => vcheck_any (some ⟨b, 0, none⟩) L (L + 1) ck vs W (HX.out _ (hG8.then hf)) HL.out hck
    have HK2 : Hid (∀ W, Fr [] w8 W → Calls _ _ _ _ _) := fun W hf => ucheck_any ao L cap ck vs W (HI4.out _ (hG8.then hf)) HL.out hck
    have HS1 : Hid (∀ W, Fr [] w8 W → Calls _ _ _ _ _) := fun W hf => sameVs_any ro ro2 N N2 rc rc2 true us us W ((HO7.out _ hf).rs (by have := HUe.out.1; omega) HUe.out.2) (hR8.keep hf) hNu hN2 (by simp)
    have HLf : Hid (∀ W, Fr [] w8 W → Calls Tryd.prog 14 #[.slice (some ⟨b, 0, none⟩) L (L + 1), .slice ao L cap] W fun e w' => e = .returned (.bool true) ∧ Fr [] W w') := fun W hf => leftVs_any b ao L cap vs W (HI4.out _ (hG8.then hf)) HL.out (by omega) (HRow.out _ (hG8.then hf))
    have q1 : ((d1 : Int) != d1) = false := by simp
    have q4 : (ok1 != ok1) = false := by simp
    have q5 : ((ck : Int) != ck) = false := by simp
    have HR : Hid (Fr [] w4 w8) := hG8
    clear hC1 hC2 hN2 hR8 hF7 hF8 hG7 hG8 hO7 hsl hsm hNu b0 b1 b2 hck
    go_wp2_with fail
    refine Calls.mono (HK1.out _ (Fr.refl _ _)) ?_
    rintro e x0 ⟨rfl, hf0⟩
    go_wp2_with fail
    refine Calls.mono (HK2.out _ hf0) ?_
    rintro e x1 ⟨rfl, hf1⟩
    have hf1 := hf0.then hf1
    go_wp2_with fail
    refine Calls.mono (HS1.out _ hf1) ?_
    rintro e x2 ⟨rfl, hf2⟩
    have hf2 := hf1.then hf2
    go_wp2_with fail
    refine (HLf.out _ hf2).mono ?_
    rintro e w9 ⟨rfl, hf4⟩
    have HG9 : Hid (Fr [] w8 w9) := hf2.then hf4
    obtain ⟨bk, HBk⟩ : ∃ bk, Hid (bk = w9.heap.size) := ⟨_, rfl⟩
    obtain ⟨wl, HWl⟩ : ∃ wl, Hid (wl = w9.alloc (Obj.cells #[.int .i64 0, .slice none 0 0, .slice none 0 0, .slice none 0 0, .slice none 0 0, .slice none 0 0, .slice none 0 0, .slice none 0 0, .slice none 0 0, .slice none 0 0, .slice none 0 0, .slice none 0 0] 45)) := ⟨_, rfl⟩
    clear HS1 HLf hf2 hf4 q1 q4 q5
    go_upto_region 9 with fail
    rw [← HWl.out, ← HBk.out]
    have HFl : Hid (Fr [] w9 wl) := by rw [HWl.out]; exact Fr.alloc _ _ _
    have hBl : wl.heap[bk]? = some (.cells Bq.newBk 45 (0, 0)) := by rw [HWl.out, HBk.out]; exact heap_alloc_new w9 _
    have HG8l : Hid (Fr [] w8 wl) := HG9.out.then HFl.out
    have HG4l : Hid (Fr [] w4 wl) := HR.out.then HG8l.out
    have hbk1 : w4.heap.size ≤ bk := by rw [HBk.out]; exact (HR.out.then HG9.out).size
    have hs4 : w.heap.size ≤ w4.heap.size := HG4.out.size
    have HB0 : Hid (Bq.B2 w wl bk 0 (.slice none 0 0) (.slice none 0 0) [] []) := Bq.B2.new hBl (by omega)
    have HC1 : Hid _ := Bq.versions_any HB0.out (some ⟨b, 0, none⟩) L (L + 1) ⟨L, vnsC vs, Bq.Cut.of (twin_own HL.out (by omega) (HRow.out _ HG4l.out)), by omega⟩ (fun k hk hm => by simp [Bq.lbs] at hm) (by omega)
    clear hBl
    go_wp2_with fail
    refine Calls.mono HC1.out ?_
    rintro e wa ⟨rfl, rB1, hBa, hFa, hMa⟩
    have HBa : Hid (Bq.B2 w wa bk (0 + 1) rB1 (.slice none 0 0) ([] ++ [⟨.slice (some ⟨b, 0, none⟩) L (L + 1), .slice none 0 0, 0 + 1⟩]) []) := hBa
    have HFa : Hid (Fr [bk] wl wa) := hFa
    have HOx : Hid (VOut w4 wl ro N rc us) := HO7.out _ HG8l.out
    have Hbl : Hid (∀ k, (Value.slice ro N rc).ownBlock = some k → w4.heap.size ≤ k ∧ k < bk) := fun k hk => by
      obtain ⟨rf, h3, h4⟩ := (HO7.out _ HG9.out).own
      have hk2 : (Value.slice ro N rf).ownBlock = some k := by rw [Bq.ownBlock_cap ro N N rf rc]; exact hk
      rcases h4.2 with ⟨e, _⟩ | ⟨g, cp, cur, e, hb, hg, _⟩
      · cases e; simp [Value.ownBlock] at hk2
      · cases e
        simp [Value.ownBlock] at hk2
        subst hk2
        exact ⟨hb, by rw [HBk.out]; exact lt_of_block hg⟩
    have HPx : Hid (Bq.P0 Bq.kVersion wa ⟨.slice ro N rc, .slice none 0 0, 0 + 1 + 1⟩) := (Bq.P0.of_out HOx.out (by omega)).keep HFa.out (fun k hk hm => by have := (Hbl.out k hk).2; simp at hm; omega)
    have HC2 : Hid _ := Bq.versions_any HBa.out ro N rc HPx.out (fun k hk hm => by
      obtain ⟨h, hh, hk1⟩ := Bq.mem_lbs.1 hm
      simp at hh
      subst hh
      simp [Value.ownBlock] at hk1
      have := (Hbl.out k hk).1
      omega) (by omega)
    have hMB : ∀ k, rB1.ownBlock = some k → w.heap.size ≤ k := HBa.out.rBn
    clear hBa hFa hMa HC1 HB0
    go_wp2_with fail
    refine Calls.mono HC2.out ?_
    rintro e wb ⟨rfl, rB2, hBb, hFb, hMb⟩
    have hGb : Fr [] w wb := by
      refine ((HG4.out.then HG4l.out).on HFa.out (by intro x hx; simp at hx; omega)).on hFb ?_
      intro x hx
      rcases List.mem_cons.1 hx with h | h
      · omega
      · exact hMB x (by simpa using h)
    have HC4 : Hid _ := hBb.apart (by
        intro k hk
        obtain ⟨h, hh, hk1⟩ := Bq.mem_lbs.1 hk
        simp at hh
        rcases hh with rfl | rfl
        · simp [Value.ownBlock] at hk1; omega
        · have := (Hbl.out k hk1).1; omega) (by intro k hk; simp [Bq.lbs] at hk) hGb
    clear hBb hFb hMb HC2 HBa hGb
    go_wp2_with fail
    refine Calls.mono HC4.out ?_
    rintro e wd ⟨rfl, hFd⟩
    clear HC4
    go_wp2
    go_ret
    exact ⟨rfl, hFd⟩
end Go.Proofs.YtlikpcbiogfgcaaDoor

/- The walk of the law DiskPlaces. Conditions: two slices of bytes that came in. -/
import Derived.Test.YtgoonbikhdbkiaaAlive4
namespace Go.Proofs.Ytgoonbikhdbkiaa
open Go.ChangeShapes Go.WideShapes Go.ChangeAt Go.RowKit Go.Lib

theorem layB_nil (xs : List Nat) : layB [] 0 xs = xs := by simp [layB]
theorem layB_in (xs : List Nat) (k i : Nat) (ys : List Nat) (hk : k ≤ xs.length) (h1 : k ≤ i) (h2 : i < k + ys.length) : (layB xs k ys).getD i 0 = ys.getD (i - k) 0 := by
  simp only [layB, List.getD]
  rw [List.getElem?_append_right (by rw [List.length_take]; omega), List.length_take, Nat.min_eq_left hk, List.getElem?_append_left (by omega)]
theorem layB_out (xs : List Nat) (k i : Nat) (ys : List Nat) (hk : k ≤ xs.length) (h : i < k ∨ k + ys.length ≤ i) : (layB xs k ys).getD i 0 = xs.getD i 0 := by
  simp only [layB, List.getD]
  rcases h with h | h
  · rw [List.getElem?_append_left (by rw [List.length_take]; omega), List.getElem?_take_of_lt h]
  · rw [List.getElem?_append_right (by rw [List.length_take]; omega), List.length_take, Nat.min_eq_left hk, List.getElem?_append_right (by omega), List.getElem?_drop]
    congr 2
    omega
theorem BArg.take {w : World} {ao : Option Addr} {L cap : Nat} {xs : List Nat} (h : BArg w ao L cap xs) (m : Nat) (hm : m ≤ L) : BArg w ao m cap (xs.take m) := by
  have hl := h.len
  refine ⟨by rw [List.length_take]; omega, fun x hx => h.low x (List.mem_of_mem_take hx), by have := h.fits; omega, by have := h.most; omega, fun h0 => ?_⟩
  obtain ⟨b, off, e, hb, hc⟩ := h.lies (by omega)
  refine ⟨b, off, e, hb, fun j hj => ?_⟩
  rw [hc j (by omega)]
  simp [List.getD, hj]
theorem wrote_first (xs : List Nat) (h : xs.length ≤ 64) : Wrote (St.new 100) 0 0 xs 0 ⟨100, xs, [], -1, false, 1⟩ := by
  have := Wrote.done0 (t := St.new 100) (s := 0) (a := 0) (ys := xs) rfl (by omega) h (by simp [St.new]) (by simp [St.new]; omega) (by simp [St.new])
  simpa [layB, St.next, St.put0, St.new] using this
theorem wrote_second (xs : List Nat) (h : xs.length ≤ 64) : Wrote ⟨100, xs, [], -1, false, 1⟩ 1 0 xs 0 ⟨100, xs, xs, -1, false, 2⟩ := by
  have := Wrote.done1 (t := ⟨100, xs, [], -1, false, 1⟩) (s := 1) (a := 0) (ys := xs) rfl (by omega) h (by simp) (by simp; omega) (by simp)
  simpa [layB, St.next, St.put1] using this
theorem wrote_third (xs ys : List Nat) (k : Nat) (hy : ys.length ≤ 64) (hk : k ≤ xs.length) (hf : k + ys.length ≤ 100) : Wrote ⟨100, xs, xs, -1, false, 2⟩ 0 (k : Int) ys 0 ⟨100, layB xs k ys, xs, -1, false, 3⟩ := by
  have := Wrote.done0 (t := ⟨100, xs, xs, -1, false, 2⟩) (s := 0) (a := (k : Int)) (ys := ys) rfl (by omega) hy (by simp; omega) (by simp; omega) (by simp)
  simpa [St.next, St.put0] using this
theorem wrote_full (xs ys : List Nat) (k : Nat) (hy : ys.length ≤ 64) (hk : k ≤ xs.length) (hf : 100 < k + ys.length) : Wrote ⟨100, xs, xs, -1, false, 2⟩ 0 (k : Int) ys 13 ⟨100, xs, xs, -1, false, 2⟩ :=
  Wrote.space0 rfl (by omega) hy (by simp; omega) (by simp; omega)

set_option maxHeartbeats 8000000 in
set_option maxRecDepth 100000 in
theorem places (ao : Option Addr) (L ca : Nat) (xs : List Nat) (at_ : Nat) (bo : Option Addr) (M cb : Nat) (ys : List Nat) (w : World) (hat : at_ < 256) (hA : BArg w ao L ca xs) (hB : BArg w bo M cb ys) :
    Calls Try.prog 5 #[.slice ao L ca, .int .u8 (at_ : Int), .slice bo M cb] w fun e w' => e = .returned (.bool true) ∧ Fr [] w w' := by
  have hLc := hA.fits
  have hMc := hB.fits
  have HAA : Hid (BArg w ao L ca xs) := hA
  have HBB0 : Hid (BArg w bo M cb ys) := hB
  have hLm := hA.most
  have hMm := hB.most
  clear hA hB
  go_enter Try.func5, Try.ntmps5
  go_wp2_with fail
  refine (alive_any w).mono ?_
  rintro e w1 ⟨rfl, hF1⟩
  have HF1 : Hid (Fr [] w w1) := hF1
  clear hF1
  go_upto_if 21 with fail
  go_cut [0] from 17 to 142 (fun s0 wx => ∃ L1 : Nat, s0 = .slice ao L1 ca ∧ L1 ≤ 64 ∧ L1 ≤ L ∧ Hid (Fr [] w wx))
  case first =>
    by_cases hL : 64 < L
    · have hL64 : (64 : Int) < L := by omega
      have hca : 64 ≤ ca := by omega
      go_wp2_with fail
      go_meet
      exact ⟨64, rfl, by omega, by omega, HF1⟩
    · have hL64 : (L : Int) ≤ 64 := by omega
      go_wp2_with fail
      go_meet
      exact ⟨L, rfl, by omega, by omega, HF1⟩
  case rest =>
  clear HF1
  obtain ⟨L1, rfl, hL1, hL1L, HF1⟩ := hcut
  go_upto_if 26 with fail
  go_cut [2] from 17 to 142 (fun s2 wx => ∃ M1 : Nat, s2 = .slice bo M1 cb ∧ M1 ≤ 64 ∧ M1 ≤ M ∧ Hid (Fr [] w wx))
  case first =>
    by_cases hL : 64 < M
    · have hL64 : (64 : Int) < M := by omega
      have hca : 64 ≤ cb := by omega
      go_wp2_with fail
      go_meet
      exact ⟨64, rfl, by omega, by omega, HF1⟩
    · have hL64 : (M : Int) ≤ 64 := by omega
      go_wp2_with fail
      go_meet
      exact ⟨M, rfl, by omega, by omega, HF1⟩
  case rest =>
  clear HF1
  obtain ⟨M1, rfl, hM1, hM1M, HF2⟩ := hcut
  obtain ⟨w1, hw1⟩ : ∃ w1, w1 = wc := ⟨_, rfl⟩
  rw [← hw1] at HF2 ⊢
  clear hw1
  obtain ⟨X, HX⟩ : ∃ X, Hid (X = xs.take L1) := ⟨_, rfl⟩
  obtain ⟨Y, HY⟩ : ∃ Y, Hid (Y = ys.take M1) := ⟨_, rfl⟩
  have HA0 : Hid (BArg w ao L1 ca X) := by rw [HX.out]; exact HAA.out.take L1 hL1L
  have HB0 : Hid (BArg w bo M1 cb Y) := by rw [HY.out]; exact HBB0.out.take M1 hM1M
  have HLX : Hid (L1 = X.length) := HA0.out.len
  have HMY : Hid (M1 = Y.length) := HB0.out.len
  have hX64 : X.length ≤ 64 := by have := HLX.out; omega
  have hY64 : Y.length ≤ 64 := by have := HMY.out; omega
  clear HAA HBB0 hL1L hM1M
  obtain ⟨k, hk⟩ : ∃ k, k = at_ % (L1 + 1) := ⟨_, rfl⟩
  have hkL : k ≤ L1 := by have := Nat.mod_lt at_ (show 0 < L1 + 1 by omega); omega
  have hkX : k ≤ X.length := by have := HLX.out; omega
  have hkE : Int.tmod (at_ : Int) ((L1 : Int) + 1) = (k : Int) := by rw [hk]; rfl
  clear hk
  go_wp2_with fail
  refine (ld_new 100 w w1 HF2.out (by omega)).mono ?_
  rintro e w2 ⟨g, S2, rfl, h2, _, hF2⟩
  go_wp2_with fail
  refine (ld_write (a := 0) h2 (by decide) (by omega) (HA0.out.keep h2.fr) (h2.apart HA0.out) (wrote_first X hX64)).mono ?_
  rintro e w3 ⟨rfl, S3, h3, _⟩
  clear h2 hF2
  go_wp2_with fail
  refine (ld_write (a := 0) h3 (by show 1 < _; omega) (by omega) (HA0.out.keep h3.fr) (h3.apart HA0.out) (wrote_second X hX64)).mono ?_
  rintro e w4 ⟨rfl, S4, h4, _⟩
  clear h3
  go_wp2_with fail
  by_cases hfull : 100 < k + M1
  · have hfI : (100 : Int) < k + M1 := by omega
    refine (ld_write h4 (by show 2 < _; omega) (by omega) (HB0.out.keep h4.fr) (h4.apart HB0.out) (wrote_full X Y k hY64 hkX (by rw [← HMY.out]; omega))).mono ?_
    rintro e w5 ⟨rfl, S5, h5, _⟩
    clear h4
    go_wp2_with fail
    refine (ld_read h5 (Told.slot0 rfl)).mono ?_
    rintro e w6 ⟨ga, gn, gc, rfl, hR6, h6⟩
    clear h5
    go_wp2_with fail
    refine (ld_read h6 (Told.slot1 rfl)).mono ?_
    rintro e w7 ⟨oa, on, oc, rfl, hR7, h7⟩
    have hRs6 := own_rs (owns_keep hR6.own hR7.fr (by simp)) (by have := hR6.len; have := hX64; omega)
    have hRs7 := own_rs hR7.own (by have := hR7.len; simp only at this; omega)
    have hg6 := hR6.len
    have HG6 : Hid (gn = X.length) := hg6
    have hg7 := hR7.len
    have HG7 : Hid (on = X.length) := hg7
    clear h6 hR6 hR7 hg6 hg7
    go_wp2_with fail
    refine (same_yes oa ao on L1 oc ca X X w7 hRs7 ((HA0.out.keep h7.fr).rs (by omega)) HG7.out HLX.out rfl).mono ?_
    rintro e w8 ⟨rfl, q8, hw8⟩
    have hF8 : Fr [] w7 w8 := by rw [hw8]; exact Fr.drewN [] _ _
    have h8 := h7.quiet hF8
    have hRs8 : Rs w8 ga X := by rw [hw8]; exact hRs6.drewN _
    clear hw8 hF8 h7 hRs7 hRs6
    go_wp2_with fail
    refine (same_yes ga ao gn L1 gc ca X X w8 hRs8 ((HA0.out.keep h8.fr).rs (by omega)) HG6.out HLX.out rfl).mono ?_
    rintro e w9 ⟨rfl, q9, hw9⟩
    have hF9 : Fr [] w w9 := by rw [hw9]; exact h8.fr.then (Fr.drewN [] _ _)
    clear hw9
    go_wp2_with fail
    go_ret
    exact ⟨rfl, hF9⟩
  · have hfI : (k : Int) + M1 ≤ 100 := by omega
    have hGl := layB_length X k Y hkX
    refine (ld_write h4 (by show 2 < _; omega) (by omega) (HB0.out.keep h4.fr) (h4.apart HB0.out) (wrote_third X Y k hY64 hkX (by rw [← HMY.out]; omega))).mono ?_
    rintro e w5 ⟨rfl, S5, h5, _⟩
    clear h4
    obtain ⟨G, HG⟩ : ∃ G, Hid (G = layB X k Y) := ⟨_, rfl⟩
    rw [← HG.out] at h5 hGl
    have HGl : Hid (G.length = max X.length (k + Y.length)) := hGl
    have hG164 : G.length ≤ 164 := by omega
    clear hGl
    go_wp2_with fail
    refine (ld_read h5 (Told.slot0 rfl)).mono ?_
    rintro e w6 ⟨ga, gn, gc, rfl, hR6, h6⟩
    clear h5
    go_wp2_with fail
    refine (ld_read h6 (Told.slot1 rfl)).mono ?_
    rintro e w7 ⟨oa, on, oc, rfl, hR7, h7⟩
    have hRs6 := own_rs (owns_keep hR6.own hR7.fr (by simp)) (by have := hR6.len; have := hG164; omega)
    have hRs7 := own_rs hR7.own (by have := hR7.len; simp only at this; omega)
    have hg6 := hR6.len
    have HG6 : Hid (gn = G.length) := hg6
    have hg7 := hR7.len
    have HG7 : Hid (on = X.length) := hg7
    clear h6 hR6 hR7 hg6 hg7
    go_wp2_with fail
    refine (same_yes oa ao on L1 oc ca X X w7 hRs7 ((HA0.out.keep h7.fr).rs (by omega)) HG7.out HLX.out rfl).mono ?_
    rintro e w8 ⟨rfl, q8, hw8⟩
    have hF8 : Fr [] w7 w8 := by rw [hw8]; exact Fr.drewN [] _ _
    have h8 := h7.quiet hF8
    have hRs8 : Rs w8 ga G := by rw [hw8]; exact hRs6.drewN _
    clear hw8 hF8 h7 hRs7 hRs6
    by_cases hcase : k + M1 ≤ L1
    · obtain rfl : L1 = gn := by have := HG6.out; have := HGl.out; have := HLX.out; have := HMY.out; omega
      have hcI : (k : Int) + M1 ≤ L1 := by omega
      go_wp2_with fail
      refine (ld_writes h8 (m := 3) rfl).mono ?_
      rintro e _ ⟨rfl, rfl⟩
      have HF8 : Hid (Fr [] w w8) := h8.fr
      have HBA : Hid (BArg w8 ao L1 ca X) := HA0.out.keep h8.fr
      have HBB : Hid (BArg w8 bo M1 cb Y) := HB0.out.keep h8.fr
      have HRs : Hid (Rs w8 ga G) := hRs8
      clear h8 hRs8
      go_wp2_with fail
      go_loop [15, 16] (fun ii _ => ∃ i : Nat, ii = .int .i64 i ∧ i ≤ L1) (fun ii _ => L1 - (intOf ii).toNat)
      case atStart => exact ⟨0, rfl, Nat.zero_le _⟩
      case round =>
        obtain ⟨i, rfl, hiN⟩ := hrel
        by_cases hi : i < L1
        · obtain ⟨gb, go_, rfl, hcg⟩ := HRs.out.lies (by have := HG6.out; omega)
          have hc1 := hcg i (by have := HG6.out; omega)
          clear hcg
          by_cases hin : k ≤ i ∧ i < k + M1
          · obtain ⟨j, rfl⟩ : ∃ j, i = k + j := ⟨i - k, by omega⟩
            obtain ⟨bb, bf, rfl, _, hcb⟩ := HBB.out.lies (by omega)
            have hc2 := hcb j (by omega)
            have hv := layB_in X k (k + j) Y hkX (by omega) (by have := HMY.out; omega)
            rw [Nat.add_sub_cancel_left, ← HG.out] at hv
            rw [hv] at hc1
            obtain ⟨x, hx⟩ : ∃ x, x = Y.getD j 0 := ⟨_, rfl⟩
            rw [← hx] at hc1 hc2
            have hb1 : ((x : Int) != x) = false := by simp
            have hjI : (j : Int) < M1 := by omega
            have hj0 : (0 : Int) ≤ j := by omega
            have hkj : (k : Int) + j < L1 := by omega
            clear hv hcb hx hin
            go_wp2
            go_round
            case rel => exact ⟨k + j + 1, by simp, by omega⟩
            case measure => simp [intOf]; omega
          · have hiL : i < L1 := by omega
            obtain ⟨bb, bf, rfl, _, hcb⟩ := HBA.out.lies (by omega)
            have hc2 := hcb i (by omega)
            have hv := layB_out X k i Y hkX (by have := HMY.out; omega)
            rw [← HG.out] at hv
            rw [hv] at hc1
            obtain ⟨x, hx⟩ : ∃ x, x = X.getD i 0 := ⟨_, rfl⟩
            rw [← hx] at hc1 hc2
            have hb1 : ((x : Int) != x) = false := by simp
            clear hv hcb hx
            by_cases hik : i < k
            · have h1 : (i : Int) < k := by omega
              clear hin
              go_wp2
              go_round
              case rel => exact ⟨i + 1, by simp, by omega⟩
              case measure => simp [intOf]; omega
            · have h1 : (k : Int) ≤ i := by omega
              have h2 : (k : Int) + M1 ≤ i := by omega
              clear hin hik
              go_wp2
              go_round
              case rel => exact ⟨i + 1, by simp, by omega⟩
              case measure => simp [intOf]; omega
        · have hi' : L1 ≤ i := by omega
          go_wp2
          go_ret
          exact ⟨rfl, HF8.out⟩
    · have hgn : (gn : Int) = (k : Int) + M1 := by have := HG6.out; have := HGl.out; have := HLX.out; have := HMY.out; omega
      have hcI : (L1 : Int) < (k : Int) + M1 := by omega
      go_wp2_with fail
      refine (ld_writes h8 (m := 3) rfl).mono ?_
      rintro e _ ⟨rfl, rfl⟩
      have HF8 : Hid (Fr [] w w8) := h8.fr
      have HBA : Hid (BArg w8 ao L1 ca X) := HA0.out.keep h8.fr
      have HBB : Hid (BArg w8 bo M1 cb Y) := HB0.out.keep h8.fr
      have HRs : Hid (Rs w8 ga G) := hRs8
      clear h8 hRs8
      go_wp2_with fail
      go_loop [15, 16] (fun ii _ => ∃ i : Nat, ii = .int .i64 i ∧ i ≤ gn) (fun ii _ => gn - (intOf ii).toNat)
      case atStart => exact ⟨0, rfl, Nat.zero_le _⟩
      case round =>
        obtain ⟨i, rfl, hiN⟩ := hrel
        by_cases hi : i < gn
        · obtain ⟨gb, go_, rfl, hcg⟩ := HRs.out.lies (by have := HG6.out; omega)
          have hc1 := hcg i (by have := HG6.out; omega)
          clear hcg
          by_cases hin : k ≤ i ∧ i < k + M1
          · obtain ⟨j, rfl⟩ : ∃ j, i = k + j := ⟨i - k, by omega⟩
            obtain ⟨bb, bf, rfl, _, hcb⟩ := HBB.out.lies (by omega)
            have hc2 := hcb j (by omega)
            have hv := layB_in X k (k + j) Y hkX (by omega) (by have := HMY.out; omega)
            rw [Nat.add_sub_cancel_left, ← HG.out] at hv
            rw [hv] at hc1
            obtain ⟨x, hx⟩ : ∃ x, x = Y.getD j 0 := ⟨_, rfl⟩
            rw [← hx] at hc1 hc2
            have hb1 : ((x : Int) != x) = false := by simp
            have hjI : (j : Int) < M1 := by omega
            have hj0 : (0 : Int) ≤ j := by omega
            have hkj : (k : Int) + j < ((k : Int) + M1) := by omega
            clear hv hcb hx hin
            go_wp2
            go_round
            case rel => exact ⟨k + j + 1, by simp, by omega⟩
            case measure => simp [intOf]; omega
          · have hiL : i < L1 := by omega
            obtain ⟨bb, bf, rfl, _, hcb⟩ := HBA.out.lies (by omega)
            have hc2 := hcb i (by omega)
            have hv := layB_out X k i Y hkX (by have := HMY.out; omega)
            rw [← HG.out] at hv
            rw [hv] at hc1
            obtain ⟨x, hx⟩ : ∃ x, x = X.getD i 0 := ⟨_, rfl⟩
            rw [← hx] at hc1 hc2
            have hb1 : ((x : Int) != x) = false := by simp
            clear hv hcb hx
            by_cases hik : i < k
            · have h1 : (i : Int) < k := by omega
              clear hin
              go_wp2
              go_round
              case rel => exact ⟨i + 1, by simp, by omega⟩
              case measure => simp [intOf]; omega
            · exfalso; omega
        · have hi' : gn ≤ i := by omega
          go_wp2
          go_ret
          exact ⟨rfl, HF8.out⟩
end Go.Proofs.Ytgoonbikhdbkiaa

/- The document's Counting. Conditions: at most 32 writes. -/
import Derived.Test.YtdojhkgnnbdfkaaCq14
namespace Go.Proofs.Ytdojhkgnnbdfkaa
open Go.ChangeShapes Go.WideShapes Go.ChangeAt Go.RowKit Go.Lib Go.Maps
set_option linter.unusedVariables false
set_option linter.unusedSimpArgs false

set_option maxHeartbeats 8000000 in
set_option maxRecDepth 100000 in
theorem zcounting_any (n : Int) (ao : Option Addr) (L cap : Nat) (ws : List Wt) (w : World) (hW : WRs w ao ws) (hL : L = ws.length) (hLb : L ≤ 32) :
    Calls Try.prog 21 #[.agg #[.int .i64 n, .slice ao L cap]] w fun e w' => ∃ ro N rc, e = .returned (.slice ro N rc) ∧ WOw w w' ro N rc (dd ws) ∧ Fr [] w w' := by
  have HL : Hid (L = ws.length) := hL
  have hF0 : Fr [] w (w.alloc (.cells #[.int .i64 n, .slice ao L cap] 24)) := Fr.alloc _ _ _
  have hrow0 := heap_alloc_new w (.cells #[.int .i64 n, .slice ao L cap] 24)
  obtain ⟨w1, HW1⟩ : ∃ w1, Hid (w.alloc (.cells #[.int .i64 n, .slice ao L cap] 24) = w1) := ⟨_, rfl⟩
  obtain ⟨B, HB⟩ : ∃ B, Hid (w.heap.size = B) := ⟨_, rfl⟩
  rw [HW1.out] at hF0 hrow0
  rw [HB.out] at hrow0
  have HI : Hid (∀ W, Fr [] w1 W → WRs W ao ws) := fun W hf => hW.keep (hF0.then hf)
  have HT : Hid (∀ W, Fr [] w1 W → W.cell? ⟨B, 1, none⟩ = some (.slice ao L cap)) := fun W hf => by
    rw [cell_of_row _ _ _ _ _ _ (hf.keep hrow0 (by simp))]
    rfl
  have HF0 : Hid (Fr [] w w1) := hF0
  clear hL hW hF0 hrow0
  go_enter Try.func21, Try.ntmps21
  go_upto_region 1 with fail
  rw [HW1.out, HB.out]
  clear HW1 HB
  go_wp2_with fail
  go_loopw [3, 4] (fun ll ii wr => ∃ (ro : Option Addr) (N rc k : Nat), ll = .slice ro N rc ∧ ii = .int .i64 k ∧ k ≤ L ∧ N ≤ k ∧ Hid (WOw w1 wr ro N rc (ddTo ws k)) ∧ Fr [] w1 wr) (fun _ ii _ => L - (intOf ii).toNat)
  case atStart => exact ⟨none, 0, 0, 0, rfl, rfl, Nat.zero_le _, Nat.le_refl _, WOw.none14 _ _, Fr.refl _ _⟩
  case round =>
    obtain ⟨ro, N, rc, k, rfl, rfl, hk, hN, HO, hF⟩ := hrel
    have b1 := HT.out _ hF
    by_cases hki : k < L
    · have hk' : k < ws.length := by rw [← HL.out]; exact hki
      obtain ⟨bb, off, rfl, _, hc⟩ := (HI.out _ hF).lies (by omega)
      rw [← HL.out] at hc
      obtain ⟨d0, d1, d2⟩ := hc k hki
      have HKa : Hid (kAt ws k = (ws.getD k Wt.zero).key) := rfl
      have HKy : Hid (Kept ws k → ddTo ws (k + 1) = ddTo ws k ++ [ws.getD k Wt.zero]) := fun h => ddTo_yes h
      have HKn : Hid (¬ Kept ws k → ddTo ws (k + 1) = ddTo ws k) := fun h => ddTo_no h
      obtain ⟨y, hyy⟩ : ∃ y, y = ws.getD k Wt.zero := ⟨_, rfl⟩
      rw [← hyy] at d0 d1 d2 HKa HKy
      clear hyy
      obtain ⟨ky, vl, dp⟩ := y
      simp only at d0 d1 d2 HKa
      go_wp2_with fail
      go_loopw [5, 6] (fun vv mm w' => ∃ (Bf : Bool) (m z : Nat), vv = .bool Bf ∧ mm = .int .i64 m ∧ k + 1 ≤ m ∧ m ≤ L ∧ Hid (Bf = false ↔ ∃ j, k < j ∧ j < m ∧ kAt ws j = ky) ∧ w' = wr.drewN z) (fun _ mm _ => L - (intOf mm).toNat)
      case atStart => exact ⟨true, k + 1, 0, rfl, by simp, Nat.le_refl _, by omega, (by show _ ↔ _; constructor; (intro h; cases h); rintro ⟨j, h1, h2, _⟩; omega), rfl⟩
      case round =>
        obtain ⟨Bf, m, z, rfl, rfl, hkm, hmM, HB, rfl⟩ := hrel
        by_cases hm : m < L
        · obtain ⟨p0, _, _⟩ := hc m hm
          have HKm : Hid (kAt ws m = (ws.getD m Wt.zero).key) := rfl
          obtain ⟨km, hkmm⟩ : ∃ km, km = (ws.getD m Wt.zero).key := ⟨_, rfl⟩
          rw [← hkmm] at p0 HKm
          clear hkmm
          cases Bf with
          | false =>
            have HB2 : Hid (∃ j, k < j ∧ j < m + 1 ∧ kAt ws j = ky) := by
              obtain ⟨j, h1, h2, h3⟩ := HB.out.1 rfl
              exact ⟨j, h1, by omega, h3⟩
            go_wp2_with fail
            go_quiet (fail)
            go_wp2_with fail
            go_roundw
            case rel => exact ⟨false, m + 1, _, rfl, by simp, by omega, by omega, (by show _ ↔ _; exact ⟨fun _ => HB2.out, fun _ => rfl⟩), rfl⟩
            case measure => simp [intOf]; omega
          | true =>
            have HB2 : Hid ((!(km.toList == ky.toList)) = false ↔ ∃ j, k < j ∧ j < m + 1 ∧ kAt ws j = ky) := by
              show _ ↔ _
              rw [Bool.not_eq_false', beq_iff_eq, tl_inj]
              constructor
              · intro h
                exact ⟨m, by omega, by omega, by rw [HKm.out]; exact h⟩
              · rintro ⟨j, h1, h2, h3⟩
                by_cases hj : j = m
                · subst hj
                  rw [← HKm.out]
                  exact h3
                · have := HB.out.2 ⟨j, h1, by omega, h3⟩
                  cases this
            go_wp2_with fail
            go_quiet (fail)
            go_wp2_with fail
            go_roundw
            case rel => exact ⟨_, m + 1, _, rfl, by simp, by omega, by omega, HB2, rfl⟩
            case measure => simp [intOf]; omega
        · obtain rfl : m = L := by omega
          clear hm hkm hmM
          have hG2 := hF.then (Fr.drewN [] _ z)
          have HO2 : Hid (WOw w1 (wr.drewN z) ro N rc (ddTo ws k)) := HO.out.keepS (Fr.drewN [] _ z) (by simp)
          cases Bf with
          | false =>
            have HNk : Hid (¬ Kept ws k) := by
              obtain ⟨j, h1, h2, h3⟩ := HB.out.1 rfl
              exact fun hK => hK j h1 (by rw [← HL.out]; exact h2) (by rw [h3, HKa.out])
            have HO3 : Hid (WOw w1 (wr.drewN z) ro N rc (ddTo ws (k + 1))) := by rw [HKn.out HNk.out]; exact HO2
            go_wp2_with fail
            go_roundw
            case rel => exact ⟨ro, N, rc, k + 1, rfl, by simp, by omega, by omega, HO3, hG2⟩
            case measure => simp [intOf]; omega
          | true =>
            have HKp : Hid (Kept ws k) := by
              intro j h1 h2 h3
              have := HB.out.2 ⟨j, h1, by rw [HL.out]; exact h2, by rw [h3, HKa.out]⟩
              cases this
            have HY : Hid (ddTo ws (k + 1) = ddTo ws k ++ [⟨ky, vl, dp⟩]) := HKy.out HKp.out
            have HSz : Hid (w1.heap.size ≤ (wr.drewN z).heap.size) := hG2.size
            have hN1 : N < 1000000 := by omega
            have HG2 : Hid (Fr [] w1 (wr.drewN z)) := hG2
            go_wp2_with (first
              | (at_builtin; refine wpList_appW w1 (wr.drewN z) rfl _ _ rfl ro N rc (ddTo ws k) rfl HO2.out hN1 HSz.out ⟨ky, vl, dp⟩ rfl ?_
                 intro so' c' w5 hO5 hF5
                 have HO5 : Hid (WOw w1 w5 so' (N + 1) c' (ddTo ws (k + 1))) := by rw [HY.out]; exact hO5
                 have hF5' : Fr [] w1 w5 := HG2.out.on hF5 (fun x hx => (owns_cells HO2.out.row (Option.mem_toList.1 hx)).1)
                 clear hO5 hF5
                 go_frame)
              | fail)
            go_roundw
            case rel => exact ⟨_, N + 1, _, k + 1, rfl, by simp, by omega, by omega, HO5, hF5'⟩
            case measure => simp [intOf]; omega
    · obtain rfl : k = L := by omega
      have HO1 : Hid (WOw w wr ro N rc (dd ws)) := by
        show WOw _ _ _ _ _ _
        unfold dd
        rw [← HL.out]
        exact HO.out.later HF0.out.size
      have HF2 : Hid (Fr [] w wr) := HF0.out.then hF
      have hk2 : ¬ ((k : Int) < (k : Int)) := by omega
      go_wp2_with fail
      go_ret
      exact ⟨ro, N, rc, rfl, HO1.out, HF2.out⟩
end Go.Proofs.Ytdojhkgnnbdfkaa

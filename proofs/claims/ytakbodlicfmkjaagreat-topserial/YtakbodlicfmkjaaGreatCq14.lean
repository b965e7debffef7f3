/- The writes that count: contracts of the program's counting and of the document's Counting. Conditions: at most 1000000 writes. -/
import Derived.Test.YtakbodlicfmkjaaGreatLm14
import Derived.Test.YtakbodlicfmkjaaGreatOw14
import Derived.Test.YtakbodlicfmkjaaGreatMg11
namespace Go.Proofs.YtakbodlicfmkjaaGreat
open Go.ChangeShapes Go.WideShapes Go.ChangeAt Go.RowKit Go.Lib Go.Maps
set_option linter.unusedVariables false
set_option linter.unusedSimpArgs false

theorem lastIx_upd (ws : List Wt) (i : Nat) : lastIx ws (i + 1) = updF (lastIx ws i) (kAt ws i) (some (i : Int)) := by
  funext k
  by_cases e : k = kAt ws i
  · simp only [lastIx, if_pos e]
    rw [e, updF_same]
  · simp only [lastIx, if_neg e]
    rw [updF_other _ _ e]
theorem run_makeMapN (n : Int) (w : World) : (Instr.makeMap 177 (some (.int .i64 n))).run Tryz.prog w = .ok (.map (some w.heap.size)) (w.alloc (.map #[] 0)) := by
  simp [Instr.makeMap, run_underlying Tryz.undLMap, asInt, asIntOf]
theorem WOw.none14 (w0 w : World) : WOw w0 w none 0 0 [] := ⟨rfl, rfl, .inl ⟨rfl, rfl⟩⟩

set_option maxHeartbeats 8000000 in
set_option maxRecDepth 100000 in
theorem counting_any (ao : Option Addr) (L cap : Nat) (ws : List Wt) (w : World) (hW : WRs w ao ws) (hL : L = ws.length) (hLb : L ≤ 32) (hks : ∀ x ∈ ws, x.key.size ≤ 64) :
    Calls Tryz.prog 285 #[.slice ao L cap] w fun e w' => ∃ ro N rc, e = .returned (.slice ro N rc) ∧ WOw w w' ro N rc (dd ws) ∧ Fr [] w w' := by
  have HL : Hid (L = ws.length) := hL
  have HKs : Hid (∀ x ∈ ws, x.key.size ≤ 64) := hks
  have hmm := fun w => run_makeMapN (L : Int) w
  have HI : Hid (∀ W, Fr [] w W → WRs W ao ws) := fun W hf => hW.keep hf
  have hM0 : MapG kLast (w.alloc (.map #[] 0)) w.heap.size 0 (lastIx ws 0) := MapG.made w
  have hF0 : Fr [] w (w.alloc (.map #[] 0)) := Fr.alloc [] w _
  clear hL hW hks
  go_enter Tryz.func285, Tryz.ntmps285
  go_wp2_with fail
  obtain ⟨b, hb⟩ : ∃ b, b = w.heap.size := ⟨_, rfl⟩
  rw [← hb] at hM0 ⊢
  have hbw : w.heap.size ≤ b := by omega
  clear hb
  go_loopw [14] (fun ii wr => ∃ (i : Nat), ii = .int .i64 i ∧ i ≤ L ∧ Hid (MapG kLast wr b i (lastIx ws i)) ∧ Fr [] w wr) (fun ii _ => L - (intOf ii).toNat)
  case atStart => exact ⟨0, rfl, Nat.zero_le _, hM0, hF0⟩
  case round =>
    obtain ⟨i, rfl, hiL, HM, hFr⟩ := hrel
    by_cases hi : i < L
    · have hi' : i < ws.length := by rw [← HL.out]; exact hi
      obtain ⟨bb, off, rfl, _, hc⟩ := (HI.out _ hFr).lies (by omega)
      obtain ⟨d0, d1, d2⟩ := hc i hi'
      have hkz := HKs.out _ (wgetD_mem ws i hi')
      have HKa : Hid (kAt ws i = (ws.getD i Wt.zero).key) := rfl
      obtain ⟨y, hyy⟩ : ∃ y, y = ws.getD i Wt.zero := ⟨_, rfl⟩
      rw [← hyy] at d0 d1 d2 hkz HKa
      clear hyy hc
      obtain ⟨key, val, drop⟩ := y
      simp only at d0 d1 d2 hkz HKa
      obtain ⟨w3, HW3⟩ : ∃ w3, Hid (wr.alloc (.cells #[.string key, .string val, .bool drop] 56) = w3) := ⟨_, rfl⟩
      obtain ⟨B9, HB9⟩ : ∃ B9, Hid (B9 = wr.heap.size) := ⟨_, rfl⟩
      have hF3 : Fr [] wr w3 := by rw [← HW3.out]; exact Fr.alloc [] wr _
      have hby : w3.heap[B9]? = some (.cells #[.string key, .string val, .bool drop] 56 (0, 0)) := by rw [← HW3.out, HB9.out]; exact heap_alloc_new wr _
      have e0 : w3.cell? ⟨B9, 0, none⟩ = some (.string key) := by rw [cell_of_row _ _ _ _ _ _ hby]; rfl
      have hG3 : Fr [] w w3 := hFr.then hF3
      have hM3 := HM.out.keep hF3 (by simp)
      obtain ⟨w4, hst, hM4, hF4⟩ := hM3.store key (i : Int) (by show key.size ≤ maxLen; unfold maxLen; omega) (by unfold maxLen; omega)
      have HM4 : Hid (MapG kLast w4 b (i + 1) (lastIx ws (i + 1))) := by
        show MapG _ _ _ _ _
        rw [lastIx_upd, HKa.out]
        exact hM4
      have hG4 : Fr [] w w4 := hG3.on hF4 (by intro x hx; simp at hx; omega)
      change (Instr.mapUpdate 177 (.map (some b)) (.string key) (.int .i64 (i : Int))).run Tryz.prog w3 = .ok () w4 at hst
      clear hM3 hM4 hF4 HM hF3 hG3 hby
      go_upto_region 5 with fail
      rw [HW3.out, ← HB9.out]
      clear HW3 HB9 d0 d1 d2
      go_wp2_with fail
      go_roundw
      case rel => exact ⟨i + 1, by simp, by omega, HM4, hG4⟩
      case measure => simp [intOf]; omega
    · obtain rfl : i = L := by omega
      clear hi hiL
      have HM1 : Hid (MapG kLast wr b i (lastIx ws ws.length)) := by rw [← HL.out]; exact HM
      have HF1 : Hid (Fr [] w wr) := hFr
      have hblt := HM1.out.lt
      clear HM hFr
      go_wp2_with fail
      obtain ⟨w1, HW1⟩ : ∃ w1, Hid (wr = w1) := ⟨_, rfl⟩
      rw [HW1.out] at HM1 HF1 hblt ⊢
      clear HW1
      go_loopw [6, 26] (fun ll ii wr => ∃ (ro : Option Addr) (N rc k : Nat), ll = .slice ro N rc ∧ ii = .int .i64 k ∧ k ≤ i ∧ N ≤ k ∧ Hid (WOw w1 wr ro N rc (ddTo ws k)) ∧ Hid (Fr [] w1 wr)) (fun _ ii _ => i - (intOf ii).toNat)
      case atStart => exact ⟨none, 0, 0, 0, rfl, rfl, Nat.zero_le _, Nat.le_refl _, WOw.none14 _ _, Fr.refl _ _⟩
      case round =>
        obtain ⟨ro, N, rc, k, rfl, rfl, hk, hN, HO, HF⟩ := hrel
        by_cases hki : k < i
        · have hk' : k < ws.length := by rw [← HL.out]; exact hki
          obtain ⟨bb, off, rfl, _, hc⟩ := (HI.out _ (HF1.out.then HF.out)).lies (by omega)
          obtain ⟨d0, d1, d2⟩ := hc k hk'
          have hkz := HKs.out _ (wgetD_mem ws k hk')
          have HKa : Hid (kAt ws k = (ws.getD k Wt.zero).key) := rfl
          have HKt := lastIx_kept ws k hk'
          have HKy : Hid (Kept ws k → ddTo ws (k + 1) = ddTo ws k ++ [ws.getD k Wt.zero]) := fun h => ddTo_yes h
          have HKn : Hid (¬ Kept ws k → ddTo ws (k + 1) = ddTo ws k) := fun h => ddTo_no h
          obtain ⟨y, hyy⟩ : ∃ y, y = ws.getD k Wt.zero := ⟨_, rfl⟩
          rw [← hyy] at d0 d1 d2 hkz HKa HKy
          clear hyy hc
          obtain ⟨key, val, drop⟩ := y
          simp only at d0 d1 d2 hkz HKa
          rw [HKa.out] at HKt
          obtain ⟨J, hJ⟩ : ∃ J : Int, J = (lastIx ws ws.length key).getD 0 := ⟨_, rfl⟩
          rw [← hJ] at HKt
          obtain ⟨w3, HW3⟩ : ∃ w3, Hid (wr.alloc (.cells #[.string key, .string val, .bool drop] 56) = w3) := ⟨_, rfl⟩
          obtain ⟨B9, HB9⟩ : ∃ B9, Hid (B9 = wr.heap.size) := ⟨_, rfl⟩
          have hF3 : Fr [] wr w3 := by rw [← HW3.out]; exact Fr.alloc [] wr _
          have hby : w3.heap[B9]? = some (.cells #[.string key, .string val, .bool drop] 56 (0, 0)) := by rw [← HW3.out, HB9.out]; exact heap_alloc_new wr _
          have e0 : w3.cell? ⟨B9, 0, none⟩ = some (.string key) := by rw [cell_of_row _ _ _ _ _ _ hby]; rfl
          have e1 : w3.cell? ⟨B9, 1, none⟩ = some (.string val) := by rw [cell_of_row _ _ _ _ _ _ hby]; rfl
          have e2 : w3.cell? ⟨B9, 2, none⟩ = some (.bool drop) := by rw [cell_of_row _ _ _ _ _ _ hby]; rfl
          have hG3 : Fr [] w1 w3 := HF.out.then hF3
          have hlk := (HM1.out.keep hG3 (by simp)).look key (by show key.size ≤ maxLen; unfold maxLen; omega)
          change (Instr.lookup 177 (.map (some b)) (.string key) false).run Tryz.prog w3 = .ok (.int .i64 ((lastIx ws ws.length key).getD 0)) w3 at hlk
          rw [← hJ] at hlk
          have HO3 : Hid (WOw w1 w3 ro N rc (ddTo ws k)) := HO.out.keepS hF3 (by simp)
          have HG3 : Hid (Fr [] w1 w3) := hG3
          clear hJ HO hF3 hG3 hby HF
          by_cases hJk : J = (k : Int)
          · have heq : (J == (k : Int)) = true := by simp [hJk]
            have HY : Hid (ddTo ws (k + 1) = ddTo ws k ++ [⟨key, val, drop⟩]) := HKy.out (HKt.1 hJk)
            clear HKt HKy HKn hJk
            go_upto_region 11 with fail
            rw [HW3.out, ← HB9.out]
            clear HW3 HB9 d0 d1 d2
            have HSz : Hid (w1.heap.size ≤ w3.heap.size) := HG3.out.size
            have hN1 : N < 1000000 := by omega
            go_wp2_with (first
              | (at_builtin; refine wpList_appW w1 _ rfl _ _ rfl ro N rc (ddTo ws k) rfl HO3.out hN1 HSz.out ⟨key, val, drop⟩ rfl ?_
                 intro so' c' w5 hO5 hF5
                 have HO5 : Hid (WOw w1 w5 so' (N + 1) c' (ddTo ws (k + 1))) := by rw [HY.out]; exact hO5
                 have HF5 : Hid (Fr [] w1 w5) := HG3.out.on hF5 (fun x hx => (owns_cells HO3.out.row (Option.mem_toList.1 hx)).1)
                 clear hO5 hF5
                 go_frame)
              | fail)
            go_roundw
            case rel => exact ⟨_, N + 1, _, k + 1, rfl, by simp, by omega, by omega, HO5, HF5⟩
            case measure => simp [intOf]; omega
          · have heq : (J == (k : Int)) = false := by simp [hJk]
            have HY : Hid (ddTo ws (k + 1) = ddTo ws k) := HKn.out (fun h => hJk (HKt.2 h))
            have HO5 : Hid (WOw w1 w3 ro N rc (ddTo ws (k + 1))) := by rw [HY.out]; exact HO3
            clear HKt HKy HKn hJk HO3
            go_upto_region 11 with fail
            rw [HW3.out, ← HB9.out]
            clear HW3 HB9 d0 d1 d2
            go_wp2_with fail
            go_roundw
            case rel => exact ⟨_, N, _, k + 1, rfl, by simp, by omega, by omega, HO5, HG3⟩
            case measure => simp [intOf]; omega
        · obtain rfl : k = i := by omega
          clear hki hk
          have HO1 : Hid (WOw w wr ro N rc (dd ws)) := by
            show WOw _ _ _ _ _ _
            unfold dd
            rw [← HL.out]
            exact HO.out.later HF1.out.size
          have HF2 : Hid (Fr [] w wr) := HF1.out.then HF.out
          clear HO HF
          go_wp2_with fail
          go_ret
          exact ⟨ro, N, rc, rfl, HO1.out, HF2.out⟩
end Go.Proofs.YtakbodlicfmkjaaGreat

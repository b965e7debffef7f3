/- Texts of this claim laid together, one behind the other: contracts and plain lemmas; conditions as each names them. -/
import Derived.Test.YtaaghcimfcjehaaGreatDoorGp39
import Derived.Test.YtaaghcimfcjehaaGreatDoorGp38
/- The Book's calls over kinds of lists of which it holds none. Conditions: that cell of the Book is nil. -/
namespace Go.Proofs.YtaaghcimfcjehaaGreatDoor.Bq
open Go.ChangeShapes Go.WideShapes Go.ChangeAt Go.RowKit Go.Lib
set_option linter.unusedVariables false
set_option maxHeartbeats 1000000 in
theorem fillText_none (bk : Nat) (w : World) (hc : w.cell? ⟨bk, 3, none⟩ = some (.slice none 0 0)) :
    Calls Tryz.prog 39 #[.pointer (some ⟨bk, 0, none⟩)] w fun e w' => e = .returned (.tuple #[]) ∧ w = w' := by
  go_enter Tryz.func39, Tryz.ntmps39
  go_wp2_with fail
  refine wp_loop_rounds 1 ?_
  rw [rounds_succ]
  go_wp2
  go_end0
  exact ⟨rfl, rfl⟩
set_option maxHeartbeats 1000000 in
theorem fillEntry_none (bk : Nat) (w : World) (hc : w.cell? ⟨bk, 5, none⟩ = some (.slice none 0 0)) :
    Calls Tryz.prog 41 #[.pointer (some ⟨bk, 0, none⟩)] w fun e w' => e = .returned (.tuple #[]) ∧ w = w' := by
  go_enter Tryz.func41, Tryz.ntmps41
  go_wp2_with fail
  refine wp_loop_rounds 1 ?_
  rw [rounds_succ]
  go_wp2
  go_end0
  exact ⟨rfl, rfl⟩
set_option maxHeartbeats 1000000 in
theorem fillVersion_none (bk : Nat) (w : World) (hc : w.cell? ⟨bk, 6, none⟩ = some (.slice none 0 0)) :
    Calls Tryz.prog 42 #[.pointer (some ⟨bk, 0, none⟩)] w fun e w' => e = .returned (.tuple #[]) ∧ w = w' := by
  go_enter Tryz.func42, Tryz.ntmps42
  go_wp2_with fail
  refine wp_loop_rounds 1 ?_
  rw [rounds_succ]
  go_wp2
  go_end0
  exact ⟨rfl, rfl⟩
set_option maxHeartbeats 1000000 in
theorem fillHeld_none (bk : Nat) (w : World) (hc : w.cell? ⟨bk, 8, none⟩ = some (.slice none 0 0)) :
    Calls Tryz.prog 44 #[.pointer (some ⟨bk, 0, none⟩)] w fun e w' => e = .returned (.tuple #[]) ∧ w = w' := by
  go_enter Tryz.func44, Tryz.ntmps44
  go_wp2_with fail
  refine wp_loop_rounds 1 ?_
  rw [rounds_succ]
  go_wp2
  go_end0
  exact ⟨rfl, rfl⟩
set_option maxHeartbeats 1000000 in
theorem fillHeldList_none (bk : Nat) (w : World) (hc : w.cell? ⟨bk, 9, none⟩ = some (.slice none 0 0)) :
    Calls Tryz.prog 45 #[.pointer (some ⟨bk, 0, none⟩)] w fun e w' => e = .returned (.tuple #[]) ∧ w = w' := by
  go_enter Tryz.func45, Tryz.ntmps45
  go_wp2_with fail
  refine wp_loop_rounds 1 ?_
  rw [rounds_succ]
  go_wp2
  go_end0
  exact ⟨rfl, rfl⟩
set_option maxHeartbeats 1000000 in
theorem fillEvent_none (bk : Nat) (w : World) (hc : w.cell? ⟨bk, 10, none⟩ = some (.slice none 0 0)) :
    Calls Tryz.prog 46 #[.pointer (some ⟨bk, 0, none⟩)] w fun e w' => e = .returned (.tuple #[]) ∧ w = w' := by
  go_enter Tryz.func46, Tryz.ntmps46
  go_wp2_with fail
  refine wp_loop_rounds 1 ?_
  rw [rounds_succ]
  go_wp2
  go_end0
  exact ⟨rfl, rfl⟩
set_option maxHeartbeats 1000000 in
theorem fillAnswer_none (bk : Nat) (w : World) (hc : w.cell? ⟨bk, 11, none⟩ = some (.slice none 0 0)) :
    Calls Tryz.prog 47 #[.pointer (some ⟨bk, 0, none⟩)] w fun e w' => e = .returned (.tuple #[]) ∧ w = w' := by
  go_enter Tryz.func47, Tryz.ntmps47
  go_wp2_with fail
  refine wp_loop_rounds 1 ?_
  rw [rounds_succ]
  go_wp2
  go_end0
  exact ⟨rfl, rfl⟩
set_option maxHeartbeats 1000000 in
theorem growText_none (bk : Nat) (w : World) (hc : w.cell? ⟨bk, 3, none⟩ = some (.slice none 0 0)) :
    Calls Tryz.prog 50 #[.pointer (some ⟨bk, 0, none⟩)] w fun e w' => e = .returned (.tuple #[]) ∧ w = w' := by
  go_enter Tryz.func50, Tryz.ntmps50
  go_wp2_with fail
  refine wp_loop_rounds 1 ?_
  rw [rounds_succ]
  go_wp2
  go_end0
  exact ⟨rfl, rfl⟩
set_option maxHeartbeats 1000000 in
theorem growEntry_none (bk : Nat) (w : World) (hc : w.cell? ⟨bk, 5, none⟩ = some (.slice none 0 0)) :
    Calls Tryz.prog 52 #[.pointer (some ⟨bk, 0, none⟩)] w fun e w' => e = .returned (.tuple #[]) ∧ w = w' := by
  go_enter Tryz.func52, Tryz.ntmps52
  go_wp2_with fail
  refine wp_loop_rounds 1 ?_
  rw [rounds_succ]
  go_wp2
  go_end0
  exact ⟨rfl, rfl⟩
set_option maxHeartbeats 1000000 in
theorem growVersion_none (bk : Nat) (w : World) (hc : w.cell? ⟨bk, 6, none⟩ = some (.slice none 0 0)) :
    Calls Tryz.prog 53 #[.pointer (some ⟨bk, 0, none⟩)] w fun e w' => e = .returned (.tuple #[]) ∧ w = w' := by
  go_enter Tryz.func53, Tryz.ntmps53
  go_wp2_with fail
  refine wp_loop_rounds 1 ?_
  rw [rounds_succ]
  go_wp2
  go_end0
  exact ⟨rfl, rfl⟩
set_option maxHeartbeats 1000000 in
theorem growHeld_none (bk : Nat) (w : World) (hc : w.cell? ⟨bk, 8, none⟩ = some (.slice none 0 0)) :
    Calls Tryz.prog 55 #[.pointer (some ⟨bk, 0, none⟩)] w fun e w' => e = .returned (.tuple #[]) ∧ w = w' := by
  go_enter Tryz.func55, Tryz.ntmps55
  go_wp2_with fail
  refine wp_loop_rounds 1 ?_
  rw [rounds_succ]
  go_wp2
  go_end0
  exact ⟨rfl, rfl⟩
set_option maxHeartbeats 1000000 in
theorem growHeldList_none (bk : Nat) (w : World) (hc : w.cell? ⟨bk, 9, none⟩ = some (.slice none 0 0)) :
    Calls Tryz.prog 56 #[.pointer (some ⟨bk, 0, none⟩)] w fun e w' => e = .returned (.tuple #[]) ∧ w = w' := by
  go_enter Tryz.func56, Tryz.ntmps56
  go_wp2_with fail
  refine wp_loop_rounds 1 ?_
  rw [rounds_succ]
  go_wp2
  go_end0
  exact ⟨rfl, rfl⟩
set_option maxHeartbeats 1000000 in
theorem growEvent_none (bk : Nat) (w : World) (hc : w.cell? ⟨bk, 10, none⟩ = some (.slice none 0 0)) :
    Calls Tryz.prog 57 #[.pointer (some ⟨bk, 0, none⟩)] w fun e w' => e = .returned (.tuple #[]) ∧ w = w' := by
  go_enter Tryz.func57, Tryz.ntmps57
  go_wp2_with fail
  refine wp_loop_rounds 1 ?_
  rw [rounds_succ]
  go_wp2
  go_end0
  exact ⟨rfl, rfl⟩
set_option maxHeartbeats 1000000 in
theorem growAnswer_none (bk : Nat) (w : World) (hc : w.cell? ⟨bk, 11, none⟩ = some (.slice none 0 0)) :
    Calls Tryz.prog 58 #[.pointer (some ⟨bk, 0, none⟩)] w fun e w' => e = .returned (.tuple #[]) ∧ w = w' := by
  go_enter Tryz.func58, Tryz.ntmps58
  go_wp2_with fail
  refine wp_loop_rounds 1 ?_
  rw [rounds_succ]
  go_wp2
  go_end0
  exact ⟨rfl, rfl⟩
set_option maxHeartbeats 1000000 in
theorem lookText_none (bk : Nat) (w : World) (hc : w.cell? ⟨bk, 3, none⟩ = some (.slice none 0 0)) :
    Calls Tryz.prog 61 #[.pointer (some ⟨bk, 0, none⟩)] w fun e w' => e = .returned (.bool true) ∧ w = w' := by
  go_enter Tryz.func61, Tryz.ntmps61
  go_wp2_with fail
  refine wp_loop_rounds 1 ?_
  rw [rounds_succ]
  go_wp2
  go_ret
  exact ⟨rfl, rfl⟩
set_option maxHeartbeats 1000000 in
theorem lookEntry_none (bk : Nat) (w : World) (hc : w.cell? ⟨bk, 5, none⟩ = some (.slice none 0 0)) :
    Calls Tryz.prog 63 #[.pointer (some ⟨bk, 0, none⟩)] w fun e w' => e = .returned (.bool true) ∧ w = w' := by
  go_enter Tryz.func63, Tryz.ntmps63
  go_wp2_with fail
  refine wp_loop_rounds 1 ?_
  rw [rounds_succ]
  go_wp2
  go_ret
  exact ⟨rfl, rfl⟩
set_option maxHeartbeats 1000000 in
theorem lookVersion_none (bk : Nat) (w : World) (hc : w.cell? ⟨bk, 6, none⟩ = some (.slice none 0 0)) :
    Calls Tryz.prog 64 #[.pointer (some ⟨bk, 0, none⟩)] w fun e w' => e = .returned (.bool true) ∧ w = w' := by
  go_enter Tryz.func64, Tryz.ntmps64
  go_wp2_with fail
  refine wp_loop_rounds 1 ?_
  rw [rounds_succ]
  go_wp2
  go_ret
  exact ⟨rfl, rfl⟩
set_option maxHeartbeats 1000000 in
theorem lookHeld_none (bk : Nat) (w : World) (hc : w.cell? ⟨bk, 8, none⟩ = some (.slice none 0 0)) :
    Calls Tryz.prog 66 #[.pointer (some ⟨bk, 0, none⟩)] w fun e w' => e = .returned (.bool true) ∧ w = w' := by
  go_enter Tryz.func66, Tryz.ntmps66
  go_wp2_with fail
  refine wp_loop_rounds 1 ?_
  rw [rounds_succ]
  go_wp2
  go_ret
  exact ⟨rfl, rfl⟩
set_option maxHeartbeats 1000000 in
theorem lookHeldList_none (bk : Nat) (w : World) (hc : w.cell? ⟨bk, 9, none⟩ = some (.slice none 0 0)) :
    Calls Tryz.prog 67 #[.pointer (some ⟨bk, 0, none⟩)] w fun e w' => e = .returned (.bool true) ∧ w = w' := by
  go_enter Tryz.func67, Tryz.ntmps67
  go_wp2_with fail
  refine wp_loop_rounds 1 ?_
  rw [rounds_succ]
  go_wp2
  go_ret
  exact ⟨rfl, rfl⟩
set_option maxHeartbeats 1000000 in
theorem lookEvent_none (bk : Nat) (w : World) (hc : w.cell? ⟨bk, 10, none⟩ = some (.slice none 0 0)) :
    Calls Tryz.prog 68 #[.pointer (some ⟨bk, 0, none⟩)] w fun e w' => e = .returned (.bool true) ∧ w = w' := by
  go_enter Tryz.func68, Tryz.ntmps68
  go_wp2_with fail
  refine wp_loop_rounds 1 ?_
  rw [rounds_succ]
  go_wp2
  go_ret
  exact ⟨rfl, rfl⟩
set_option maxHeartbeats 1000000 in
theorem lookAnswer_none (bk : Nat) (w : World) (hc : w.cell? ⟨bk, 11, none⟩ = some (.slice none 0 0)) :
    Calls Tryz.prog 69 #[.pointer (some ⟨bk, 0, none⟩)] w fun e w' => e = .returned (.bool true) ∧ w = w' := by
  go_enter Tryz.func69, Tryz.ntmps69
  go_wp2_with fail
  refine wp_loop_rounds 1 ?_
  rw [rounds_succ]
  go_wp2
  go_ret
  exact ⟨rfl, rfl⟩
end Go.Proofs.YtaaghcimfcjehaaGreatDoor.Bq
/- What the Book's fill does to its lists (Byte): each is written over with its mark, and nothing else. Conditions: no two held lists share a block. -/
namespace Go.Proofs.YtaaghcimfcjehaaGreatDoor.Bq
open Go.ChangeShapes Go.WideShapes Go.ChangeAt Go.RowKit Go.Lib
set_option linter.unusedVariables false

set_option maxHeartbeats 8000000 in
set_option maxRecDepth 100000 in
theorem fillByte_any (bk : Nat) (rv : Value) (hs : List HB) (w : World) (h : Bl kByte w bk rv hs) (h0 : ∀ (j : Nat) (h : HB), hs[j]? = some h → P0 kByte w h) (ha : Alone hs) (hfre : Fresh hs) :
    Calls Tryz.prog 37 #[.pointer (some ⟨bk, 0, none⟩)] w fun e w' => e = .returned (.tuple #[]) ∧ Hid (FillInv kByte w bk rv hs hs.length w') := by
  have HI0 : Hid (FillInv kByte w bk rv hs 0 w) := ⟨h, fun _ _ _ hj => by omega, fun j b hb _ => h0 j b hb, Fr.refl _ _⟩
  obtain ⟨N, HN⟩ : ∃ N, Hid (N = hs.length) := ⟨_, rfl⟩
  have hfew := h.few
  have HNUM : Hid (∀ (j : Nat) (h : HB), hs[j]? = some h → h.n < 4194304) := h.num
  rw [← HN.out] at hfew
  clear h0
  obtain ⟨rao, rcap, hrv⟩ := own_slice h.row
  rw [← HN.out] at hrv
  clear h
  subst hrv
  go_enter Tryz.func37, Tryz.ntmps37
  go_wp2_with fail
  go_loopw [2] (fun ii wr => ∃ i : Nat, ii = .int .i64 i ∧ i ≤ N ∧ Hid (FillInv kByte w bk (.slice rao N rcap) hs i wr)) (fun ii _ => N - (RowKit.intOf ii).toNat)
  case atStart => exact ⟨0, rfl, Nat.zero_le _, HI0⟩
  case round =>
    clear HI0
    obtain ⟨i, rfl, hiN, HI⟩ := hrel
    have c1 : wr.cell? ⟨bk, 1, none⟩ = some (.slice rao N rcap) := HI.out.bk.c1
    by_cases hi : i < N
    · obtain ⟨e, he⟩ : ∃ e, hs[i]? = some e := ⟨_, List.getElem?_eq_getElem (by rw [← HN.out]; exact hi)⟩
      have HE : Hid (hs[i]? = some e) := he
      obtain ⟨rb, rc, hrv, hrc, d0, d1, d2⟩ := HI.out.bk.at i e he
      rw [← HN.out] at hrv hrc
      cases hrv
      have hen : e.n < 4194304 := HNUM.out i e he
      obtain ⟨n, vs, hO, hn21⟩ := HI.out.left i e he (Nat.le_refl _)
      obtain ⟨lao, lcap, hl⟩ := own_slice hO
      have HLe : Hid (e.l = .slice lao n lcap) := hl
      rw [hl] at d0 hO
      obtain ⟨M, HM⟩ : ∃ M, Hid (M = e.n) := ⟨_, rfl⟩
      rw [hfre i e he] at d1
      rw [← HM.out] at d2 hen
      clear he hl
      obtain ⟨B, HB⟩ : ∃ B, Hid (mByte M = B) := ⟨_, rfl⟩
      go_wp2_with fail
      obtain ⟨hv, hhv⟩ : ∃ hv, hv = wr.heap.size := ⟨_, rfl⟩
      obtain ⟨w1, hw1⟩ : ∃ w1, w1 = wr.alloc (Obj.cells #[.slice lao n lcap, .slice none 0 0, .int .i64 (M : Int)] 139) := ⟨_, rfl⟩
      rw [← hw1, ← hhv]
      have hF1 : Fr [] wr w1 := by rw [hw1]; exact Fr.alloc [] _ _
      have hvb : w1.heap[hv]? = some (.cells #[.slice lao n lcap, .slice none 0 0, .int .i64 (M : Int)] 139 (0, 0)) := by rw [hw1, hhv]; exact heap_alloc_new wr _
      have HLT : Hid (∀ k, (Value.slice lao n lcap).ownBlock = some k → k ≠ hv) := by
        intro k hk
        have := (hO.lt k hk).2
        omega
      have hO1 := owns_keep hO hF1 (by simp)
      have hvl := hO.1
      clear hO hw1 hhv d0 d1 d2 c1
      have HI0 : Hid (w1.ownsRow 0 5 1 (.slice lao n lcap) n (marks [.int .u8 (B : Int)] 0 ++ vs)) := hO1
      clear hO1
      go_loopw [4] (fun kk wr' => ∃ (k : Nat) (R : List Value), kk = .int .i64 k ∧ k ≤ n ∧ Hid (R.length = (n - k) * 1) ∧ Hid (wr'.ownsRow 0 5 1 (.slice lao n lcap) n (marks [.int .u8 (B : Int)] k ++ R)) ∧ Hid (Fr (Value.slice lao n lcap).ownBlock.toList w1 wr')) (fun kk _ => n - (RowKit.intOf kk).toNat)
      case atStart => exact ⟨0, vs, rfl, Nat.zero_le _, hvl, HI0, Fr.refl _ _⟩
      case round =>
        clear HI0
        obtain ⟨k, R, rfl, hkn, HR, HO, HF2⟩ := hrel
        have hvb2 := HF2.out.keep hvb (by intro hm; exact HLT.out hv (by simpa using hm) rfl)
        by_cases hk : k < n
        · have hlt : (k : Int) < n := by omega
          obtain ⟨t, gc, hg, hgc⟩ := own_form HO.out (by omega)
          cases hg
          have hvt' : t ≠ hv := HLT.out t rfl
          have hvt : hv ≠ t := fun e => hvt' e.symm
          obtain ⟨a, S, hRe, hS⟩ := fmore1 hk HR.out
          subst hRe
          have HS : Hid (S.length = (n - (k + 1)) * 1) := hS
          have HC : Hid (∀ W, Fr [] wr W → W.cell? ⟨hv, 0, none⟩ = some (.slice (some ⟨t, 0, none⟩) n lcap) ∧ W.cell? ⟨hv, 2, none⟩ = some (.int .i64 (M : Int)) ∧ W.cell? ⟨t, k, none⟩ = some a ∧ W.frozen? ⟨t, k, none⟩ = false) := by
            intro W hf
            have hb := hf.keep hvb2 (by simp)
            have hO := owns_keep HO.out hf (by simp)
            have hc : ∀ j u, (a :: S)[j]? = some u → W.cell? ⟨t, k * 1 + j, none⟩ = some u := behind rfl hO
            exact ⟨by rw [cell_of_row _ _ _ _ _ _ hb]; rfl, by rw [cell_of_row _ _ _ _ _ _ hb]; rfl, (by simpa using hc 0 a rfl), own_free hO _⟩
          have HP : Hid (∀ W, Fr [] wr W → Hid (((W.setCell ⟨t, k, none⟩ (.int .u8 (B : Int)))).ownsRow 0 5 1 (.slice (some ⟨t, 0, none⟩) n lcap) n (marks [.int .u8 (B : Int)] (k + 1) ++ S)) ∧ Hid (Fr (Value.slice (some ⟨t, 0, none⟩) n lcap).ownBlock.toList w1 ((W.setCell ⟨t, k, none⟩ (.int .u8 (B : Int)))))) := by
            intro W hf
            have hO := owns_keep HO.out hf (by simp)
            have h3 := (own_put hO (k) (.int .u8 (B : Int)))
            rw [fstep1] at h3
            refine ⟨h3, ?_⟩
            show Fr [t] w1 _
            exact ((show Fr [t] w1 wr from HF2.out).trans hf (fun x hx _ => hx) (by simp)).then (Fr.set W ⟨t, k, none⟩ _ (by simp))
          obtain ⟨a0, a1, a2, a3⟩ := HC.out _ (Fr.refl [] wr)
          obtain ⟨b0, b1, b2, b3⟩ := HC.out _ (Fr.drew [] wr)
          have hMk := markByte_at M B wr.drew hen HB.out
          clear hvb hvb2 hS
          go_wp2_with fail
          first
            | go_loud (go_region_held3 (fun W => W.cell? ⟨hv, 0, none⟩ = some (.slice (some ⟨t, 0, none⟩) n lcap) ∧ W.cell? ⟨hv, 2, none⟩ = some (.int .i64 (M : Int))) (go_keep)
                (first
                | (go_at_call 90; with_reducible refine hMk.mono ?_; rintro e w3 ⟨rfl, hF3⟩; obtain ⟨j0, j1, j2, j3⟩ := HC.out _ ((Fr.drew [] wr).then hF3))))
            | fail
          obtain ⟨p1, p2⟩ := HP.out _ ((Fr.drew [] wr).then hF3)
          clear hF3 hMk HP HC
          go_wp2_with fail
          go_roundw
          case rel => exact ⟨k + 1, S, by simp, by omega, HS, p1, p2⟩
          case measure => simp [RowKit.intOf]; omega
        · have hle : (n : Int) ≤ k := by omega
          have v0 : wr.cell? ⟨hv, 0, none⟩ = some (.slice lao n lcap) := by rw [cell_of_row _ _ _ _ _ _ hvb2]; rfl
          have HP1 : Hid (P1 kByte wr e) := by
            refine ⟨n, ?_, hn21⟩
            have hkn' : k = n := by omega
            have hR0 : R = [] := List.eq_nil_of_length_eq_zero (by rw [HR.out, hkn']; omega)
            have := HO.out
            rw [hR0, List.append_nil, hkn', ← HB.out] at this
            rw [HLe.out, ← HM.out]
            exact this
          have HI2 : Hid (FillInv kByte w bk (.slice (some ⟨rb, 0, none⟩) N rcap) hs (i + 1) wr) := HI.out.next ha HE.out hF1 (by rw [HLe.out]; exact HF2.out) HP1.out
          clear hvb hvb2 HO
          go_wp2_with fail
          go_roundw
          case rel => exact ⟨i + 1, by simp, by omega, HI2⟩
          case measure => simp [RowKit.intOf]; omega
    · obtain rfl : i = N := by omega
      go_wp2_with fail
      go_end0
      exact ⟨rfl, by rw [← HN.out]; exact HI⟩
end Go.Proofs.YtaaghcimfcjehaaGreatDoor.Bq
/- What the Book's grow does to its lists (Byte): more is put behind each, which stays as it is; nothing else is written. Conditions: no two held lists share a block. -/
namespace Go.Proofs.YtaaghcimfcjehaaGreatDoor.Bq
open Go.ChangeShapes Go.WideShapes Go.ChangeAt Go.RowKit Go.Lib
set_option linter.unusedVariables false
theorem Tryz.infoEByte : (Tryz.prog.info? 5).map (fun i => (i.zero, i.size, i.bytes)) = some (some (.int .u8 0), 1, 1) := by kernel_rfl
theorem Tryz.undEBytes : Tryz.prog.underlying 137 = some (.slice 5) := by kernel_rfl

set_option maxHeartbeats 4000000 in
set_option maxRecDepth 100000 in
theorem growByte_any (bk : Nat) (rv : Value) (hs0 : List HB) (w : World) (h : Bl kByte w bk rv hs0) (h1 : ∀ (j : Nat) (h : HB), hs0[j]? = some h → P1 kByte w h) (ha : Alone hs0) (hfre : Fresh hs0) :
    Calls Tryz.prog 48 #[.pointer (some ⟨bk, 0, none⟩)] w fun e w' => e = .returned (.tuple #[]) ∧ ∃ hs, Hid (GrowInv kByte w bk rv hs0 hs0.length hs w') := by
  obtain ⟨i0, hi0, hz0, hz1, hz2⟩ := info_parts Tryz.infoEByte
  have hold : ∀ (j : Nat) (a : HB), hs0[j]? = some a → ∀ k, a.l.ownBlock = some k → k < w.heap.size := by
    intro j a haj k hk
    obtain ⟨cs, hc⟩ := (h1 j a haj).type k hk
    exact lt_of_block hc
  have HI0 : Hid (GrowInv kByte w bk rv hs0 0 hs0 w) := by
    refine ⟨h, rfl, fun j a haj => ⟨a, haj, rfl, rfl⟩, fun _ _ _ hj => by omega, fun j a haj _ => ⟨h1 j a haj, hfre j a haj⟩, ?_, ?_, Fr.refl _ _⟩
    · intro j a haj k hk
      rw [hfre j a haj] at hk
      simp [Value.ownBlock] at hk
    · intro j j' a b haj _ _ k hk
      rw [hfre j a haj] at hk
      simp [Value.ownBlock] at hk
  obtain ⟨N, HN⟩ : ∃ N, Hid (N = hs0.length) := ⟨_, rfl⟩
  have hfew := h.few
  rw [← HN.out] at hfew
  obtain ⟨rao, rcap, hrv⟩ := own_slice h.row
  rw [← HN.out] at hrv
  clear h h1
  subst hrv
  go_enter Tryz.func48, Tryz.ntmps48
  go_wp2_with fail
  go_loopw [2] (fun ii wr => ∃ (i : Nat) (hs : List HB), ii = .int .i64 i ∧ i ≤ N ∧ Hid (GrowInv kByte w bk (.slice rao N rcap) hs0 i hs wr)) (fun ii _ => N - (RowKit.intOf ii).toNat)
  case atStart => exact ⟨0, hs0, rfl, Nat.zero_le _, HI0⟩
  case round =>
    clear HI0
    obtain ⟨i, hs, rfl, hiN, HI⟩ := hrel
    have c1 : wr.cell? ⟨bk, 1, none⟩ = some (.slice rao N rcap) := HI.out.bk.c1
    by_cases hi : i < N
    · have HN2 : Hid (N = hs.length) := by show _ = _; rw [HI.out.len, HN.out]
      obtain ⟨e, he⟩ : ∃ e, hs[i]? = some e := ⟨_, List.getElem?_eq_getElem (by rw [← HN2.out]; exact hi)⟩
      have HE : Hid (hs[i]? = some e) := he
      obtain ⟨rb, rc, hrv, hrc, d0, d1, d2⟩ := HI.out.bk.at i e he
      rw [← HN2.out] at hrv hrc
      cases hrv
      have hen : e.n < 4194304 := HI.out.bk.num i e he
      obtain ⟨⟨n, hO, hn21⟩, hnil⟩ := HI.out.left i e he (Nat.le_refl _)
      obtain ⟨lao, lcap, hl⟩ := own_slice hO
      have HLe : Hid (e.l = .slice lao n lcap) := hl
      rw [hnil] at d1
      rw [hl] at d0 hO
      have hlc : n ≤ lcap := by
        rcases hO.2 with ⟨hh, h0⟩ | ⟨_, _, _, hh, _, _, hnc, _⟩
        · cases hh; omega
        · cases hh; exact hnc
      obtain ⟨M, HM⟩ : ∃ M, Hid (M = e.n) := ⟨_, rfl⟩
      rw [← HM.out] at d2 hen hO
      clear he hl hnil
      go_wp2_with fail
      obtain ⟨hv, hhv⟩ : ∃ hv, hv = wr.heap.size := ⟨_, rfl⟩
      obtain ⟨w1, hw1⟩ : ∃ w1, w1 = wr.alloc (Obj.cells #[.slice lao n lcap, .slice none 0 0, .int .i64 (M : Int)] 139) := ⟨_, rfl⟩
      rw [← hw1, ← hhv]
      have hF1 : Fr [] wr w1 := by rw [hw1]; exact Fr.alloc [] _ _
      have hvb : w1.heap[hv]? = some (.cells #[.slice lao n lcap, .slice none 0 0, .int .i64 (M : Int)] 139 (0, 0)) := by rw [hw1, hhv]; exact heap_alloc_new wr _
      have hlt : ∀ k, (Value.slice lao n lcap).ownBlock = some k → k < w1.heap.size ∧ k ≠ hv := by
        intro k hk
        have := (hO.lt k hk).2
        have := hF1.size
        omega
      have hO1 := owns_keep hO hF1 (by simp)
      clear hO hw1 hhv d0 d1 d2 c1
      have HG0 : Hid (GIn kByte w1 (.slice lao n lcap) n M 0 (.slice lao n lcap) w1) := by
        refine ⟨hO1, ?_, Fr.refl _ _, Or.inl rfl⟩
        refine Rdm.of_own (kByte.len M) hO1 (Nat.le_refl _) rfl hlc ?_
        intro a ha'
        rcases hO1.2 with ⟨hh, _⟩ | ⟨g, _, _, hh, _⟩
        · cases hh; cases ha'
        · cases hh; cases ha'; exact ⟨rfl, rfl⟩
      clear hO1
      go_loopw [4, 5] (fun vv kk wr' => ∃ (k : Nat) (vao : Option Addr) (vcap : Nat), vv = .slice vao (n + k) vcap ∧ kk = .int .i64 k ∧ k ≤ 70 ∧ Hid (GIn kByte w1 (.slice lao n lcap) n M k (.slice vao (n + k) vcap) wr')) (fun _ kk _ => 70 - (RowKit.intOf kk).toNat)
      case atStart => exact ⟨0, lao, lcap, rfl, rfl, by omega, HG0⟩
      case round =>
        clear HG0
        obtain ⟨k, vao, vcap, rfl, rfl, hk70, HG⟩ := hrel
        have hvb2 := HG.out.fr.keep hvb (by intro hm; exact (hlt hv (by simpa using hm)).2 rfl)
        by_cases hk : k < 70
        · have v2 : wr.cell? ⟨hv, 2, none⟩ = some (.int .i64 (M : Int)) := by rw [cell_of_row _ _ _ _ _ _ hvb2]; rfl
          obtain ⟨B, HB⟩ : ∃ B, Hid (mByte M = B) := ⟨_, rfl⟩
          clear hvb2
          go_wp2_with fail
          refine (markByte_at M B _ hen HB.out).mono ?_
          rintro e w3 ⟨rfl, hF3⟩
          have HG3 := HG.out.keep hF3
          have HOa : Hid ((w3.alloc (Obj.cells #[.int .u8 (B : Int)] 5)).ownsRow 0 5 1 (.slice vao (n + k) vcap) (n + k) (marks (kByte.mark M) (n + k))) := owns_keep HG3.own (Fr.alloc [] _ _) (by simp)
          go_wp2_with (at_builtin; go_loud (refine wpList_app _ rfl (.tmp 28) (.tmp 32) 137 rfl 5 i0 (.int .u8 0) 1 1 Tryz.undEBytes hi0 hz0 hz1 hz2 rfl (by omega) _ _ _ rfl HOa.out ⟨w3.heap.size, 0, none⟩ 1 [.int .u8 (B : Int)] rfl rfl ?c1 ?c2 (by omega) (by simp only [maxLen]; omega) ?_))
          case c1 =>
            intro j u hj
            have hnew : (w3.alloc (Obj.cells #[.int .u8 (B : Int)] 5)).heap[w3.heap.size]? = some (Obj.cells #[.int .u8 (B : Int)] 5) := heap_alloc_new w3 _
            rw [show (⟨w3.heap.size, 0, none⟩ : Addr).add j = ⟨w3.heap.size, j, none⟩ from by simp [Addr.add]; omega, cell_of_row _ _ _ _ _ _ hnew]
            simpa using hj
          case c2 =>
            intro u hu
            simp at hu
            subst hu; rfl
          intro g cap' w' hO2 hW2
          have HG2 : Hid (GIn kByte w1 (.slice lao n lcap) n M (k + 1) (.slice (some ⟨g, 0, none⟩) (n + (k + 1)) cap') w') := by
            refine GIn.next HG3 _ ?_ hW2 (fun k hk => (hlt k hk).1)
            have e9 := hO2
            rw [← HB.out] at e9
            exact e9
          clear HG3 hF3
          clear hO2 hW2 hlt hvb
          go_wp2_with fail
          go_roundw
          case rel => exact ⟨k + 1, some ⟨g, 0, none⟩, cap', by simp only [Nat.add_assoc], by simp, by omega, HG2⟩
          case measure => simp [RowKit.intOf]; omega
        · obtain rfl : k = 70 := by omega
          obtain ⟨V, HV⟩ : ∃ V, Hid (V = Value.slice vao (n + 70) vcap) := ⟨_, rfl⟩
          have HN3 : Hid (GrowInv kByte w bk (.slice (some ⟨rb, 0, none⟩) N rcap) hs0 (i + 1) (hs.set i { e with long := .slice vao (n + 70) vcap }) (wr.setCell ⟨rb, i * 3 + 1, none⟩ (.slice vao (n + 70) vcap))) := by
            refine GrowInv.next HI.out ha hold HE.out HN2.out hF1 ?_ hn21
            rw [HLe.out, ← HM.out]
            exact HG.out
          have hbk2 : Bl kByte wr bk (.slice (some ⟨rb, 0, none⟩) N rcap) hs := by
            have hf : Fr (Value.slice lao n lcap).ownBlock.toList _ wr := hF1.trans HG.out.fr (by simp) (fun x hx _ => hx)
            have hte := (HI.out.left i e HE.out (Nat.le_refl _)).1.type
            rw [HLe.out] at hte
            refine Bl.keep HI.out.bk hf ?_ ?_
            · intro hm
              obtain ⟨cs, hc⟩ := hte bk (by simpa using hm)
              exact (HI.out.bk.apart hc).1 rfl
            · intro k hk hm
              obtain ⟨cs, hc⟩ := hte k (by simpa using hm)
              exact (HI.out.bk.apart hc).2 hk
          have c1' : wr.cell? ⟨bk, 1, none⟩ = some (.slice (some ⟨rb, 0, none⟩) N rcap) := hbk2.c1
          obtain ⟨rb', rc', hrv', _, _, d1', _⟩ := hbk2.at i e HE.out
          cases hrv'
          have hf1 : wr.frozen? ⟨rb, i * 3 + 1, none⟩ = false := by
            have hr := hbk2.row
            rw [← HN2.out] at hr
            exact own_free hr _
          clear hbk2 hvb2 hvb hlt
          go_wp2_with fail
          go_roundw
          case rel => exact ⟨i + 1, _, by simp, by omega, HN3⟩
          case measure => simp [RowKit.intOf]; omega
    · obtain rfl : i = N := by omega
      go_wp2_with fail
      go_end0
      exact ⟨rfl, hs, by rw [← HN.out]; exact HI⟩
end Go.Proofs.YtaaghcimfcjehaaGreatDoor.Bq

/- Texts of this claim laid together, one behind the other: contracts and plain lemmas; conditions as each names them. -/
import Derived.Test.YtaefninikmaiiaaGreatDoorGp2
import Derived.Test.YtaefninikmaiiaaGreatDoorGp3
import Derived.Test.YtaefninikmaiiaaGreatDoorGp1
import Derived.Deep.RegionLaw
import Derived.Deep.RegionWith
import Derived.Deep.RegionHeld3
import Derived.Deep.CutRange
import Derived.Maps.OwnOps
import Derived.Maps.Views
import Derived.DeepKeys4
import Derived.Laws.Cover1
import Derived.Laws.Strings
import Derived.Maps.OwnSet
import Derived.RangeFuncNested
import Derived.RangeFuncBound
import Derived.RangeFuncCalls
import Derived.RangeFuncLeaves
import Derived.RangeFuncGives
import Derived.RangeFuncMany
import Derived.Sort.MapsRangeIn
import Derived.Sort.KeysCollected
import Derived.Maps.AppendAt
import Derived.Shelf.Abstract
import Derived.Shelf.RegionOpen
import Derived.OwnWalkIn
import Derived.TacticsInMore
import Derived.RegionIn
import Derived.LoopNIn
import Derived.LoopIn
import Derived.WalkKit
/- What the Book's fill does to its lists (Txn): each is written over with its mark, and nothing else. Conditions: no two held lists share a block. -/
namespace Go.Proofs.YtaefninikmaiiaaGreatDoor.Bq
open Go.ChangeShapes Go.WideShapes Go.ChangeAt Go.RowKit Go.Lib
set_option linter.unusedVariables false

set_option maxHeartbeats 8000000 in
set_option maxRecDepth 100000 in
theorem fillTxn_any (bk : Nat) (rv : Value) (hs : List HB) (w : World) (h : Bl kTxn w bk rv hs) (h0 : ∀ (j : Nat) (h : HB), hs[j]? = some h → P0 kTxn w h) (ha : Alone hs) (hfre : Fresh hs) :
    Calls Tryz.prog 59 #[.pointer (some ⟨bk, 0, none⟩)] w fun e w' => e = .returned (.tuple #[]) ∧ Hid (FillInv kTxn w bk rv hs hs.length w') := by
  have HI0 : Hid (FillInv kTxn w bk rv hs 0 w) := ⟨h, fun _ _ _ hj => by omega, fun j b hb _ => h0 j b hb, Fr.refl _ _⟩
  obtain ⟨N, HN⟩ : ∃ N, Hid (N = hs.length) := ⟨_, rfl⟩
  have hfew := h.few
  have HNUM : Hid (∀ (j : Nat) (h : HB), hs[j]? = some h → h.n < 4194304) := h.num
  rw [← HN.out] at hfew
  clear h0
  obtain ⟨rao, rcap, hrv⟩ := own_slice h.row
  rw [← HN.out] at hrv
  clear h
  subst hrv
  go_enter Tryz.func59, Tryz.ntmps59
  go_wp2_with fail
  go_loopw [2] (fun ii wr => ∃ i : Nat, ii = .int .i64 i ∧ i ≤ N ∧ Hid (FillInv kTxn w bk (.slice rao N rcap) hs i wr)) (fun ii _ => N - (RowKit.intOf ii).toNat)
  case atStart => exact ⟨0, rfl, Nat.zero_le _, HI0⟩
  case round =>
    clear HI0
    obtain ⟨i, rfl, hiN, HI⟩ := hrel
    have c1 : wr.cell? ⟨bk, 7, none⟩ = some (.slice rao N rcap) := HI.out.bk.c1
    by_cases hi : i < N
    · obtain ⟨e, he⟩ : ∃ e, hs[i]? = some e := ⟨_, List.getElem?_eq_getElem (by rw [← HN.out]; exact hi)⟩
      have HE : Hid (hs[i]? = some e) := he
      obtain ⟨rb, rc, hrv, hrc, d0, d1, d2⟩ := HI.out.bk.at i e he
      rw [← HN.out] at hrv hrc
      cases hrv
      have hen : e.n < 4194304 := HNUM.out i e he
      obtain ⟨n, vs, hO, hn21⟩ := HI.out.left i e he (Nat.le_refl _)
      obtain ⟨lao, lcap, hl⟩ := own_slice hO
      have HLe : Hid (e.l = .slice lao n lcap) := hl
      rw [hl] at d0 hO
      obtain ⟨M, HM⟩ : ∃ M, Hid (M = e.n) := ⟨_, rfl⟩
      rw [hfre i e he] at d1
      rw [← HM.out] at d2 hen
      clear he hl
      obtain ⟨B, HB⟩ : ∃ B, Hid (mInt M = B) := ⟨_, rfl⟩
      go_wp2_with fail
      obtain ⟨hv, hhv⟩ : ∃ hv, hv = wr.heap.size := ⟨_, rfl⟩
      obtain ⟨w1, hw1⟩ : ∃ w1, w1 = wr.alloc (Obj.cells #[.slice lao n lcap, .slice none 0 0, .int .i64 (M : Int)] 128) := ⟨_, rfl⟩
      rw [← hw1, ← hhv]
      have hF1 : Fr [] wr w1 := by rw [hw1]; exact Fr.alloc [] _ _
      have hvb : w1.heap[hv]? = some (.cells #[.slice lao n lcap, .slice none 0 0, .int .i64 (M : Int)] 128 (0, 0)) := by rw [hw1, hhv]; exact heap_alloc_new wr _
      have HLT : Hid (∀ k, (Value.slice lao n lcap).ownBlock = some k → k ≠ hv) := by
        intro k hk
        have := (hO.lt k hk).2
        omega
      have hO1 := owns_keep hO hF1 (by simp)
      have hvl := hO.1
      clear hO hw1 hhv d0 d1 d2 c1
      have HI0 : Hid (w1.ownsRow 0 63 2 (.slice lao n lcap) n (marks [.int .i64 B, .slice none 0 0] 0 ++ vs)) := hO1
      clear hO1
      go_loopw [4] (fun kk wr' => ∃ (k : Nat) (R : List Value), kk = .int .i64 k ∧ k ≤ n ∧ Hid (R.length = (n - k) * 2) ∧ Hid (wr'.ownsRow 0 63 2 (.slice lao n lcap) n (marks [.int .i64 B, .slice none 0 0] k ++ R)) ∧ Hid (Fr (Value.slice lao n lcap).ownBlock.toList w1 wr')) (fun kk _ => n - (RowKit.intOf kk).toNat)
      case atStart => exact ⟨0, vs, rfl, Nat.zero_le _, hvl, HI0, Fr.refl _ _⟩
      case round =>
        clear HI0
        obtain ⟨k, R, rfl, hkn, HR, HO, HF2⟩ := hrel
        have hvb2 := HF2.out.keep hvb (by intro hm; exact HLT.out hv (by simpa using hm) rfl)
        by_cases hk : k < n
        · have hlt : (k : Int) < n := by omega
          obtain ⟨t, gc, hg, hgc⟩ := own_form HO.out (by omega)
          cases hg
          have hvt' : t ≠ hv := HLT.out t rfl
          have hvt : hv ≠ t := fun e => hvt' e.symm
          obtain ⟨a, b, S, hRe, hS⟩ := fmore2 hk HR.out
          subst hRe
          have HS : Hid (S.length = (n - (k + 1)) * 2) := hS
          have HC : Hid (∀ W, Fr [] wr W → W.cell? ⟨hv, 0, none⟩ = some (.slice (some ⟨t, 0, none⟩) n lcap) ∧ W.cell? ⟨hv, 2, none⟩ = some (.int .i64 (M : Int)) ∧ W.cell? ⟨t, k * 2, none⟩ = some a ∧ W.cell? ⟨t, k * 2 + 1, none⟩ = some b ∧ W.frozen? ⟨t, k * 2, none⟩ = false ∧ W.frozen? ⟨t, k * 2 + 1, none⟩ = false) := by
            intro W hf
            have hb := hf.keep hvb2 (by simp)
            have hO := owns_keep HO.out hf (by simp)
            have hc : ∀ j u, (a :: b :: S)[j]? = some u → W.cell? ⟨t, k * 2 + j, none⟩ = some u := behind rfl hO
            exact ⟨by rw [cell_of_row _ _ _ _ _ _ hb]; rfl, by rw [cell_of_row _ _ _ _ _ _ hb]; rfl, hc 0 a rfl, hc 1 b rfl, own_free hO _, own_free hO _⟩
          have HP : Hid (∀ W, Fr [] wr W → Hid ((((W.setCell ⟨t, k * 2, none⟩ (.int .i64 B)).setCell ⟨t, k * 2 + 1, none⟩ (.slice none 0 0))).ownsRow 0 63 2 (.slice (some ⟨t, 0, none⟩) n lcap) n (marks [.int .i64 B, .slice none 0 0] (k + 1) ++ S)) ∧ Hid (Fr (Value.slice (some ⟨t, 0, none⟩) n lcap).ownBlock.toList w1 (((W.setCell ⟨t, k * 2, none⟩ (.int .i64 B)).setCell ⟨t, k * 2 + 1, none⟩ (.slice none 0 0))))) := by
            intro W hf
            have hO := owns_keep HO.out hf (by simp)
            have h3 := (own_put (own_put hO (k * 2) (.int .i64 B)) (k * 2 + 1) (.slice none 0 0))
            rw [fstep2] at h3
            refine ⟨h3, ?_⟩
            show Fr [t] w1 _
            exact ((show Fr [t] w1 wr from HF2.out).trans hf (fun x hx _ => hx) (by simp)).then ((Fr.set W ⟨t, k * 2, none⟩ _ (by simp)).then (Fr.set _ ⟨t, k * 2 + 1, none⟩ _ (by simp)))
          obtain ⟨a0, a1, a2, a3, a4, a5⟩ := HC.out _ (Fr.refl [] wr)
          obtain ⟨b0, b1, b2, b3, b4, b5⟩ := HC.out _ (Fr.drew [] wr)
          have hMk := markTxn_at M B wr.drew hen HB.out
          clear hvb hvb2 hS
          go_wp2_with fail
          first
            | go_loud (go_region_held3 (fun W => W.cell? ⟨hv, 0, none⟩ = some (.slice (some ⟨t, 0, none⟩) n lcap) ∧ W.cell? ⟨hv, 2, none⟩ = some (.int .i64 (M : Int))) (go_keep)
                (first
                | (go_at_call 121; with_reducible refine hMk.mono ?_; rintro e w3 ⟨rfl, hF3⟩; obtain ⟨j0, j1, j2, j3, j4, j5⟩ := HC.out _ ((Fr.drew [] wr).then hF3))))
            | fail
          obtain ⟨p1, p2⟩ := HP.out _ ((Fr.drew [] wr).then hF3)
          clear hF3 hMk HP HC
          go_wp2_with fail
          go_roundw
          case rel => exact ⟨k + 1, S, by simp, by omega, HS, p1, p2⟩
          case measure => simp [RowKit.intOf]; omega
        · have hle : (n : Int) ≤ k := by omega
          have v0 : wr.cell? ⟨hv, 0, none⟩ = some (.slice lao n lcap) := by rw [cell_of_row _ _ _ _ _ _ hvb2]; rfl
          have HP1 : Hid (P1 kTxn wr e) := by
            refine ⟨n, ?_, hn21⟩
            have hkn' : k = n := by omega
            have hR0 : R = [] := List.eq_nil_of_length_eq_zero (by rw [HR.out, hkn']; omega)
            have := HO.out
            rw [hR0, List.append_nil, hkn', ← HB.out] at this
            rw [HLe.out, ← HM.out]
            exact this
          have HI2 : Hid (FillInv kTxn w bk (.slice (some ⟨rb, 0, none⟩) N rcap) hs (i + 1) wr) := HI.out.next ha HE.out hF1 (by rw [HLe.out]; exact HF2.out) HP1.out
          clear hvb hvb2 HO
          go_wp2_with fail
          go_roundw
          case rel => exact ⟨i + 1, by simp, by omega, HI2⟩
          case measure => simp [RowKit.intOf]; omega
    · obtain rfl : i = N := by omega
      go_wp2_with fail
      go_end0
      exact ⟨rfl, by rw [← HN.out]; exact HI⟩
end Go.Proofs.YtaefninikmaiiaaGreatDoor.Bq
/- What the Book's grow does to its lists (Txn): more is put behind each, which stays as it is; nothing else is written. Conditions: no two held lists share a block. -/
namespace Go.Proofs.YtaefninikmaiiaaGreatDoor.Bq
open Go.ChangeShapes Go.WideShapes Go.ChangeAt Go.RowKit Go.Lib
set_option linter.unusedVariables false
theorem Tryz.infoETxn : (Tryz.prog.info? 63).map (fun i => (i.zero, i.size, i.bytes)) = some (some (.agg #[.int .i64 0, .slice none 0 0]), 2, 32) := by kernel_rfl
theorem Tryz.undETxns : Tryz.prog.underlying 22 = some (.slice 63) := by kernel_rfl

set_option maxHeartbeats 4000000 in
set_option maxRecDepth 100000 in
theorem growTxn_any (bk : Nat) (rv : Value) (hs0 : List HB) (w : World) (h : Bl kTxn w bk rv hs0) (h1 : ∀ (j : Nat) (h : HB), hs0[j]? = some h → P1 kTxn w h) (ha : Alone hs0) (hfre : Fresh hs0) :
    Calls Tryz.prog 70 #[.pointer (some ⟨bk, 0, none⟩)] w fun e w' => e = .returned (.tuple #[]) ∧ ∃ hs, Hid (GrowInv kTxn w bk rv hs0 hs0.length hs w') := by
  obtain ⟨i0, hi0, hz0, hz1, hz2⟩ := info_parts Tryz.infoETxn
  have hold : ∀ (j : Nat) (a : HB), hs0[j]? = some a → ∀ k, a.l.ownBlock = some k → k < w.heap.size := by
    intro j a haj k hk
    obtain ⟨cs, hc⟩ := (h1 j a haj).type k hk
    exact lt_of_block hc
  have HI0 : Hid (GrowInv kTxn w bk rv hs0 0 hs0 w) := by
    refine ⟨h, rfl, fun j a haj => ⟨a, haj, rfl, rfl⟩, fun _ _ _ hj => by omega, fun j a haj _ => ⟨h1 j a haj, hfre j a haj⟩, ?_, ?_, Fr.refl _ _⟩
    · intro j a haj k hk
      rw [hfre j a haj] at hk
      simp [Value.ownBlock] at hk
    · intro j j' a b haj _ _ k hk
      rw [hfre j a haj] at hk
      simp [Value.ownBlock] at hk
  obtain ⟨N, HN⟩ : ∃ N, Hid (N = hs0.length) := ⟨_, rfl⟩
  have hfew := h.few
  rw [← HN.out] at hfew
  obtain ⟨rao, rcap, hrv⟩ := own_slice h.row
  rw [← HN.out] at hrv
  clear h h1
  subst hrv
  go_enter Tryz.func70, Tryz.ntmps70
  go_wp2_with fail
  go_loopw [2] (fun ii wr => ∃ (i : Nat) (hs : List HB), ii = .int .i64 i ∧ i ≤ N ∧ Hid (GrowInv kTxn w bk (.slice rao N rcap) hs0 i hs wr)) (fun ii _ => N - (RowKit.intOf ii).toNat)
  case atStart => exact ⟨0, hs0, rfl, Nat.zero_le _, HI0⟩
  case round =>
    clear HI0
    obtain ⟨i, hs, rfl, hiN, HI⟩ := hrel
    have c1 : wr.cell? ⟨bk, 7, none⟩ = some (.slice rao N rcap) := HI.out.bk.c1
    by_cases hi : i < N
    · have HN2 : Hid (N = hs.length) := by show _ = _; rw [HI.out.len, HN.out]
      obtain ⟨e, he⟩ : ∃ e, hs[i]? = some e := ⟨_, List.getElem?_eq_getElem (by rw [← HN2.out]; exact hi)⟩
      have HE : Hid (hs[i]? = some e) := he
      obtain ⟨rb, rc, hrv, hrc, d0, d1, d2⟩ := HI.out.bk.at i e he
      rw [← HN2.out] at hrv hrc
      cases hrv
      have hen : e.n < 4194304 := HI.out.bk.num i e he
      obtain ⟨⟨n, hO, hn21⟩, hnil⟩ := HI.out.left i e he (Nat.le_refl _)
      obtain ⟨lao, lcap, hl⟩ := own_slice hO
      have HLe : Hid (e.l = .slice lao n lcap) := hl
      rw [hnil] at d1
      rw [hl] at d0 hO
      have hlc : n ≤ lcap := by
        rcases hO.2 with ⟨hh, h0⟩ | ⟨_, _, _, hh, _, _, hnc, _⟩
        · cases hh; omega
        · cases hh; exact hnc
      obtain ⟨M, HM⟩ : ∃ M, Hid (M = e.n) := ⟨_, rfl⟩
      rw [← HM.out] at d2 hen hO
      clear he hl hnil
      go_wp2_with fail
      obtain ⟨hv, hhv⟩ : ∃ hv, hv = wr.heap.size := ⟨_, rfl⟩
      obtain ⟨w1, hw1⟩ : ∃ w1, w1 = wr.alloc (Obj.cells #[.slice lao n lcap, .slice none 0 0, .int .i64 (M : Int)] 128) := ⟨_, rfl⟩
      rw [← hw1, ← hhv]
      have hF1 : Fr [] wr w1 := by rw [hw1]; exact Fr.alloc [] _ _
      have hvb : w1.heap[hv]? = some (.cells #[.slice lao n lcap, .slice none 0 0, .int .i64 (M : Int)] 128 (0, 0)) := by rw [hw1, hhv]; exact heap_alloc_new wr _
      have hlt : ∀ k, (Value.slice lao n lcap).ownBlock = some k → k < w1.heap.size ∧ k ≠ hv := by
        intro k hk
        have := (hO.lt k hk).2
        have := hF1.size
        omega
      have hO1 := owns_keep hO hF1 (by simp)
      clear hO hw1 hhv d0 d1 d2 c1
      have HG0 : Hid (GIn kTxn w1 (.slice lao n lcap) n M 0 (.slice lao n lcap) w1) := by
        refine ⟨hO1, ?_, Fr.refl _ _, Or.inl rfl⟩
        refine Rdm.of_own (kTxn.len M) hO1 (Nat.le_refl _) rfl hlc ?_
        intro a ha'
        rcases hO1.2 with ⟨hh, _⟩ | ⟨g, _, _, hh, _⟩
        · cases hh; cases ha'
        · cases hh; cases ha'; exact ⟨rfl, rfl⟩
      clear hO1
      go_loopw [4, 5] (fun vv kk wr' => ∃ (k : Nat) (vao : Option Addr) (vcap : Nat), vv = .slice vao (n + k) vcap ∧ kk = .int .i64 k ∧ k ≤ 70 ∧ Hid (GIn kTxn w1 (.slice lao n lcap) n M k (.slice vao (n + k) vcap) wr')) (fun _ kk _ => 70 - (RowKit.intOf kk).toNat)
      case atStart => exact ⟨0, lao, lcap, rfl, rfl, by omega, HG0⟩
      case round =>
        clear HG0
        obtain ⟨k, vao, vcap, rfl, rfl, hk70, HG⟩ := hrel
        have hvb2 := HG.out.fr.keep hvb (by intro hm; exact (hlt hv (by simpa using hm)).2 rfl)
        by_cases hk : k < 70
        · have v2 : wr.cell? ⟨hv, 2, none⟩ = some (.int .i64 (M : Int)) := by rw [cell_of_row _ _ _ _ _ _ hvb2]; rfl
          obtain ⟨B, HB⟩ : ∃ B, Hid (mInt M = B) := ⟨_, rfl⟩
          clear hvb2
          go_wp2_with fail
          refine (markTxn_at M B _ hen HB.out).mono ?_
          rintro e w3 ⟨rfl, hF3⟩
          have HG3 := HG.out.keep hF3
          have HOa : Hid ((w3.alloc (Obj.cells #[.int .i64 B, .slice none 0 0] 63)).ownsRow 0 63 2 (.slice vao (n + k) vcap) (n + k) (marks (kTxn.mark M) (n + k))) := owns_keep HG3.own (Fr.alloc [] _ _) (by simp)
          go_wp2_with (at_builtin; go_loud (refine wpList_app _ rfl (.tmp 28) (.tmp 32) 22 rfl 63 i0 (.agg #[.int .i64 0, .slice none 0 0]) 2 32 Tryz.undETxns hi0 hz0 hz1 hz2 rfl (by omega) _ _ _ rfl HOa.out ⟨w3.heap.size, 0, none⟩ 1 [.int .i64 B, .slice none 0 0] rfl rfl ?c1 ?c2 (by omega) (by simp only [maxLen]; omega) ?_))
          case c1 =>
            intro j u hj
            have hnew : (w3.alloc (Obj.cells #[.int .i64 B, .slice none 0 0] 63)).heap[w3.heap.size]? = some (Obj.cells #[.int .i64 B, .slice none 0 0] 63) := heap_alloc_new w3 _
            rw [show (⟨w3.heap.size, 0, none⟩ : Addr).add j = ⟨w3.heap.size, j, none⟩ from by simp [Addr.add]; omega, cell_of_row _ _ _ _ _ _ hnew]
            simpa using hj
          case c2 =>
            intro u hu
            simp at hu
            rcases hu with rfl | rfl <;> rfl
          intro g cap' w' hO2 hW2
          have HG2 : Hid (GIn kTxn w1 (.slice lao n lcap) n M (k + 1) (.slice (some ⟨g, 0, none⟩) (n + (k + 1)) cap') w') := by
            refine GIn.next HG3 _ ?_ hW2 (fun k hk => (hlt k hk).1)
            have e9 := hO2
            rw [← HB.out] at e9
            exact e9
          clear HG3 hF3
          clear hO2 hW2 hlt hvb
          go_wp2_with fail
          go_roundw
          case rel => exact ⟨k + 1, some ⟨g, 0, none⟩, cap', by simp only [Nat.add_assoc], by simp, by omega, HG2⟩
          case measure => simp [RowKit.intOf]; omega
        · obtain rfl : k = 70 := by omega
          obtain ⟨V, HV⟩ : ∃ V, Hid (V = Value.slice vao (n + 70) vcap) := ⟨_, rfl⟩
          have HN3 : Hid (GrowInv kTxn w bk (.slice (some ⟨rb, 0, none⟩) N rcap) hs0 (i + 1) (hs.set i { e with long := .slice vao (n + 70) vcap }) (wr.setCell ⟨rb, i * 3 + 1, none⟩ (.slice vao (n + 70) vcap))) := by
            refine GrowInv.next HI.out ha hold HE.out HN2.out hF1 ?_ hn21
            rw [HLe.out, ← HM.out]
            exact HG.out
          have hbk2 : Bl kTxn wr bk (.slice (some ⟨rb, 0, none⟩) N rcap) hs := by
            have hf : Fr (Value.slice lao n lcap).ownBlock.toList _ wr := hF1.trans HG.out.fr (by simp) (fun x hx _ => hx)
            have hte := (HI.out.left i e HE.out (Nat.le_refl _)).1.type
            rw [HLe.out] at hte
            refine Bl.keep HI.out.bk hf ?_ ?_
            · intro hm
              obtain ⟨cs, hc⟩ := hte bk (by simpa using hm)
              exact (HI.out.bk.apart hc).1 rfl
            · intro k hk hm
              obtain ⟨cs, hc⟩ := hte k (by simpa using hm)
              exact (HI.out.bk.apart hc).2 hk
          have c1' : wr.cell? ⟨bk, 7, none⟩ = some (.slice (some ⟨rb, 0, none⟩) N rcap) := hbk2.c1
          obtain ⟨rb', rc', hrv', _, _, d1', _⟩ := hbk2.at i e HE.out
          cases hrv'
          have hf1 : wr.frozen? ⟨rb, i * 3 + 1, none⟩ = false := by
            have hr := hbk2.row
            rw [← HN2.out] at hr
            exact own_free hr _
          clear hbk2 hvb2 hvb hlt
          go_wp2_with fail
          go_roundw
          case rel => exact ⟨i + 1, _, by simp, by omega, HN3⟩
          case measure => simp [RowKit.intOf]; omega
    · obtain rfl : i = N := by omega
      go_wp2_with fail
      go_end0
      exact ⟨rfl, hs, by rw [← HN.out]; exact HI⟩
end Go.Proofs.YtaefninikmaiiaaGreatDoor.Bq
/- What the Book answers when it looks at its lists (Txn): true, where each and what was put behind it read as its mark. Conditions: fewer than 2^21 lists. -/
namespace Go.Proofs.YtaefninikmaiiaaGreatDoor.Bq
open BigFrame Go.ChangeShapes Go.WideShapes Go.ChangeAt Go.RowKit Go.Lib
set_option linter.unusedVariables false
set_option linter.unusedSimpArgs false

set_option maxHeartbeats 8000000 in
set_option maxRecDepth 100000 in
theorem lookTxn_any (bk : Nat) (rv : Value) (hs : List HB) (w : World) (h : Bl kTxn w bk rv hs) (h2 : ∀ (j : Nat) (h : HB), hs[j]? = some h → P2 kTxn w h) :
    Calls Tryz.prog 81 #[.pointer (some ⟨bk, 0, none⟩)] w fun e w' => e = .returned (.bool true) ∧ Fr [] w w' := by
  obtain ⟨N, HN⟩ : ∃ N, Hid (N = hs.length) := ⟨_, rfl⟩
  have hfew := h.few
  rw [← HN.out] at hfew
  obtain ⟨rao, rcap, hrv⟩ := own_slice h.row
  rw [← HN.out] at hrv
  have H : Hid (Bl kTxn w bk rv hs) := h
  clear h
  subst hrv
  go_enter Tryz.func81, Tryz.ntmps81
  go_wp2_with fail
  go_loopw [3] (fun ii wr => ∃ (i : Nat), ii = .int .i64 i ∧ i ≤ N ∧ Fr [] w wr) (fun ii _ => N - (RowKit.intOf ii).toNat)
  case atStart => exact ⟨0, rfl, Nat.zero_le _, Fr.refl _ _⟩
  case round =>
    obtain ⟨i, rfl, hiN, hF⟩ := hrel
    have hB := H.out.keep hF (by simp) (by simp)
    have c1 : wr.cell? ⟨bk, 7, none⟩ = some (.slice rao N rcap) := hB.c1
    by_cases hi : i < N
    · obtain ⟨e, he⟩ : ∃ e, hs[i]? = some e := ⟨_, List.getElem?_eq_getElem (by rw [← HN.out]; exact hi)⟩
      obtain ⟨rb, rc, hrv, hrc, d0, d1, d2⟩ := hB.at i e he
      rw [← HN.out] at hrv hrc
      cases hrv
      have hen : e.n < 4194304 := hB.num i e he
      have hp2 := (h2 i e he).keep hF (by simp) (by simp)
      obtain ⟨n, hR, hO, hn21⟩ := hp2
      obtain ⟨lao, lcap, hl, hlc, hlr⟩ := hR.shape
      obtain ⟨g, gcap, hx, hxc⟩ := own_form hO (by omega)
      obtain ⟨Q, hQ⟩ : ∃ Q, Q = n + 70 := ⟨_, rfl⟩
      rw [hx] at hO d1
      rw [hl] at d0
      obtain ⟨M, HM⟩ : ∃ M, Hid (M = e.n) := ⟨_, rfl⟩
      rw [← HM.out] at d2 hen
      obtain ⟨B, HB⟩ : ∃ B, Hid (mInt M = B) := ⟨_, rfl⟩
      have hmk : kTxn.mark e.n = [.int .i64 B, .slice none 0 0] := by rw [← HM.out, ← HB.out]
      rw [hmk] at hlr hO
      rw [← hQ] at hO d1 hxc
      have hQn : (Q : Int) = (n : Int) + 70 := by omega
      have hne : ((Q : Int) != (n : Int) + 70) = false := by rw [hQn]; simp
      have hQb : Q < 2^35 := by omega
      have HQn : Hid (Q = n + 70) := hQ
      have HX : Hid (∀ W, Fr [] wr W → ∀ k i, k < Q → i < 2 → W.cell? ⟨g, k * 2 + i, none⟩ = [.int .i64 B, .slice none 0 0][i]?) := by
        intro W hf k i hk hi
        exact own_marks (K := kTxn) (n := 0) rfl (owns_keep hO hf (by simp)) k i hk hi
      have HY : Hid (0 < n → ∃ t, lao = some ⟨t, 0, none⟩ ∧ ∀ W, Fr [] wr W → ∀ k i, k < n → i < 2 → W.cell? ⟨t, k * 2 + i, none⟩ = [.int .i64 B, .slice none 0 0][i]?) := by
        intro h0
        obtain ⟨t, e1, hc⟩ := hlr h0
        refine ⟨t, e1, fun W hf k i hk hi => ?_⟩
        obtain ⟨cs, hcs⟩ := hR.type t (by rw [hl, e1]; rfl)
        exact (World.cell?_of_block (hf.block t (lt_of_block hcs) (by simp))).trans (hc k i hk hi)
      clear hO hR hB he hx hl hQ hQn hlr hmk
      go_wp2_with fail
      obtain ⟨hv, hhv⟩ : ∃ hv, hv = wr.heap.size := ⟨_, rfl⟩
      obtain ⟨w1, hw1⟩ : ∃ w1, w1 = wr.alloc (Obj.cells #[.slice lao n lcap, .slice (some ⟨g, 0, none⟩) Q gcap, .int .i64 (M : Int)] 128) := ⟨_, rfl⟩
      rw [← hw1, ← hhv]
      have hF1 : Fr [] wr w1 := by rw [hw1]; exact Fr.alloc [] _ _
      have hvb : w1.heap[hv]? = some (.cells #[.slice lao n lcap, .slice (some ⟨g, 0, none⟩) Q gcap, .int .i64 (M : Int)] 128 (0, 0)) := by rw [hw1, hhv]; exact heap_alloc_new wr _
      have HA : Hid (∀ W, Fr [] w1 W → W.cell? ⟨hv, 0, none⟩ = some (.slice lao n lcap) ∧ W.cell? ⟨hv, 1, none⟩ = some (.slice (some ⟨g, 0, none⟩) Q gcap) ∧ W.cell? ⟨hv, 2, none⟩ = some (.int .i64 (M : Int)) ∧ Fr [] wr W) := by
        intro W hf
        have hb := hf.keep hvb (by simp)
        exact ⟨by rw [cell_of_row _ _ _ _ _ _ hb]; rfl, by rw [cell_of_row _ _ _ _ _ _ hb]; rfl, by rw [cell_of_row _ _ _ _ _ _ hb]; rfl, hF1.then hf⟩
      have HF1 : Hid (Fr [] w w1) := hF.then hF1
      obtain ⟨v0, v1, v2, _⟩ := HA.out _ (Fr.refl [] w1)
      clear hw1 hhv c1 d0 d1 d2 hvb hF hF1
      go_loopw [5] (fun kk wr' => ∃ (k : Nat), kk = .int .i64 k ∧ k ≤ Q ∧ Fr [] w1 wr') (fun kk _ => Q - (RowKit.intOf kk).toNat)
      case atStart => exact ⟨0, rfl, Nat.zero_le _, Fr.refl _ _⟩
      case round =>
        obtain ⟨k, rfl, hkQ, hFq⟩ := hrel
        obtain ⟨a0, a1, a2, _⟩ := HA.out _ hFq
        by_cases hk : k < Q
        · have hlt : (k : Int) < Q := by omega
          have HF : Hid (Fr [] w1 wr) := hFq
          have f0 : ∀ x : Wd w1, x.W.cell? ⟨hv, 0, none⟩ = some (.slice lao n lcap) := fun x => (HA.out _ x.h).1
          have f1 : ∀ x : Wd w1, x.W.cell? ⟨hv, 1, none⟩ = some (.slice (some ⟨g, 0, none⟩) Q gcap) := fun x => (HA.out _ x.h).2.1
          have f2 : ∀ x : Wd w1, x.W.cell? ⟨hv, 2, none⟩ = some (.int .i64 (M : Int)) := fun x => (HA.out _ x.h).2.2.1
          have g0 : ∀ x : Wd w1, x.W.cell? ⟨g, k * 2, none⟩ = some (.int .i64 B) := fun x => by exact HX.out x.W (HA.out _ x.h).2.2.2 k 0 hk (by omega)
          have g1 : ∀ x : Wd w1, x.W.cell? ⟨g, k * 2 + 1, none⟩ = some (.slice none 0 0) := fun x => by exact HX.out x.W (HA.out _ x.h).2.2.2 k 1 hk (by omega)
          by_cases hkn : k < n
          · have hkn' : (k : Int) < n := by omega
            obtain ⟨t, e9, HT⟩ := HY.out (by omega)
            subst e9
            have y0 : ∀ x : Wd w1, x.W.cell? ⟨t, k * 2, none⟩ = some (.int .i64 B) := fun x => by exact HT x.W (HA.out _ x.h).2.2.2 k 0 hkn (by omega)
            have y1 : ∀ x : Wd w1, x.W.cell? ⟨t, k * 2 + 1, none⟩ = some (.slice none 0 0) := fun x => by exact HT x.W (HA.out _ x.h).2.2.2 k 1 hkn (by omega)
            clear hFq
            go_wp2_with fail
            refine wp_region_wd (w1 := w1) (by kernel_rfl) (by kernel_rfl) HF.out ?_
            repeat (go_big_quiet_step (exact (isTxn_at M B _ hen HB.out).mono fun e w3 hh => ⟨hh.1, ⟨_, Fr.then (Wd.h _) hh.2⟩, rfl⟩))
            refine wpQuiet_nil ?_
            rintro _ ⟨x, rfl⟩
            go_wp2_with fail
            go_roundw
            case rel => exact ⟨k + 1, by simp, by omega, x.h⟩
            case measure => simp [RowKit.intOf]; omega
          · have hkn' : ¬ ((k : Int) < n) := by omega
            clear hFq
            go_wp2_with fail
            refine wp_region_wd (w1 := w1) (by kernel_rfl) (by kernel_rfl) HF.out ?_
            repeat (go_big_quiet_step (exact (isTxn_at M B _ hen HB.out).mono fun e w3 hh => ⟨hh.1, ⟨_, Fr.then (Wd.h _) hh.2⟩, rfl⟩))
            refine wpQuiet_nil ?_
            rintro _ ⟨x, rfl⟩
            go_wp2_with fail
            go_roundw
            case rel => exact ⟨k + 1, by simp, by omega, x.h⟩
            case measure => simp [RowKit.intOf]; omega
        · have hle : (Q : Int) ≤ k := by omega
          have hF2 := HF1.out.then hFq
          go_wp2_with fail
          go_roundw
          case rel => exact ⟨i + 1, by simp, by omega, hF2⟩
          case measure => simp [RowKit.intOf]; omega
    · go_wp2_with fail
      go_ret
      exact ⟨rfl, hF⟩
end Go.Proofs.YtaefninikmaiiaaGreatDoor.Bq
/- What the Book's Apart answers over lists of entries, numbers, writes and transactions of which no two share a block: true; it writes those lists and its own rows alone. Conditions: fewer than 2^21 lists of each kind; the table of powers of ten reads as the library lays it, and is none of those. -/
namespace Go.Proofs.YtaefninikmaiiaaGreatDoor.Bq
open Go.ChangeShapes Go.WideShapes Go.ChangeAt Go.RowKit Go.Lib
set_option linter.unusedVariables false

/-- All that Apart may write. -/
def own4 (rB rI rW rT : Value) (hB hI hW hT : List HB) : List Nat := (rB.ownBlock.toList ++ lbs hB) ++ ((rI.ownBlock.toList ++ lbs hI) ++ ((rW.ownBlock.toList ++ lbs hW) ++ (rT.ownBlock.toList ++ lbs hT)))
set_option maxHeartbeats 8000000 in
set_option maxRecDepth 100000 in
theorem apart4_any (bk : Nat) (cs : Array Value) (rB rI rW rT : Value) (hB hI hW hT : List HB) (w : World) (hX : Bx w bk cs) (sB : S0 kEntry w bk rB hB) (sI : S0 kInt w bk rI hI) (sW : S0 kWrite w bk rW hW) (sT : S0 kTxn w bk rT hT) (htab : Tab w) (hg : gTab ∉ own4 rB rI rW rT hB hI hW hT) :
    Calls Tryz.prog 17 #[.pointer (some ⟨bk, 0, none⟩)] w fun e w' => e = .returned (.bool true) ∧ Fr (own4 rB rI rW rT hB hI hW hT) w w' := by
  have HB : Hid (S0 kEntry w bk rB hB) := sB
  have HI : Hid (S0 kInt w bk rI hI) := sI
  have HW : Hid (S0 kWrite w bk rW hW) := sW
  have HT : Hid (S0 kTxn w bk rT hT) := sT
  have HX : Hid (Bx w bk cs) := hX
  have HTB : Hid (Tab w) := htab
  have HG : Hid (gTab ∉ own4 rB rI rW rT hB hI hW hT) := hg
  have HF : Hid (Fr (own4 rB rI rW rT hB hI hW hT) w w) := Fr.refl _ _
  have inB : ∀ x, x ∈ rB.ownBlock.toList ++ lbs hB → x ∈ own4 rB rI rW rT hB hI hW hT := fun x hx => List.mem_append_left _ hx
  have inI : ∀ x, x ∈ rI.ownBlock.toList ++ lbs hI → x ∈ own4 rB rI rW rT hB hI hW hT := fun x hx => List.mem_append_right _ (List.mem_append_left _ hx)
  have inW : ∀ x, x ∈ rW.ownBlock.toList ++ lbs hW → x ∈ own4 rB rI rW rT hB hI hW hT := fun x hx => List.mem_append_right _ (List.mem_append_right _ (List.mem_append_left _ hx))
  have inT : ∀ x, x ∈ rT.ownBlock.toList ++ lbs hT → x ∈ own4 rB rI rW rT hB hI hW hT := fun x hx => List.mem_append_right _ (List.mem_append_right _ (List.mem_append_right _ hx))
  clear sB sI sW sT hX htab hg
  go_enter Tryz.func17, Tryz.ntmps17
  go_wp2_with fail
  refine (fillByte_none bk w (HX.out.c 1 (by omega))).mono ?_
  rintro e _ ⟨rfl, rfl⟩
  go_wp2_with fail
  refine (fillInt_any bk rI hI w HI.out.bl HI.out.each HI.out.alone HI.out.fresh).mono ?_
  rintro e w1 ⟨rfl, HZ⟩
  have HFn : Hid (Fr (own4 rB rI rW rT hB hI hW hT) w w1) := HF.out.trans HZ.out.fr (fun x hx _ => hx) (fun x hx _ => inI x (List.mem_append_right _ hx))
  have HXn : Hid (Bx w1 bk cs) := HX.out.keep HZ.out.fr ((HI.out.offs off_BI).notB HX.out.box)
  have HBn : Hid (S0 kEntry w1 bk rB hB) := HB.out.stay HZ.out.fr (HI.out.offs off_BI)
  have HWn : Hid (S0 kWrite w1 bk rW hW) := HW.out.stay HZ.out.fr (HI.out.offs off_WI)
  have HTn : Hid (S0 kTxn w1 bk rT hT) := HT.out.stay HZ.out.fr (HI.out.offs off_TI)
  have HIn : Hid (S1 kInt w1 bk rI hI) := HI.out.filled HZ.out
  have HTBn : Hid (Tab w1) := HTB.out.keep HZ.out.fr (fun hm => HG.out (inI _ (List.mem_append_right _ hm)))
  clear HF HX HTB HZ HB HI HW HT
  have HF := HFn
  have HX := HXn
  have HTB := HTBn
  have HB := HBn
  have HI := HIn
  have HW := HWn
  have HT := HTn
  clear HFn HXn HTBn HBn HIn HWn HTn
  go_wp2_with fail
  refine (fillText_none bk w1 (HX.out.c 3 (by omega))).mono ?_
  rintro e _ ⟨rfl, rfl⟩
  go_wp2_with fail
  refine (fillWrite_any bk rW hW w1 HW.out.bl HW.out.each HW.out.alone HW.out.fresh HTB.out (fun hm => HG.out (inW _ (List.mem_append_right _ hm)))).mono ?_
  rintro e w2 ⟨rfl, HZ⟩
  have HFn : Hid (Fr (own4 rB rI rW rT hB hI hW hT) w w2) := HF.out.trans HZ.out.fr (fun x hx _ => hx) (fun x hx _ => inW x (List.mem_append_right _ hx))
  have HXn : Hid (Bx w2 bk cs) := HX.out.keep HZ.out.fr ((HW.out.offs off_BW).notB HX.out.box)
  have HBn : Hid (S0 kEntry w2 bk rB hB) := HB.out.stay HZ.out.fr (HW.out.offs off_BW)
  have HIn : Hid (S1 kInt w2 bk rI hI) := HI.out.stay HZ.out.fr (HW.out.offs off_IW)
  have HTn : Hid (S0 kTxn w2 bk rT hT) := HT.out.stay HZ.out.fr (HW.out.offs off_TW)
  have HWn : Hid (S1 kWrite w2 bk rW hW) := HW.out.filled HZ.out
  have HTBn : Hid (Tab w2) := HTB.out.keep HZ.out.fr (fun hm => HG.out (inW _ (List.mem_append_right _ hm)))
  clear HF HX HTB HZ HB HI HW HT
  have HF := HFn
  have HX := HXn
  have HTB := HTBn
  have HB := HBn
  have HI := HIn
  have HW := HWn
  have HT := HTn
  clear HFn HXn HTBn HBn HIn HWn HTn
  go_wp2_with fail
  refine (fillEntry_any bk rB hB w2 HB.out.bl HB.out.each HB.out.alone HB.out.fresh HTB.out (fun hm => HG.out (inB _ (List.mem_append_right _ hm)))).mono ?_
  rintro e w3 ⟨rfl, HZ⟩
  have HFn : Hid (Fr (own4 rB rI rW rT hB hI hW hT) w w3) := HF.out.trans HZ.out.fr (fun x hx _ => hx) (fun x hx _ => inB x (List.mem_append_right _ hx))
  have HXn : Hid (Bx w3 bk cs) := HX.out.keep HZ.out.fr ((HB.out.offs off_IB).notB HX.out.box)
  have HIn : Hid (S1 kInt w3 bk rI hI) := HI.out.stay HZ.out.fr (HB.out.offs off_IB)
  have HWn : Hid (S1 kWrite w3 bk rW hW) := HW.out.stay HZ.out.fr (HB.out.offs off_WB)
  have HTn : Hid (S0 kTxn w3 bk rT hT) := HT.out.stay HZ.out.fr (HB.out.offs off_TB)
  have HBn : Hid (S1 kEntry w3 bk rB hB) := HB.out.filled HZ.out
  have HTBn : Hid (Tab w3) := HTB.out.keep HZ.out.fr (fun hm => HG.out (inB _ (List.mem_append_right _ hm)))
  clear HF HX HTB HZ HB HI HW HT
  have HF := HFn
  have HX := HXn
  have HTB := HTBn
  have HB := HBn
  have HI := HIn
  have HW := HWn
  have HT := HTn
  clear HFn HXn HTBn HBn HIn HWn HTn
  go_wp2_with fail
  refine (fillVersion_none bk w3 (HX.out.c 6 (by omega))).mono ?_
  rintro e _ ⟨rfl, rfl⟩
  go_wp2_with fail
  refine (fillTxn_any bk rT hT w3 HT.out.bl HT.out.each HT.out.alone HT.out.fresh).mono ?_
  rintro e w4 ⟨rfl, HZ⟩
  have HFn : Hid (Fr (own4 rB rI rW rT hB hI hW hT) w w4) := HF.out.trans HZ.out.fr (fun x hx _ => hx) (fun x hx _ => inT x (List.mem_append_right _ hx))
  have HXn : Hid (Bx w4 bk cs) := HX.out.keep HZ.out.fr ((HT.out.offs off_BT).notB HX.out.box)
  have HBn : Hid (S1 kEntry w4 bk rB hB) := HB.out.stay HZ.out.fr (HT.out.offs off_BT)
  have HIn : Hid (S1 kInt w4 bk rI hI) := HI.out.stay HZ.out.fr (HT.out.offs off_IT)
  have HWn : Hid (S1 kWrite w4 bk rW hW) := HW.out.stay HZ.out.fr (HT.out.offs off_WT)
  have HTn : Hid (S1 kTxn w4 bk rT hT) := HT.out.filled HZ.out
  have HTBn : Hid (Tab w4) := HTB.out.keep HZ.out.fr (fun hm => HG.out (inT _ (List.mem_append_right _ hm)))
  clear HF HX HTB HZ HB HI HW HT
  have HF := HFn
  have HX := HXn
  have HTB := HTBn
  have HB := HBn
  have HI := HIn
  have HW := HWn
  have HT := HTn
  clear HFn HXn HTBn HBn HIn HWn HTn
  go_wp2_with fail
  refine (fillHeld_none bk w4 (HX.out.c 8 (by omega))).mono ?_
  rintro e _ ⟨rfl, rfl⟩
  go_wp2_with fail
  refine (fillHeldList_none bk w4 (HX.out.c 9 (by omega))).mono ?_
  rintro e _ ⟨rfl, rfl⟩
  go_wp2_with fail
  refine (fillEvent_none bk w4 (HX.out.c 10 (by omega))).mono ?_
  rintro e _ ⟨rfl, rfl⟩
  go_wp2_with fail
  refine (fillAnswer_none bk w4 (HX.out.c 11 (by omega))).mono ?_
  rintro e _ ⟨rfl, rfl⟩
  go_wp2_with fail
  refine (growByte_none bk w4 (HX.out.c 1 (by omega))).mono ?_
  rintro e _ ⟨rfl, rfl⟩
  go_wp2_with fail
  refine (growInt_any bk rI hI w4 HI.out.bl HI.out.each HI.out.alone HI.out.fresh).mono ?_
  rintro e w5 ⟨rfl, gI, HZ⟩
  have HFn : Hid (Fr (own4 rB rI rW rT hB hI hW hT) w w5) := HF.out.trans HZ.out.fr (fun x hx _ => hx) (fun x hx _ => inI x hx)
  have HXn : Hid (Bx w5 bk cs) := HX.out.keep HZ.out.fr ((HI.out.offs off_BI).notB HX.out.box)
  have HBn : Hid (S1 kEntry w5 bk rB hB) := HB.out.stay HZ.out.fr (HI.out.offs off_BI)
  have HWn : Hid (S1 kWrite w5 bk rW hW) := HW.out.stay HZ.out.fr (HI.out.offs off_WI)
  have HTn : Hid (S1 kTxn w5 bk rT hT) := HT.out.stay HZ.out.fr (HI.out.offs off_TI)
  have HIn : Hid (S2 kInt w5 bk rI gI) := HI.out.grown HZ.out
  have HTBn : Hid (Tab w5) := HTB.out.keep HZ.out.fr (fun hm => HG.out (inI _ hm))
  clear HF HX HTB HZ HB HI HW HT
  have HF := HFn
  have HX := HXn
  have HTB := HTBn
  have HB := HBn
  have HI := HIn
  have HW := HWn
  have HT := HTn
  clear HFn HXn HTBn HBn HIn HWn HTn
  go_wp2_with fail
  refine (growText_none bk w5 (HX.out.c 3 (by omega))).mono ?_
  rintro e _ ⟨rfl, rfl⟩
  go_wp2_with fail
  refine (growWrite_any bk rW hW w5 HW.out.bl HW.out.each HW.out.alone HW.out.fresh HTB.out (fun hm => HG.out (inW _ hm))).mono ?_
  rintro e w6 ⟨rfl, gW, HZ⟩
  have HFn : Hid (Fr (own4 rB rI rW rT hB hI hW hT) w w6) := HF.out.trans HZ.out.fr (fun x hx _ => hx) (fun x hx _ => inW x hx)
  have HXn : Hid (Bx w6 bk cs) := HX.out.keep HZ.out.fr ((HW.out.offs off_BW).notB HX.out.box)
  have HBn : Hid (S1 kEntry w6 bk rB hB) := HB.out.stay HZ.out.fr (HW.out.offs off_BW)
  have HIn : Hid (S2 kInt w6 bk rI gI) := HI.out.stay HZ.out.fr (HW.out.offs off_IW)
  have HTn : Hid (S1 kTxn w6 bk rT hT) := HT.out.stay HZ.out.fr (HW.out.offs off_TW)
  have HWn : Hid (S2 kWrite w6 bk rW gW) := HW.out.grown HZ.out
  have HTBn : Hid (Tab w6) := HTB.out.keep HZ.out.fr (fun hm => HG.out (inW _ hm))
  clear HF HX HTB HZ HB HI HW HT
  have HF := HFn
  have HX := HXn
  have HTB := HTBn
  have HB := HBn
  have HI := HIn
  have HW := HWn
  have HT := HTn
  clear HFn HXn HTBn HBn HIn HWn HTn
  go_wp2_with fail
  refine (growEntry_any bk rB hB w6 HB.out.bl HB.out.each HB.out.alone HB.out.fresh HTB.out (fun hm => HG.out (inB _ hm))).mono ?_
  rintro e w7 ⟨rfl, gB, HZ⟩
  have HFn : Hid (Fr (own4 rB rI rW rT hB hI hW hT) w w7) := HF.out.trans HZ.out.fr (fun x hx _ => hx) (fun x hx _ => inB x hx)
  have HXn : Hid (Bx w7 bk cs) := HX.out.keep HZ.out.fr ((HB.out.offs off_IB).notB HX.out.box)
  have HIn : Hid (S2 kInt w7 bk rI gI) := HI.out.stay HZ.out.fr (HB.out.offs off_IB)
  have HWn : Hid (S2 kWrite w7 bk rW gW) := HW.out.stay HZ.out.fr (HB.out.offs off_WB)
  have HTn : Hid (S1 kTxn w7 bk rT hT) := HT.out.stay HZ.out.fr (HB.out.offs off_TB)
  have HBn : Hid (S2 kEntry w7 bk rB gB) := HB.out.grown HZ.out
  have HTBn : Hid (Tab w7) := HTB.out.keep HZ.out.fr (fun hm => HG.out (inB _ hm))
  clear HF HX HTB HZ HB HI HW HT
  have HF := HFn
  have HX := HXn
  have HTB := HTBn
  have HB := HBn
  have HI := HIn
  have HW := HWn
  have HT := HTn
  clear HFn HXn HTBn HBn HIn HWn HTn
  go_wp2_with fail
  refine (growVersion_none bk w7 (HX.out.c 6 (by omega))).mono ?_
  rintro e _ ⟨rfl, rfl⟩
  go_wp2_with fail
  refine (growTxn_any bk rT hT w7 HT.out.bl HT.out.each HT.out.alone HT.out.fresh).mono ?_
  rintro e w8 ⟨rfl, gT, HZ⟩
  have HFn : Hid (Fr (own4 rB rI rW rT hB hI hW hT) w w8) := HF.out.trans HZ.out.fr (fun x hx _ => hx) (fun x hx _ => inT x hx)
  have HXn : Hid (Bx w8 bk cs) := HX.out.keep HZ.out.fr ((HT.out.offs off_BT).notB HX.out.box)
  have HBn : Hid (S2 kEntry w8 bk rB gB) := HB.out.stay HZ.out.fr (HT.out.offs off_BT)
  have HIn : Hid (S2 kInt w8 bk rI gI) := HI.out.stay HZ.out.fr (HT.out.offs off_IT)
  have HWn : Hid (S2 kWrite w8 bk rW gW) := HW.out.stay HZ.out.fr (HT.out.offs off_WT)
  have HTn : Hid (S2 kTxn w8 bk rT gT) := HT.out.grown HZ.out
  have HTBn : Hid (Tab w8) := HTB.out.keep HZ.out.fr (fun hm => HG.out (inT _ hm))
  clear HF HX HTB HZ HB HI HW HT
  have HF := HFn
  have HX := HXn
  have HTB := HTBn
  have HB := HBn
  have HI := HIn
  have HW := HWn
  have HT := HTn
  clear HFn HXn HTBn HBn HIn HWn HTn
  go_wp2_with fail
  refine (growHeld_none bk w8 (HX.out.c 8 (by omega))).mono ?_
  rintro e _ ⟨rfl, rfl⟩
  go_wp2_with fail
  refine (growHeldList_none bk w8 (HX.out.c 9 (by omega))).mono ?_
  rintro e _ ⟨rfl, rfl⟩
  go_wp2_with fail
  refine (growEvent_none bk w8 (HX.out.c 10 (by omega))).mono ?_
  rintro e _ ⟨rfl, rfl⟩
  go_wp2_with fail
  refine (growAnswer_none bk w8 (HX.out.c 11 (by omega))).mono ?_
  rintro e _ ⟨rfl, rfl⟩
  go_wp2_with fail
  refine (lookByte_none bk w8 (HX.out.c 1 (by omega))).mono ?_
  rintro e _ ⟨rfl, rfl⟩
  go_wp2_with fail
  refine (lookInt_any bk rI gI w8 HI.out.bl HI.out.each).mono ?_
  rintro e w9 ⟨rfl, HZ⟩
  have HFn : Hid (Fr (own4 rB rI rW rT hB hI hW hT) w w9) := HF.out.trans HZ (fun x hx _ => hx) (by simp)
  have HXn : Hid (Bx w9 bk cs) := HX.out.keep HZ ((Off.nil kEntry _).notB HX.out.box)
  have HBn : Hid (S2 kEntry w9 bk rB gB) := HB.out.stay HZ (Off.nil kEntry _)
  have HWn : Hid (S2 kWrite w9 bk rW gW) := HW.out.stay HZ (Off.nil kWrite _)
  have HTn : Hid (S2 kTxn w9 bk rT gT) := HT.out.stay HZ (Off.nil kTxn _)
  have HIn : Hid (S2 kInt w9 bk rI gI) := HI.out.stay HZ (Off.nil _ _)
  have HTBn : Hid (Tab w9) := HTB.out.keep HZ (by simp)
  clear HF HX HTB HZ HB HI HW HT
  have HF := HFn
  have HX := HXn
  have HTB := HTBn
  have HB := HBn
  have HI := HIn
  have HW := HWn
  have HT := HTn
  clear HFn HXn HTBn HBn HIn HWn HTn
  go_wp2_with fail
  refine (lookText_none bk w9 (HX.out.c 3 (by omega))).mono ?_
  rintro e _ ⟨rfl, rfl⟩
  go_wp2_with fail
  refine (lookWrite_any bk rW gW w9 HW.out.bl HW.out.each HTB.out).mono ?_
  rintro e w10 ⟨rfl, HZ⟩
  have HFn : Hid (Fr (own4 rB rI rW rT hB hI hW hT) w w10) := HF.out.trans HZ (fun x hx _ => hx) (by simp)
  have HXn : Hid (Bx w10 bk cs) := HX.out.keep HZ ((Off.nil kEntry _).notB HX.out.box)
  have HBn : Hid (S2 kEntry w10 bk rB gB) := HB.out.stay HZ (Off.nil kEntry _)
  have HIn : Hid (S2 kInt w10 bk rI gI) := HI.out.stay HZ (Off.nil kInt _)
  have HTn : Hid (S2 kTxn w10 bk rT gT) := HT.out.stay HZ (Off.nil kTxn _)
  have HWn : Hid (S2 kWrite w10 bk rW gW) := HW.out.stay HZ (Off.nil _ _)
  have HTBn : Hid (Tab w10) := HTB.out.keep HZ (by simp)
  clear HF HX HTB HZ HB HI HW HT
  have HF := HFn
  have HX := HXn
  have HTB := HTBn
  have HB := HBn
  have HI := HIn
  have HW := HWn
  have HT := HTn
  clear HFn HXn HTBn HBn HIn HWn HTn
  go_wp2_with fail
  refine (lookEntry_any bk rB gB w10 HB.out.bl HB.out.each HTB.out).mono ?_
  rintro e w11 ⟨rfl, HZ⟩
  have HFn : Hid (Fr (own4 rB rI rW rT hB hI hW hT) w w11) := HF.out.trans HZ (fun x hx _ => hx) (by simp)
  have HXn : Hid (Bx w11 bk cs) := HX.out.keep HZ ((Off.nil kInt _).notB HX.out.box)
  have HIn : Hid (S2 kInt w11 bk rI gI) := HI.out.stay HZ (Off.nil kInt _)
  have HWn : Hid (S2 kWrite w11 bk rW gW) := HW.out.stay HZ (Off.nil kWrite _)
  have HTn : Hid (S2 kTxn w11 bk rT gT) := HT.out.stay HZ (Off.nil kTxn _)
  have HBn : Hid (S2 kEntry w11 bk rB gB) := HB.out.stay HZ (Off.nil _ _)
  have HTBn : Hid (Tab w11) := HTB.out.keep HZ (by simp)
  clear HF HX HTB HZ HB HI HW HT
  have HF := HFn
  have HX := HXn
  have HTB := HTBn
  have HB := HBn
  have HI := HIn
  have HW := HWn
  have HT := HTn
  clear HFn HXn HTBn HBn HIn HWn HTn
  go_wp2_with fail
  refine (lookVersion_none bk w11 (HX.out.c 6 (by omega))).mono ?_
  rintro e _ ⟨rfl, rfl⟩
  go_wp2_with fail
  refine (lookTxn_any bk rT gT w11 HT.out.bl HT.out.each).mono ?_
  rintro e w12 ⟨rfl, HZ⟩
  have HFn : Hid (Fr (own4 rB rI rW rT hB hI hW hT) w w12) := HF.out.trans HZ (fun x hx _ => hx) (by simp)
  have HXn : Hid (Bx w12 bk cs) := HX.out.keep HZ ((Off.nil kEntry _).notB HX.out.box)
  have HBn : Hid (S2 kEntry w12 bk rB gB) := HB.out.stay HZ (Off.nil kEntry _)
  have HIn : Hid (S2 kInt w12 bk rI gI) := HI.out.stay HZ (Off.nil kInt _)
  have HWn : Hid (S2 kWrite w12 bk rW gW) := HW.out.stay HZ (Off.nil kWrite _)
  have HTn : Hid (S2 kTxn w12 bk rT gT) := HT.out.stay HZ (Off.nil _ _)
  have HTBn : Hid (Tab w12) := HTB.out.keep HZ (by simp)
  clear HF HX HTB HZ HB HI HW HT
  have HF := HFn
  have HX := HXn
  have HTB := HTBn
  have HB := HBn
  have HI := HIn
  have HW := HWn
  have HT := HTn
  clear HFn HXn HTBn HBn HIn HWn HTn
  go_wp2_with fail
  refine (lookHeld_none bk w12 (HX.out.c 8 (by omega))).mono ?_
  rintro e _ ⟨rfl, rfl⟩
  go_wp2_with fail
  refine (lookHeldList_none bk w12 (HX.out.c 9 (by omega))).mono ?_
  rintro e _ ⟨rfl, rfl⟩
  go_wp2_with fail
  refine (lookEvent_none bk w12 (HX.out.c 10 (by omega))).mono ?_
  rintro e _ ⟨rfl, rfl⟩
  go_wp2_with fail
  refine (lookAnswer_none bk w12 (HX.out.c 11 (by omega))).mono ?_
  rintro e _ ⟨rfl, rfl⟩
  go_wp2_with fail
  go_ret
  exact ⟨rfl, HF.out⟩
end Go.Proofs.YtaefninikmaiiaaGreatDoor.Bq
/- What the laws of logs lean on: sizes that bound all parts, twins as rows of which a Book may be told, the Book's birth. Conditions as each lemma names them. -/
namespace Go.Proofs.YtaefninikmaiiaaGreatDoor
open Go.ChangeShapes Go.WideShapes Go.ChangeAt Go.RowKit Go.Lib
set_option linter.unusedVariables false
set_option linter.unusedSimpArgs false

/-- Twins as a Book sees them. -/
def dts (us : List Tm) : List Bq.Dt := us.map fun u => (u.n, .slice u.ao u.L u.cap)
theorem dtC_dts (us : List Tm) : Bq.dtC (dts us) = tmsC us := by
  induction us with
  | nil => rfl
  | cons u r ih =>
    have e : Bq.dtC (dts (u :: r)) = .int .i64 u.n :: .slice u.ao u.L u.cap :: Bq.dtC (dts r) := rfl
    rw [e, ih]
    rfl
theorem dts_get {us : List Tm} {i : Nat} {d : Bq.Dt} (h : (dts us)[i]? = some d) : ∃ u, us[i]? = some u ∧ d = (u.n, .slice u.ao u.L u.cap) := by
  unfold dts at h
  rw [List.getElem?_map] at h
  cases hu : us[i]? with
  | none => simp [hu] at h
  | some u => simp [hu] at h; exact ⟨u, rfl, h.symm⟩
theorem dts_twins {ts : List Tm} {ks : List Nat} {i : Nat} {d : Bq.Dt} (h : (dts (twTs ts ks))[i]? = some d) : ∃ t k, ts[i]? = some t ∧ ks[i]? = some k ∧ d = (t.n, .slice (some ⟨k, 0, none⟩) t.L (t.L + 1)) := by
  obtain ⟨u, hu, rfl⟩ := dts_get h
  obtain ⟨t, k, ht, hk, rfl⟩ := twTs_get hu
  exact ⟨t, k, ht, hk, rfl⟩
theorem twins_dts {w0 w w' : World} {ts : List Tm} {ks : List Nat} {b L : Nat} {ao : Option Addr} (h : TRs w0 ao ts) (hL : L = ts.length) (hLs : L < 1048577) (hfew : Few ts) (hT : Twd w w' ts ks) (hb : w'.heap[b]? = some (.cells (tmsC (twTs ts ks ++ [spT])).toArray 63 (0, 0))) : Bq.Dts w' (some ⟨b, 0, none⟩) L (L + 1) (dts (twTs ts ks)) := by
  have hl := twTs_length ts ks hT.len
  refine ⟨?_, by simp [dts, hl, hL], hLs, ?_, ?_⟩
  · rw [dtC_dts]
    refine ⟨by rw [tmsC_length, hl, hL], .inr ⟨b, L + 1, (tmsC (twTs ts ks ++ [spT])).toArray, rfl, Nat.zero_le _, hb, by omega, by simp only [maxLen]; omega, by simp [tmsC_length, hl]; omega, ?_⟩⟩
    simp only [tmsC_append]
    rw [List.take_append_of_le_length (by rw [tmsC_length]; omega), List.take_of_length_le (by rw [tmsC_length]; omega)]
  · intro i d hd
    obtain ⟨t, k, ht, hk, rfl⟩ := dts_twins hd
    have hm := List.mem_of_getElem? ht
    have hat := h.each t hm
    have hlw := hat.len
    have hfw := hfew t hm
    refine ⟨t.L, wtsC t.ws, ?_, by omega⟩
    refine ⟨by rw [wtsC_length, hlw], .inr ⟨k, t.L + 1, (wtsC (t.ws ++ [spW])).toArray, rfl, Nat.zero_le _, hT.row i t k ht hk, by omega, by simp only [maxLen]; omega, by simp [wtsC_length]; omega, ?_⟩⟩
    simp only [wtsC_append]
    rw [List.take_append_of_le_length (by rw [wtsC_length]; omega), List.take_of_length_le (by rw [wtsC_length]; omega)]
  · intro i j a c ha hc hij k hk1 hk2
    obtain ⟨t, k', ht, hk', rfl⟩ := dts_twins ha
    obtain ⟨u, k'', hu, hk'', rfl⟩ := dts_twins hc
    simp [Value.ownBlock] at hk1 hk2
    subst hk1 hk2
    exact hij ((List.getElem?_inj (List.getElem?_eq_some_iff.1 hk').1 hT.apart).1 (hk'.trans hk''.symm))
/-- Blocks of twins in a Book. -/
theorem lbs_twins {T : Nat} {ts : List Tm} {ks : List Nat} {k : Nat} (h : k ∈ Bq.lbs (Bq.held T (dts (twTs ts ks)))) : k ∈ ks := by
  obtain ⟨i, d, hd, hk⟩ := Bq.mem_held h
  obtain ⟨t, k', ht, hk', rfl⟩ := dts_twins hd
  simp [Value.ownBlock] at hk
  subst hk
  exact List.mem_of_getElem? hk'
namespace Bq
/-- A Book that was told nothing. -/
def newBk : Array Value := #[.int .i64 0, .slice none 0 0, .slice none 0 0, .slice none 0 0, .slice none 0 0, .slice none 0 0, .slice none 0 0, .slice none 0 0, .slice none 0 0, .slice none 0 0, .slice none 0 0, .slice none 0 0]
theorem S0.none {K : Kd} {w : World} {bk : Nat} (h : w.heap[bk]? = some (.cells newBk 45 (0, 0))) (hc : newBk[K.col]? = some (.slice none 0 0)) : S0 K w bk (.slice none 0 0) [] :=
  ⟨⟨⟨newBk, h, hc⟩, World.ownsRow_nil _ _ _ _, by simp, by simp⟩, by simp, fun i j a b ha => by simp at ha, fun j h hh => by simp at hh⟩
theorem B4.new {w0 w : World} {bk : Nat} (h : w.heap[bk]? = some (.cells newBk 45 (0, 0))) (hb : w0.heap.size ≤ bk) : B4 w0 w bk 0 (.slice none 0 0) (.slice none 0 0) (.slice none 0 0) (.slice none 0 0) [] [] [] [] := by
  refine ⟨⟨newBk, ⟨h, rfl, ?_⟩, rfl⟩, S0.none h rfl, S0.none h rfl, S0.none h rfl, S0.none h rfl, hb, ?_, ?_, ?_, ?_, by simp, by simp, by simp, by simp⟩
  · rintro c (rfl | rfl | rfl | rfl | rfl | rfl | rfl) <;> rfl
  all_goals (intro k hk; simp [Value.ownBlock] at hk)
/-- All that a Book's Apart writes was made since w0. -/
theorem B4.own {w0 w : World} {bk T : Nat} {rB rI rW rT : Value} {hB hI hW hT : List HB} (h : B4 w0 w bk T rB rI rW rT hB hI hW hT) (lB : ∀ k ∈ lbs hB, w0.heap.size ≤ k) (lI : ∀ k ∈ lbs hI, w0.heap.size ≤ k) (lW : ∀ k ∈ lbs hW, w0.heap.size ≤ k) (lT : ∀ k ∈ lbs hT, w0.heap.size ≤ k) : ∀ k ∈ own4 rB rI rW rT hB hI hW hT, w0.heap.size ≤ k := by
  intro k hk
  simp only [own4, List.mem_append, Option.mem_toList] at hk
  rcases hk with (hk | hk) | (hk | hk) | (hk | hk) | (hk | hk)
  · exact h.rBn k hk
  · exact lB k hk
  · exact h.rIn k hk
  · exact lI k hk
  · exact h.rWn k hk
  · exact lW k hk
  · exact h.rTn k hk
  · exact lT k hk
/-- Apart says true, and writes nothing that was there at w0. -/
theorem B4.apart {w0 w : World} {bk T : Nat} {rB rI rW rT : Value} {hB hI hW hT : List HB} (h : B4 w0 w bk T rB rI rW rT hB hI hW hT) (lB : ∀ k ∈ lbs hB, w0.heap.size ≤ k) (lI : ∀ k ∈ lbs hI, w0.heap.size ≤ k) (lW : ∀ k ∈ lbs hW, w0.heap.size ≤ k) (lT : ∀ k ∈ lbs hT, w0.heap.size ≤ k) (ht0 : Tab w0) (hf : Fr [] w0 w) :
    Calls Tryz.prog 17 #[.pointer (some ⟨bk, 0, none⟩)] w fun e w' => e = .returned (.bool true) ∧ Fr [] w0 w' := by
  obtain ⟨cs, hX, _⟩ := h.box
  have ho := h.own lB lI lW lT
  refine (apart4_any bk cs rB rI rW rT hB hI hW hT w hX h.sB h.sI h.sW h.sT (ht0.keep hf (by simp)) (fun hm => by have := ho _ hm; have := ht0.lt; omega)).mono ?_
  rintro e w' ⟨rfl, hF⟩
  exact ⟨rfl, hf.on hF ho⟩
end Bq
end Go.Proofs.YtaefninikmaiiaaGreatDoor
/- The document's Check of a transaction, and what it leans on. Conditions as each names them. -/
namespace Go.Proofs.YtaefninikmaiiaaGreatDoor
open Go.ChangeShapes Go.WideShapes Go.ChangeAt Go.RowKit Go.Lib
set_option linter.unusedVariables false
set_option linter.unusedSimpArgs false

theorem xKey_any (s : ByteArray) (B : Bool) (w : World) (hs : s.size ≤ 140737488355328) (hB : B = true ↔ 1 ≤ s.size ∧ s.size ≤ 64) : Calls Tryz.prog 178 #[.string s] w fun e w' => e = .returned (.bool B) ∧ w = w' := by
  have HB : Hid (B = true ↔ 1 ≤ s.size ∧ s.size ≤ 64) := hB
  clear hB
  by_cases h1 : 1 ≤ s.size
  · have h1' : (1 : Int) ≤ s.size := by omega
    by_cases h2 : s.size ≤ 64
    · have h2' : (s.size : Int) ≤ 64 := by omega
      have HR : Hid (B = true) := HB.out.2 ⟨h1, h2⟩
      go_enter Tryz.func178, Tryz.ntmps178
      go_wp2
      go_ret
      rw [HR.out]
      simp [h2']
    · have h2' : decide ((s.size : Int) ≤ 64) = false := by simp; omega
      have HR : Hid (B = false) := by show B = false; simpa using fun h : B = true => h2 (HB.out.1 h).2
      clear h2
      go_enter Tryz.func178, Tryz.ntmps178
      go_wp2
      go_ret
      rw [HR.out]
      simp [h2']
  · have h1' : decide ((1 : Int) ≤ s.size) = false := by simp; omega
    have h1'' : (s.size : Int) < 1 := by omega
    have HR : Hid (B = false) := by show B = false; simpa using fun h : B = true => h1 (HB.out.1 h).1
    clear h1
    go_enter Tryz.func178, Tryz.ntmps178
    go_wp2
    go_ret
    rw [HR.out]
    simp
theorem xVal_any (s : ByteArray) (B : Bool) (w : World) (hs : s.size ≤ 140737488355328) (hB : B = true ↔ s.size ≤ 1024) : Calls Tryz.prog 179 #[.string s] w fun e w' => e = .returned (.bool B) ∧ w = w' := by
  have HB : Hid (decide ((s.size : Int) ≤ 1024) = B) := by
    show _ = _
    cases B with
    | true => have := hB.1 rfl; simp; omega
    | false => have : ¬ s.size ≤ 1024 := fun h => by have := hB.2 h; simp at this
               simp; omega
  clear hB
  go_enter Tryz.func179, Tryz.ntmps179
  go_wp2
  go_ret
  rw [← HB.out]
  exact ⟨rfl, rfl⟩
/-- It tells whether the write may be. -/
def TellsY (e : Ending) (x : Wt) : Prop := ∃ B : Bool, e = .returned (.bool B) ∧ (B = true ↔ okW x)
set_option maxHeartbeats 2000000 in
set_option maxRecDepth 100000 in
theorem xWrite_any (key val : ByteArray) (drop : Bool) (w : World) (hk : key.size ≤ 140737488355328) (hv : val.size ≤ 140737488355328) :
    Calls Tryz.prog 158 #[.agg #[.string key, .string val, .bool drop]] w fun e w' => TellsY e ⟨key, val, drop⟩ ∧ Fr [] w w' := by
  have hF0 : Fr [] w (w.alloc (.cells #[.string key, .string val, .bool drop] 124)) := Fr.alloc [] w _
  have HO : Hid (okW ⟨key, val, drop⟩ ↔ (1 ≤ key.size ∧ key.size ≤ 64) ∧ val.size ≤ 1024 ∧ (drop = true → val.size = 0)) := by
    show _ ↔ _
    unfold okW
    rw [← noS_iff]
    simp only
    constructor
    · rintro ⟨a, b, c, d⟩; exact ⟨⟨a, b⟩, c, d⟩
    · rintro ⟨⟨a, b⟩, c, d⟩; exact ⟨a, b, c, d⟩
  by_cases h1 : 1 ≤ key.size ∧ key.size ≤ 64
  · by_cases h2 : val.size ≤ 1024
    · cases drop with
      | true =>
        by_cases h3 : val.size = 0
        · have h3' : ((val.size : Int) == 0) = true := by rw [h3]; rfl
          have HA : Hid (okW ⟨key, val, true⟩) := HO.out.2 ⟨h1, h2, fun _ => h3⟩
          go_enter Tryz.func158, Tryz.ntmps158
          go_wp2_with fail
          refine (xKey_any key true _ hk (by simpa using h1)).mono ?_
          rintro e w1 ⟨rfl, rfl⟩
          go_wp2_with fail
          refine (xVal_any val true _ hv (by simpa using h2)).mono ?_
          rintro e w1 ⟨rfl, rfl⟩
          go_wp2
          go_ret
          exact ⟨⟨true, by simp [h3'], by simp [HA.out]⟩, hF0⟩
        · have h3' : ((val.size : Int) == 0) = false := by rw [beq_eq_false_iff_ne]; omega
          have HA : Hid (¬ okW ⟨key, val, true⟩) := fun h => h3 ((HO.out.1 h).2.2 rfl)
          clear h3
          go_enter Tryz.func158, Tryz.ntmps158
          go_wp2_with fail
          refine (xKey_any key true _ hk (by simpa using h1)).mono ?_
          rintro e w1 ⟨rfl, rfl⟩
          go_wp2_with fail
          refine (xVal_any val true _ hv (by simpa using h2)).mono ?_
          rintro e w1 ⟨rfl, rfl⟩
          go_wp2
          go_ret
          exact ⟨⟨false, by simp [h3'], by simp [HA.out]⟩, hF0⟩
      | false =>
        have HA : Hid (okW ⟨key, val, false⟩) := HO.out.2 ⟨h1, h2, fun h => by simp at h⟩
        go_enter Tryz.func158, Tryz.ntmps158
        go_wp2_with fail
        refine (xKey_any key true _ hk (by simpa using h1)).mono ?_
        rintro e w1 ⟨rfl, rfl⟩
        go_wp2_with fail
        refine (xVal_any val true _ hv (by simpa using h2)).mono ?_
        rintro e w1 ⟨rfl, rfl⟩
        go_wp2
        go_ret
        exact ⟨⟨true, by simp, by simp [HA.out]⟩, hF0⟩
    · have HA : Hid (¬ okW ⟨key, val, drop⟩) := fun h => h2 (HO.out.1 h).2.1
      go_enter Tryz.func158, Tryz.ntmps158
      go_wp2_with fail
      refine (xKey_any key true _ hk (by simpa using h1)).mono ?_
      rintro e w1 ⟨rfl, rfl⟩
      go_wp2_with fail
      refine (xVal_any val false _ hv (by simpa using h2)).mono ?_
      rintro e w1 ⟨rfl, rfl⟩
      go_wp2
      go_ret
      exact ⟨⟨false, by simp, by simp [HA.out]⟩, hF0⟩
  · have HA : Hid (¬ okW ⟨key, val, drop⟩) := fun h => h1 (HO.out.1 h).1
    have HB : Hid (false = true ↔ 1 ≤ key.size ∧ key.size ≤ 64) := ⟨fun h => by simp at h, fun h => absurd h h1⟩
    clear h1
    go_enter Tryz.func158, Tryz.ntmps158
    go_wp2_with fail
    refine (xKey_any key false _ hk HB.out).mono ?_
    rintro e w1 ⟨rfl, rfl⟩
    go_wp2
    go_ret
    exact ⟨⟨false, by simp, by simp [HA.out]⟩, hF0⟩
theorem xNumber_any (n : Int) (B : Bool) (w : World) (hB : B = true ↔ 1 ≤ n ∧ n ≤ 65536) : Calls Tryz.prog 157 #[.int .i64 n] w fun e w' => e = .returned (.bool B) ∧ w = w' := by
  have HB : Hid (B = true ↔ 1 ≤ n ∧ n ≤ 65536) := hB
  clear hB
  by_cases h1 : 1 ≤ n
  · have HR : Hid (decide (n ≤ 65536) = B) := by
      show _ = _
      cases B with
      | true => have := HB.out.1 rfl; simp; omega
      | false => have : ¬ n ≤ 65536 := fun h => by have := HB.out.2 ⟨h1, h⟩; simp at this
                 simp; omega
    go_enter Tryz.func157, Tryz.ntmps157
    go_wp2
    go_ret
    rw [← HR.out]
    exact ⟨by simp, rfl⟩
  · have h1' : n < 1 := by omega
    have HR : Hid (B = false) := by show B = false; simpa using fun h : B = true => h1 (HB.out.1 h).1
    clear h1
    go_enter Tryz.func157, Tryz.ntmps157
    go_wp2
    go_ret
    rw [HR.out]
    simp

set_option maxHeartbeats 4000000 in
set_option maxRecDepth 100000 in
theorem xCheck_any (n : Int) (ao : Option Addr) (L cap c : Nat) (ws : List Wt) (w : World) (hW : WRs w ao ws) (hL : L = ws.length) (hn0 : -9223372036854775808 ≤ n) (hn1 : n ≤ 9223372036854775807)
    (hc : (okT n ws ∧ c = 0) ∨ (¬ okT n ws ∧ c = 1)) :
    Calls Tryz.prog 108 #[.agg #[.int .i64 n, .slice ao L cap]] w fun e w' => e = .returned (.int .i64 (c : Int)) ∧ Fr [] w w' := by
  have HC : Hid (_ ∨ _) := hc
  have HL : Hid (L = ws.length) := hL
  have hLm : L ≤ 140737488355328 := by have := hW.few; omega
  have hF0 : Fr [] w (w.alloc (.cells #[.int .i64 n, .slice ao L cap] 63)) := Fr.alloc _ _ _
  have hW1 := hW.keep hF0
  clear hc hL
  by_cases h1 : 1 ≤ n ∧ n ≤ 65536
  · have hN := fun w => xNumber_any n true w (by simpa using h1)
    by_cases h3 : 32 < L
    · have hc1 : c = 1 := by rcases HC.out with ⟨h, _⟩ | ⟨_, h⟩; · exact absurd h.2.2.1 (by rw [← HL.out]; omega)
                             · exact h
      subst hc1
      clear HC
      have h3' : (32 : Int) < L := by omega
      go_enter Tryz.func108, Tryz.ntmps108
      go_wp2_with fail
      refine (hN _).mono ?_
      rintro e w1 ⟨rfl, rfl⟩
      clear hN
      go_wp2
      go_ret
      exact ⟨rfl, hF0⟩
    · have h3' : (L : Int) ≤ 32 := by omega
      have hd3 : decide ((32 : Int) < L) = false := by simp; omega
      clear h3
      have c1 : (w.alloc (.cells #[.int .i64 n, .slice ao L cap] 63)).cell? ⟨w.heap.size, 1, none⟩ = some (.slice ao L cap) := cell_of_row _ _ _ _ _ _ (heap_alloc_new w _)
      go_enter Tryz.func108, Tryz.ntmps108
      go_wp2_with fail
      refine (hN _).mono ?_
      rintro e w1 ⟨rfl, rfl⟩
      clear hN
      go_wp2_with fail
      obtain ⟨w1, HW1⟩ : ∃ w1, Hid (w.alloc (.cells #[.int .i64 n, .slice ao L cap] 63) = w1) := ⟨_, rfl⟩
      rw [HW1.out] at c1 hF0 hW1 ⊢
      have hlt : w.heap.size < w1.heap.size := by rw [← HW1.out]; simp
      go_loopw [3] (fun ii wr => ∃ (i : Nat), ii = .int .i64 i ∧ i ≤ L ∧ Hid (∀ j, j < i → okW (ws.getD j Wt.zero)) ∧ Fr [] w1 wr) (fun ii _ => L - (RowKit.intOf ii).toNat)
      case atStart => exact ⟨0, rfl, Nat.zero_le _, fun j hj => by omega, Fr.refl _ _⟩
      case round =>
        obtain ⟨i, rfl, hiL, HE, hFr⟩ := hrel
        have c1r : wr.cell? ⟨w.heap.size, 1, none⟩ = some (.slice ao L cap) := (World.cell?_of_block (hFr.block _ hlt (by simp))).trans c1
        by_cases hi : i < L
        · have hi' : i < ws.length := by rw [← HL.out]; exact hi
          obtain ⟨b, off, rfl, _, hc⟩ := (hW1.keep hFr).lies (by omega)
          obtain ⟨d0, d1, d2⟩ := hc i hi'
          have hm := hW.each _ (wgetD_mem ws i hi')
          obtain ⟨x, hxx⟩ : ∃ x, x = ws.getD i Wt.zero := ⟨_, rfl⟩
          rw [← hxx] at d0 d1 d2 hm
          have HX : Hid (x = ws.getD i Wt.zero) := hxx
          clear hxx hc
          obtain ⟨key, val, drop⟩ := x
          simp only at d0 d1 d2 hm
          go_wp2_with fail
          refine (xWrite_any key val drop _ hm.1 hm.2).mono ?_
          rintro e w2 ⟨⟨B, rfl, hB⟩, hF2⟩
          cases B with
          | false =>
            have hno : ¬ okW ⟨key, val, drop⟩ := fun h => by have := hB.2 h; simp at this
            have hc1 : c = 1 := by rcases HC.out with ⟨h, _⟩ | ⟨_, h⟩; · exact absurd h (okT_no hi' (HX.out ▸ hno))
                                   · exact h
            subst hc1
            clear HC hB hno
            go_wp2
            go_ret
            exact ⟨rfl, hF0.then (hFr.then hF2)⟩
          | true =>
            have HE2 : Hid (∀ j, j < i + 1 → okW (ws.getD j Wt.zero)) := by
              intro j hj
              by_cases hji : j = i
              · subst hji
                rw [← HX.out]
                exact hB.1 rfl
              · exact HE.out j (by omega)
            clear hB
            go_wp2
            go_roundw
            case rel => exact ⟨i + 1, by simp, by omega, HE2, hFr.then hF2⟩
            case measure => simp [RowKit.intOf]; omega
        · have hc0 : c = 0 := by
            rcases HC.out with ⟨_, h⟩ | ⟨h, _⟩
            · exact h
            · refine absurd ⟨h1.1, h1.2, by rw [← HL.out]; omega, ?_⟩ h
              intro x hx
              obtain ⟨j, hj, rfl⟩ := List.getElem_of_mem hx
              have := HE.out j (by have := HL.out; omega)
              simpa [List.getD, hj] using this
          subst hc0
          clear HC
          go_wp2
          go_ret
          exact ⟨rfl, hF0.then hFr⟩
  · have hN := fun w => xNumber_any n false w ⟨fun h => by simp at h, fun h => absurd h h1⟩
    have hc1 : c = 1 := by rcases HC.out with ⟨h, _⟩ | ⟨_, h⟩; · exact absurd ⟨h.1, h.2.1⟩ h1
                           · exact h
    subst hc1
    clear HC h1
    go_enter Tryz.func108, Tryz.ntmps108
    go_wp2_with fail
    refine (hN _).mono ?_
    rintro e w1 ⟨rfl, rfl⟩
    clear hN
    go_wp2
    go_ret
    exact ⟨rfl, hF0⟩
end Go.Proofs.YtaefninikmaiiaaGreatDoor
/- May a log be: the document's Check (stages 6 and 7), the program's check (stage 7). Conditions as each names them. -/
namespace Go.Proofs.YtaefninikmaiiaaGreatDoor
open Go.ChangeShapes Go.WideShapes Go.ChangeAt Go.RowKit Go.Lib
set_option linter.unusedVariables false
set_option linter.unusedSimpArgs false
theorem tdrop_cons7 (ts : List Tm) (i : Nat) (h : i < ts.length) : ts.drop i = ts.getD i Tm.zero :: ts.drop (i + 1) := by
  rw [List.drop_eq_getElem_cons h]
  simp [List.getD, h]

set_option maxHeartbeats 4000000 in
set_option maxRecDepth 100000 in
theorem ycheck_any (ao : Option Addr) (L cap c : Nat) (ts : List Tm) (w : World) (hT : TRs w ao ts) (hL : L = ts.length) (hc : Bad 1 (txs ts) c) :
    Calls Tryz.prog 44 #[.slice ao L cap] w fun e w' => e = .returned (.int .i64 (c : Int)) ∧ Fr [] w w' := by
  have HC : Hid (Bad 1 (txs ts) c) := hc
  have HL : Hid (L = ts.length) := hL
  have hLm : L ≤ 140737488355328 := by have := hT.few; omega
  clear hc hL
  go_enter Tryz.func44, Tryz.ntmps44
  go_wp2_with fail
  go_loopw [3] (fun ii wr => ∃ (i : Nat), ii = .int .i64 i ∧ i ≤ L ∧ Hid (Bad (1 + i) (txs (ts.drop i)) c) ∧ Fr [] w wr) (fun ii _ => L - (RowKit.intOf ii).toNat)
  case atStart => exact ⟨0, rfl, Nat.zero_le _, HC.out, Fr.refl _ _⟩
  case round =>
    obtain ⟨i, rfl, hiL, HE, hFr⟩ := hrel
    by_cases hi : i < L
    · have hi' : i < ts.length := by rw [← HL.out]; exact hi
      obtain ⟨bb, off, rfl, hbl, hc⟩ := (hT.keep hFr).lies (by omega)
      have hx := hc i hi'
      have hat := (hT.keep hFr).each _ (tgetD_mem ts i hi')
      obtain ⟨x, hxx⟩ : ∃ x, x = ts.getD i Tm.zero := ⟨_, rfl⟩
      rw [← hxx] at hx hat
      have HX : Hid (x = ts.getD i Tm.zero) := hxx
      clear hxx hc
      obtain ⟨n, xo, M, cm, ws⟩ := x
      obtain ⟨c0, c1⟩ := hx
      simp only at c0 c1
      have e1 := HE.out
      rw [tdrop_cons7 ts i hi', ← HX.out] at e1
      have hn0 := hat.n0
      have hn1 := hat.n1
      simp only at hn0 hn1
      have hG := hFr
      have hat1 : TArg wr n xo M cm ws := hat
      have HCe : Hid (∀ W, Fr [] wr W → W.cell? ⟨bb, off + i * 2, none⟩ = some (.int .i64 n)) := fun W hf => (World.cell?_of_block (hf.block bb hbl (by simp))).trans c0
      clear hat
      clear HE HC
      rcases e1 with ⟨h1, rfl⟩ | ⟨h1, h2, rfl⟩ | ⟨h1, h2, h3⟩
      · have HN : Hid (¬ okT n ws) := h1
        clear h1
        go_wp2_with fail
        refine (xCheck_any n xo M cm 1 ws _ hat1.rs hat1.len hn0 hn1 (Or.inr ⟨HN.out, rfl⟩)).mono ?_
        rintro e w2 ⟨rfl, hF2⟩
        have hG2 := hG.then hF2
        clear hG hF2 hat1
        go_wp2
        go_ret
        exact ⟨rfl, hG2⟩
      · have HN : Hid (okT n ws) := h1
        have hne : (n != (i : Int) + 1) = true := by rw [bne_iff_ne]; have h2' : n ≠ ((1 + i : Nat) : Int) := h2; omega
        clear h1 h2
        go_wp2_with fail
        refine (xCheck_any n xo M cm 0 ws _ hat1.rs hat1.len hn0 hn1 (Or.inl ⟨HN.out, rfl⟩)).mono ?_
        rintro e w2 ⟨rfl, hF2⟩
        have hG2 := hG.then hF2
        have k0 := HCe.out _ hF2
        clear hG hF2 hat1 c0 c1
        go_wp2
        go_ret
        exact ⟨rfl, hG2⟩
      · have HN : Hid (okT n ws ∧ Bad (1 + i + 1) (txs (ts.drop (i + 1))) c) := ⟨h1, h3⟩
        have hne : (n != (i : Int) + 1) = false := by rw [bne_eq_false_iff_eq]; have h2' : n = ((1 + i : Nat) : Int) := h2; omega
        clear h1 h2 h3
        go_wp2_with fail
        refine (xCheck_any n xo M cm 0 ws _ hat1.rs hat1.len hn0 hn1 (Or.inl ⟨HN.out.1, rfl⟩)).mono ?_
        rintro e w2 ⟨rfl, hF2⟩
        have hG2 := hG.then hF2
        have k0 := HCe.out _ hF2
        clear hG hF2 hat1 c0 c1
        go_wp2
        go_roundw
        case rel => exact ⟨i + 1, by simp, by omega, by show Bad _ _ _; rw [show 1 + (i + 1) = 1 + i + 1 by omega]; exact HN.out.2, hG2⟩
        case measure => simp [RowKit.intOf]; omega
    · have hc0 : c = 0 := by
        have e1 := HE.out
        rw [List.drop_eq_nil_of_le (by rw [← HL.out]; omega)] at e1
        exact e1
      subst hc0
      clear HC HE
      go_wp2
      go_ret
      exact ⟨rfl, hFr⟩

set_option maxHeartbeats 4000000 in
set_option maxRecDepth 100000 in
theorem zcheck_any (ao : Option Addr) (L cap c : Nat) (ts : List Tm) (w : World) (hT : TRs w ao ts) (hL : L = ts.length) (hc : Bad 1 (txs ts) c) :
    Calls Tryz.prog 98 #[.slice ao L cap] w fun e w' => e = .returned (.int .i64 (c : Int)) ∧ Fr [] w w' := by
  have HC : Hid (Bad 1 (txs ts) c) := hc
  have HL : Hid (L = ts.length) := hL
  have hLm : L ≤ 140737488355328 := by have := hT.few; omega
  clear hc hL
  go_enter Tryz.func98, Tryz.ntmps98
  go_wp2_with fail
  go_loopw [3] (fun ii wr => ∃ (i : Nat), ii = .int .i64 i ∧ i ≤ L ∧ Hid (Bad (1 + i) (txs (ts.drop i)) c) ∧ Fr [] w wr) (fun ii _ => L - (RowKit.intOf ii).toNat)
  case atStart => exact ⟨0, rfl, Nat.zero_le _, HC.out, Fr.refl _ _⟩
  case round =>
    obtain ⟨i, rfl, hiL, HE, hFr⟩ := hrel
    by_cases hi : i < L
    · have hi' : i < ts.length := by rw [← HL.out]; exact hi
      obtain ⟨bb, off, rfl, hbl, hc⟩ := (hT.keep hFr).lies (by omega)
      have hx := hc i hi'
      have hat := (hT.keep hFr).each _ (tgetD_mem ts i hi')
      obtain ⟨x, hxx⟩ : ∃ x, x = ts.getD i Tm.zero := ⟨_, rfl⟩
      rw [← hxx] at hx hat
      have HX : Hid (x = ts.getD i Tm.zero) := hxx
      clear hxx hc
      obtain ⟨n, xo, M, cm, ws⟩ := x
      obtain ⟨c0, c1⟩ := hx
      simp only at c0 c1
      have e1 := HE.out
      rw [tdrop_cons7 ts i hi', ← HX.out] at e1
      have hn0 := hat.n0
      have hn1 := hat.n1
      simp only at hn0 hn1
      have hG := hFr
      have hat1 : TArg wr n xo M cm ws := hat
      have HCe : Hid (∀ W, Fr [] wr W → W.cell? ⟨bb, off + i * 2, none⟩ = some (.int .i64 n)) := fun W hf => (World.cell?_of_block (hf.block bb hbl (by simp))).trans c0
      clear hat
      clear HE HC
      rcases e1 with ⟨h1, rfl⟩ | ⟨h1, h2, rfl⟩ | ⟨h1, h2, h3⟩
      · have HN : Hid (¬ okT n ws) := h1
        clear h1
        go_wp2_with fail
        refine (xCheck_any n xo M cm 1 ws _ hat1.rs hat1.len hn0 hn1 (Or.inr ⟨HN.out, rfl⟩)).mono ?_
        rintro e w2 ⟨rfl, hF2⟩
        have hG2 := hG.then hF2
        clear hG hF2 hat1
        go_wp2
        go_ret
        exact ⟨rfl, hG2⟩
      · have HN : Hid (okT n ws) := h1
        have hne : (n != (i : Int) + 1) = true := by rw [bne_iff_ne]; have h2' : n ≠ ((1 + i : Nat) : Int) := h2; omega
        clear h1 h2
        go_wp2_with fail
        refine (xCheck_any n xo M cm 0 ws _ hat1.rs hat1.len hn0 hn1 (Or.inl ⟨HN.out, rfl⟩)).mono ?_
        rintro e w2 ⟨rfl, hF2⟩
        have hG2 := hG.then hF2
        have k0 := HCe.out _ hF2
        clear hG hF2 hat1 c0 c1
        go_wp2
        go_ret
        exact ⟨rfl, hG2⟩
      · have HN : Hid (okT n ws ∧ Bad (1 + i + 1) (txs (ts.drop (i + 1))) c) := ⟨h1, h3⟩
        have hne : (n != (i : Int) + 1) = false := by rw [bne_eq_false_iff_eq]; have h2' : n = ((1 + i : Nat) : Int) := h2; omega
        clear h1 h2 h3
        go_wp2_with fail
        refine (xCheck_any n xo M cm 0 ws _ hat1.rs hat1.len hn0 hn1 (Or.inl ⟨HN.out.1, rfl⟩)).mono ?_
        rintro e w2 ⟨rfl, hF2⟩
        have hG2 := hG.then hF2
        have k0 := HCe.out _ hF2
        clear hG hF2 hat1 c0 c1
        go_wp2
        go_roundw
        case rel => exact ⟨i + 1, by simp, by omega, by show Bad _ _ _; rw [show 1 + (i + 1) = 1 + i + 1 by omega]; exact HN.out.2, hG2⟩
        case measure => simp [RowKit.intOf]; omega
    · have hc0 : c = 0 := by
        have e1 := HE.out
        rw [List.drop_eq_nil_of_le (by rw [← HL.out]; omega)] at e1
        exact e1
      subst hc0
      clear HC HE
      go_wp2
      go_ret
      exact ⟨rfl, hFr⟩

set_option maxHeartbeats 4000000 in
set_option maxRecDepth 100000 in
theorem fcheck_any (ao : Option Addr) (L cap c : Nat) (ts : List Tm) (w : World) (hT : TRs w ao ts) (hL : L = ts.length) (hc : Bad 1 (txs ts) c) :
    Calls Tryz.prog 169 #[.slice ao L cap] w fun e w' => e = .returned (.int .i64 (c : Int)) ∧ Fr [] w w' := by
  have HC : Hid (Bad 1 (txs ts) c) := hc
  have HL : Hid (L = ts.length) := hL
  have hLm : L ≤ 140737488355328 := by have := hT.few; omega
  clear hc hL
  go_enter Tryz.func169, Tryz.ntmps169
  go_wp2_with fail
  go_loopw [8] (fun ii wr => ∃ (i : Nat), ii = .int .i64 i ∧ i ≤ L ∧ Hid (Bad (1 + i) (txs (ts.drop i)) c) ∧ Fr [] w wr) (fun ii _ => L - (RowKit.intOf ii).toNat)
  case atStart => exact ⟨0, rfl, Nat.zero_le _, HC.out, Fr.refl _ _⟩
  case round =>
    obtain ⟨i, rfl, hiL, HE, hFr⟩ := hrel
    by_cases hi : i < L
    · have hi' : i < ts.length := by rw [← HL.out]; exact hi
      obtain ⟨bb, off, rfl, hbl, hc⟩ := (hT.keep hFr).lies (by omega)
      have hx := hc i hi'
      have hat := (hT.keep hFr).each _ (tgetD_mem ts i hi')
      obtain ⟨x, hxx⟩ : ∃ x, x = ts.getD i Tm.zero := ⟨_, rfl⟩
      rw [← hxx] at hx hat
      have HX : Hid (x = ts.getD i Tm.zero) := hxx
      clear hxx hc
      obtain ⟨n, xo, M, cm, ws⟩ := x
      obtain ⟨c0, c1⟩ := hx
      simp only at c0 c1
      have e1 := HE.out
      rw [tdrop_cons7 ts i hi', ← HX.out] at e1
      have hn0 := hat.n0
      have hn1 := hat.n1
      simp only at hn0 hn1
      have hF1 : Fr [] wr (wr.alloc (.cells #[.int .i64 n, .slice xo M cm] 63)) := Fr.alloc _ _ _
      have hbx : (wr.alloc (.cells #[.int .i64 n, .slice xo M cm] 63)).heap[wr.heap.size]? = some (.cells #[.int .i64 n, .slice xo M cm] 63 (0, 0)) := heap_alloc_new wr _
      have hG := hFr.then hF1
      obtain ⟨w1, HW1⟩ : ∃ w1, Hid (wr.alloc (.cells #[.int .i64 n, .slice xo M cm] 63) = w1) := ⟨_, rfl⟩
      rw [HW1.out] at hF1 hbx hG
      have hat1 : TArg w1 n xo M cm ws := TArg.keep hat hF1
      have HCe : Hid (∀ W, Fr [] w1 W → W.cell? ⟨wr.heap.size, 0, none⟩ = some (.int .i64 n)) := fun W hf => by
        have hb := hf.keep hbx (by simp)
        rw [cell_of_row _ _ _ _ _ _ hb]; rfl
      clear hat hF1 hbx
      clear HE HC
      rcases e1 with ⟨h1, rfl⟩ | ⟨h1, h2, rfl⟩ | ⟨h1, h2, h3⟩
      · have HN : Hid (¬ okT n ws) := h1
        clear h1
        go_wp2_with fail
        rw [HW1.out]
        refine (check_any n xo M cm 1 ws _ hat1.rs hat1.len hn0 hn1 (Or.inr ⟨HN.out, rfl⟩)).mono ?_
        rintro e w2 ⟨rfl, hF2⟩
        have hG2 := hG.then hF2
        clear hG hF2 hat1
        go_wp2
        go_ret
        exact ⟨rfl, hG2⟩
      · have HN : Hid (okT n ws) := h1
        have hne : (n != (i : Int) + 1) = true := by rw [bne_iff_ne]; have h2' : n ≠ ((1 + i : Nat) : Int) := h2; omega
        clear h1 h2
        go_wp2_with fail
        rw [HW1.out]
        refine (check_any n xo M cm 0 ws _ hat1.rs hat1.len hn0 hn1 (Or.inl ⟨HN.out, rfl⟩)).mono ?_
        rintro e w2 ⟨rfl, hF2⟩
        have hG2 := hG.then hF2
        have k0 := HCe.out _ hF2
        clear hG hF2 hat1 c0 c1
        go_wp2
        go_ret
        exact ⟨rfl, hG2⟩
      · have HN : Hid (okT n ws ∧ Bad (1 + i + 1) (txs (ts.drop (i + 1))) c) := ⟨h1, h3⟩
        have hne : (n != (i : Int) + 1) = false := by rw [bne_eq_false_iff_eq]; have h2' : n = ((1 + i : Nat) : Int) := h2; omega
        clear h1 h2 h3
        go_wp2_with fail
        rw [HW1.out]
        refine (check_any n xo M cm 0 ws _ hat1.rs hat1.len hn0 hn1 (Or.inl ⟨HN.out.1, rfl⟩)).mono ?_
        rintro e w2 ⟨rfl, hF2⟩
        have hG2 := hG.then hF2
        have k0 := HCe.out _ hF2
        clear hG hF2 hat1 c0 c1
        go_wp2
        go_roundw
        case rel => exact ⟨i + 1, by simp, by omega, by show Bad _ _ _; rw [show 1 + (i + 1) = 1 + i + 1 by omega]; exact HN.out.2, hG2⟩
        case measure => simp [RowKit.intOf]; omega
    · have hc0 : c = 0 := by
        have e1 := HE.out
        rw [List.drop_eq_nil_of_le (by rw [← HL.out]; omega)] at e1
        exact e1
      subst hc0
      clear HC HE
      go_wp2
      go_ret
      exact ⟨rfl, hFr⟩
end Go.Proofs.YtaefninikmaiiaaGreatDoor
/- Plain facts of the types of a number and a text. -/
namespace Go.Proofs.YtaefninikmaiiaaGreatDoor
open Go.ChangeShapes Go.WideShapes Go.ChangeAt Go.RowKit Go.Lib Go.Maps
theorem Tryz.laid7 : laidOutB Tryz.prog = true := by kernel_rfl
theorem Tryz.undI7 : Tryz.prog.underlying 3 = some (.int .i64) := by kernel_rfl
theorem Tryz.undS7 : Tryz.prog.underlying 9 = some .string := by kernel_rfl
theorem Tryz.cellsS7 : Tryz.prog.cellsOf 9 = 1 := by kernel_rfl
theorem Tryz.cellsI7 : Tryz.prog.cellsOf 3 = 1 := by kernel_rfl
theorem Tryz.zeroI7 (w : World) : (zeroValue 3).run Tryz.prog w = .ok (.int .i64 0) w := by kernel_rfl
end Go.Proofs.YtaefninikmaiiaaGreatDoor
/- The questions of keys: one key alone, a stretch: contracts. Conditions as each names them. -/
namespace Go.Proofs.YtaefninikmaiiaaGreatDoor
open Go.ChangeShapes Go.WideShapes Go.ChangeAt Go.RowKit Go.Lib
set_option linter.unusedVariables false
set_option linter.unusedSimpArgs false
/-- A text in a block of its own. -/
def SBox (w : World) (b : Nat) (s : ByteArray) : Prop := w.heap[b]? = some (.cells #[.string s] 9 (0, 0))
theorem SBox.c {w : World} {b : Nat} {s : ByteArray} (h : SBox w b s) : w.cell? ⟨b, 0, none⟩ = some (.string s) := by unfold SBox at h; simp [World.cell?, h]
theorem SBox.keep {S : List Nat} {w w' : World} {b : Nat} {s : ByteArray} (h : SBox w b s) (hf : Fr S w w') (hn : b ∉ S) : SBox w' b s := hf.keep h hn
theorem SBox.lt {w : World} {b : Nat} {s : ByteArray} (h : SBox w b s) : b < w.heap.size := lt_of_block h
theorem stretch_any (key en : ByteArray) (w : World) : Calls Tryz.prog 148 #[.string key, .string en] w fun e w' => ∃ b c, e = .returned (.func (Fn.func 171) #[] #[.pointer (some ⟨b, 0, none⟩), .pointer (some ⟨c, 0, none⟩)]) ∧ SBox w' b key ∧ SBox w' c en ∧ w.heap.size ≤ b ∧ w.heap.size ≤ c ∧ Fr [] w w' := by
  go_enter Tryz.func148, Tryz.ntmps148
  go_wp2
  go_ret
  refine ⟨_, _, rfl, ?_, ?_, Nat.le_refl _, Nat.le_succ _, (Fr.alloc [] w _).then (Fr.alloc [] _ _)⟩
  · exact (Fr.alloc [] _ _).keep (heap_alloc_new w (.cells #[.string key] 9)) (by simp)
  · have := heap_alloc_new (w.alloc (.cells #[.string key] 9)) (.cells #[.string en] 9)
    simpa [SBox] using this
/-- Does a key lie in a stretch? -/
def inS (key en s : ByteArray) : Bool := !(Op.bytesLess s.toList key.toList) && (en.toList == [] || Op.bytesLess s.toList en.toList)
set_option maxHeartbeats 1000000 in
theorem stretch1_any (b c : Nat) (key en s : ByteArray) (B : Bool) (w : World) (hb : SBox w b key) (hc : SBox w c en) (hB : B = inS key en s) : Calls Tryz.prog 171 #[.string s, .pointer (some ⟨b, 0, none⟩), .pointer (some ⟨c, 0, none⟩)] w fun e w' => e = .returned (.bool B) ∧ Fr [] w w' := by
  have c0 := hb.c
  have c1 := hc.c
  have hE0 : (⟨#[]⟩ : ByteArray).toList = [] := (tl_nil _).2 rfl
  obtain ⟨G, hG⟩ : ∃ G, Op.bytesLess s.toList key.toList = G := ⟨_, rfl⟩
  obtain ⟨E, hE⟩ : ∃ E, (en.toList == ([] : List UInt8)) = E := ⟨_, rfl⟩
  obtain ⟨K, hK⟩ : ∃ K, Op.bytesLess s.toList en.toList = K := ⟨_, rfl⟩
  have hB' : B = (!G && (E || K)) := by rw [hB, ← hG, ← hE, ← hK]; rfl
  have HB : Hid (B = (!G && (E || K))) := hB'
  clear hB hB'
  have hundef : undef = Value.tuple #[] := rfl
  cases G <;> cases E <;> cases K <;> (go_enter Tryz.func171, Tryz.ntmps171; go_wp2; go_ret; exact ⟨by rw [HB.out]; rfl, Fr.refl _ _⟩)
end Go.Proofs.YtaefninikmaiiaaGreatDoor
/- Plain facts that stand ahead of the maps of entries. -/
namespace Go.Proofs.YtaefninikmaiiaaGreatDoor
open Go.ChangeShapes Go.WideShapes Go.ChangeAt Go.RowKit Go.Lib Go.Maps
theorem ttx_get {ts : List Tm} {i : Nat} (h : i < ts.length) : txs (ts.take (i + 1)) = txs (ts.take i) ++ [(ts.getD i Tm.zero).tx] := by rw [ttake_snoc ts i h, txs_append]; rfl
theorem Tryz.undTsE : Tryz.prog.underlying 22 = some (.slice (Tryz.prog.elem 22)) := by kernel_rfl
theorem Tryz.elemTs : Tryz.prog.elem 22 = 63 := by kernel_rfl
theorem Tryz.sizeT (w : World) : (sizeOf 63).run Tryz.prog w = .ok 2 w := by kernel_rfl
end Go.Proofs.YtaefninikmaiiaaGreatDoor
/- A map of entries by their keys, as a function; contract of apply. Conditions as each names them. -/
namespace Go.Proofs.YtaefninikmaiiaaGreatDoor
open Go.ChangeShapes Go.WideShapes Go.ChangeAt Go.RowKit Go.Lib Go.Maps
set_option linter.unusedVariables false
set_option linter.unusedSimpArgs false

theorem Tryz.undMap : Tryz.prog.underlying 195 = some (.map 9 115) := by kernel_rfl
theorem Tryz.keyedStr : Keyed Tryz.prog 9 := string_keyed Tryz.undS7
theorem Tryz.zeroEn (w : World) : (zeroValue 115).run Tryz.prog w = .ok (.agg #[.string ⟨#[]⟩, .string ⟨#[]⟩]) w := by kernel_rfl
/-- How an entry reads. -/
def entD (k s : ByteArray) : DataW Unit := .agg [.lit (.string k.data.toList), .lit (.string s.data.toList)]
def entElem (v : Value) : Option (DataW Unit × List MemPlace) :=
  match v with
  | .agg cs => match cs.toList with
    | [.string k, .string s] => some (entD k s, [])
    | _ => none
  | _ => none
theorem entElem_mk (k s : ByteArray) : entElem (.agg #[.string k, .string s]) = some (entD k s, []) := rfl
theorem entElem_inv {v : Value} {y : DataW Unit × List MemPlace} (h : entElem v = some y) : ∃ k s, v = .agg #[.string k, .string s] ∧ y = (entD k s, []) := by
  unfold entElem at h
  split at h
  · rename_i cs
    split at h
    · rename_i k s hcs
      simp only [Option.some.injEq] at h
      exact ⟨k, s, by rw [← Array.toArray_toList (xs := cs), hcs], h.symm⟩
    · cases h
  · cases h
theorem bytes_eq {a b : ByteArray} (h : a.data.toList = b.data.toList) : a = b := by
  cases a; cases b
  simp only at h
  congr
  exact Array.toList_inj.1 h
theorem entD_inj {k s k' s' : ByteArray} (h : entD k s = entD k' s') : k = k' ∧ s = s' := by
  simp only [entD, DataW.agg.injEq, List.cons.injEq, DataW.lit.injEq, Lit.string.injEq, and_true] at h
  exact ⟨bytes_eq h.1, bytes_eq h.2⟩
def kl7 (s : ByteArray) : Lit := .string s.data.toList
theorem kl7_inj {s t : ByteArray} (h : kl7 s = kl7 t) : s = t := bytes_eq (by simpa [kl7] using h)
theorem keyOf_str7 (s : ByteArray) (hs : s.size ≤ maxLen) : keyOf Tryz.prog 9 (.string s) = some (kl7 s) := Go.WideMaps.keyOf_string_mk Tryz.undS7 hs
/-- Block b is a map of at most n entries that says at each key what E says. -/
def MapE (w : World) (b n : Nat) (E : ByteArray → Option ByteArray) : Prop :=
  ∃ D : DataW Unit, w.ownsMap Tryz.prog 9 entElem b n D ∧ (∀ s, has D (kl7 s) = (E s).isSome) ∧ ∀ s v, E s = some v → ∀ z, D.atKey (kl7 s) z = entD s v
theorem MapE.lt {w : World} {b n : Nat} {E : ByteArray → Option ByteArray} (h : MapE w b n E) : b < w.heap.size := by
  obtain ⟨D, hD, _⟩ := h
  exact hD.lt
theorem MapE.keep {S : List Nat} {w w' : World} {b n : Nat} {E : ByteArray → Option ByteArray} (h : MapE w b n E) (hf : Fr S w w') (hn : b ∉ S) : MapE w' b n E := by
  have hlt := h.lt
  obtain ⟨D, ⟨es, clock, hb, hr⟩, h2⟩ := h
  exact ⟨D, ⟨es, clock, (hf.block b hlt hn).trans hb, hr⟩, h2⟩
theorem MapE.mono {w : World} {b n m : Nat} {E : ByteArray → Option ByteArray} (h : MapE w b n E) (hn : n ≤ m) : MapE w b m E := by
  obtain ⟨D, hD, h2⟩ := h
  exact ⟨D, hD.mono hn, h2⟩
theorem MapE.made (w : World) : MapE (w.alloc (.map #[] 0)) w.heap.size 0 (fun _ => none) :=
  ⟨.map [], World.ownsMap_made w _ _ _, fun s => rfl, fun s v h => by cases h⟩
/-- What a write makes of it. -/
def applyE (E : ByteArray → Option ByteArray) (x : Wt) : ByteArray → Option ByteArray := fun s => if s = x.key then (if x.drop = true then none else some x.val) else E s
theorem MapE.store {w : World} {b n : Nat} {E : ByteArray → Option ByteArray} (h : MapE w b n E) (key val : ByteArray) (hs : key.size ≤ maxLen) (hn : n < maxLen) :
    ∃ w', (Instr.mapUpdate 195 (.map (some b)) (.string key) (.agg #[.string key, .string val])).run Tryz.prog w = .ok () w' ∧ MapE w' b (n + 1) (applyE E ⟨key, val, false⟩) ∧ Fr [b] w w' := by
  obtain ⟨D, hD, hH, hA⟩ := h
  have hk := keyOf_str7 key hs
  have hI := hD.isMap
  obtain ⟨w', hrun, hO, hg⟩ := hD.update Tryz.keyedStr Tryz.undMap hn hk (entElem_mk key val)
  refine ⟨w', hrun, ⟨_, hO, ?_, ?_⟩, Fr.grown hg (by intro k hk _; cases hk; simp)⟩
  · intro s
    unfold applyE
    by_cases he : s = key
    · subst he
      rw [if_pos rfl, has_put_same hI (Tryz.keyedStr.key hk)]
      rfl
    · rw [if_neg he, has_put_other (fun e => he (kl7_inj e)), hH s]
  · intro s v hv z
    unfold applyE at hv
    by_cases he : s = key
    · subst he
      rw [if_pos rfl] at hv
      simp only [Bool.false_eq_true, if_false, Option.some.injEq] at hv
      subst hv
      exact atKey_put_same hI (Tryz.keyedStr.key hk) _ _
    · rw [if_neg he] at hv
      rw [atKey_put_other (fun e => he (kl7_inj e))]
      exact hA s v hv z
theorem MapE.drop {w : World} {b n : Nat} {E : ByteArray → Option ByteArray} (h : MapE w b n E) (key val : ByteArray) (hs : key.size ≤ maxLen) (ty : TypeId) :
    ∃ w', (Builtin.delete_ #[195, 9] ty #[.map (some b), .string key]).run Tryz.prog w = .ok (.tuple #[]) w' ∧ MapE w' b n (applyE E ⟨key, val, true⟩) ∧ Fr [b] w w' := by
  obtain ⟨D, hD, hH, hA⟩ := h
  have hk := keyOf_str7 key hs
  obtain ⟨w', hrun, hO, ht⟩ := hD.drop Tryz.keyedStr Tryz.undMap hk ty
  refine ⟨w', hrun, ⟨_, hO, ?_, ?_⟩, Fr.grown ht.grown (by intro k hk _; cases hk; simp)⟩
  · intro s
    unfold applyE
    by_cases he : s = key
    · subst he
      rw [if_pos rfl, has_del_same]
      rfl
    · rw [if_neg he, has_del_other (fun e => he (kl7_inj e)), hH s]
  · intro s v hv z
    unfold applyE at hv
    by_cases he : s = key
    · rw [if_pos he] at hv
      cases hv
    · rw [if_neg he] at hv
      rw [atKey_del_other (fun e => he (kl7_inj e))]
      exact hA s v hv z
theorem MapE.look {w : World} {b n : Nat} {E : ByteArray → Option ByteArray} (h : MapE w b n E) (key : ByteArray) (hs : key.size ≤ maxLen) :
    (Instr.lookup 195 (.map (some b)) (.string key) true).run Tryz.prog w = .ok (.tuple #[(match E key with | some v => .agg #[.string key, .string v] | none => .agg #[.string ⟨#[]⟩, .string ⟨#[]⟩]), .bool (E key).isSome]) w := by
  obtain ⟨D, hD, hH, hA⟩ := h
  have hk := keyOf_str7 key hs
  obtain ⟨v, ps, hrun, hv⟩ := hD.look_ok Tryz.keyedStr Tryz.undMap (Tryz.zeroEn _) (entElem_mk _ _) hk
  rw [hrun, hH key]
  obtain ⟨k', s', rfl, e⟩ := entElem_inv hv
  simp only [Prod.mk.injEq] at e
  cases hE : E key with
  | some x =>
    rw [hA key x hE] at e
    obtain ⟨rfl, rfl⟩ := entD_inj e.1
    rfl
  | none =>
    have hh : has D (kl7 key) = false := by rw [hH key, hE]; rfl
    rw [atKey_of_not_has hh] at e
    obtain ⟨rfl, rfl⟩ := entD_inj e.1
    rfl

set_option maxHeartbeats 4000000 in
set_option maxRecDepth 100000 in
theorem apply_any (b n : Nat) (E : ByteArray → Option ByteArray) (key val : ByteArray) (drop : Bool) (w : World) (h : MapE w b n E) (hs : key.size ≤ 64) (hn : n < 9007199254740992) :
    Calls Tryz.prog 170 #[.map (some b), .agg #[.string key, .string val, .bool drop]] w fun e w' => e = .returned (.tuple #[]) ∧ MapE w' b (n + 1) (applyE E ⟨key, val, drop⟩) ∧ Fr [b] w w' := by
  have hsm : key.size ≤ maxLen := by unfold maxLen; omega
  obtain ⟨w0, HW0⟩ : ∃ w0, Hid (w.alloc (.cells #[.string key, .string val, .bool drop] 124) = w0) := ⟨_, rfl⟩
  have hF0 : Fr [] w w0 := by rw [← HW0.out]; exact Fr.alloc [] w _
  have hb0 : w0.heap[w.heap.size]? = some (.cells #[.string key, .string val, .bool drop] 124 (0, 0)) := by rw [← HW0.out]; exact heap_alloc_new w _
  have c0 : w0.cell? ⟨w.heap.size, 0, none⟩ = some (.string key) := by rw [cell_of_row _ _ _ _ _ _ hb0]; rfl
  have c1 : w0.cell? ⟨w.heap.size, 1, none⟩ = some (.string val) := by rw [cell_of_row _ _ _ _ _ _ hb0]; rfl
  have c2 : w0.cell? ⟨w.heap.size, 2, none⟩ = some (.bool drop) := by rw [cell_of_row _ _ _ _ _ _ hb0]; rfl
  have h0 := h.keep hF0 (by simp)
  cases drop with
  | true =>
    have hdr : ∀ ty, ∃ w', (Builtin.delete_ #[195, 9] ty #[.map (some b), .string key]).run Tryz.prog w0 = .ok (.tuple #[]) w' ∧ MapE w' b n (applyE E ⟨key, val, true⟩) ∧ Fr [b] w0 w' := fun ty => h0.drop key val hsm ty
    obtain ⟨w1, hr1, hM1, hG1⟩ := hdr 0
    have HR : Hid (MapE w1 b (n + 1) (applyE E ⟨key, val, true⟩) ∧ Fr [b] w w1) := ⟨hM1.mono (by omega), (hF0.mono (by simp)).then hG1⟩
    clear h h0 hM1 hG1 hb0 hdr
    go_enter Tryz.func170, Tryz.ntmps170
    go_upto_region 1 with fail
    rw [HW0.out]
    go_wp2
    refine bodyPost_ret (results_none rfl _ _ _) rfl ?_
    exact ⟨rfl, HR.out⟩
  | false =>
    obtain ⟨w1, hr1, hM1, hG1⟩ := h0.store key val hsm (by unfold maxLen; omega)
    have HR : Hid (MapE w1 b (n + 1) (applyE E ⟨key, val, false⟩) ∧ Fr [b] w w1) := ⟨hM1, (hF0.mono (by simp)).then hG1⟩
    clear h h0 hM1 hG1 hb0
    go_enter Tryz.func170, Tryz.ntmps170
    go_upto_region 1 with fail
    rw [HW0.out]
    go_wp2
    go_end0
    exact ⟨rfl, HR.out⟩
end Go.Proofs.YtaefninikmaiiaaGreatDoor
/- What the first so many transactions come to: contract of come, with one key alone and with a stretch. Conditions as each names them. -/
namespace Go.Proofs.YtaefninikmaiiaaGreatDoor
open Go.ChangeShapes Go.WideShapes Go.ChangeAt Go.RowKit Go.Lib Go.Maps
set_option linter.unusedVariables false
set_option linter.unusedSimpArgs false

/-- What writes make of what is there, of the keys that are asked for. -/
def capply (Pk : ByteArray → Bool) (E : ByteArray → Option ByteArray) (x : Wt) : ByteArray → Option ByteArray := if Pk x.key = true then applyE E x else E
def capplys (Pk : ByteArray → Bool) (E : ByteArray → Option ByteArray) (ws : List Wt) : ByteArray → Option ByteArray := ws.foldl (capply Pk) E
def call (Pk : ByteArray → Bool) (E : ByteArray → Option ByteArray) (l : List Tx) : ByteArray → Option ByteArray := l.foldl (fun E t => capplys Pk E t.ws) E
theorem capplys_snoc (Pk : ByteArray → Bool) (E : ByteArray → Option ByteArray) (ws : List Wt) (x : Wt) : capplys Pk E (ws ++ [x]) = capply Pk (capplys Pk E ws) x := by simp [capplys]
theorem call_snoc (Pk : ByteArray → Bool) (E : ByteArray → Option ByteArray) (l : List Tx) (t : Tx) : call Pk E (l ++ [t]) = capplys Pk (call Pk E l) t.ws := by simp [call]
/-- What is told of the first so many: what is wrong. -/
def CoTold (l : List Tx) (f : Int) (c : Nat) : Prop := (Bad 1 l c ∧ c ≠ 0) ∨ (okL 1 l ∧ ¬ (0 ≤ f ∧ f ≤ (l.length : Int)) ∧ c = 1) ∨ (okL 1 l ∧ (0 ≤ f ∧ f ≤ (l.length : Int)) ∧ c = 0)
theorem CoTold.ex (l : List Tx) (f : Int) : ∃ c, CoTold l f c := by
  obtain ⟨c, hc⟩ := Bad.ex l 1
  by_cases h0 : c = 0
  · have hok := hc.ok.1 h0
    by_cases hb : 0 ≤ f ∧ f ≤ (l.length : Int)
    · exact ⟨0, Or.inr (Or.inr ⟨hok, hb, rfl⟩)⟩
    · exact ⟨1, Or.inr (Or.inl ⟨hok, hb, rfl⟩)⟩
  · exact ⟨c, Or.inl ⟨hc, h0⟩⟩
theorem slice_h7 (ab : Option Addr) (L cap J0 : Nat) (h2 : J0 ≤ cap) (h3 : ¬ cap = 0) (w : World) : (Instr.slice 22 (.slice ab L cap) none (some (.int .i64 (J0 : Int))) none).run Tryz.prog w = .ok (.slice ab J0 cap) w := by
  rw [run_slice_h w 22 _ _ _ Tryz.undTsE .i64 (J0 : Int) (by omega) (by omega), Tryz.elemTs, Tryz.sizeT]
  cases ab <;> simp [Result.andThen, sliced, h3, Addr.add]
theorem sliceAt_h7 (ab : Option Addr) (L cap J0 : Nat) (h2 : J0 ≤ cap) (h3 : ¬ cap = 0) (w : World) : (Instr.sliceAt 22 (.slice ab L cap) none (some (.int .i64 (J0 : Int))) none).run Tryz.prog w = .ok (.slice ab J0 cap) w := by
  rw [run_sliceAt_slice w 22 _ _ _ _ Tryz.undTsE]
  exact slice_h7 ab L cap J0 h2 h3 w
theorem slice_h0 (ab : Option Addr) (w : World) : (Instr.slice 22 (.slice ab 0 0) none (some (.int .i64 0)) none).run Tryz.prog w = .ok (.slice ab 0 0) w := by
  rw [run_slice_h w 22 _ _ _ Tryz.undTsE .i64 0 (by omega) (by omega), Tryz.elemTs, Tryz.sizeT]
  simp [Result.andThen, sliced]
theorem sliceAt_h0 (ab : Option Addr) (w : World) : (Instr.sliceAt 22 (.slice ab 0 0) none (some (.int .i64 0)) none).run Tryz.prog w = .ok (.slice ab 0 0) w := by
  rw [run_sliceAt_slice w 22 _ _ _ _ Tryz.undTsE]
  exact slice_h0 ab w
theorem sliceAt_any (ab : Option Addr) (L cap J0 : Nat) (h1 : L ≤ cap) (h2 : J0 ≤ L) (w : World) : (Instr.sliceAt 22 (.slice ab L cap) none (some (.int .i64 (J0 : Int))) none).run Tryz.prog w = .ok (.slice ab J0 cap) w := by
  by_cases h : cap = 0
  · subst h
    obtain rfl : L = 0 := by omega
    obtain rfl : J0 = 0 := by omega
    exact sliceAt_h0 ab w
  · exact sliceAt_h7 ab L cap J0 (by omega) h w

set_option maxHeartbeats 8000000 in
set_option maxRecDepth 100000 in
theorem comeS_no (ao : Option Addr) (L cap : Nat) (f : Int) (c : Nat) (ts : List Tm) (kb ke : Nat) (key0 en0 : ByteArray) (w : World) (hT : TRs w ao ts) (hLe : L = ts.length) (hf0 : -9223372036854775808 ≤ f) (hf1 : f ≤ 9223372036854775807) (h : CoTold (txs ts) f c) (hc : c ≠ 0) :
    Calls Tryz.prog 147 #[.slice ao L cap, .int .i64 f, .func (Fn.func 171) #[] #[.pointer (some ⟨kb, 0, none⟩), .pointer (some ⟨ke, 0, none⟩)]] w fun e w' => e = .returned (.tuple #[.map none, .int .i64 (c : Int)]) ∧ Fr [] w w' := by
  have HL : Hid (L = ts.length) := hLe
  rcases h with ⟨hb, h0⟩ | ⟨hok, hb, rfl⟩ | ⟨_, _, h0⟩
  · have HB : Hid (Bad 1 (txs ts) c) := hb
    have hcb : ((c : Int) != 0) = true := by rw [bne_iff_ne]; omega
    clear hb h0 hLe hc
    go_enter Tryz.func147, Tryz.ntmps147
    go_wp2_with fail
    refine (fcheck_any ao L cap c ts _ hT HL.out HB.out).mono ?_
    rintro e w1 ⟨rfl, hF1⟩
    go_wp2
    go_ret2
    exact ⟨rfl, hF1⟩
  · have HK : Hid (okL 1 (txs ts)) := hok
    have hL2 : L ≤ 65536 := by have := okL_few hok; rw [txs_length] at this; omega
    rw [txs_length, ← hLe] at hb
    clear hok hLe
    by_cases h1 : f < 0
    · have h1' : decide (f < 0) = true := by simpa using h1
      go_enter Tryz.func147, Tryz.ntmps147
      go_wp2_with fail
      refine (fcheck_any ao L cap 0 ts _ hT HL.out (okL_bad HK.out)).mono ?_
      rintro e w1 ⟨rfl, hF1⟩
      go_wp2
      go_ret2
      exact ⟨rfl, hF1⟩
    · have h3 : (L : Int) < f := by
        by_cases h3 : (L : Int) < f
        · exact h3
        · exact absurd ⟨by omega, by omega⟩ hb
      go_enter Tryz.func147, Tryz.ntmps147
      go_wp2_with fail
      refine (fcheck_any ao L cap 0 ts _ hT HL.out (okL_bad HK.out)).mono ?_
      rintro e w1 ⟨rfl, hF1⟩
      go_wp2
      go_ret2
      exact ⟨rfl, hF1⟩
  · exact absurd h0 hc
set_option maxHeartbeats 8000000 in
set_option maxRecDepth 100000 in
theorem comeS_ok (ao : Option Addr) (L cap f : Nat) (ts : List Tm) (kb ke : Nat) (key0 en0 : ByteArray) (w : World) (hT : TRs w ao ts) (hLe : L = ts.length) (hcap : L ≤ cap) (hk : SBox w kb key0) (he : SBox w ke en0) (hok : okL 1 (txs ts)) (hf : f ≤ L) :
    Calls Tryz.prog 147 #[.slice ao L cap, .int .i64 (f : Int), .func (Fn.func 171) #[] #[.pointer (some ⟨kb, 0, none⟩), .pointer (some ⟨ke, 0, none⟩)]] w fun e w' => ∃ b, e = .returned (.tuple #[.map (some b), .int .i64 0]) ∧ w.heap.size ≤ b ∧ MapE w' b 9000000 (call (inS key0 en0) (fun _ => none) ((txs ts).take f)) ∧ Fr [] w w' := by
  have HL : Hid (L = ts.length) := hLe
  have HK : Hid (okL 1 (txs ts)) := hok
  have hL2 : L ≤ 65536 := by have := okL_few hok; rw [txs_length] at this; omega
  have HNn : Hid (∀ t ∈ ts, t.L ≤ 32 ∧ ∀ x ∈ t.ws, x.key.size ≤ 64) := fun t ht => by
    have ho : okT t.n t.ws := okL_mem hok t.tx (List.mem_map.2 ⟨t, ht, rfl⟩)
    have ha := hT.each t ht
    exact ⟨by rw [ha.len]; exact ho.2.2.1, fun x hx => (ho.2.2.2 x hx).2.1⟩
  have hmm := @run_makeMap Tryz.prog
  have HI : Hid (∀ W, Fr [] w W → TRs W ao ts) := fun W hf => hT.keep hf
  have HKb : Hid (∀ W, Fr [] w W → SBox W kb key0) := fun W hf => hk.keep hf (by simp)
  have HKe : Hid (∀ W, Fr [] w W → SBox W ke en0) := fun W hf => he.keep hf (by simp)
  clear hk he
  have hfL : (f : Int) ≤ (L : Int) := by omega
  have hfn : ¬ ((f : Int) < 0) := by omega
  have hsl := sliceAt_any ao L cap f hcap hf
  clear hLe hok hT
  go_enter Tryz.func147, Tryz.ntmps147
  go_wp2_with fail
  refine (fcheck_any ao L cap 0 ts _ (HI.out _ (Fr.refl _ _)) HL.out (okL_bad HK.out)).mono ?_
  rintro e w0 ⟨rfl, hFc⟩
  have hM0 := MapE.made w0
  have hF0 : Fr [] w (w0.alloc (.map #[] 0)) := hFc.then (Fr.alloc [] w0 _)
  have hs0 := hFc.size
  clear hFc
  go_wp2_with fail
  obtain ⟨b, hb⟩ : ∃ b, b = w0.heap.size := ⟨_, rfl⟩
  rw [← hb] at hM0 ⊢
  have hbw : w.heap.size ≤ b := by omega
  have hd1 : decide ((f : Int) < 0) = false := by simp
  have hd2 : decide (L < f) = false := by simp; omega
  clear hb
  simp only [hd1, hd2, Bool.or_self]
  go_loopw [32] (fun ii wr => ∃ (i : Nat) (E : ByteArray → Option ByteArray), ii = .int .i64 i ∧ i ≤ f ∧ Hid (MapE wr b (32 * i) E) ∧ Hid (E = call (inS key0 en0) (fun _ => none) (txs (ts.take i))) ∧ Fr [] w wr) (fun ii _ => f - (RowKit.intOf ii).toNat)
  case atStart => exact ⟨0, _, rfl, Nat.zero_le _, hM0, by simp [Hid, call, txs], hF0⟩
  case round =>
    obtain ⟨i, E, rfl, hiL, HM, HFe, hFr⟩ := hrel
    by_cases hi : i < f
    · have hi' : i < ts.length := by rw [← HL.out]; omega
      have hTr := HI.out _ hFr
      obtain ⟨bb, off, rfl, _, hc⟩ := hTr.lies (by omega)
      have hx := hc i hi'
      have HAt : Hid (∀ W, Fr [] w W → (ts.getD i Tm.zero).at W) := fun W hf => (HI.out W hf).each _ (tgetD_mem ts i hi')
      have hnx := HNn.out _ (tgetD_mem ts i hi')
      have HTx : Hid (txs (ts.take (i + 1)) = txs (ts.take i) ++ [(ts.getD i Tm.zero).tx]) := ttx_get hi'
      obtain ⟨x, hxx⟩ : ∃ x, x = ts.getD i Tm.zero := ⟨_, rfl⟩
      rw [← hxx] at hx HAt hnx HTx
      clear hxx hc hTr
      obtain ⟨n, xo, M, cm, ws⟩ := x
      obtain ⟨c0, c1⟩ := hx
      simp only at c0 c1 hnx
      obtain ⟨hM32, hks⟩ := hnx
      have HKs : Hid (∀ x ∈ ws, x.key.size ≤ 64) := hks
      have HMl : Hid (M = ws.length) := (HAt.out wr hFr).len
      obtain ⟨w1, HW1⟩ : ∃ w1, Hid (wr.alloc (.cells #[.int .i64 n, .slice xo M cm] 63) = w1) := ⟨_, rfl⟩
      obtain ⟨B7, HB7⟩ : ∃ B7, Hid (B7 = wr.heap.size) := ⟨_, rfl⟩
      have hF1 : Fr [] wr w1 := by rw [← HW1.out]; exact Fr.alloc [] wr _
      have hbx : w1.heap[B7]? = some (.cells #[.int .i64 n, .slice xo M cm] 63 (0, 0)) := by rw [← HW1.out, HB7.out]; exact heap_alloc_new wr _
      have hG1 := hFr.then hF1
      have hbB : b ≠ B7 := by have := HM.out.lt; rw [HB7.out]; omega
      have HM1 : Hid (MapE w1 b (32 * i) E) := HM.out.keep hF1 (by simp)
      have k1 : w1.cell? ⟨B7, 1, none⟩ = some (.slice xo M cm) := by rw [cell_of_row _ _ _ _ _ _ hbx]; rfl
      clear hF1 hbx HM hks
      go_upto_region 10 with fail
      rw [HW1.out, ← HB7.out]
      clear c0 c1 HW1 HB7 hFr
      go_wp2_with fail
      go_loopw [39] (fun jj wr => ∃ (j : Nat) (E2 : ByteArray → Option ByteArray), jj = .int .i64 j ∧ j ≤ M ∧ Hid (MapE wr b (32 * i + j) E2) ∧ Hid (E2 = capplys (inS key0 en0) E (ws.take j)) ∧ Fr [b] w1 wr) (fun jj _ => M - (RowKit.intOf jj).toNat)
      case atStart => exact ⟨0, E, rfl, Nat.zero_le _, HM1, by simp [Hid, capplys], Fr.refl _ _⟩
      case round =>
        obtain ⟨j, E2, rfl, hjM, HM2, HFe2, hFr2⟩ := hrel
        have hGr : Fr [] w wr := hG1.on hFr2 (by intro x hx; simp at hx; omega)
        by_cases hj : j < M
        · have hj' : j < ws.length := by rw [← HMl.out]; exact hj
          have hat : TArg wr n xo M cm ws := HAt.out _ hGr
          obtain ⟨b2, o2, rfl, _, hc2⟩ := hat.rs.lies (by omega)
          obtain ⟨d0, d1, d2⟩ := hc2 j hj'
          have hkz := HKs.out _ (wgetD_mem ws j hj')
          have HTk : Hid (ws.take (j + 1) = ws.take j ++ [ws.getD j Wt.zero]) := wtake_snoc ws j hj'
          obtain ⟨y, hyy⟩ : ∃ y, y = ws.getD j Wt.zero := ⟨_, rfl⟩
          rw [← hyy] at d0 d1 d2 HTk hkz
          clear hyy hc2 hat
          obtain ⟨key, val, drop⟩ := y
          simp only at d0 d1 d2 hkz
          obtain ⟨w3, HW3⟩ : ∃ w3, Hid (wr.alloc (.cells #[.string key, .string val, .bool drop] 124) = w3) := ⟨_, rfl⟩
          obtain ⟨B9, HB9⟩ : ∃ B9, Hid (B9 = wr.heap.size) := ⟨_, rfl⟩
          have hF3 : Fr [] wr w3 := by rw [← HW3.out]; exact Fr.alloc [] wr _
          have hby : w3.heap[B9]? = some (.cells #[.string key, .string val, .bool drop] 124 (0, 0)) := by rw [← HW3.out, HB9.out]; exact heap_alloc_new wr _
          have hG3 : Fr [b] w1 w3 := hFr2.then (hF3.mono (by simp))
          have hGr3 : Fr [] w w3 := hGr.then hF3
          have HM3 : Hid (MapE w3 b (32 * i + j) E2) := HM2.out.keep hF3 (by simp)
          have e0 : w3.cell? ⟨B9, 0, none⟩ = some (.string key) := by rw [cell_of_row _ _ _ _ _ _ hby]; rfl
          obtain ⟨R, HR⟩ : ∃ R : Bool, Hid (R = (inS key0 en0) key) := ⟨_, rfl⟩
          have HAsk : Hid _ := stretch1_any kb ke key0 en0 key R w3 (HKb.out _ hGr3) (HKe.out _ hGr3) HR.out
          clear HM2 hF3
          go_upto_region 13 with fail
          rw [HW3.out, ← HB9.out]
          clear d0 d1 d2 HW3 HB9 hGr
          go_wp2_with fail
          refine Calls.mono HAsk.out ?_
          rintro e w4 ⟨rfl, hF4⟩
          have hby4 := hF4.keep hby (by simp)
          have f0 : w4.cell? ⟨B9, 0, none⟩ = some (.string key) := by rw [cell_of_row _ _ _ _ _ _ hby4]; rfl
          have f1 : w4.cell? ⟨B9, 1, none⟩ = some (.string val) := by rw [cell_of_row _ _ _ _ _ _ hby4]; rfl
          have f2 : w4.cell? ⟨B9, 2, none⟩ = some (.bool drop) := by rw [cell_of_row _ _ _ _ _ _ hby4]; rfl
          have hG4 : Fr [b] w1 w4 := hG3.then (hF4.mono (by simp))
          have HM4 : Hid (MapE w4 b (32 * i + j) E2) := HM3.out.keep hF4 (by simp)
          clear HAsk hby hby4 e0 HM3 hG3 hF4 hGr3
          cases R with
          | true =>
            have HNt : Hid _ := apply_any b (32 * i + j) E2 key val drop w4 HM4.out hkz (by omega)
            have HS : Hid (applyE E2 ⟨key, val, drop⟩ = capplys (inS key0 en0) E (ws.take (j + 1))) := by
              show _ = _
              rw [HTk.out, capplys_snoc, ← HFe2.out]
              unfold capply
              rw [if_pos HR.out.symm]
            clear HM4
            go_wp2_with fail
            refine Calls.mono HNt.out ?_
            rintro e w5 ⟨rfl, hM5, hF5⟩
            have HM5 : Hid (MapE w5 b (32 * i + (j + 1)) (applyE E2 ⟨key, val, drop⟩)) := hM5.mono (by omega)
            have hG5 := hG4.then hF5
            clear hM5 hF5 HNt hG4 f0 f1 f2
            go_wp2
            go_roundw
            case rel => exact ⟨j + 1, _, by simp, by omega, HM5, HS, hG5⟩
            case measure => simp [RowKit.intOf]; omega
          | false =>
            have HS : Hid (E2 = capplys (inS key0 en0) E (ws.take (j + 1))) := by
              show _ = _
              rw [HTk.out, capplys_snoc, ← HFe2.out]
              unfold capply
              rw [if_neg (fun h => Bool.noConfusion (HR.out.trans h))]
            have HM5 : Hid (MapE w4 b (32 * i + (j + 1)) E2) := HM4.out.mono (by omega)
            clear HM4 f0 f1 f2
            go_wp2
            go_roundw
            case rel => exact ⟨j + 1, E2, by simp, by omega, HM5, HS, hG4⟩
            case measure => simp [RowKit.intOf]; omega
        · have HM5 : Hid (MapE wr b (32 * (i + 1)) E2) := HM2.out.mono (by omega)
          have HS : Hid (E2 = call (inS key0 en0) (fun _ => none) (txs (ts.take (i + 1)))) := by
            show _ = _
            rw [HTx.out, call_snoc, ← HFe.out, HFe2.out, List.take_of_length_le (by rw [← HMl.out]; omega)]
            rfl
          clear HM2
          go_wp2
          go_roundw
          case rel => exact ⟨i + 1, E2, by simp, by omega, HM5, HS, hGr⟩
          case measure => simp [RowKit.intOf]; omega
    · obtain rfl : i = f := by omega
      have HS : Hid (E = call (inS key0 en0) (fun _ => none) ((txs ts).take i)) := by
        show _ = _
        rw [HFe.out, txs_take]
      have HM5 : Hid (MapE wr b 9000000 E) := HM.out.mono (by omega)
      clear HM
      go_wp2
      go_ret2
      exact ⟨b, rfl, hbw, by rw [← HS.out]; exact HM5.out, hFr⟩
end Go.Proofs.YtaefninikmaiiaaGreatDoor
/- A loop over a function: the laws of its record, its rounds and its end. Conditions as each names them. -/
namespace Go.Proofs.YtaefninikmaiiaaGreatDoor
open Go.ChangeShapes Go.WideShapes Go.ChangeAt Go.RowKit Go.Lib
set_option linter.unusedVariables false
attribute [local go_sem] Oper.semAt_some

theorem Fr.putObj (w : World) (l : Nat) (o : Obj) : Fr [l] w (w.putObj l o) := ⟨rfl, rfl, rfl, by simp, fun k _ hn => World.putObj_heap_other (by simpa using hn)⟩
/-- The loop's record. -/
def recOf (fn : FuncId) (tmps : Array Value) (ps : Array Tmp) (assign body : Code) (D : Nat) (st : LoopState) (pe : Option Code) : Loop := { state := st, pending := pe, fn, tmps, params := ps, assign, body, defers := D }
/-- The statement 'for x := range g': the record's blocks are laid, the iterator is called. -/
theorem range_of {F : Fence} {n : Nat} {P : Program} {g : Operand} {ps : Array Tmp} {assign body : Code} {Q : Exit → Act → World → Prop} {a : Act} {w : World} (hro : F.round = none) (hF : ∀ f, F.fn f) (hdep : F.depth = none) {gf : Nat} {lb : Array Value} (hg : a.eval g = .func (.func gf) #[] lb) (eg : ∀ args w, (callFunc gf args).run P w = .ok (.enter gf args) w)
    (h : ∀ (fn : FuncId) (RC : LoopState → Option Code → Loop), Hid (RC = recOf fn a.tmps ps assign body w.heap.size) → CallsIn F (n - 1) P gf (#[Value.func (.yield (w.heap.size + 1)) #[] #[]] ++ lb) ((w.alloc (.deferred (some []))).alloc (.loop (RC .ready none)))
      (rangePost F n P (w.heap.size + 1) Q { a with defers := [({ target := .collected w.heap.size, args := #[] } : Deferred)] ++ a.defers })) :
    (Code.rangeFunc g ps assign body).wpIn F n P Q a w := by
  refine wpIn_rangeFunc ?_
  intro fn hfn
  rw [hro]
  obtain ⟨RC, hRC⟩ : ∃ RC, RC = recOf fn a.tmps ps assign body w.heap.size := ⟨_, rfl⟩
  have hc := h fn RC hRC
  obtain ⟨W1, hW1⟩ : ∃ W1, (w.alloc (.deferred (some []))).alloc (.loop (RC .ready none)) = W1 := ⟨_, rfl⟩
  rw [hW1] at hc
  refine ⟨w.heap.size + 1, [{ target := .collected w.heap.size, args := #[] }], W1, { target := .fn (.func gf) lb, args := #[.func (.yield (w.heap.size + 1)) #[] #[]] }, W1, gf,
    #[.func (.yield (w.heap.size + 1)) #[] #[]] ++ lb, W1, ?_, ?_, ?_, ?_, ?_, ?_⟩
  · rw [← hW1, hRC]
    exact run_enterLoop_outer _ _ _ _ _
  · simp only [resolve, hg]
    simp [go_sem]
  · intro f' hf'
    exact hF f'
  · simp [invoke, go_sem, eg]
  · intro hd
    rw [hdep] at hd
    cases hd
  · exact hc
/-- One round. -/
theorem round_of {m l : Nat} {P : Program} {fn : FuncId} {tmps : Array Value} {ps : Array Tmp} {assign body : Code} {D : Nat} {args : Array Value} {RC : LoopState → Option Code → Loop} (hRC : Hid (RC = recOf fn tmps ps assign body D)) (hs : args.size = ps.size) {W : World} (hl : W.heap[l]? = some (.loop (RC .ready none))) {R : Ending → World → Prop}
    (h : assign.wpIn (Fence.wide.inRound l) m P (Exit.then (fun a₁ w₁ => ∃ w₂, (Instr.beginRound l).run P w₁ = .ok () w₂ ∧ body.wpIn (Fence.wide.inRound l) m P (roundPost P l R) a₁ w₂) (fun _ _ _ => False))
      { tmps := (ps.zip args).foldl (fun t (p, v) => t.setIfInBounds p v) tmps, defers := [] } W) : YieldAt Fence.wide m P l args W R :=
  ⟨fn, _, assign, body, by have := hRC.out; subst this; exact run_yield (r := recOf fn tmps ps assign body D .ready none) hl hs, roundIn_of_wpIn trivial h⟩
theorem begin_of {l : Nat} {P : Program} {fn : FuncId} {tmps : Array Value} {ps : Array Tmp} {assign body : Code} {D : Nat} {RC : LoopState → Option Code → Loop} (hRC : Hid (RC = recOf fn tmps ps assign body D)) {W : World} (hl : W.heap[l]? = some (.loop (RC .ready none))) :
    (Instr.beginRound l).run P W = .ok () (W.putObj l (.loop (RC .busy none))) := by
  have := hRC.out
  subst this
  exact run_beginRound hl rfl
theorem end_of {l : Nat} {P : Program} {fn : FuncId} {tmps : Array Value} {ps : Array Tmp} {assign body : Code} {D : Nat} {RC : LoopState → Option Code → Loop} (hRC : Hid (RC = recOf fn tmps ps assign body D)) {W : World} (hl : W.heap[l]? = some (.loop (RC .busy none))) (jump : Option Code) :
    (Instr.endRound l jump).run P W = .ok (.bool jump.isNone) (W.putObj l (.loop (RC (if jump.isNone then .ready else .done) jump))) := by
  have := hRC.out
  subst this
  exact run_endRound jump hl
theorem loop_end_of {l : Nat} {P : Program} {fn : FuncId} {tmps : Array Value} {ps : Array Tmp} {assign body : Code} {D : Nat} {RC : LoopState → Option Code → Loop} (hRC : Hid (RC = recOf fn tmps ps assign body D)) {W : World} {st : LoopState} {pe : Option Code} (hl : W.heap[l]? = some (.loop (RC st pe))) (hb : st ≠ .busy) :
    (Instr.endLoop l).run P W = .ok pe (W.putObj l (.loop (RC .exhausted pe))) := by
  have := hRC.out
  subst this
  exact run_endLoop hl hb
end Go.Proofs.YtaefninikmaiiaaGreatDoor

/- Texts of this claim laid together, one behind the other: contracts and plain lemmas; conditions as each names them. -/
import Derived.Test.YtaefninikmaiiaaGreatDoorGp2
import Derived.Test.YtaefninikmaiiaaGreatDoorGp3
import Derived.Test.YtaefninikmaiiaaGreatDoorGp1
/- What the Book's fill does to its lists (Txn): each is written over with its mark, and nothing else. Conditions: no two held lists share a block. -/
namespace Go.Proofs.YtaefninikmaiiaaGreatDoor.Bq
open Go.ChangeShapes Go.WideShapes Go.ChangeAt Go.RowKit Go.Lib
set_option linter.unusedVariables false

set_option maxHeartbeats 8000000 in
set_option maxRecDepth 100000 in
theorem fillTxn_any (bk : Nat) (rv : Value) (hs : List HB) (w : World) (h : Bl kTxn w bk rv hs) (h0 : ∀ (j : Nat) (h : HB), hs[j]? = some h → P0 kTxn w h) (ha : Alone hs) (hfre : Fresh hs) :
    Calls Tryz.prog 59 #[.pointer (some ⟨bk, 0, none⟩)] w fun e w' => e = .returned (.tuple #[]) ∧ Hid (FillInv kTxn w bk rv hs hs.length w') := by
  have HI0 : Hid (FillInv kTxn w bk rv hs 0 w) := ⟨h, fun _ _ _ hj => by omega, fun j b hb _ => h0 j b hb, Fr.refl _ _⟩
  obtain ⟨N, HN⟩ : ∃ N, Hid (N = hs.length) := ⟨_, rfl⟩
  have hfew := h.few
  have HNUM : Hid (∀ (j : Nat) (h : HB), hs[j]? = some h → h.n < 4194304) := h.num
  rw [← HN.out] at hfew
  clear h0
  obtain ⟨rao, rcap, hrv⟩ := own_slice h.row
  rw [← HN.out] at hrv
  clear h
  subst hrv
  go_enter Tryz.func59, Tryz.ntmps59
  go_wp2_with fail
  go_loopw [2] (fun ii wr => ∃ i : Nat, ii = .int .i64 i ∧ i ≤ N ∧ Hid (FillInv kTxn w bk (.slice rao N rcap) hs i wr)) (fun ii _ => N - (RowKit.intOf ii).toNat)
  case atStart => exact ⟨0, rfl, Nat.zero_le _, HI0⟩
  case round =>
    clear HI0
    obtain ⟨i, rfl, hiN, HI⟩ := hrel
    have c1 : wr.cell? ⟨bk, 7, none⟩ = some (.slice rao N rcap) := HI.out.bk.c1
    by_cases hi : i < N
    · obtain ⟨e, he⟩ : ∃ e, hs[i]? = some e := ⟨_, List.getElem?_eq_getElem (by rw [← HN.out]; exact hi)⟩
      have HE : Hid (hs[i]? = some e) := he
      obtain ⟨rb, rc, hrv, hrc, d0, d1, d2⟩ := HI.out.bk.at i e he
      rw [← HN.out] at hrv hrc
      cases hrv
      have hen : e.n < 4194304 := HNUM.out i e he
      obtain ⟨n, vs, hO, hn21⟩ := HI.out.left i e he (Nat.le_refl _)
      obtain ⟨lao, lcap, hl⟩ := own_slice hO
      have HLe : Hid (e.l = .slice lao n lcap) := hl
      rw [hl] at d0 hO
      obtain ⟨M, HM⟩ : ∃ M, Hid (M = e.n) := ⟨_, rfl⟩
      rw [hfre i e he] at d1
      rw [← HM.out] at d2 hen
      clear he hl
      obtain ⟨B, HB⟩ : ∃ B, Hid (mInt M = B) := ⟨_, rfl⟩
      go_wp2_with fail
      obtain ⟨hv, hhv⟩ : ∃ hv, hv = wr.heap.size := ⟨_, rfl⟩
      obtain ⟨w1, hw1⟩ : ∃ w1, w1 = wr.alloc (Obj.cells #[.slice lao n lcap, .slice none 0 0, .int .i64 (M : Int)] 128) := ⟨_, rfl⟩
      rw [← hw1, ← hhv]
      have hF1 : Fr [] wr w1 := by rw [hw1]; exact Fr.alloc [] _ _
      have hvb : w1.heap[hv]? = some (.cells #[.slice lao n lcap, .slice none 0 0, .int .i64 (M : Int)] 128 (0, 0)) := by rw [hw1, hhv]; exact heap_alloc_new wr _
      have HLT : Hid (∀ k, (Value.slice lao n lcap).ownBlock = some k → k ≠ hv) := by
        intro k hk
        have := (hO.lt k hk).2
        omega
      have hO1 := owns_keep hO hF1 (by simp)
      have hvl := hO.1
      clear hO hw1 hhv d0 d1 d2 c1
      have HI0 : Hid (w1.ownsRow 0 63 2 (.slice lao n lcap) n (marks [.int .i64 B, .slice none 0 0] 0 ++ vs)) := hO1
      clear hO1
      go_loopw [4] (fun kk wr' => ∃ (k : Nat) (R : List Value), kk = .int .i64 k ∧ k ≤ n ∧ Hid (R.length = (n - k) * 2) ∧ Hid (wr'.ownsRow 0 63 2 (.slice lao n lcap) n (marks [.int .i64 B, .slice none 0 0] k ++ R)) ∧ Hid (Fr (Value.slice lao n lcap).ownBlock.toList w1 wr')) (fun kk _ => n - (RowKit.intOf kk).toNat)
      case atStart => exact ⟨0, vs, rfl, Nat.zero_le _, hvl, HI0, Fr.refl _ _⟩
      case round =>
        clear HI0
        obtain ⟨k, R, rfl, hkn, HR, HO, HF2⟩ := hrel
        have hvb2 := HF2.out.keep hvb (by intro hm; exact HLT.out hv (by simpa using hm) rfl)
        by_cases hk : k < n
        · have hlt : (k : Int) < n := by omega
          obtain ⟨t, gc, hg, hgc⟩ := own_form HO.out (by omega)
          cases hg
          have hvt' : t ≠ hv := HLT.out t rfl
          have hvt : hv ≠ t := fun e => hvt' e.symm
          obtain ⟨a, b, S, hRe, hS⟩ := fmore2 hk HR.out
          subst hRe
          have HS : Hid (S.length = (n - (k + 1)) * 2) := hS
          have HC : Hid (∀ W, Fr [] wr W → W.cell? ⟨hv, 0, none⟩ = some (.slice (some ⟨t, 0, none⟩) n lcap) ∧ W.cell? ⟨hv, 2, none⟩ = some (.int .i64 (M : Int)) ∧ W.cell? ⟨t, k * 2, none⟩ = some a ∧ W.cell? ⟨t, k * 2 + 1, none⟩ = some b ∧ W.frozen? ⟨t, k * 2, none⟩ = false ∧ W.frozen? ⟨t, k * 2 + 1, none⟩ = false) := by
            intro W hf
            have hb := hf.keep hvb2 (by simp)
            have hO := owns_keep HO.out hf (by simp)
            have hc : ∀ j u, (a :: b :: S)[j]? = some u → W.cell? ⟨t, k * 2 + j, none⟩ = some u := behind rfl hO
            exact ⟨by rw [cell_of_row _ _ _ _ _ _ hb]; rfl, by rw [cell_of_row _ _ _ _ _ _ hb]; rfl, hc 0 a rfl, hc 1 b rfl, own_free hO _, own_free hO _⟩
          have HP : Hid (∀ W, Fr [] wr W → Hid ((((W.setCell ⟨t, k * 2, none⟩ (.int .i64 B)).setCell ⟨t, k * 2 + 1, none⟩ (.slice none 0 0))).ownsRow 0 63 2 (.slice (some ⟨t, 0, none⟩) n lcap) n (marks [.int .i64 B, .slice none 0 0] (k + 1) ++ S)) ∧ Hid (Fr (Value.slice (some ⟨t, 0, none⟩) n lcap).ownBlock.toList w1 (((W.setCell ⟨t, k * 2, none⟩ (.int .i64 B)).setCell ⟨t, k * 2 + 1, none⟩ (.slice none 0 0))))) := by
            intro W hf
            have hO := owns_keep HO.out hf (by simp)
            have h3 := (own_put (own_put hO (k * 2) (.int .i64 B)) (k * 2 + 1) (.slice none 0 0))
            rw [fstep2] at h3
            refine ⟨h3, ?_⟩
            show Fr [t] w1 _
            exact ((show Fr [t] w1 wr from HF2.out).trans hf (fun x hx _ => hx) (by simp)).then ((Fr.set W ⟨t, k * 2, none⟩ _ (by simp)).then (Fr.set _ ⟨t, k * 2 + 1, none⟩ _ (by simp)))
          obtain ⟨a0, a1, a2, a3, a4, a5⟩ := HC.out _ (Fr.refl [] wr)
          obtain ⟨b0, b1, b2, b3, b4, b5⟩ := HC.out _ (Fr.drew [] wr)
          have hMk := markTxn_at M B wr.drew hen HB.out
          clear hvb hvb2 hS
          go_wp2_with fail
          first
            | go_loud (go_region_held3 (fun W => W.cell? ⟨hv, 0, none⟩ = some (.slice (some ⟨t, 0, none⟩) n lcap) ∧ W.cell? ⟨hv, 2, none⟩ = some (.int .i64 (M : Int))) (go_keep)
                (first
                | (go_at_call 121; with_reducible refine hMk.mono ?_; rintro e w3 ⟨rfl, hF3⟩; obtain ⟨j0, j1, j2, j3, j4, j5⟩ := HC.out _ ((Fr.drew [] wr).then hF3))))
            | fail
          obtain ⟨p1, p2⟩ := HP.out _ ((Fr.drew [] wr).then hF3)
          clear hF3 hMk HP HC
          go_wp2_with fail
          go_roundw
          case rel => exact ⟨k + 1, S, by simp, by omega, HS, p1, p2⟩
          case measure => simp [RowKit.intOf]; omega
        · have hle : (n : Int) ≤ k := by omega
          have v0 : wr.cell? ⟨hv, 0, none⟩ = some (.slice lao n lcap) := by rw [cell_of_row _ _ _ _ _ _ hvb2]; rfl
          have HP1 : Hid (P1 kTxn wr e) := by
            refine ⟨n, ?_, hn21⟩
            have hkn' : k = n := by omega
            have hR0 : R = [] := List.eq_nil_of_length_eq_zero (by rw [HR.out, hkn']; omega)
            have := HO.out
            rw [hR0, List.append_nil, hkn', ← HB.out] at this
            rw [HLe.out, ← HM.out]
            exact this
          have HI2 : Hid (FillInv kTxn w bk (.slice (some ⟨rb, 0, none⟩) N rcap) hs (i + 1) wr) := HI.out.next ha HE.out hF1 (by rw [HLe.out]; exact HF2.out) HP1.out
          clear hvb hvb2 HO
          go_wp2_with fail
          go_roundw
          case rel => exact ⟨i + 1, by simp, by omega, HI2⟩
          case measure => simp [RowKit.intOf]; omega
    · obtain rfl : i = N := by omega
      go_wp2_with fail
      go_end0
      exact ⟨rfl, by rw [← HN.out]; exact HI⟩
end Go.Proofs.YtaefninikmaiiaaGreatDoor.Bq
/- What the Book's grow does to its lists (Txn): more is put behind each, which stays as it is; nothing else is written. Conditions: no two held lists share a block. -/
namespace Go.Proofs.YtaefninikmaiiaaGreatDoor.Bq
open Go.ChangeShapes Go.WideShapes Go.ChangeAt Go.RowKit Go.Lib
set_option linter.unusedVariables false
theorem Tryz.infoETxn : (Tryz.prog.info? 63).map (fun i => (i.zero, i.size, i.bytes)) = some (some (.agg #[.int .i64 0, .slice none 0 0]), 2, 32) := by kernel_rfl
theorem Tryz.undETxns : Tryz.prog.underlying 22 = some (.slice 63) := by kernel_rfl

set_option maxHeartbeats 4000000 in
set_option maxRecDepth 100000 in
theorem growTxn_any (bk : Nat) (rv : Value) (hs0 : List HB) (w : World) (h : Bl kTxn w bk rv hs0) (h1 : ∀ (j : Nat) (h : HB), hs0[j]? = some h → P1 kTxn w h) (ha : Alone hs0) (hfre : Fresh hs0) :
    Calls Tryz.prog 70 #[.pointer (some ⟨bk, 0, none⟩)] w fun e w' => e = .returned (.tuple #[]) ∧ ∃ hs, Hid (GrowInv kTxn w bk rv hs0 hs0.length hs w') := by
  obtain ⟨i0, hi0, hz0, hz1, hz2⟩ := info_parts Tryz.infoETxn
  have hold : ∀ (j : Nat) (a : HB), hs0[j]? = some a → ∀ k, a.l.ownBlock = some k → k < w.heap.size := by
    intro j a haj k hk
    obtain ⟨cs, hc⟩ := (h1 j a haj).type k hk
    exact lt_of_block hc
  have HI0 : Hid (GrowInv kTxn w bk rv hs0 0 hs0 w) := by
    refine ⟨h, rfl, fun j a haj => ⟨a, haj, rfl, rfl⟩, fun _ _ _ hj => by omega, fun j a haj _ => ⟨h1 j a haj, hfre j a haj⟩, ?_, ?_, Fr.refl _ _⟩
    · intro j a haj k hk
      rw [hfre j a haj] at hk
      simp [Value.ownBlock] at hk
    · intro j j' a b haj _ _ k hk
      rw [hfre j a haj] at hk
      simp [Value.ownBlock] at hk
  obtain ⟨N, HN⟩ : ∃ N, Hid (N = hs0.length) := ⟨_, rfl⟩
  have hfew := h.few
  rw [← HN.out] at hfew
  obtain ⟨rao, rcap, hrv⟩ := own_slice h.row
  rw [← HN.out] at hrv
  clear h h1
  subst hrv
  go_enter Tryz.func70, Tryz.ntmps70
  go_wp2_with fail
  go_loopw [2] (fun ii wr => ∃ (i : Nat) (hs : List HB), ii = .int .i64 i ∧ i ≤ N ∧ Hid (GrowInv kTxn w bk (.slice rao N rcap) hs0 i hs wr)) (fun ii _ => N - (RowKit.intOf ii).toNat)
  case atStart => exact ⟨0, hs0, rfl, Nat.zero_le _, HI0⟩
  case round =>
    clear HI0
    obtain ⟨i, hs, rfl, hiN, HI⟩ := hrel
    have c1 : wr.cell? ⟨bk, 7, none⟩ = some (.slice rao N rcap) := HI.out.bk.c1
    by_cases hi : i < N
    · have HN2 : Hid (N = hs.length) := by show _ = _; rw [HI.out.len, HN.out]
      obtain ⟨e, he⟩ : ∃ e, hs[i]? = some e := ⟨_, List.getElem?_eq_getElem (by rw [← HN2.out]; exact hi)⟩
      have HE : Hid (hs[i]? = some e) := he
      obtain ⟨rb, rc, hrv, hrc, d0, d1, d2⟩ := HI.out.bk.at i e he
      rw [← HN2.out] at hrv hrc
      cases hrv
      have hen : e.n < 4194304 := HI.out.bk.num i e he
      obtain ⟨⟨n, hO, hn21⟩, hnil⟩ := HI.out.left i e he (Nat.le_refl _)
      obtain ⟨lao, lcap, hl⟩ := own_slice hO
      have HLe : Hid (e.l = .slice lao n lcap) := hl
      rw [hnil] at d1
      rw [hl] at d0 hO
      have hlc : n ≤ lcap := by
        rcases hO.2 with ⟨hh, h0⟩ | ⟨_, _, _, hh, _, _, hnc, _⟩
        · cases hh; omega
        · cases hh; exact hnc
      obtain ⟨M, HM⟩ : ∃ M, Hid (M = e.n) := ⟨_, rfl⟩
      rw [← HM.out] at d2 hen hO
      clear he hl hnil
      go_wp2_with fail
      obtain ⟨hv, hhv⟩ : ∃ hv, hv = wr.heap.size := ⟨_, rfl⟩
      obtain ⟨w1, hw1⟩ : ∃ w1, w1 = wr.alloc (Obj.cells #[.slice lao n lcap, .slice none 0 0, .int .i64 (M : Int)] 128) := ⟨_, rfl⟩
      rw [← hw1, ← hhv]
      have hF1 : Fr [] wr w1 := by rw [hw1]; exact Fr.alloc [] _ _
      have hvb : w1.heap[hv]? = some (.cells #[.slice lao n lcap, .slice none 0 0, .int .i64 (M : Int)] 128 (0, 0)) := by rw [hw1, hhv]; exact heap_alloc_new wr _
      have hlt : ∀ k, (Value.slice lao n lcap).ownBlock = some k → k < w1.heap.size ∧ k ≠ hv := by
        intro k hk
        have := (hO.lt k hk).2
        have := hF1.size
        omega
      have hO1 := owns_keep hO hF1 (by simp)
      clear hO hw1 hhv d0 d1 d2 c1
      have HG0 : Hid (GIn kTxn w1 (.slice lao n lcap) n M 0 (.slice lao n lcap) w1) := by
        refine ⟨hO1, ?_, Fr.refl _ _, Or.inl rfl⟩
        refine Rdm.of_own (kTxn.len M) hO1 (Nat.le_refl _) rfl hlc ?_
        intro a ha'
        rcases hO1.2 with ⟨hh, _⟩ | ⟨g, _, _, hh, _⟩
        · cases hh; cases ha'
        · cases hh; cases ha'; exact ⟨rfl, rfl⟩
      clear hO1
      go_loopw [4, 5] (fun vv kk wr' => ∃ (k : Nat) (vao : Option Addr) (vcap : Nat), vv = .slice vao (n + k) vcap ∧ kk = .int .i64 k ∧ k ≤ 70 ∧ Hid (GIn kTxn w1 (.slice lao n lcap) n M k (.slice vao (n + k) vcap) wr')) (fun _ kk _ => 70 - (RowKit.intOf kk).toNat)
      case atStart => exact ⟨0, lao, lcap, rfl, rfl, by omega, HG0⟩
      case round =>
        clear HG0
        obtain ⟨k, vao, vcap, rfl, rfl, hk70, HG⟩ := hrel
        have hvb2 := HG.out.fr.keep hvb (by intro hm; exact (hlt hv (by simpa using hm)).2 rfl)
        by_cases hk : k < 70
        · have v2 : wr.cell? ⟨hv, 2, none⟩ = some (.int .i64 (M : Int)) := by rw [cell_of_row _ _ _ _ _ _ hvb2]; rfl
          obtain ⟨B, HB⟩ : ∃ B, Hid (mInt M = B) := ⟨_, rfl⟩
          clear hvb2
          go_wp2_with fail
          refine (markTxn_at M B _ hen HB.out).mono ?_
          rintro e w3 ⟨rfl, hF3⟩
          have HG3 := HG.out.keep hF3
          have HOa : Hid ((w3.alloc (Obj.cells #[.int .i64 B, .slice none 0 0] 63)).ownsRow 0 63 2 (.slice vao (n + k) vcap) (n + k) (marks (kTxn.mark M) (n + k))) := owns_keep HG3.own (Fr.alloc [] _ _) (by simp)
          go_wp2_with (at_builtin; go_loud (refine wpList_app _ rfl (.tmp 28) (.tmp 32) 22 rfl 63 i0 (.agg #[.int .i64 0, .slice none 0 0]) 2 32 Tryz.undETxns hi0 hz0 hz1 hz2 rfl (by omega) _ _ _ rfl HOa.out ⟨w3.heap.size, 0, none⟩ 1 [.int .i64 B, .slice none 0 0] rfl rfl ?c1 ?c2 (by omega) (by simp only [maxLen]; omega) ?_))
          case c1 =>
            intro j u hj
            have hnew : (w3.alloc (Obj.cells #[.int .i64 B, .slice none 0 0] 63)).heap[w3.heap.size]? = some (Obj.cells #[.int .i64 B, .slice none 0 0] 63) := heap_alloc_new w3 _
            rw [show (⟨w3.heap.size, 0, none⟩ : Addr).add j = ⟨w3.heap.size, j, none⟩ from by simp [Addr.add]; omega, cell_of_row _ _ _ _ _ _ hnew]
            simpa using hj
          case c2 =>
            intro u hu
            simp at hu
            rcases hu with rfl | rfl <;> rfl
          intro g cap' w' hO2 hW2
          have HG2 : Hid (GIn kTxn w1 (.slice lao n lcap) n M (k + 1) (.slice (some ⟨g, 0, none⟩) (n + (k + 1)) cap') w') := by
            refine GIn.next HG3 _ ?_ hW2 (fun k hk => (hlt k hk).1)
            have e9 := hO2
            rw [← HB.out] at e9
            exact e9
          clear HG3 hF3
          clear hO2 hW2 hlt hvb
          go_wp2_with fail
          go_roundw
          case rel => exact ⟨k + 1, some ⟨g, 0, none⟩, cap', by simp only [Nat.add_assoc], by simp, by omega, HG2⟩
          case measure => simp [RowKit.intOf]; omega
        · obtain rfl : k = 70 := by omega
          obtain ⟨V, HV⟩ : ∃ V, Hid (V = Value.slice vao (n + 70) vcap) := ⟨_, rfl⟩
          have HN3 : Hid (GrowInv kTxn w bk (.slice (some ⟨rb, 0, none⟩) N rcap) hs0 (i + 1) (hs.set i { e with long := .slice vao (n + 70) vcap }) (wr.setCell ⟨rb, i * 3 + 1, none⟩ (.slice vao (n + 70) vcap))) := by
            refine GrowInv.next HI.out ha hold HE.out HN2.out hF1 ?_ hn21
            rw [HLe.out, ← HM.out]
            exact HG.out
          have hbk2 : Bl kTxn wr bk (.slice (some ⟨rb, 0, none⟩) N rcap) hs := by
            have hf : Fr (Value.slice lao n lcap).ownBlock.toList _ wr := hF1.trans HG.out.fr (by simp) (fun x hx _ => hx)
            have hte := (HI.out.left i e HE.out (Nat.le_refl _)).1.type
            rw [HLe.out] at hte
            refine Bl.keep HI.out.bk hf ?_ ?_
            · intro hm
              obtain ⟨cs, hc⟩ := hte bk (by simpa using hm)
              exact (HI.out.bk.apart hc).1 rfl
            · intro k hk hm
              obtain ⟨cs, hc⟩ := hte k (by simpa using hm)
              exact (HI.out.bk.apart hc).2 hk
          have c1' : wr.cell? ⟨bk, 7, none⟩ = some (.slice (some ⟨rb, 0, none⟩) N rcap) := hbk2.c1
          obtain ⟨rb', rc', hrv', _, _, d1', _⟩ := hbk2.at i e HE.out
          cases hrv'
          have hf1 : wr.frozen? ⟨rb, i * 3 + 1, none⟩ = false := by
            have hr := hbk2.row
            rw [← HN2.out] at hr
            exact own_free hr _
          clear hbk2 hvb2 hvb hlt
          go_wp2_with fail
          go_roundw
          case rel => exact ⟨i + 1, _, by simp, by omega, HN3⟩
          case measure => simp [RowKit.intOf]; omega
    · obtain rfl : i = N := by omega
      go_wp2_with fail
      go_end0
      exact ⟨rfl, hs, by rw [← HN.out]; exact HI⟩
end Go.Proofs.YtaefninikmaiiaaGreatDoor.Bq
/- What the Book answers when it looks at its lists (Txn): true, where each and what was put behind it read as its mark. Conditions: fewer than 2^21 lists. -/
namespace Go.Proofs.YtaefninikmaiiaaGreatDoor.Bq
open BigFrame Go.ChangeShapes Go.WideShapes Go.ChangeAt Go.RowKit Go.Lib
set_option linter.unusedVariables false
set_option linter.unusedSimpArgs false

set_option maxHeartbeats 8000000 in
set_option maxRecDepth 100000 in
theorem lookTxn_any (bk : Nat) (rv : Value) (hs : List HB) (w : World) (h : Bl kTxn w bk rv hs) (h2 : ∀ (j : Nat) (h : HB), hs[j]? = some h → P2 kTxn w h) :
    Calls Tryz.prog 81 #[.pointer (some ⟨bk, 0, none⟩)] w fun e w' => e = .returned (.bool true) ∧ Fr [] w w' := by
  obtain ⟨N, HN⟩ : ∃ N, Hid (N = hs.length) := ⟨_, rfl⟩
  have hfew := h.few
  rw [← HN.out] at hfew
  obtain ⟨rao, rcap, hrv⟩ := own_slice h.row
  rw [← HN.out] at hrv
  have H : Hid (Bl kTxn w bk rv hs) := h
  clear h
  subst hrv
  go_enter Tryz.func81, Tryz.ntmps81
  go_wp2_with fail
  go_loopw [3] (fun ii wr => ∃ (i : Nat), ii = .int .i64 i ∧ i ≤ N ∧ Fr [] w wr) (fun ii _ => N - (RowKit.intOf ii).toNat)
  case atStart => exact ⟨0, rfl, Nat.zero_le _, Fr.refl _ _⟩
  case round =>
    obtain ⟨i, rfl, hiN, hF⟩ := hrel
    have hB := H.out.keep hF (by simp) (by simp)
    have c1 : wr.cell? ⟨bk, 7, none⟩ = some (.slice rao N rcap) := hB.c1
    by_cases hi : i < N
    · obtain ⟨e, he⟩ : ∃ e, hs[i]? = some e := ⟨_, List.getElem?_eq_getElem (by rw [← HN.out]; exact hi)⟩
      obtain ⟨rb, rc, hrv, hrc, d0, d1, d2⟩ := hB.at i e he
      rw [← HN.out] at hrv hrc
      cases hrv
      have hen : e.n < 4194304 := hB.num i e he
      have hp2 := (h2 i e he).keep hF (by simp) (by simp)
      obtain ⟨n, hR, hO, hn21⟩ := hp2
      obtain ⟨lao, lcap, hl, hlc, hlr⟩ := hR.shape
      obtain ⟨g, gcap, hx, hxc⟩ := own_form hO (by omega)
      obtain ⟨Q, hQ⟩ : ∃ Q, Q = n + 70 := ⟨_, rfl⟩
      rw [hx] at hO d1
      rw [hl] at d0
      obtain ⟨M, HM⟩ : ∃ M, Hid (M = e.n) := ⟨_, rfl⟩
      rw [← HM.out] at d2 hen
      obtain ⟨B, HB⟩ : ∃ B, Hid (mInt M = B) := ⟨_, rfl⟩
      have hmk : kTxn.mark e.n = [.int .i64 B, .slice none 0 0] := by rw [← HM.out, ← HB.out]
      rw [hmk] at hlr hO
      rw [← hQ] at hO d1 hxc
      have hQn : (Q : Int) = (n : Int) + 70 := by omega
      have hne : ((Q : Int) != (n : Int) + 70) = false := by rw [hQn]; simp
      have hQb : Q < 2^35 := by omega
      have HQn : Hid (Q = n + 70) := hQ
      have HX : Hid (∀ W, Fr [] wr W → ∀ k i, k < Q → i < 2 → W.cell? ⟨g, k * 2 + i, none⟩ = [.int .i64 B, .slice none 0 0][i]?) := by
        intro W hf k i hk hi
        exact own_marks (K := kTxn) (n := 0) rfl (owns_keep hO hf (by simp)) k i hk hi
      have HY : Hid (0 < n → ∃ t, lao = some ⟨t, 0, none⟩ ∧ ∀ W, Fr [] wr W → ∀ k i, k < n → i < 2 → W.cell? ⟨t, k * 2 + i, none⟩ = [.int .i64 B, .slice none 0 0][i]?) := by
        intro h0
        obtain ⟨t, e1, hc⟩ := hlr h0
        refine ⟨t, e1, fun W hf k i hk hi => ?_⟩
        obtain ⟨cs, hcs⟩ := hR.type t (by rw [hl, e1]; rfl)
        exact (World.cell?_of_block (hf.block t (lt_of_block hcs) (by simp))).trans (hc k i hk hi)
      clear hO hR hB he hx hl hQ hQn hlr hmk
      go_wp2_with fail
      obtain ⟨hv, hhv⟩ : ∃ hv, hv = wr.heap.size := ⟨_, rfl⟩
      obtain ⟨w1, hw1⟩ : ∃ w1, w1 = wr.alloc (Obj.cells #[.slice lao n lcap, .slice (some ⟨g, 0, none⟩) Q gcap, .int .i64 (M : Int)] 128) := ⟨_, rfl⟩
      rw [← hw1, ← hhv]
      have hF1 : Fr [] wr w1 := by rw [hw1]; exact Fr.alloc [] _ _
      have hvb : w1.heap[hv]? = some (.cells #[.slice lao n lcap, .slice (some ⟨g, 0, none⟩) Q gcap, .int .i64 (M : Int)] 128 (0, 0)) := by rw [hw1, hhv]; exact heap_alloc_new wr _
      have HA : Hid (∀ W, Fr [] w1 W → W.cell? ⟨hv, 0, none⟩ = some (.slice lao n lcap) ∧ W.cell? ⟨hv, 1, none⟩ = some (.slice (some ⟨g, 0, none⟩) Q gcap) ∧ W.cell? ⟨hv, 2, none⟩ = some (.int .i64 (M : Int)) ∧ Fr [] wr W) := by
        intro W hf
        have hb := hf.keep hvb (by simp)
        exact ⟨by rw [cell_of_row _ _ _ _ _ _ hb]; rfl, by rw [cell_of_row _ _ _ _ _ _ hb]; rfl, by rw [cell_of_row _ _ _ _ _ _ hb]; rfl, hF1.then hf⟩
      have HF1 : Hid (Fr [] w w1) := hF.then hF1
      obtain ⟨v0, v1, v2, _⟩ := HA.out _ (Fr.refl [] w1)
      clear hw1 hhv c1 d0 d1 d2 hvb hF hF1
      go_loopw [5] (fun kk wr' => ∃ (k : Nat), kk = .int .i64 k ∧ k ≤ Q ∧ Fr [] w1 wr') (fun kk _ => Q - (RowKit.intOf kk).toNat)
      case atStart => exact ⟨0, rfl, Nat.zero_le _, Fr.refl _ _⟩
      case round =>
        obtain ⟨k, rfl, hkQ, hFq⟩ := hrel
        obtain ⟨a0, a1, a2, _⟩ := HA.out _ hFq
        by_cases hk : k < Q
        · have hlt : (k : Int) < Q := by omega
          have HF : Hid (Fr [] w1 wr) := hFq
          have f0 : ∀ x : Wd w1, x.W.cell? ⟨hv, 0, none⟩ = some (.slice lao n lcap) := fun x => (HA.out _ x.h).1
          have f1 : ∀ x : Wd w1, x.W.cell? ⟨hv, 1, none⟩ = some (.slice (some ⟨g, 0, none⟩) Q gcap) := fun x => (HA.out _ x.h).2.1
          have f2 : ∀ x : Wd w1, x.W.cell? ⟨hv, 2, none⟩ = some (.int .i64 (M : Int)) := fun x => (HA.out _ x.h).2.2.1
          have g0 : ∀ x : Wd w1, x.W.cell? ⟨g, k * 2, none⟩ = some (.int .i64 B) := fun x => by exact HX.out x.W (HA.out _ x.h).2.2.2 k 0 hk (by omega)
          have g1 : ∀ x : Wd w1, x.W.cell? ⟨g, k * 2 + 1, none⟩ = some (.slice none 0 0) := fun x => by exact HX.out x.W (HA.out _ x.h).2.2.2 k 1 hk (by omega)
          by_cases hkn : k < n
          · have hkn' : (k : Int) < n := by omega
            obtain ⟨t, e9, HT⟩ := HY.out (by omega)
            subst e9
            have y0 : ∀ x : Wd w1, x.W.cell? ⟨t, k * 2, none⟩ = some (.int .i64 B) := fun x => by exact HT x.W (HA.out _ x.h).2.2.2 k 0 hkn (by omega)
            have y1 : ∀ x : Wd w1, x.W.cell? ⟨t, k * 2 + 1, none⟩ = some (.slice none 0 0) := fun x => by exact HT x.W (HA.out _ x.h).2.2.2 k 1 hkn (by omega)
            clear hFq
            go_wp2_with fail
            refine wp_region_wd (w1 := w1) (by kernel_rfl) (by kernel_rfl) HF.out ?_
            repeat (go_big_quiet_step (exact (isTxn_at M B _ hen HB.out).mono fun e w3 hh => ⟨hh.1, ⟨_, Fr.then (Wd.h _) hh.2⟩, rfl⟩))
            refine wpQuiet_nil ?_
            rintro _ ⟨x, rfl⟩
            go_wp2_with fail
            go_roundw
            case rel => exact ⟨k + 1, by simp, by omega, x.h⟩
            case measure => simp [RowKit.intOf]; omega
          · have hkn' : ¬ ((k : Int) < n) := by omega
            clear hFq
            go_wp2_with fail
            refine wp_region_wd (w1 := w1) (by kernel_rfl) (by kernel_rfl) HF.out ?_
            repeat (go_big_quiet_step (exact (isTxn_at M B _ hen HB.out).mono fun e w3 hh => ⟨hh.1, ⟨_, Fr.then (Wd.h _) hh.2⟩, rfl⟩))
            refine wpQuiet_nil ?_
            rintro _ ⟨x, rfl⟩
            go_wp2_with fail
            go_roundw
            case rel => exact ⟨k + 1, by simp, by omega, x.h⟩
            case measure => simp [RowKit.intOf]; omega
        · have hle : (Q : Int) ≤ k := by omega
          have hF2 := HF1.out.then hFq
          go_wp2_with fail
          go_roundw
          case rel => exact ⟨i + 1, by simp, by omega, hF2⟩
          case measure => simp [RowKit.intOf]; omega
    · go_wp2_with fail
      go_ret
      exact ⟨rfl, hF⟩
end Go.Proofs.YtaefninikmaiiaaGreatDoor.Bq
/- What the Book's Apart answers over lists of bytes, numbers, writes and transactions of which no two share a block: true; it writes those lists and its own rows alone. Conditions: fewer than 2^21 lists of each kind; the table of powers of ten reads as the library lays it, and is none of those. -/
namespace Go.Proofs.YtaefninikmaiiaaGreatDoor.Bq
open Go.ChangeShapes Go.WideShapes Go.ChangeAt Go.RowKit Go.Lib
set_option linter.unusedVariables false

/-- All that Apart may write. -/
def own4 (rB rI rW rT : Value) (hB hI hW hT : List HB) : List Nat := (rB.ownBlock.toList ++ lbs hB) ++ ((rI.ownBlock.toList ++ lbs hI) ++ ((rW.ownBlock.toList ++ lbs hW) ++ (rT.ownBlock.toList ++ lbs hT)))
set_option maxHeartbeats 8000000 in
set_option maxRecDepth 100000 in
theorem apart4_any (bk : Nat) (cs : Array Value) (rB rI rW rT : Value) (hB hI hW hT : List HB) (w : World) (hX : Bx w bk cs) (sB : S0 kByte w bk rB hB) (sI : S0 kInt w bk rI hI) (sW : S0 kWrite w bk rW hW) (sT : S0 kTxn w bk rT hT) (htab : Tab w) (hg : gTab ∉ own4 rB rI rW rT hB hI hW hT) :
    Calls Tryz.prog 17 #[.pointer (some ⟨bk, 0, none⟩)] w fun e w' => e = .returned (.bool true) ∧ Fr (own4 rB rI rW rT hB hI hW hT) w w' := by
  have HB : Hid (S0 kByte w bk rB hB) := sB
  have HI : Hid (S0 kInt w bk rI hI) := sI
  have HW : Hid (S0 kWrite w bk rW hW) := sW
  have HT : Hid (S0 kTxn w bk rT hT) := sT
  have HX : Hid (Bx w bk cs) := hX
  have HTB : Hid (Tab w) := htab
  have HG : Hid (gTab ∉ own4 rB rI rW rT hB hI hW hT) := hg
  have HF : Hid (Fr (own4 rB rI rW rT hB hI hW hT) w w) := Fr.refl _ _
  have inB : ∀ x, x ∈ rB.ownBlock.toList ++ lbs hB → x ∈ own4 rB rI rW rT hB hI hW hT := fun x hx => List.mem_append_left _ hx
  have inI : ∀ x, x ∈ rI.ownBlock.toList ++ lbs hI → x ∈ own4 rB rI rW rT hB hI hW hT := fun x hx => List.mem_append_right _ (List.mem_append_left _ hx)
  have inW : ∀ x, x ∈ rW.ownBlock.toList ++ lbs hW → x ∈ own4 rB rI rW rT hB hI hW hT := fun x hx => List.mem_append_right _ (List.mem_append_right _ (List.mem_append_left _ hx))
  have inT : ∀ x, x ∈ rT.ownBlock.toList ++ lbs hT → x ∈ own4 rB rI rW rT hB hI hW hT := fun x hx => List.mem_append_right _ (List.mem_append_right _ (List.mem_append_right _ hx))
  clear sB sI sW sT hX htab hg
  go_enter Tryz.func17, Tryz.ntmps17
  go_wp2_with fail
  refine (fillByte_any bk rB hB w HB.out.bl HB.out.each HB.out.alone HB.out.fresh).mono ?_
  rintro e w1 ⟨rfl, HZ⟩
  have HFn : Hid (Fr (own4 rB rI rW rT hB hI hW hT) w w1) := HF.out.trans HZ.out.fr (fun x hx _ => hx) (fun x hx _ => inB x (List.mem_append_right _ hx))
  have HXn : Hid (Bx w1 bk cs) := HX.out.keep HZ.out.fr ((HB.out.offs off_IB).notB HX.out.box)
  have HIn : Hid (S0 kInt w1 bk rI hI) := HI.out.stay HZ.out.fr (HB.out.offs off_IB)
  have HWn : Hid (S0 kWrite w1 bk rW hW) := HW.out.stay HZ.out.fr (HB.out.offs off_WB)
  have HTn : Hid (S0 kTxn w1 bk rT hT) := HT.out.stay HZ.out.fr (HB.out.offs off_TB)
  have HBn : Hid (S1 kByte w1 bk rB hB) := HB.out.filled HZ.out
  have HTBn : Hid (Tab w1) := HTB.out.keep HZ.out.fr (fun hm => HG.out (inB _ (List.mem_append_right _ hm)))
  clear HF HX HTB HZ HB HI HW HT
  have HF := HFn
  have HX := HXn
  have HTB := HTBn
  have HB := HBn
  have HI := HIn
  have HW := HWn
  have HT := HTn
  clear HFn HXn HTBn HBn HIn HWn HTn
  go_wp2_with fail
  refine (fillInt_any bk rI hI w1 HI.out.bl HI.out.each HI.out.alone HI.out.fresh).mono ?_
  rintro e w2 ⟨rfl, HZ⟩
  have HFn : Hid (Fr (own4 rB rI rW rT hB hI hW hT) w w2) := HF.out.trans HZ.out.fr (fun x hx _ => hx) (fun x hx _ => inI x (List.mem_append_right _ hx))
  have HXn : Hid (Bx w2 bk cs) := HX.out.keep HZ.out.fr ((HI.out.offs off_BI).notB HX.out.box)
  have HBn : Hid (S1 kByte w2 bk rB hB) := HB.out.stay HZ.out.fr (HI.out.offs off_BI)
  have HWn : Hid (S0 kWrite w2 bk rW hW) := HW.out.stay HZ.out.fr (HI.out.offs off_WI)
  have HTn : Hid (S0 kTxn w2 bk rT hT) := HT.out.stay HZ.out.fr (HI.out.offs off_TI)
  have HIn : Hid (S1 kInt w2 bk rI hI) := HI.out.filled HZ.out
  have HTBn : Hid (Tab w2) := HTB.out.keep HZ.out.fr (fun hm => HG.out (inI _ (List.mem_append_right _ hm)))
  clear HF HX HTB HZ HB HI HW HT
  have HF := HFn
  have HX := HXn
  have HTB := HTBn
  have HB := HBn
  have HI := HIn
  have HW := HWn
  have HT := HTn
  clear HFn HXn HTBn HBn HIn HWn HTn
  go_wp2_with fail
  refine (fillText_none bk w2 (HX.out.c 3 (by omega))).mono ?_
  rintro e _ ⟨rfl, rfl⟩
  go_wp2_with fail
  refine (fillWrite_any bk rW hW w2 HW.out.bl HW.out.each HW.out.alone HW.out.fresh HTB.out (fun hm => HG.out (inW _ (List.mem_append_right _ hm)))).mono ?_
  rintro e w3 ⟨rfl, HZ⟩
  have HFn : Hid (Fr (own4 rB rI rW rT hB hI hW hT) w w3) := HF.out.trans HZ.out.fr (fun x hx _ => hx) (fun x hx _ => inW x (List.mem_append_right _ hx))
  have HXn : Hid (Bx w3 bk cs) := HX.out.keep HZ.out.fr ((HW.out.offs off_BW).notB HX.out.box)
  have HBn : Hid (S1 kByte w3 bk rB hB) := HB.out.stay HZ.out.fr (HW.out.offs off_BW)
  have HIn : Hid (S1 kInt w3 bk rI hI) := HI.out.stay HZ.out.fr (HW.out.offs off_IW)
  have HTn : Hid (S0 kTxn w3 bk rT hT) := HT.out.stay HZ.out.fr (HW.out.offs off_TW)
  have HWn : Hid (S1 kWrite w3 bk rW hW) := HW.out.filled HZ.out
  have HTBn : Hid (Tab w3) := HTB.out.keep HZ.out.fr (fun hm => HG.out (inW _ (List.mem_append_right _ hm)))
  clear HF HX HTB HZ HB HI HW HT
  have HF := HFn
  have HX := HXn
  have HTB := HTBn
  have HB := HBn
  have HI := HIn
  have HW := HWn
  have HT := HTn
  clear HFn HXn HTBn HBn HIn HWn HTn
  go_wp2_with fail
  refine (fillEntry_none bk w3 (HX.out.c 5 (by omega))).mono ?_
  rintro e _ ⟨rfl, rfl⟩
  go_wp2_with fail
  refine (fillVersion_none bk w3 (HX.out.c 6 (by omega))).mono ?_
  rintro e _ ⟨rfl, rfl⟩
  go_wp2_with fail
  refine (fillTxn_any bk rT hT w3 HT.out.bl HT.out.each HT.out.alone HT.out.fresh).mono ?_
  rintro e w4 ⟨rfl, HZ⟩
  have HFn : Hid (Fr (own4 rB rI rW rT hB hI hW hT) w w4) := HF.out.trans HZ.out.fr (fun x hx _ => hx) (fun x hx _ => inT x (List.mem_append_right _ hx))
  have HXn : Hid (Bx w4 bk cs) := HX.out.keep HZ.out.fr ((HT.out.offs off_BT).notB HX.out.box)
  have HBn : Hid (S1 kByte w4 bk rB hB) := HB.out.stay HZ.out.fr (HT.out.offs off_BT)
  have HIn : Hid (S1 kInt w4 bk rI hI) := HI.out.stay HZ.out.fr (HT.out.offs off_IT)
  have HWn : Hid (S1 kWrite w4 bk rW hW) := HW.out.stay HZ.out.fr (HT.out.offs off_WT)
  have HTn : Hid (S1 kTxn w4 bk rT hT) := HT.out.filled HZ.out
  have HTBn : Hid (Tab w4) := HTB.out.keep HZ.out.fr (fun hm => HG.out (inT _ (List.mem_append_right _ hm)))
  clear HF HX HTB HZ HB HI HW HT
  have HF := HFn
  have HX := HXn
  have HTB := HTBn
  have HB := HBn
  have HI := HIn
  have HW := HWn
  have HT := HTn
  clear HFn HXn HTBn HBn HIn HWn HTn
  go_wp2_with fail
  refine (fillHeld_none bk w4 (HX.out.c 8 (by omega))).mono ?_
  rintro e _ ⟨rfl, rfl⟩
  go_wp2_with fail
  refine (fillHeldList_none bk w4 (HX.out.c 9 (by omega))).mono ?_
  rintro e _ ⟨rfl, rfl⟩
  go_wp2_with fail
  refine (fillEvent_none bk w4 (HX.out.c 10 (by omega))).mono ?_
  rintro e _ ⟨rfl, rfl⟩
  go_wp2_with fail
  refine (fillAnswer_none bk w4 (HX.out.c 11 (by omega))).mono ?_
  rintro e _ ⟨rfl, rfl⟩
  go_wp2_with fail
  refine (growByte_any bk rB hB w4 HB.out.bl HB.out.each HB.out.alone HB.out.fresh).mono ?_
  rintro e w5 ⟨rfl, gB, HZ⟩
  have HFn : Hid (Fr (own4 rB rI rW rT hB hI hW hT) w w5) := HF.out.trans HZ.out.fr (fun x hx _ => hx) (fun x hx _ => inB x hx)
  have HXn : Hid (Bx w5 bk cs) := HX.out.keep HZ.out.fr ((HB.out.offs off_IB).notB HX.out.box)
  have HIn : Hid (S1 kInt w5 bk rI hI) := HI.out.stay HZ.out.fr (HB.out.offs off_IB)
  have HWn : Hid (S1 kWrite w5 bk rW hW) := HW.out.stay HZ.out.fr (HB.out.offs off_WB)
  have HTn : Hid (S1 kTxn w5 bk rT hT) := HT.out.stay HZ.out.fr (HB.out.offs off_TB)
  have HBn : Hid (S2 kByte w5 bk rB gB) := HB.out.grown HZ.out
  have HTBn : Hid (Tab w5) := HTB.out.keep HZ.out.fr (fun hm => HG.out (inB _ hm))
  clear HF HX HTB HZ HB HI HW HT
  have HF := HFn
  have HX := HXn
  have HTB := HTBn
  have HB := HBn
  have HI := HIn
  have HW := HWn
  have HT := HTn
  clear HFn HXn HTBn HBn HIn HWn HTn
  go_wp2_with fail
  refine (growInt_any bk rI hI w5 HI.out.bl HI.out.each HI.out.alone HI.out.fresh).mono ?_
  rintro e w6 ⟨rfl, gI, HZ⟩
  have HFn : Hid (Fr (own4 rB rI rW rT hB hI hW hT) w w6) := HF.out.trans HZ.out.fr (fun x hx _ => hx) (fun x hx _ => inI x hx)
  have HXn : Hid (Bx w6 bk cs) := HX.out.keep HZ.out.fr ((HI.out.offs off_BI).notB HX.out.box)
  have HBn : Hid (S2 kByte w6 bk rB gB) := HB.out.stay HZ.out.fr (HI.out.offs off_BI)
  have HWn : Hid (S1 kWrite w6 bk rW hW) := HW.out.stay HZ.out.fr (HI.out.offs off_WI)
  have HTn : Hid (S1 kTxn w6 bk rT hT) := HT.out.stay HZ.out.fr (HI.out.offs off_TI)
  have HIn : Hid (S2 kInt w6 bk rI gI) := HI.out.grown HZ.out
  have HTBn : Hid (Tab w6) := HTB.out.keep HZ.out.fr (fun hm => HG.out (inI _ hm))
  clear HF HX HTB HZ HB HI HW HT
  have HF := HFn
  have HX := HXn
  have HTB := HTBn
  have HB := HBn
  have HI := HIn
  have HW := HWn
  have HT := HTn
  clear HFn HXn HTBn HBn HIn HWn HTn
  go_wp2_with fail
  refine (growText_none bk w6 (HX.out.c 3 (by omega))).mono ?_
  rintro e _ ⟨rfl, rfl⟩
  go_wp2_with fail
  refine (growWrite_any bk rW hW w6 HW.out.bl HW.out.each HW.out.alone HW.out.fresh HTB.out (fun hm => HG.out (inW _ hm))).mono ?_
  rintro e w7 ⟨rfl, gW, HZ⟩
  have HFn : Hid (Fr (own4 rB rI rW rT hB hI hW hT) w w7) := HF.out.trans HZ.out.fr (fun x hx _ => hx) (fun x hx _ => inW x hx)
  have HXn : Hid (Bx w7 bk cs) := HX.out.keep HZ.out.fr ((HW.out.offs off_BW).notB HX.out.box)
  have HBn : Hid (S2 kByte w7 bk rB gB) := HB.out.stay HZ.out.fr (HW.out.offs off_BW)
  have HIn : Hid (S2 kInt w7 bk rI gI) := HI.out.stay HZ.out.fr (HW.out.offs off_IW)
  have HTn : Hid (S1 kTxn w7 bk rT hT) := HT.out.stay HZ.out.fr (HW.out.offs off_TW)
  have HWn : Hid (S2 kWrite w7 bk rW gW) := HW.out.grown HZ.out
  have HTBn : Hid (Tab w7) := HTB.out.keep HZ.out.fr (fun hm => HG.out (inW _ hm))
  clear HF HX HTB HZ HB HI HW HT
  have HF := HFn
  have HX := HXn
  have HTB := HTBn
  have HB := HBn
  have HI := HIn
  have HW := HWn
  have HT := HTn
  clear HFn HXn HTBn HBn HIn HWn HTn
  go_wp2_with fail
  refine (growEntry_none bk w7 (HX.out.c 5 (by omega))).mono ?_
  rintro e _ ⟨rfl, rfl⟩
  go_wp2_with fail
  refine (growVersion_none bk w7 (HX.out.c 6 (by omega))).mono ?_
  rintro e _ ⟨rfl, rfl⟩
  go_wp2_with fail
  refine (growTxn_any bk rT hT w7 HT.out.bl HT.out.each HT.out.alone HT.out.fresh).mono ?_
  rintro e w8 ⟨rfl, gT, HZ⟩
  have HFn : Hid (Fr (own4 rB rI rW rT hB hI hW hT) w w8) := HF.out.trans HZ.out.fr (fun x hx _ => hx) (fun x hx _ => inT x hx)
  have HXn : Hid (Bx w8 bk cs) := HX.out.keep HZ.out.fr ((HT.out.offs off_BT).notB HX.out.box)
  have HBn : Hid (S2 kByte w8 bk rB gB) := HB.out.stay HZ.out.fr (HT.out.offs off_BT)
  have HIn : Hid (S2 kInt w8 bk rI gI) := HI.out.stay HZ.out.fr (HT.out.offs off_IT)
  have HWn : Hid (S2 kWrite w8 bk rW gW) := HW.out.stay HZ.out.fr (HT.out.offs off_WT)
  have HTn : Hid (S2 kTxn w8 bk rT gT) := HT.out.grown HZ.out
  have HTBn : Hid (Tab w8) := HTB.out.keep HZ.out.fr (fun hm => HG.out (inT _ hm))
  clear HF HX HTB HZ HB HI HW HT
  have HF := HFn
  have HX := HXn
  have HTB := HTBn
  have HB := HBn
  have HI := HIn
  have HW := HWn
  have HT := HTn
  clear HFn HXn HTBn HBn HIn HWn HTn
  go_wp2_with fail
  refine (growHeld_none bk w8 (HX.out.c 8 (by omega))).mono ?_
  rintro e _ ⟨rfl, rfl⟩
  go_wp2_with fail
  refine (growHeldList_none bk w8 (HX.out.c 9 (by omega))).mono ?_
  rintro e _ ⟨rfl, rfl⟩
  go_wp2_with fail
  refine (growEvent_none bk w8 (HX.out.c 10 (by omega))).mono ?_
  rintro e _ ⟨rfl, rfl⟩
  go_wp2_with fail
  refine (growAnswer_none bk w8 (HX.out.c 11 (by omega))).mono ?_
  rintro e _ ⟨rfl, rfl⟩
  go_wp2_with fail
  refine (lookByte_any bk rB gB w8 HB.out.bl HB.out.each).mono ?_
  rintro e w9 ⟨rfl, HZ⟩
  have HFn : Hid (Fr (own4 rB rI rW rT hB hI hW hT) w w9) := HF.out.trans HZ (fun x hx _ => hx) (by simp)
  have HXn : Hid (Bx w9 bk cs) := HX.out.keep HZ ((Off.nil kInt _).notB HX.out.box)
  have HIn : Hid (S2 kInt w9 bk rI gI) := HI.out.stay HZ (Off.nil kInt _)
  have HWn : Hid (S2 kWrite w9 bk rW gW) := HW.out.stay HZ (Off.nil kWrite _)
  have HTn : Hid (S2 kTxn w9 bk rT gT) := HT.out.stay HZ (Off.nil kTxn _)
  have HBn : Hid (S2 kByte w9 bk rB gB) := HB.out.stay HZ (Off.nil _ _)
  have HTBn : Hid (Tab w9) := HTB.out.keep HZ (by simp)
  clear HF HX HTB HZ HB HI HW HT
  have HF := HFn
  have HX := HXn
  have HTB := HTBn
  have HB := HBn
  have HI := HIn
  have HW := HWn
  have HT := HTn
  clear HFn HXn HTBn HBn HIn HWn HTn
  go_wp2_with fail
  refine (lookInt_any bk rI gI w9 HI.out.bl HI.out.each).mono ?_
  rintro e w10 ⟨rfl, HZ⟩
  have HFn : Hid (Fr (own4 rB rI rW rT hB hI hW hT) w w10) := HF.out.trans HZ (fun x hx _ => hx) (by simp)
  have HXn : Hid (Bx w10 bk cs) := HX.out.keep HZ ((Off.nil kByte _).notB HX.out.box)
  have HBn : Hid (S2 kByte w10 bk rB gB) := HB.out.stay HZ (Off.nil kByte _)
  have HWn : Hid (S2 kWrite w10 bk rW gW) := HW.out.stay HZ (Off.nil kWrite _)
  have HTn : Hid (S2 kTxn w10 bk rT gT) := HT.out.stay HZ (Off.nil kTxn _)
  have HIn : Hid (S2 kInt w10 bk rI gI) := HI.out.stay HZ (Off.nil _ _)
  have HTBn : Hid (Tab w10) := HTB.out.keep HZ (by simp)
  clear HF HX HTB HZ HB HI HW HT
  have HF := HFn
  have HX := HXn
  have HTB := HTBn
  have HB := HBn
  have HI := HIn
  have HW := HWn
  have HT := HTn
  clear HFn HXn HTBn HBn HIn HWn HTn
  go_wp2_with fail
  refine (lookText_none bk w10 (HX.out.c 3 (by omega))).mono ?_
  rintro e _ ⟨rfl, rfl⟩
  go_wp2_with fail
  refine (lookWrite_any bk rW gW w10 HW.out.bl HW.out.each HTB.out).mono ?_
  rintro e w11 ⟨rfl, HZ⟩
  have HFn : Hid (Fr (own4 rB rI rW rT hB hI hW hT) w w11) := HF.out.trans HZ (fun x hx _ => hx) (by simp)
  have HXn : Hid (Bx w11 bk cs) := HX.out.keep HZ ((Off.nil kByte _).notB HX.out.box)
  have HBn : Hid (S2 kByte w11 bk rB gB) := HB.out.stay HZ (Off.nil kByte _)
  have HIn : Hid (S2 kInt w11 bk rI gI) := HI.out.stay HZ (Off.nil kInt _)
  have HTn : Hid (S2 kTxn w11 bk rT gT) := HT.out.stay HZ (Off.nil kTxn _)
  have HWn : Hid (S2 kWrite w11 bk rW gW) := HW.out.stay HZ (Off.nil _ _)
  have HTBn : Hid (Tab w11) := HTB.out.keep HZ (by simp)
  clear HF HX HTB HZ HB HI HW HT
  have HF := HFn
  have HX := HXn
  have HTB := HTBn
  have HB := HBn
  have HI := HIn
  have HW := HWn
  have HT := HTn
  clear HFn HXn HTBn HBn HIn HWn HTn
  go_wp2_with fail
  refine (lookEntry_none bk w11 (HX.out.c 5 (by omega))).mono ?_
  rintro e _ ⟨rfl, rfl⟩
  go_wp2_with fail
  refine (lookVersion_none bk w11 (HX.out.c 6 (by omega))).mono ?_
  rintro e _ ⟨rfl, rfl⟩
  go_wp2_with fail
  refine (lookTxn_any bk rT gT w11 HT.out.bl HT.out.each).mono ?_
  rintro e w12 ⟨rfl, HZ⟩
  have HFn : Hid (Fr (own4 rB rI rW rT hB hI hW hT) w w12) := HF.out.trans HZ (fun x hx _ => hx) (by simp)
  have HXn : Hid (Bx w12 bk cs) := HX.out.keep HZ ((Off.nil kByte _).notB HX.out.box)
  have HBn : Hid (S2 kByte w12 bk rB gB) := HB.out.stay HZ (Off.nil kByte _)
  have HIn : Hid (S2 kInt w12 bk rI gI) := HI.out.stay HZ (Off.nil kInt _)
  have HWn : Hid (S2 kWrite w12 bk rW gW) := HW.out.stay HZ (Off.nil kWrite _)
  have HTn : Hid (S2 kTxn w12 bk rT gT) := HT.out.stay HZ (Off.nil _ _)
  have HTBn : Hid (Tab w12) := HTB.out.keep HZ (by simp)
  clear HF HX HTB HZ HB HI HW HT
  have HF := HFn
  have HX := HXn
  have HTB := HTBn
  have HB := HBn
  have HI := HIn
  have HW := HWn
  have HT := HTn
  clear HFn HXn HTBn HBn HIn HWn HTn
  go_wp2_with fail
  refine (lookHeld_none bk w12 (HX.out.c 8 (by omega))).mono ?_
  rintro e _ ⟨rfl, rfl⟩
  go_wp2_with fail
  refine (lookHeldList_none bk w12 (HX.out.c 9 (by omega))).mono ?_
  rintro e _ ⟨rfl, rfl⟩
  go_wp2_with fail
  refine (lookEvent_none bk w12 (HX.out.c 10 (by omega))).mono ?_
  rintro e _ ⟨rfl, rfl⟩
  go_wp2_with fail
  refine (lookAnswer_none bk w12 (HX.out.c 11 (by omega))).mono ?_
  rintro e _ ⟨rfl, rfl⟩
  go_wp2_with fail
  go_ret
  exact ⟨rfl, HF.out⟩
end Go.Proofs.YtaefninikmaiiaaGreatDoor.Bq
/- What the laws of logs lean on: sizes that bound all parts, twins as rows of which a Book may be told, the Book's birth. Conditions as each lemma names them. -/
namespace Go.Proofs.YtaefninikmaiiaaGreatDoor
open Go.ChangeShapes Go.WideShapes Go.ChangeAt Go.RowKit Go.Lib
set_option linter.unusedVariables false
set_option linter.unusedSimpArgs false

/-- Twins as a Book sees them. -/
def dts (us : List Tm) : List Bq.Dt := us.map fun u => (u.n, .slice u.ao u.L u.cap)
theorem dtC_dts (us : List Tm) : Bq.dtC (dts us) = tmsC us := by
  induction us with
  | nil => rfl
  | cons u r ih =>
    have e : Bq.dtC (dts (u :: r)) = .int .i64 u.n :: .slice u.ao u.L u.cap :: Bq.dtC (dts r) := rfl
    rw [e, ih]
    rfl
theorem dts_get {us : List Tm} {i : Nat} {d : Bq.Dt} (h : (dts us)[i]? = some d) : ∃ u, us[i]? = some u ∧ d = (u.n, .slice u.ao u.L u.cap) := by
  unfold dts at h
  rw [List.getElem?_map] at h
  cases hu : us[i]? with
  | none => simp [hu] at h
  | some u => simp [hu] at h; exact ⟨u, rfl, h.symm⟩
theorem dts_twins {ts : List Tm} {ks : List Nat} {i : Nat} {d : Bq.Dt} (h : (dts (twTs ts ks))[i]? = some d) : ∃ t k, ts[i]? = some t ∧ ks[i]? = some k ∧ d = (t.n, .slice (some ⟨k, 0, none⟩) t.L (t.L + 1)) := by
  obtain ⟨u, hu, rfl⟩ := dts_get h
  obtain ⟨t, k, ht, hk, rfl⟩ := twTs_get hu
  exact ⟨t, k, ht, hk, rfl⟩
theorem twins_dts {w0 w w' : World} {ts : List Tm} {ks : List Nat} {b L : Nat} {ao : Option Addr} (h : TRs w0 ao ts) (hL : L = ts.length) (hLs : L < 1048577) (hfew : Few ts) (hT : Twd w w' ts ks) (hb : w'.heap[b]? = some (.cells (tmsC (twTs ts ks ++ [spT])).toArray 63 (0, 0))) : Bq.Dts w' (some ⟨b, 0, none⟩) L (L + 1) (dts (twTs ts ks)) := by
  have hl := twTs_length ts ks hT.len
  refine ⟨?_, by simp [dts, hl, hL], hLs, ?_, ?_⟩
  · rw [dtC_dts]
    refine ⟨by rw [tmsC_length, hl, hL], .inr ⟨b, L + 1, (tmsC (twTs ts ks ++ [spT])).toArray, rfl, Nat.zero_le _, hb, by omega, by simp only [maxLen]; omega, by simp [tmsC_length, hl]; omega, ?_⟩⟩
    simp only [tmsC_append]
    rw [List.take_append_of_le_length (by rw [tmsC_length]; omega), List.take_of_length_le (by rw [tmsC_length]; omega)]
  · intro i d hd
    obtain ⟨t, k, ht, hk, rfl⟩ := dts_twins hd
    have hm := List.mem_of_getElem? ht
    have hat := h.each t hm
    have hlw := hat.len
    have hfw := hfew t hm
    refine ⟨t.L, wtsC t.ws, ?_, by omega⟩
    refine ⟨by rw [wtsC_length, hlw], .inr ⟨k, t.L + 1, (wtsC (t.ws ++ [spW])).toArray, rfl, Nat.zero_le _, hT.row i t k ht hk, by omega, by simp only [maxLen]; omega, by simp [wtsC_length]; omega, ?_⟩⟩
    simp only [wtsC_append]
    rw [List.take_append_of_le_length (by rw [wtsC_length]; omega), List.take_of_length_le (by rw [wtsC_length]; omega)]
  · intro i j a c ha hc hij k hk1 hk2
    obtain ⟨t, k', ht, hk', rfl⟩ := dts_twins ha
    obtain ⟨u, k'', hu, hk'', rfl⟩ := dts_twins hc
    simp [Value.ownBlock] at hk1 hk2
    subst hk1 hk2
    exact hij ((List.getElem?_inj (List.getElem?_eq_some_iff.1 hk').1 hT.apart).1 (hk'.trans hk''.symm))
/-- Blocks of twins in a Book. -/
theorem lbs_twins {T : Nat} {ts : List Tm} {ks : List Nat} {k : Nat} (h : k ∈ Bq.lbs (Bq.held T (dts (twTs ts ks)))) : k ∈ ks := by
  obtain ⟨i, d, hd, hk⟩ := Bq.mem_held h
  obtain ⟨t, k', ht, hk', rfl⟩ := dts_twins hd
  simp [Value.ownBlock] at hk
  subst hk
  exact List.mem_of_getElem? hk'
namespace Bq
/-- A Book that was told nothing. -/
def newBk : Array Value := #[.int .i64 0, .slice none 0 0, .slice none 0 0, .slice none 0 0, .slice none 0 0, .slice none 0 0, .slice none 0 0, .slice none 0 0, .slice none 0 0, .slice none 0 0, .slice none 0 0, .slice none 0 0]
theorem S0.none {K : Kd} {w : World} {bk : Nat} (h : w.heap[bk]? = some (.cells newBk 45 (0, 0))) (hc : newBk[K.col]? = some (.slice none 0 0)) : S0 K w bk (.slice none 0 0) [] :=
  ⟨⟨⟨newBk, h, hc⟩, World.ownsRow_nil _ _ _ _, by simp, by simp⟩, by simp, fun i j a b ha => by simp at ha, fun j h hh => by simp at hh⟩
theorem B4.new {w0 w : World} {bk : Nat} (h : w.heap[bk]? = some (.cells newBk 45 (0, 0))) (hb : w0.heap.size ≤ bk) : B4 w0 w bk 0 (.slice none 0 0) (.slice none 0 0) (.slice none 0 0) (.slice none 0 0) [] [] [] [] := by
  refine ⟨⟨newBk, ⟨h, rfl, ?_⟩, rfl⟩, S0.none h rfl, S0.none h rfl, S0.none h rfl, S0.none h rfl, hb, ?_, ?_, ?_, ?_, by simp, by simp, by simp, by simp⟩
  · rintro c (rfl | rfl | rfl | rfl | rfl | rfl | rfl) <;> rfl
  all_goals (intro k hk; simp [Value.ownBlock] at hk)
/-- All that a Book's Apart writes was made since w0. -/
theorem B4.own {w0 w : World} {bk T : Nat} {rB rI rW rT : Value} {hB hI hW hT : List HB} (h : B4 w0 w bk T rB rI rW rT hB hI hW hT) (lB : ∀ k ∈ lbs hB, w0.heap.size ≤ k) (lI : ∀ k ∈ lbs hI, w0.heap.size ≤ k) (lW : ∀ k ∈ lbs hW, w0.heap.size ≤ k) (lT : ∀ k ∈ lbs hT, w0.heap.size ≤ k) : ∀ k ∈ own4 rB rI rW rT hB hI hW hT, w0.heap.size ≤ k := by
  intro k hk
  simp only [own4, List.mem_append, Option.mem_toList] at hk
  rcases hk with (hk | hk) | (hk | hk) | (hk | hk) | (hk | hk)
  · exact h.rBn k hk
  · exact lB k hk
  · exact h.rIn k hk
  · exact lI k hk
  · exact h.rWn k hk
  · exact lW k hk
  · exact h.rTn k hk
  · exact lT k hk
/-- Apart says true, and writes nothing that was there at w0. -/
theorem B4.apart {w0 w : World} {bk T : Nat} {rB rI rW rT : Value} {hB hI hW hT : List HB} (h : B4 w0 w bk T rB rI rW rT hB hI hW hT) (lB : ∀ k ∈ lbs hB, w0.heap.size ≤ k) (lI : ∀ k ∈ lbs hI, w0.heap.size ≤ k) (lW : ∀ k ∈ lbs hW, w0.heap.size ≤ k) (lT : ∀ k ∈ lbs hT, w0.heap.size ≤ k) (ht0 : Tab w0) (hf : Fr [] w0 w) :
    Calls Tryz.prog 17 #[.pointer (some ⟨bk, 0, none⟩)] w fun e w' => e = .returned (.bool true) ∧ Fr [] w0 w' := by
  obtain ⟨cs, hX, _⟩ := h.box
  have ho := h.own lB lI lW lT
  refine (apart4_any bk cs rB rI rW rT hB hI hW hT w hX h.sB h.sI h.sW h.sT (ht0.keep hf (by simp)) (fun hm => by have := ho _ hm; have := ht0.lt; omega)).mono ?_
  rintro e w' ⟨rfl, hF⟩
  exact ⟨rfl, hf.on hF ho⟩
end Bq
end Go.Proofs.YtaefninikmaiiaaGreatDoor
/- The two sources side by side with a Book: what each call leaves alone. Asked as a row of its own. Conditions as each names them. -/
namespace Go.Proofs.YtaefninikmaiiaaGreatDoor
open Go.ChangeShapes Go.WideShapes Go.ChangeAt Go.RowKit Go.Lib
set_option linter.unusedVariables false
set_option linter.unusedSimpArgs false

theorem Tryz.undIsW : Tryz.prog.underlying 54 = some (.slice 3) := by kernel_rfl
/-- The slice at ao reads as the numbers ns. -/
structure IRs (w : World) (ao : Option Addr) (ns : List Int) : Prop where
  lies : 0 < ns.length → ∃ b off, ao = some ⟨b, off, none⟩ ∧ b < w.heap.size ∧ ∀ i, i < ns.length → w.cell? ⟨b, off + i, none⟩ = some (.int .i64 (ns.getD i 0))
  few : ns.length ≤ 17592186044416
theorem IRs.keepS {S : List Nat} {w w' : World} {ao : Option Addr} {ns : List Int} (h : IRs w ao ns) (hf : Fr S w w') (hn : 0 < ns.length → ∀ a, ao = some a → a.block ∉ S) : IRs w' ao ns := by
  refine ⟨fun h0 => ?_, h.few⟩
  obtain ⟨b, off, e, hb, hc⟩ := h.lies h0
  exact ⟨b, off, e, Nat.lt_of_lt_of_le hb hf.size, fun i hi => (World.cell?_of_block (hf.block b hb (hn h0 _ e))).trans (hc i hi)⟩
theorem IRs.keep {w w' : World} {ao : Option Addr} {ns : List Int} (h : IRs w ao ns) (hf : Fr [] w w') : IRs w' ao ns := h.keepS hf (by simp)
theorem IRs.of_open {w : World} {a : Addr} {len cap : Nat} {zs : List Int} (hl : len ≤ cap) (hz : zs.length = cap) (hc : ∀ i, i < zs.length → w.cell? (a.add i) = some (.int .i64 (zs.getD i 0))) (hb : len ≤ 17592186044416) : IRs w (some a) (zs.take len) := by
  refine ⟨fun h0 => ?_, by simp; omega⟩
  rw [List.length_take] at h0
  obtain ⟨b, off, spot⟩ := a
  have hspot : spot = none := by simpa [Addr.add] using World.cell?_spot (hc 0 (by omega))
  subst hspot
  refine ⟨b, off, rfl, ?_, fun j hj => ?_⟩
  · have := World.block_lt_of_cell? w _ (hc 0 (by omega))
    simpa [Addr.add] using this
  · rw [List.length_take] at hj
    have h1 := hc j (by omega)
    rw [show (⟨b, off, none⟩ : Addr).add j = ⟨b, off + j, none⟩ from by simp [Addr.add]] at h1
    rw [h1]
    congr 2
    simp only [List.getD]
    rw [List.getElem?_take_of_lt (by omega)]
theorem beyond2_any (k N M : Nat) (w : World) (hN : N ≤ 9007199254740992) (hM : M ≤ 9007199254740992) (h0 : w.cell? ⟨k, 0, none⟩ = some (.int .i64 (N : Int))) (h1 : w.cell? ⟨k, 1, none⟩ = some (.int .i64 (M : Int))) :
    Calls Tryz.prog 7 #[.slice (some ⟨k, 0, none⟩) 2 2] w fun e w' => e = .returned (.bool (decide (1048576 < N + M))) ∧ w = w' := by
  by_cases h : 1048576 < N
  · have h' : (1048576 : Int) < N := by omega
    have E : Hid (decide (1048576 < N + M) = true) := by show decide _ = true; simp; omega
    go_enter Tryz.func7, Tryz.ntmps7
    go_wp2_with fail
    refine wp_loop_rounds 1 ?_
    rw [rounds_succ]
    go_wp2
    go_ret
    rw [E.out]
    exact ⟨rfl, rfl⟩
  · have h' : (N : Int) ≤ 1048576 := by omega
    by_cases h3 : 1048576 < N + M
    · have h3' : (1048576 : Int) < (N : Int) + M := by omega
      have E : Hid (decide (1048576 < N + M) = true) := by show decide _ = true; simp; omega
      go_enter Tryz.func7, Tryz.ntmps7
      go_wp2_with fail
      refine wp_loop_rounds 2 ?_
      rw [rounds_succ]
      go_wp2
      rw [rounds_succ]
      go_wp2
      go_ret
      rw [E.out]
      exact ⟨rfl, rfl⟩
    · have h3' : (N : Int) + M ≤ 1048576 := by omega
      have E : Hid (decide (1048576 < N + M) = false) := by show decide _ = false; simp; omega
      go_enter Tryz.func7, Tryz.ntmps7
      go_wp2_with fail
      refine wp_loop_rounds 3 ?_
      rw [rounds_succ]
      go_wp2
      rw [rounds_succ]
      go_wp2
      rw [rounds_succ]
      go_wp2
      go_ret
      rw [E.out]
      exact ⟨rfl, rfl⟩
set_option maxHeartbeats 4000000 in
set_option maxRecDepth 100000 in
theorem asn_any {w0 w : World} {g lb L : Nat} {ts : List Tm} {v : Value} {qs : List Nat} (h : Src w0 w g lb L ts v qs) (hq : qs.length < 2 ^ 40) (N : Nat) (hN : N = qs.length) :
    Calls Tryz.prog 32 #[.pointer (some ⟨g, 0, none⟩)] w fun e w' => ∃ bo, e = .returned (.slice bo N N) ∧ w'.ownsRow w.heap.size 3 1 (.slice bo N N) N (ints qs) ∧ Fr [] w w' := by
  obtain ⟨iI, hiI, hzI, hsI, hbI⟩ := info_parts Tryz.infoI
  obtain ⟨ao, cap, hv⟩ := own_shape w h.row
  have HL : Hid (N = qs.length) := hN
  rw [← hN] at hv hq
  subst hv
  clear hN
  have c2 := h.c2
  have HI : Hid (Is w ao qs) := Is.of_own (n := qs.length) (by have := h.row; rw [HL.out] at this; exact this) rfl
  by_cases h0 : 0 < N
  · obtain ⟨b, off, e1, _⟩ := HI.out.lies (by have := HL.out; omega)
    subst e1
    have hn0 : ((N : Int) == 0) = false := by rw [beq_eq_false_iff_ne]; omega
    go_enter Tryz.func32, Tryz.ntmps32
    go_wp2_with fail
    refine (sThere_any h).mono ?_
    rintro e w1 ⟨rfl, rfl⟩
    go_wp2_with (at_make; refine wpList_make_full _ rfl (.tmp 19) (.tmp 19) 54 rfl 0 3 iI (.int .i64 0) 1 Tryz.undIs hiI hzI hsI .i64 .i64 N N N rfl rfl rfl rfl ?b2 ?b3 ?b4 ?_)
    case b2 => rw [hbI]; omega
    case b3 => unfold maxLen; omega
    case b4 => exact Nat.zero_le _
    intro w1 hown hgrow
    obtain ⟨cur, hcur, hcs⟩ := own_lit hown
    have hF1 : Fr [] w w1 := Fr.grown (S := []) hgrow (by simp)
    have hcl : (ints qs).length = N := by rw [ints_length, HL.out]
    have hS1 := h.keep hF1
    have c2' := hS1.c2
    have hcp := run_copy_row (P := Tryz.prog) w1 54 54 3 3 w.heap.size 0 N N ⟨b, off, none⟩ N cap cur 3 (ints qs) Tryz.undIs Tryz.sizeI hcur (by rw [hcl]; exact (Nat.min_self N).symm) (HI.out.keep hF1).src (by omega) (ints_oneCell qs)
    rw [hcl] at hcp
    have hcur2 : cur.toList.drop (0 + N) = [] := by simp [hcs]
    rw [hcur2, List.take_zero, List.append_nil, List.nil_append] at hcp
    have HF : Hid ((w1.setRow w.heap.size (ints qs).toArray).ownsRow w.heap.size 3 1 (.slice (some ⟨w.heap.size, 0, none⟩) N N) N (ints qs) ∧ Fr [] w (w1.setRow w.heap.size (ints qs).toArray)) := ⟨⟨by rw [hcl]; omega, .inr ⟨w.heap.size, N, _, rfl, Nat.le_refl _, setRow_heap w1 _ _ _ _ _ hcur, Nat.le_refl _, by unfold maxLen; omega, by simp [hcl], by simp only [Nat.mul_one]; rw [List.take_of_length_le (by omega)]⟩⟩, hF1.on (Fr.setRow w1 _ _) (by simp)⟩
    clear hcur hown hgrow hF1 hS1 hcl hcs hcur2 h c2
    go_wp2
    go_ret
    exact ⟨_, rfl, HF.out.1, HF.out.2⟩
  · obtain rfl : N = 0 := by omega
    go_enter Tryz.func32, Tryz.ntmps32
    go_wp2_with fail
    refine (sThere_any h).mono ?_
    rintro e w1 ⟨rfl, rfl⟩
    go_wp2
    go_ret
    exact ⟨none, rfl, by
      have e0 : qs = [] := List.eq_nil_of_length_eq_zero (by have := HL.out; omega)
      subst e0
      exact World.ownsRow_nil _ _ _ _, Fr.refl _ _⟩

theorem cells_type {w : World} {k : Nat} {c c' : Array Value} {t t' : TypeId} (h : w.heap[k]? = some (.cells c t (0, 0))) (h' : w.heap[k]? = some (.cells c' t' (0, 0))) : t = t' := by
  rw [h] at h'
  simp only [Option.some.injEq, Obj.cells.injEq] at h'
  exact h'.2.1
section
variable {w0 wk w w' : World} {S : List Nat}
theorem Src.keepW {g lb L : Nat} {ts : List Tm} {v v0 : Value} {qs q0 : List Nat} (ho : Src w0 wk g lb L ts v0 q0) (h : Src w0 w g lb L ts v qs) (hf : Fr S w w') (hS : ∀ k ∈ S, ∀ cs t, w.heap[k]? = some (.cells cs t (0, 0)) → (t = 3 → v.ownBlock ≠ some k) ∧ t ≠ 72 ∧ (t = 63 ∨ t = 124 → k < w0.heap.size ∨ wk.heap.size ≤ k)) : Src w0 w' g lb L ts v qs := by
  refine ⟨hf.keep h.box (fun hm => (hS g hm _ _ h.box).2.1 rfl), hf.keep h.log (fun hm => ?_), h.len, h.few, fun t ht => ?_, owns_keep h.row hf (fun k hk hm => ?_), h.gn, h.ln, h.rn⟩
  · have := (hS lb hm _ _ h.log).2.2 (Or.inl rfl)
    have := h.ln
    have := lt_of_block ho.log
    omega
  · obtain ⟨k, e1, e2, e3, e4, e5, e6⟩ := h.each t ht
    obtain ⟨k', f1, _, _, f4, f5, _⟩ := ho.each t ht
    rw [e1] at f1
    cases f1
    refine ⟨k, e1, e2, e3, e4, hf.keep e5 (fun hm => ?_), e6⟩
    have := (hS k hm _ _ e5).2.2 (Or.inr rfl)
    have := lt_of_block f5
    omega
  · obtain ⟨cur, hc⟩ := h.rowNe hk
    exact (hS k hm _ _ hc).1 rfl hk
theorem YSrc.keepW {g L lc : Nat} {lo : Option Addr} {us : List Tm} {v v0 : Value} {qs q0 : List Nat} (ho : YSrc w0 wk g L lo lc us v0 q0) (h : YSrc w0 w g L lo lc us v qs) (hf : Fr S w w') (hS : ∀ k ∈ S, ∀ cs t, w.heap[k]? = some (.cells cs t (0, 0)) → (t = 3 → v.ownBlock ≠ some k) ∧ t ≠ 109 ∧ (t = 63 ∨ t = 124 → k < w0.heap.size ∨ wk.heap.size ≤ k)) : YSrc w0 w' g L lo lc us v qs := by
  have hr : ∀ k, v.ownBlock = some k → k ∉ S := fun k hk hm => by
    obtain ⟨cur, hc⟩ := h.rowAt hk
    exact (hS k hm _ _ hc).1 rfl hk
  refine ⟨hf.keep h.box (fun hm => (hS g hm _ _ h.box).2.1 rfl), ⟨h.log.len, owns_keepB h.log.row hf (fun k hk hm => ?_), fun u hu => (h.log.each u hu).keepS hf (fun k hk hm => ?_)⟩, h.ok, h.few, owns_keep h.row hf hr, h.gn, h.rn⟩
  · obtain ⟨hb, c, e⟩ := owns_cells h.log.row hk
    obtain ⟨_, c', e'⟩ := owns_cells ho.log.row hk
    have := lt_of_block e'
    have := (hS k hm _ _ e).2.2 (Or.inl rfl)
    omega
  · obtain ⟨hb, c, e⟩ := owns_cells (h.log.each u hu).row hk
    obtain ⟨_, c', e'⟩ := owns_cells (ho.log.each u hu).row hk
    have := lt_of_block e'
    have := (hS k hm _ _ e).2.2 (Or.inr rfl)
    omega
end
/-- The two sources and the Book k of the law, side by side. -/
structure Pr6 (wa wb wk w : World) (g lb g2 L lc : Nat) (lo : Option Addr) (ds us : List Tm) (v v2 : Value) (qs ps : List Nat) (bk T : Nat) (rI rW : Value) (hI hW : List Bq.HB) : Prop where
  s : Src wa w g lb L ds v qs
  y : YSrc wb w g2 L lo lc us v2 ps
  b : Bq.B4 wk w bk T (.slice none 0 0) rI rW (.slice none 0 0) [] hI hW []
  vv : ∀ k, v.ownBlock = some k → v2.ownBlock ≠ some k
  vI : ∀ k ∈ Bq.lbs hI, v.ownBlock ≠ some k ∧ v2.ownBlock ≠ some k ∧ wk.heap.size ≤ k
  vW : ∀ k ∈ Bq.lbs hW, wk.heap.size ≤ k
section
variable {wa wb wk w w' : World} {g lb g2 L lc : Nat} {lo : Option Addr} {ds us : List Tm} {v v2 v' : Value} {qs ps qs' : List Nat} {bk T : Nat} {rI rW : Value} {hI hW : List Bq.HB}
theorem lbsI_type {w0 : World} {rB rT : Value} {hB hT : List Bq.HB} (h : Bq.B4 w0 w bk T rB rI rW rT hB hI hW hT) {k : Nat} (hk : k ∈ Bq.lbs hI) : ∃ cs, w.heap[k]? = some (.cells cs 3 (0, 0)) := by
  obtain ⟨b, hb, hbk⟩ := Bq.mem_lbs.1 hk
  obtain ⟨j, hj⟩ := List.getElem?_of_mem hb
  exact (h.sI.each j b hj).type k hbk
theorem lbsW_type {w0 : World} {rB rT : Value} {hB hT : List Bq.HB} (h : Bq.B4 w0 w bk T rB rI rW rT hB hI hW hT) {k : Nat} (hk : k ∈ Bq.lbs hW) : ∃ cs, w.heap[k]? = some (.cells cs 124 (0, 0)) := by
  obtain ⟨b, hb, hbk⟩ := Bq.mem_lbs.1 hk
  obtain ⟨j, hj⟩ := List.getElem?_of_mem hb
  exact (h.sW.each j b hj).type k hbk
/-- What a source writes is none of the Book's. -/
theorem b4_keepG {w0 : World} {S : List Nat} (h : Bq.B4 w0 w bk T (.slice none 0 0) rI rW (.slice none 0 0) [] hI hW []) (hf : Fr S w w') (hS : ∀ k ∈ S, ∃ cs t, w.heap[k]? = some (.cells cs t (0, 0)) ∧ (t = 72 ∨ t = 109 ∨ (t = 3 ∧ k ∉ Bq.lbs hI))) : Bq.B4 w0 w' bk T (.slice none 0 0) rI rW (.slice none 0 0) [] hI hW [] := by
  have hoff : ∀ K : Bq.Kd, K.tH ≠ 72 → K.tH ≠ 109 → K.tH ≠ 3 → K.tE ≠ 72 → K.tE ≠ 109 → K.tE ≠ 3 → Bq.Off K S w := by
    intro K a1 a2 a3 a4 a5 a6 k hk
    obtain ⟨cs, t, hc, ht⟩ := hS k hk
    refine ⟨cs, t, hc, ?_⟩
    rcases ht with rfl | rfl | ⟨rfl, _⟩
    · exact ⟨by decide, Ne.symm a1, Ne.symm a4⟩
    · exact ⟨by decide, Ne.symm a2, Ne.symm a5⟩
    · exact ⟨by decide, Ne.symm a3, Ne.symm a6⟩
  have hbk : bk ∉ S := fun hm => by
    obtain ⟨cs, t, hc, ht⟩ := hS bk hm
    obtain ⟨cs', h1, _⟩ := h.box
    have := cells_type hc h1.box
    subst this
    rcases ht with e | e | ⟨e, _⟩ <;> exact absurd e (by decide)
  obtain ⟨cs, hX, hc⟩ := h.box
  refine ⟨⟨cs, hX.keep hf hbk, hc⟩, h.sB.stay hf (hoff _ (by decide) (by decide) (by decide) (by decide) (by decide) (by decide)), ⟨h.sI.bl.keep hf hbk (fun k hk hm => ?_), fun j b hb => (h.sI.each j b hb).keep hf (fun k hk hm => ?_), h.sI.alone, h.sI.fresh⟩, h.sW.stay hf (hoff _ (by decide) (by decide) (by decide) (by decide) (by decide) (by decide)), h.sT.stay hf (hoff _ (by decide) (by decide) (by decide) (by decide) (by decide) (by decide)), h.bn, h.rBn, h.rIn, h.rWn, h.rTn, h.lB, h.lI, h.lW, h.lT⟩
  · obtain ⟨cs1, h1⟩ := Bq.own_type h.sI.bl.row k hk
    obtain ⟨cs2, t, h2, ht⟩ := hS k hm
    have := cells_type h2 h1
    subst this
    rcases ht with e | e | ⟨e, _⟩ <;> exact absurd e (by decide)
  · obtain ⟨cs2, t, h2, ht⟩ := hS k hm
    obtain ⟨cs1, h1⟩ := (h.sI.each j b hb).type k hk
    have := cells_type h2 h1
    subst this
    rcases ht with e | e | ⟨_, e⟩
    · exact absurd e (by decide)
    · exact absurd e (by decide)
    · exact e (Bq.mem_lbs.2 ⟨b, List.mem_of_getElem? hb, hk⟩)
theorem Pr6.keep (h : Pr6 wa wb wk w g lb g2 L lc lo ds us v v2 qs ps bk T rI rW hI hW) (hf : Fr [] w w') : Pr6 wa wb wk w' g lb g2 L lc lo ds us v v2 qs ps bk T rI rW hI hW :=
  ⟨h.s.keep hf, h.y.keep hf, h.b.keep hf, h.vv, h.vI, h.vW⟩
/-- Behind the program's Get. -/
theorem Pr6.get1 (h : Pr6 wa wb wk w g lb g2 L lc lo ds us v v2 qs ps bk T rI rW hI hW) (hs : Src wa w' g lb L ds v' qs') (hf : Fr (Src.own g v) w w') (hm : Moved w.heap.size v v') : Pr6 wa wb wk w' g lb g2 L lc lo ds us v' v2 qs' ps bk T rI rW hI hW := by
  have ht : ∀ k ∈ Src.own g v, ∃ cs t, w.heap[k]? = some (.cells cs t (0, 0)) ∧ (t = 72 ∨ (t = 3 ∧ v.ownBlock = some k)) := by
    intro k hk
    simp only [Src.own, List.mem_cons, Option.mem_toList] at hk
    rcases hk with rfl | hk
    · exact ⟨_, _, h.s.box, Or.inl rfl⟩
    · obtain ⟨cur, hc⟩ := h.s.rowNe hk
      exact ⟨_, _, hc, Or.inr ⟨rfl, hk⟩⟩
  refine ⟨hs, h.y.keepW h.y hf (fun k hk cs t hc => ?_), b4_keepG h.b hf (fun k hk => ?_), fun k hk hk2 => ?_, fun k hk => ?_, h.vW⟩
  · obtain ⟨cs', t', hc', h1⟩ := ht k hk
    have := cells_type hc hc'
    subst this
    rcases h1 with rfl | ⟨rfl, h1⟩
    · exact ⟨fun e => absurd e (by decide), by decide, fun e => by rcases e with e | e <;> exact absurd e (by decide)⟩
    · exact ⟨fun _ => h.vv k h1, by decide, fun e => by rcases e with e | e <;> exact absurd e (by decide)⟩
  · obtain ⟨cs', t', hc', h1⟩ := ht k hk
    refine ⟨cs', t', hc', ?_⟩
    rcases h1 with rfl | ⟨rfl, h1⟩
    · exact Or.inl rfl
    · exact Or.inr (Or.inr ⟨rfl, fun hh => (h.vI k hh).1 h1⟩)
  · rcases hm with hm | ⟨y, h1, h2⟩
    · exact h.vv k (hm ▸ hk) hk2
    · rw [h1] at hk
      cases hk
      obtain ⟨cur, hc⟩ := h.y.rowAt hk2
      have := lt_of_block hc
      omega
  · refine ⟨fun hv => ?_, (h.vI k hk).2⟩
    rcases hm with hm | ⟨y, h1, h2⟩
    · exact (h.vI k hk).1 (hm ▸ hv)
    · rw [h1] at hv
      cases hv
      obtain ⟨cs, hc⟩ := lbsI_type h.b hk
      have := lt_of_block hc
      omega
/-- Behind the document's Get. -/
theorem Pr6.get2 (h : Pr6 wa wb wk w g lb g2 L lc lo ds us v v2 qs ps bk T rI rW hI hW) (hs : YSrc wb w' g2 L lo lc us v' qs') (hf : Fr (YSrc.own g2 v2) w w') (hm : Moved w.heap.size v2 v') : Pr6 wa wb wk w' g lb g2 L lc lo ds us v v' qs qs' bk T rI rW hI hW := by
  have ht : ∀ k ∈ YSrc.own g2 v2, ∃ cs t, w.heap[k]? = some (.cells cs t (0, 0)) ∧ (t = 109 ∨ (t = 3 ∧ v2.ownBlock = some k)) := by
    intro k hk
    simp only [YSrc.own, List.mem_cons, Option.mem_toList] at hk
    rcases hk with rfl | hk
    · exact ⟨_, _, h.y.box, Or.inl rfl⟩
    · obtain ⟨cur, hc⟩ := h.y.rowAt hk
      exact ⟨_, _, hc, Or.inr ⟨rfl, hk⟩⟩
  refine ⟨h.s.keepW h.s hf (fun k hk cs t hc => ?_), hs, b4_keepG h.b hf (fun k hk => ?_), fun k hk hk2 => ?_, fun k hk => ?_, h.vW⟩
  · obtain ⟨cs', t', hc', h1⟩ := ht k hk
    have := cells_type hc hc'
    subst this
    rcases h1 with rfl | ⟨rfl, h1⟩
    · exact ⟨fun e => absurd e (by decide), by decide, fun e => by rcases e with e | e <;> exact absurd e (by decide)⟩
    · exact ⟨fun _ hv => h.vv k hv h1, by decide, fun e => by rcases e with e | e <;> exact absurd e (by decide)⟩
  · obtain ⟨cs', t', hc', h1⟩ := ht k hk
    refine ⟨cs', t', hc', ?_⟩
    rcases h1 with rfl | ⟨rfl, h1⟩
    · exact Or.inr (Or.inl rfl)
    · exact Or.inr (Or.inr ⟨rfl, fun hh => (h.vI k hh).2.1 h1⟩)
  · rcases hm with hm | ⟨y, h1, h2⟩
    · exact h.vv k hk (hm ▸ hk2)
    · rw [h1] at hk2
      cases hk2
      obtain ⟨cur, hc⟩ := h.s.rowNe hk
      have := lt_of_block hc
      omega
  · refine ⟨(h.vI k hk).1, fun hv => ?_, (h.vI k hk).2.2⟩
    rcases hm with hm | ⟨y, h1, h2⟩
    · exact (h.vI k hk).2.1 (hm ▸ hv)
    · rw [h1] at hv
      cases hv
      obtain ⟨cs, hc⟩ := lbsI_type h.b hk
      have := lt_of_block hc
      omega
/-- Behind what a Book is told: its own blocks alone were written. -/
theorem Pr6.told {T' : Nat} {rI' rW' : Value} {hI' hW' : List Bq.HB} {S : List Nat} (h : Pr6 wa wb wk w g lb g2 L lc lo ds us v v2 qs ps bk T rI rW hI hW) (hb : Bq.B4 wk w' bk T' (.slice none 0 0) rI' rW' (.slice none 0 0) [] hI' hW' []) (hf : Fr S w w') (hS : ∀ k ∈ S, k = bk ∨ rI.ownBlock = some k ∨ rW.ownBlock = some k)
    (hI2 : ∀ k ∈ Bq.lbs hI', k ∈ Bq.lbs hI ∨ (wk.heap.size ≤ k ∧ v.ownBlock ≠ some k ∧ v2.ownBlock ≠ some k)) (hW2 : ∀ k ∈ Bq.lbs hW', k ∈ Bq.lbs hW ∨ wk.heap.size ≤ k) : Pr6 wa wb wk w' g lb g2 L lc lo ds us v v2 qs ps bk T' rI' rW' hI' hW' := by
  have ht : ∀ k ∈ S, ∀ cs t, w.heap[k]? = some (.cells cs t (0, 0)) → t ≠ 3 ∧ t ≠ 72 ∧ t ≠ 109 ∧ t ≠ 63 ∧ t ≠ 124 := by
    intro k hk cs t hc
    rcases hS k hk with rfl | hk | hk
    · obtain ⟨cs', h1, _⟩ := h.b.box
      have := cells_type hc h1.box
      subst this
      exact ⟨by decide, by decide, by decide, by decide, by decide⟩
    · obtain ⟨cs1, h1⟩ := Bq.own_type h.b.sI.bl.row k hk
      have := cells_type hc h1
      subst this
      exact ⟨by decide, by decide, by decide, by decide, by decide⟩
    · obtain ⟨cs1, h1⟩ := Bq.own_type h.b.sW.bl.row k hk
      have := cells_type hc h1
      subst this
      exact ⟨by decide, by decide, by decide, by decide, by decide⟩
  refine ⟨h.s.keepW h.s hf (fun k hk cs t hc => ?_), h.y.keepW h.y hf (fun k hk cs t hc => ?_), hb, h.vv, fun k hk => ?_, fun k hk => ?_⟩
  · obtain ⟨a, b, c, d, e⟩ := ht k hk cs t hc
    exact ⟨fun x => absurd x a, b, fun x => by rcases x with x | x; exact absurd x d; exact absurd x e⟩
  · obtain ⟨a, b, c, d, e⟩ := ht k hk cs t hc
    exact ⟨fun x => absurd x a, c, fun x => by rcases x with x | x; exact absurd x d; exact absurd x e⟩
  · rcases hI2 k hk with h1 | ⟨h1, h2, h3⟩
    · exact h.vI k h1
    · exact ⟨h2, h3, h1⟩
  · rcases hW2 k hk with h1 | h1
    · exact h.vW k h1
    · exact h1
/-- Apart says true, and leaves both sources as they were. -/
theorem Pr6.apart {v0 v20 : Value} {q0 p0 : List Nat} (hs0 : Src wa wk g lb L ds v0 q0) (hy0 : YSrc wb wk g2 L lo lc us v20 p0) (h : Pr6 wa wb wk w g lb g2 L lc lo ds us v v2 qs ps bk T rI rW hI hW) (ht0 : Bq.Tab wk) (htw : Bq.Tab w) :
    Calls Tryz.prog 17 #[.pointer (some ⟨bk, 0, none⟩)] w fun e w' => e = .returned (.bool true) ∧ Src wa w' g lb L ds v qs ∧ YSrc wb w' g2 L lo lc us v2 ps ∧ (∀ p, NoS p w → NoS p w') ∧ ∃ S, Fr S w w' ∧ ∀ k ∈ S, wk.heap.size ≤ k := by
  obtain ⟨cs, hX, _⟩ := h.b.box
  have hmem : ∀ k ∈ Bq.own4 (.slice none 0 0) rI rW (.slice none 0 0) [] hI hW [], rI.ownBlock = some k ∨ k ∈ Bq.lbs hI ∨ rW.ownBlock = some k ∨ k ∈ Bq.lbs hW := by
    intro k hk
    simp only [Bq.own4, List.mem_append, Option.mem_toList] at hk
    rcases hk with (hk | hk) | (hk | hk) | (hk | hk) | (hk | hk)
    · simp [Value.ownBlock] at hk
    · simp [Bq.lbs] at hk
    · exact Or.inl hk
    · exact Or.inr (Or.inl hk)
    · exact Or.inr (Or.inr (Or.inl hk))
    · exact Or.inr (Or.inr (Or.inr hk))
    · simp [Value.ownBlock] at hk
    · simp [Bq.lbs] at hk
  have hnew : ∀ k ∈ Bq.own4 (.slice none 0 0) rI rW (.slice none 0 0) [] hI hW [], wk.heap.size ≤ k := by
    intro k hk
    rcases hmem k hk with hk | hk | hk | hk
    · exact h.b.rIn k hk
    · exact (h.vI k hk).2.2
    · exact h.b.rWn k hk
    · exact h.vW k hk
  have hcond : ∀ k ∈ Bq.own4 (.slice none 0 0) rI rW (.slice none 0 0) [] hI hW [], ∀ cs t, w.heap[k]? = some (.cells cs t (0, 0)) → (t = 3 → v.ownBlock ≠ some k ∧ v2.ownBlock ≠ some k) ∧ t ≠ 72 ∧ t ≠ 109 := by
    intro k hk cs t hc
    rcases hmem k hk with hk | hk | hk | hk
    · obtain ⟨cs1, h1⟩ := Bq.own_type h.b.sI.bl.row k hk
      have := cells_type hc h1
      subst this
      exact ⟨fun x => absurd x (by decide), by decide, by decide⟩
    · obtain ⟨cs1, h1⟩ := lbsI_type h.b hk
      have := cells_type hc h1
      subst this
      exact ⟨fun _ => ⟨(h.vI k hk).1, (h.vI k hk).2.1⟩, by decide, by decide⟩
    · obtain ⟨cs1, h1⟩ := Bq.own_type h.b.sW.bl.row k hk
      have := cells_type hc h1
      subst this
      exact ⟨fun x => absurd x (by decide), by decide, by decide⟩
    · obtain ⟨cs1, h1⟩ := lbsW_type h.b hk
      have := cells_type hc h1
      subst this
      exact ⟨fun x => absurd x (by decide), by decide, by decide⟩
  refine (Bq.apart4_any bk cs (.slice none 0 0) rI rW (.slice none 0 0) [] hI hW [] w hX h.b.sB h.b.sI h.b.sW h.b.sT htw (fun hm => by have := hnew _ hm; have := ht0.lt; omega)).mono ?_
  rintro e w' ⟨rfl, hF⟩
  refine ⟨rfl, hs0.keepW h.s hF (fun k hk cs t hc => ?_), hy0.keepW h.y hF (fun k hk cs t hc => ?_), fun p hp => ?_, _, hF, hnew⟩
  · obtain ⟨a, b, c⟩ := hcond k hk cs t hc
    exact ⟨fun x => (a x).1, b, fun _ => Or.inr (hnew k hk)⟩
  · obtain ⟨a, b, c⟩ := hcond k hk cs t hc
    exact ⟨fun x => (a x).2, c, fun _ => Or.inr (hnew k hk)⟩
  · rcases hp with hp | ⟨x, e, hx⟩
    · exact Or.inl hp
    · exact Or.inr ⟨x, e, hF.keep hx (fun hm => (hcond x hm _ _ hx).2.1 rfl)⟩
/-- What lies there is older than what comes. -/
theorem Pr6.old (h : Pr6 wa wb wk w g lb g2 L lc lo ds us v v2 qs ps bk T rI rW hI hW) : ∀ k, w.heap.size ≤ k → v.ownBlock ≠ some k ∧ v2.ownBlock ≠ some k ∧ k ∉ Bq.lbs hI ∧ k ∉ Bq.lbs hW := by
  intro k hk
  refine ⟨fun e => ?_, fun e => ?_, fun e => ?_, fun e => ?_⟩
  · obtain ⟨c, hc⟩ := h.s.rowNe e
    have := lt_of_block hc
    omega
  · obtain ⟨c, hc⟩ := h.y.rowAt e
    have := lt_of_block hc
    omega
  · obtain ⟨c, hc⟩ := lbsI_type h.b e
    have := lt_of_block hc
    omega
  · obtain ⟨c, hc⟩ := lbsW_type h.b e
    have := lt_of_block hc
    omega
/-- The Book is told a transaction. -/
theorem Pr6.txn (h : Pr6 wa wb wk w g lb g2 L lc lo ds us v v2 qs ps bk T rI rW hI hW) (xn : Int) (xo : Option Addr) (M xc B : Nat) (vs : List Value) (hr : w.ownsRow B 124 3 (.slice xo M xc) M vs) (hB : wk.heap.size ≤ B) (hM : M ≤ 32) (hal : ∀ k, (Value.slice xo M xc).ownBlock = some k → k ∉ Bq.lbs hW) (hT : T < 2097150) :
    Calls Tryz.prog 30 #[.pointer (some ⟨bk, 0, none⟩), .agg #[.int .i64 xn, .slice xo M xc]] w fun e w' => e = .returned (.tuple #[]) ∧ ∃ rW' hW', Pr6 wa wb wk w' g lb g2 L lc lo ds us v v2 qs ps bk (T + 1) rI rW' hI hW' ∧ ∃ S, Fr S w w' ∧ ∀ k ∈ S, wk.heap.size ≤ k := by
  refine (Bq.txn_any h.b xn xo M xc ⟨M, vs, own_base hr (Nat.zero_le _), by omega⟩ hal hT).mono ?_
  rintro e w' ⟨rfl, rv', hb, hf, hm⟩
  refine ⟨rfl, rv', _, h.told hb hf ?_ (fun k hk => Or.inl hk) ?_, _, hf, ?_⟩
  · intro k hk
    rcases List.mem_cons.1 hk with hk | hk
    · exact Or.inl hk
    · exact Or.inr (Or.inr (by simpa using hk))
  · intro k hk
    obtain ⟨b, hb1, hk1⟩ := Bq.mem_lbs.1 hk
    rcases List.mem_append.1 hb1 with hb1 | hb1
    · exact Or.inl (Bq.mem_lbs.2 ⟨b, hb1, hk1⟩)
    · simp only [List.mem_singleton] at hb1
      subst hb1
      have := (owns_cells hr hk1).1
      exact Or.inr (by omega)
  · intro k hk
    rcases List.mem_cons.1 hk with hk | hk
    · have := h.b.bn
      omega
    · exact h.b.rWn k (by simpa using hk)
/-- The Book is told numbers. -/
theorem Pr6.nums (h : Pr6 wa wb wk w g lb g2 L lc lo ds us v v2 qs ps bk T rI rW hI hW) (xo : Option Addr) (M xc B : Nat) (vs : List Value) (hr : w.ownsRow B 3 1 (.slice xo M xc) M vs) (hB : wk.heap.size ≤ B) (hM : M < 17179869184) (hal : ∀ k, B ≤ k → v.ownBlock ≠ some k ∧ v2.ownBlock ≠ some k ∧ k ∉ Bq.lbs hI) (hT : T < 2097150) :
    Calls Tryz.prog 31 #[.pointer (some ⟨bk, 0, none⟩), .slice xo M xc] w fun e w' => e = .returned (.tuple #[]) ∧ ∃ rI' hI', Pr6 wa wb wk w' g lb g2 L lc lo ds us v v2 qs ps bk (T + 1) rI' rW hI' hW ∧ ∃ S, Fr S w w' ∧ ∀ k ∈ S, wk.heap.size ≤ k := by
  refine (Bq.ints_any h.b xo M xc ⟨M, vs, own_base hr (Nat.zero_le _), hM⟩ (fun k hk => (hal k (owns_cells hr hk).1).2.2) hT).mono ?_
  rintro e w' ⟨rfl, rv', hb, hf, hm⟩
  refine ⟨rfl, rv', _, h.told hb hf ?_ ?_ (fun k hk => Or.inl hk), _, hf, ?_⟩
  · intro k hk
    rcases List.mem_cons.1 hk with hk | hk
    · exact Or.inl hk
    · exact Or.inr (Or.inl (by simpa using hk))
  · intro k hk
    obtain ⟨b, hb1, hk1⟩ := Bq.mem_lbs.1 hk
    rcases List.mem_append.1 hb1 with hb1 | hb1
    · exact Or.inl (Bq.mem_lbs.2 ⟨b, hb1, hk1⟩)
    · simp only [List.mem_singleton] at hb1
      subst hb1
      have h1 := (owns_cells hr hk1).1
      exact Or.inr ⟨by omega, (hal k h1).1, (hal k h1).2.1⟩
  · intro k hk
    rcases List.mem_cons.1 hk with hk | hk
    · have := h.b.bn
      omega
    · exact h.b.rIn k (by simpa using hk)
theorem Src.own_ge {w0 : World} (h : Src w0 w g lb L ds v qs) : ∀ k ∈ Src.own g v, w0.heap.size ≤ k := by
  intro k hk
  simp only [Src.own, List.mem_cons, Option.mem_toList] at hk
  rcases hk with rfl | hk
  · exact h.gn
  · exact h.rn k hk
theorem YSrc.own_ge {w0 : World} (h : YSrc w0 w g2 L lo lc us v2 ps) : ∀ k ∈ YSrc.own g2 v2, w0.heap.size ≤ k := by
  intro k hk
  simp only [YSrc.own, List.mem_cons, Option.mem_toList] at hk
  rcases hk with rfl | hk
  · exact h.gn
  · exact h.rn k hk
/-- A block of another type is none of what the document's Get writes. -/
theorem YSrc.own_off {w0 : World} (h : YSrc w0 w g2 L lo lc us v2 ps) {k : Nat} {cs : Array Value} {t : TypeId} (hk : w.heap[k]? = some (.cells cs t (0, 0))) (h1 : t ≠ 109) (h2 : t ≠ 3) : k ∉ YSrc.own g2 v2 := by
  intro hm
  simp only [YSrc.own, List.mem_cons, Option.mem_toList] at hm
  rcases hm with rfl | hm
  · exact h1 (cells_type hk h.box)
  · obtain ⟨c, hc⟩ := h.rowAt hm
    exact h2 (cells_type hk hc)
/-- Apart of the Book of what came in, and leaves both sources as they were. -/
theorem old_apart {w0 : World} {rT : Value} {hT : List Bq.HB} (h : Bq.B4 w0 w bk T (.slice none 0 0) (.slice none 0 0) rW rT [] [] hW hT) (hs : Src wa w g lb L ds v qs) (hy : YSrc wb w g2 L lo lc us v2 ps) (hab : wa.heap.size ≤ wb.heap.size) (lW : ∀ k ∈ Bq.lbs hW, w0.heap.size ≤ k ∧ k < wa.heap.size) (lT : ∀ k ∈ Bq.lbs hT, w0.heap.size ≤ k ∧ k < wa.heap.size) (ht0 : Bq.Tab w0) (hf : Fr [] w0 w) :
    Calls Tryz.prog 17 #[.pointer (some ⟨bk, 0, none⟩)] w fun e w' => e = .returned (.bool true) ∧ Src wa w' g lb L ds v qs ∧ YSrc wb w' g2 L lo lc us v2 ps ∧ Fr [] w0 w' := by
  obtain ⟨cs, hX, _⟩ := h.box
  have ho := h.own (by simp [Bq.lbs]) (by simp [Bq.lbs]) (fun k hk => (lW k hk).1) (fun k hk => (lT k hk).1)
  have hcond : ∀ k ∈ Bq.own4 (.slice none 0 0) (.slice none 0 0) rW rT [] [] hW hT, ∀ cs t, w.heap[k]? = some (.cells cs t (0, 0)) → t ≠ 3 ∧ t ≠ 72 ∧ t ≠ 109 ∧ (t = 63 ∨ t = 124 → k < wa.heap.size) := by
    intro k hk cs t hc
    simp only [Bq.own4, List.mem_append, Option.mem_toList] at hk
    rcases hk with (hk | hk) | (hk | hk) | (hk | hk) | (hk | hk)
    · simp [Value.ownBlock] at hk
    · simp [Bq.lbs] at hk
    · simp [Value.ownBlock] at hk
    · simp [Bq.lbs] at hk
    · obtain ⟨cs1, h1⟩ := Bq.own_type h.sW.bl.row k hk
      have := cells_type hc h1
      subst this
      exact ⟨by decide, by decide, by decide, fun e => by rcases e with e | e <;> exact absurd e (by decide)⟩
    · obtain ⟨cs1, h1⟩ := lbsW_type h hk
      have := cells_type hc h1
      subst this
      exact ⟨by decide, by decide, by decide, fun _ => (lW k hk).2⟩
    · obtain ⟨cs1, h1⟩ := Bq.own_type h.sT.bl.row k hk
      have := cells_type hc h1
      subst this
      exact ⟨by decide, by decide, by decide, fun e => by rcases e with e | e <;> exact absurd e (by decide)⟩
    · obtain ⟨b, hb, hbk⟩ := Bq.mem_lbs.1 hk
      obtain ⟨j, hj⟩ := List.getElem?_of_mem hb
      obtain ⟨cs1, h1⟩ := (h.sT.each j b hj).type k hbk
      have := cells_type hc h1
      subst this
      exact ⟨by decide, by decide, by decide, fun _ => (lT k hk).2⟩
  refine (Bq.apart4_any bk cs (.slice none 0 0) (.slice none 0 0) rW rT [] [] hW hT w hX h.sB h.sI h.sW h.sT (ht0.keep hf (by simp)) (fun hm => by have := ho _ hm; have := ht0.lt; omega)).mono ?_
  rintro e w' ⟨rfl, hF⟩
  refine ⟨rfl, hs.keepW hs hF (fun k hk cs t hc => ?_), hy.keepW hy hF (fun k hk cs t hc => ?_), hf.on hF ho⟩
  · obtain ⟨a, b, c, d⟩ := hcond k hk cs t hc
    exact ⟨fun x => absurd x a, b, fun x => Or.inl (d x)⟩
  · obtain ⟨a, b, c, d⟩ := hcond k hk cs t hc
    exact ⟨fun x => absurd x a, c, fun x => Or.inl (by have := d x; omega)⟩
end
end Go.Proofs.YtaefninikmaiiaaGreatDoor
/- What Get answers of any number, on both sides, by one word. Conditions: how the sources lie in memory. -/
namespace Go.Proofs.YtaefninikmaiiaaGreatDoor
open Go.ChangeShapes Go.WideShapes Go.ChangeAt Go.RowKit Go.Lib
set_option linter.unusedVariables false
set_option linter.unusedSimpArgs false

/-- What Get of the number n answers of the log l: the code c, the transaction (xn, xws); what was asked then. -/
def Gv (l : List Tx) (n : Int) (qs : List Nat) (c : Nat) (xn : Int) (xws : List Wt) (qs' : List Nat) : Prop :=
  (1 ≤ n ∧ n ≤ (l.length : Int) ∧ c = 0 ∧ (⟨xn, xws⟩ : Tx) = l.getD (n.toNat - 1) Tx.zero ∧ qs' = qs ++ [n.toNat]) ∨ (¬ (1 ≤ n ∧ n ≤ (l.length : Int)) ∧ c = 1 ∧ xn = 0 ∧ xws = [] ∧ qs' = qs)
theorem Gv.one {l : List Tx} {n : Int} {qs : List Nat} {c d : Nat} {xn yn : Int} {xws yws : List Wt} {q1 q2 : List Nat} (h : Gv l n qs c xn xws q1) (k : Gv l n qs d yn yws q2) : c = d ∧ xn = yn ∧ xws = yws ∧ q1 = q2 := by
  rcases h with ⟨a1, a2, a3, a4, a5⟩ | ⟨a1, a2, a3, a4, a5⟩ <;> rcases k with ⟨b1, b2, b3, b4, b5⟩ | ⟨b1, b2, b3, b4, b5⟩
  · rw [← b4] at a4
    simp only [Tx.mk.injEq] at a4
    exact ⟨by omega, a4.1, a4.2, by rw [a5, b5]⟩
  · exact absurd ⟨a1, a2⟩ b1
  · exact absurd ⟨b1, b2⟩ a1
  · exact ⟨by omega, by omega, by rw [a4, b4], by rw [a5, b5]⟩
theorem Gv.len {l : List Tx} {n : Int} {qs : List Nat} {c : Nat} {xn : Int} {xws : List Wt} {q1 : List Nat} (h : Gv l n qs c xn xws q1) : q1.length ≤ qs.length + 1 ∧ c ≤ 1 := by
  rcases h with ⟨a1, a2, a3, a4, a5⟩ | ⟨a1, a2, a3, a4, a5⟩
  · exact ⟨by rw [a5]; simp, by omega⟩
  · exact ⟨by rw [a5]; omega, by omega⟩
section
variable {w0 w : World}
theorem sget_any {g lb L : Nat} {ts : List Tm} {v : Value} {qs : List Nat} (h : Src w0 w g lb L ts v qs) (n : Int) (hq : qs.length < 2 ^ 40) (h00 : w0.heap.size ≤ w.heap.size) :
    Calls Tryz.prog 25 #[.pointer (some ⟨g, 0, none⟩), .int .i64 n] w fun e w' => ∃ (c : Nat) (xn : Int) (xo : Option Addr) (M xc : Nat) (xws : List Wt) (v' : Value) (qs' : List Nat), e = .returned (.tuple #[.agg #[.int .i64 xn, .slice xo M xc], .int .i64 (c : Int)]) ∧
      Gv (txs ts) n qs c xn xws qs' ∧ M = xws.length ∧ M ≤ 32 ∧ w'.ownsRow w.heap.size 124 3 (.slice xo M xc) M (wtsC xws) ∧ WRs w' xo xws ∧ Src w0 w' g lb L ts v' qs' ∧ Fr (Src.own g v) w w' ∧ Moved w.heap.size v v' := by
  by_cases hn : 1 ≤ n ∧ n ≤ (L : Int)
  · obtain ⟨m, rfl⟩ : ∃ m : Nat, n = (m : Int) := ⟨n.toNat, by omega⟩
    have hlen := h.len
    have hm : m - 1 < ts.length := by omega
    have hTn := h.each _ (tgetD_mem ts (m - 1) hm)
    obtain ⟨_, _, _, e3, _, _, hokx⟩ := hTn
    refine (get_ok h m (by omega) (by omega) hq h00 _ rfl).mono ?_
    rintro e w' ⟨k, v', rfl, hk, hrow, hS, hF, hM⟩
    refine ⟨0, _, _, _, _, (ts.getD (m - 1) Tm.zero).ws, v', _, rfl, Or.inl ⟨hn.1, by rw [txs_length]; omega, rfl, ?_, rfl⟩, e3, ?_, ?_, ?_, hS, hF, hM⟩
    · rw [show ((m : Int).toNat - 1) = m - 1 by omega, txs_getD]
      rfl
    · have := hokx.2.2.1
      omega
    · exact ⟨by rw [wtsC_length, e3], .inr ⟨k, _, _, rfl, hk, hrow, Nat.le_refl _, by have := hokx.2.2.1; unfold maxLen; omega, by rw [List.size_toArray, wtsC_length, e3], List.take_of_length_le (Nat.le_of_eq (by show (wtsC _).length = _; rw [wtsC_length, e3]))⟩⟩
    · exact WRs.of_ok hokx hrow
  · have hlen := h.len
    refine (get_noZ h n (by omega)).mono ?_
    rintro e w' ⟨rfl, hF⟩
    exact ⟨1, 0, none, 0, 0, [], v, qs, rfl, Or.inr ⟨by rw [txs_length]; omega, rfl, rfl, rfl, rfl⟩, rfl, by omega, World.ownsRow_nil _ _ _ _, WRs.nil _ _, h.keep hF, hF.mono (by simp), Moved.refl _ _⟩
theorem yget_any {g L lc : Nat} {lo : Option Addr} {us : List Tm} {v : Value} {qs : List Nat} (h : YSrc w0 w g L lo lc us v qs) (n : Int) (hq : qs.length < 2 ^ 40) (h00 : w0.heap.size ≤ w.heap.size) :
    Calls Tryz.prog 26 #[.pointer (some ⟨g, 0, none⟩), .int .i64 n] w fun e w' => ∃ (c : Nat) (xn : Int) (xo : Option Addr) (M xc : Nat) (xws : List Wt) (v' : Value) (qs' : List Nat), e = .returned (.tuple #[.agg #[.int .i64 xn, .slice xo M xc], .int .i64 (c : Int)]) ∧
      Gv (txs us) n qs c xn xws qs' ∧ M = xws.length ∧ WRs w' xo xws ∧ YSrc w0 w' g L lo lc us v' qs' ∧ Fr (YSrc.own g v) w w' ∧ Moved w.heap.size v v' := by
  by_cases hn : 1 ≤ n ∧ n ≤ (L : Int)
  · obtain ⟨m, rfl⟩ : ∃ m : Nat, n = (m : Int) := ⟨n.toNat, by omega⟩
    have hlen := h.log.len
    have hm : m - 1 < us.length := by omega
    have hokx := okL_mem h.ok (us.getD (m - 1) Tm.zero).tx (List.mem_map.2 ⟨_, tgetD_mem us (m - 1) hm, rfl⟩)
    have e3 := (h.log.each _ (tgetD_mem us (m - 1) hm)).len
    refine (yGet_ok h m (by omega) (by omega) hq h00 _ rfl).mono ?_
    rintro e w' ⟨bo, rc, v', rfl, hO, hS, hF, hM⟩
    refine ⟨0, _, _, _, _, (us.getD (m - 1) Tm.zero).ws, v', _, rfl, Or.inl ⟨hn.1, by rw [txs_length]; omega, rfl, ?_, rfl⟩, e3, ?_, hS, hF, hM⟩
    · rw [show ((m : Int).toNat - 1) = m - 1 by omega, txs_getD]
      rfl
    · exact hO.rs (okT_few hokx).1 (okT_few hokx).2
  · have hlen := h.log.len
    refine (yGet_no h n (by omega)).mono ?_
    rintro e w' ⟨rfl, hF⟩
    exact ⟨1, 0, none, 0, 0, [], v, qs, rfl, Or.inr ⟨by rw [txs_length]; omega, rfl, rfl, rfl, rfl⟩, rfl, WRs.nil _ _, h.keep hF, hF.mono (by simp), Moved.refl _ _⟩
end
end Go.Proofs.YtaefninikmaiiaaGreatDoor
/- The walk of the law LogfileSources where the log may be. Conditions: how its arguments lie in memory; the table of powers of ten reads as the library lays it. -/
namespace Go.Proofs.YtaefninikmaiiaaGreatDoor
open BigFrame Go.ChangeShapes Go.WideShapes Go.ChangeAt Go.RowKit Go.Lib
set_option linter.unusedVariables false
set_option linter.unusedSimpArgs false

set_option maxHeartbeats 16000000 in
set_option maxRecDepth 100000 in
theorem lso (ao : Option Addr) (L cap : Nat) (ts : List Tm) (io : Option Addr) (M ic : Nat) (ns : List Int) (w : World) (hT : TRs w ao ts) (hLe : L = ts.length) (hN : IRs w io ns) (hMe : M = ns.length) (htab : Bq.Tab w) (hok : okL 1 (txs ts)) :
    Calls Tryz.prog 5 #[.slice ao L cap, .slice io M ic] w fun e w' => e = .returned (.bool true) ∧ Fr [] w w' := by
  have HL : Hid (L = ts.length) := hLe
  have HM : Hid (M = ns.length) := hMe
  have HTb : Hid (Bq.Tab w) := htab
  have HOK : Hid (okL 1 (txs ts)) := hok
  have HI : Hid (∀ W, Fr [] w W → TRs W ao ts) := fun W hf => hT.keep hf
  have HN : Hid (∀ W, Fr [] w W → IRs W io ns) := fun W hf => hN.keep hf
  have hMM : M ≤ 17592186044416 := by have := hN.few; omega
  clear hLe htab hMe hok hN
  go_enter Tryz.func5, Tryz.ntmps5
  go_wp2_with fail
  refine (txnsSizeB_any ao L cap ts _ hT HL.out).mono ?_
  rintro e w1 ⟨N0, rfl, hN0b, hLN, hFw0, hF1⟩
  have HFw0 : Hid (N0 ≤ 1048576 → Few ts) := hFw0
  clear hFw0
  go_wp2_with fail
  refine (beyond2_any w1.heap.size N0 M _ (by omega) (by omega) (by simp) (by simp)).mono ?_
  rintro e w2 ⟨rfl, rfl⟩
  have hF2 : Fr [] w1 (w1.alloc (.cells #[.int .i64 (N0 : Int), .int .i64 (M : Int)] 3)) := Fr.alloc _ _ _
  obtain ⟨w2, HW2⟩ : ∃ w2, Hid (w1.alloc (.cells #[.int .i64 (N0 : Int), .int .i64 (M : Int)] 3) = w2) := ⟨_, rfl⟩
  rw [HW2.out] at hF2 ⊢
  have hG2 := hF1.then hF2
  by_cases hbig : 1048576 < N0 + M
  · have hbd : decide (1048576 < N0 + M) = true := by simpa using hbig
    rw [hbd]
    go_wp2
    go_ret
    exact ⟨rfl, hG2⟩
  · have hbd : decide (1048576 < N0 + M) = false := by simpa using hbig
    rw [hbd]
    have hLs : L < 1048577 := by omega
    have hMs : M < 1048577 := by omega
    have HFew : Hid (Few ts) := HFw0.out (by omega)
    clear hF1 hF2 hbig hbd
    go_wp2_with fail
    refine (twinTs_any ao L cap ts _ (HI.out _ hG2) HL.out (by omega) HFew.out).mono ?_
    rintro e w4 ⟨b, ks, rfl, hb, hrow4, hTw4, hF4⟩
    have hG4 := hG2.then hF4
    have HG04 : Hid (Fr [] w w4) := hG4
    have hwb : w.heap.size ≤ b := by have := hG2.size; omega
    have hb4 : b < w4.heap.size := lt_of_block hrow4
    have HK4 : Hid (∀ k ∈ ks, k < w4.heap.size) := fun k hk => by
      obtain ⟨i, hi⟩ := List.getElem?_of_mem hk
      have hil : i < ts.length := by rw [← hTw4.len]; exact (List.getElem?_eq_some_iff.1 hi).1
      exact lt_of_block (hTw4.row i ts[i] k (List.getElem?_eq_getElem hil) hi)
    have HTw : Hid (∀ W, Fr [] w4 W → Twd w W ts ks) := fun W hf => by
      have h1 := hTw4.keep hf (by simp)
      exact ⟨h1.len, fun k hk => by have := h1.new k hk; have := hG2.size; omega, h1.row, h1.apart⟩
    have HRow : Hid (∀ W, Fr [] w4 W → W.heap[b]? = some (.cells (tmsC (twTs ts ks ++ [spT])).toArray 63 (0, 0))) := fun W hf => hf.keep hrow4 (by simp)
    have HX : Hid (∀ W, Fr [] w4 W → TRs W (some ⟨b, 0, none⟩) (twTs ts ks)) := fun W hf => twins_trs hT (HTw.out W hf) (HRow.out W hf)
    have HXL : Hid (L = (twTs ts ks).length) := by show _ = _; rw [twTs_length ts ks hTw4.len]; exact HL.out
    have HXT : Hid (txs (twTs ts ks) = txs ts) := txs_twTs ts ks hTw4.len
    have HOK2 : Hid (okL 1 (txs (twTs ts ks))) := by show okL _ _; rw [HXT.out]; exact HOK.out
    have HI4 : Hid (∀ W, Fr [] w4 W → TRs W ao ts) := fun W hf => HI.out W (hG4.then hf)
    clear hrow4 hTw4 hF4 hG2 hG4 HI hb hT
    go_wp2_with fail
    refine (new_ok (some ⟨b, 0, none⟩) L (L + 1) (twTs ts ks) _ (HX.out _ (Fr.refl _ _)) HXL.out HOK2.out).mono ?_
    rintro e w5 ⟨g, lb, ds, rfl, hS5, hds, hF5⟩
    have HDs : Hid (txs ds = txs ts) := hds.trans HXT.out
    have HS5 : Hid (Src w4 w5 g lb L ds (.slice none 0 0) []) := hS5
    have hs45 : w4.heap.size ≤ w5.heap.size := hF5.size
    clear hS5 hds
    go_wp2_with fail
    refine (yNew_ok ao L cap ts _ (HI4.out _ hF5) HL.out HOK.out).mono ?_
    rintro e w6 ⟨g2, lo, lc, us, rfl, hY6, hus, hF6⟩
    have HUs : Hid (txs us = txs ds) := hus.trans HDs.out.symm
    have HY6 : Hid (YSrc w5 w6 g2 L lo lc us (.slice none 0 0) []) := hY6
    have hG6 := hF5.then hF6
    have HLf : Hid (∀ W, Fr [] w6 W → Calls Tryz.prog 14 #[.slice (some ⟨b, 0, none⟩) L (L + 1), .slice ao L cap] W fun e w' => e = .returned (.bool true) ∧ Fr [] W w') := fun W hf => leftTs_any b ks w ao L cap ts W (HI4.out _ (hG6.then hf)) HL.out (by omega) HFew.out (HTw.out _ (hG6.then hf)) (HRow.out _ (hG6.then hf))
    have HS6 : Hid (Src w4 w6 g lb L ds (.slice none 0 0) []) := HS5.out.keep hF6
    have HG6 : Hid (Fr [] w4 w6) := hG6
    clear hY6 hus hF5 hF6 hG6 HS5
    go_wp2_with fail
    refine (HLf.out _ (Fr.refl _ _)).mono ?_
    rintro e w9 ⟨rfl, hf9⟩
    have HG9 : Hid (Fr [] w4 w9) := HG6.out.then hf9
    have HS9 : Hid (Src w4 w9 g lb L ds (.slice none 0 0) []) := HS6.out.keep hf9
    have HY9 : Hid (YSrc w5 w9 g2 L lo lc us (.slice none 0 0) []) := HY6.out.keep hf9
    obtain ⟨bk, HBk⟩ : ∃ bk, Hid (bk = w9.heap.size) := ⟨_, rfl⟩
    obtain ⟨wl, HWl⟩ : ∃ wl, Hid (wl = w9.alloc (Obj.cells #[.int .i64 0, .slice none 0 0, .slice none 0 0, .slice none 0 0, .slice none 0 0, .slice none 0 0, .slice none 0 0, .slice none 0 0, .slice none 0 0, .slice none 0 0, .slice none 0 0, .slice none 0 0] 45)) := ⟨_, rfl⟩
    clear hf9 HLf HS6 HY6 HG6
    go_upto_region 9 with fail
    rw [← HWl.out, ← HBk.out]
    have HFl : Hid (Fr [] w9 wl) := by rw [HWl.out]; exact Fr.alloc _ _ _
    have hBl : wl.heap[bk]? = some (.cells Bq.newBk 45 (0, 0)) := by rw [HWl.out, HBk.out]; exact heap_alloc_new w9 _
    have hs9 : w4.heap.size ≤ w9.heap.size := HG9.out.size
    have hs4 : w.heap.size ≤ w4.heap.size := HG04.out.size
    have hbk1 : w9.heap.size ≤ bk := by rw [HBk.out]; exact Nat.le_refl _
    have HB0 : Hid (Bq.B4 w wl bk 0 (.slice none 0 0) (.slice none 0 0) (.slice none 0 0) (.slice none 0 0) [] [] [] []) := Bq.B4.new hBl (by omega)
    have HG4l : Hid (Fr [] w4 wl) := HG9.out.then HFl.out
    have HD0 : Hid (Bq.Dts wl (some ⟨b, 0, none⟩) L (L + 1) (dts (twTs ts ks))) := twins_dts (HI4.out _ HG4l.out) HL.out hLs HFew.out (HTw.out _ HG4l.out) (HRow.out _ HG4l.out)
    have HC1 : Hid _ := Bq.txns_any HB0.out (some ⟨b, 0, none⟩) L (L + 1) _ HD0.out (fun i d hd k hk hm => by simp [Bq.lbs] at hm) (fun k hk hm => by simp [Bq.lbs] at hm) (by omega)
    have HSl : Hid (∀ W, Fr [bk] wl W → Src w4 W g lb L ds (.slice none 0 0) [] ∧ YSrc w5 W g2 L lo lc us (.slice none 0 0) []) := fun W hf => by
      have h1 := HS9.out.keep HFl.out
      have h2 := HY9.out.keep HFl.out
      refine ⟨h1.keepW h1 hf (fun k hk cs t hc => ?_), h2.keepW h2 hf (fun k hk cs t hc => ?_)⟩
      · simp only [List.mem_singleton] at hk
        subst hk
        have := cells_type hc hBl
        subst this
        exact ⟨fun e => absurd e (by decide), by decide, fun e => by rcases e with e | e <;> exact absurd e (by decide)⟩
      · simp only [List.mem_singleton] at hk
        subst hk
        have := cells_type hc hBl
        subst this
        exact ⟨fun e => absurd e (by decide), by decide, fun e => by rcases e with e | e <;> exact absurd e (by decide)⟩
    clear hBl
    go_wp2_with fail
    refine Calls.mono HC1.out ?_
    rintro e wa ⟨rfl, rW, rT, hBa, hFa, hMWa, hMTa⟩
    have HBa : Hid (Bq.B4 w wa bk (0 + L + 1) (.slice none 0 0) (.slice none 0 0) rW rT [] [] ([] ++ Bq.held 0 (dts (twTs ts ks))) ([] ++ [⟨.slice (some ⟨b, 0, none⟩) L (L + 1), .slice none 0 0, 0 + L + 1⟩])) := hBa
    have HFa : Hid (Fr [bk] wl wa) := hFa
    have HGa : Hid (Fr [] w wa) := (HG04.out.then HG4l.out).on HFa.out (by intro x hx; simp at hx; omega)
    have HC4 : Hid _ := old_apart HBa.out (HSl.out _ HFa.out).1 (HSl.out _ HFa.out).2 hs45 (by
        intro k hk
        rw [List.nil_append] at hk
        have h1 := lbs_twins hk
        exact ⟨(HTw.out _ (Fr.refl _ _)).new k h1, HK4.out k h1⟩) (by
        intro k hk
        obtain ⟨h, hh, hk1⟩ := Bq.mem_lbs.1 hk
        simp at hh
        subst hh
        simp [Value.ownBlock] at hk1
        omega) HTb.out HGa.out
    clear hBa hFa hMWa hMTa HC1 HB0 HD0 HSl HBa
    go_wp2_with fail
    refine Calls.mono HC4.out ?_
    rintro e wb ⟨rfl, hSb, hYb, hFb⟩
    have HSb : Hid (Src w4 wb g lb L ds (.slice none 0 0) []) := hSb
    have HYb : Hid (YSrc w5 wb g2 L lo lc us (.slice none 0 0) []) := hYb
    have HFb : Hid (Fr [] w wb) := hFb
    have h5b : w5.heap.size ≤ wb.heap.size := by have := hYb.gn; have := hYb.lt; omega
    have h4b : w4.heap.size ≤ wb.heap.size := by omega
    obtain ⟨bj, HBj⟩ : ∃ bj, Hid (bj = wb.heap.size) := ⟨_, rfl⟩
    obtain ⟨wj, HWj⟩ : ∃ wj, Hid (wj = wb.alloc (Obj.cells #[.int .i64 0, .slice none 0 0, .slice none 0 0, .slice none 0 0, .slice none 0 0, .slice none 0 0, .slice none 0 0, .slice none 0 0, .slice none 0 0, .slice none 0 0, .slice none 0 0, .slice none 0 0] 45)) := ⟨_, rfl⟩
    clear hSb hYb hFb HC4 HFa HGa HG4l HFl HWl HBk HS9 HY9 HG9 HTw HRow HX HXL HXT HOK2 HI4 HK4
    go_upto_region 13 with fail
    rw [← HWj.out, ← HBj.out]
    have hFj : Fr [] wb wj := by rw [HWj.out]; exact Fr.alloc _ _ _
    have hBj : wj.heap[bj]? = some (.cells Bq.newBk 45 (0, 0)) := by rw [HWj.out, HBj.out]; exact heap_alloc_new wb _
    have HP0 : Hid (Pr6 w4 w5 wb wj g lb g2 L lc lo ds us (.slice none 0 0) (.slice none 0 0) [] [] bj 0 (.slice none 0 0) (.slice none 0 0) [] []) :=
      ⟨HSb.out.keep hFj, HYb.out.keep hFj, Bq.B4.new hBj (by rw [HBj.out]; exact Nat.le_refl _), fun k hk => by simp [Value.ownBlock] at hk, fun k hk => by simp [Bq.lbs] at hk, fun k hk => by simp [Bq.lbs] at hk⟩
    have hG0 : Fr [] w wj := HFb.out.then hFj
    have HTbb : Hid (Bq.Tab wb) := HTb.out.keep HFb.out (by simp)
    clear hFj hBj HWj HBj
    go_wp2_with fail
    go_loopw [12] (fun ii wr => ∃ (i T : Nat) (v v2 : Value) (qs : List Nat) (rI rW : Value) (hI hW : List Bq.HB), ii = .int .i64 i ∧ i ≤ M ∧ T ≤ 2 * i ∧ qs.length ≤ i ∧ Hid (Pr6 w4 w5 wb wr g lb g2 L lc lo ds us v v2 qs qs bj T rI rW hI hW) ∧ Hid (Fr [] w wr)) (fun ii _ => M - (RowKit.intOf ii).toNat)
    case atStart => exact ⟨0, 0, _, _, [], _, _, [], [], rfl, Nat.zero_le _, Nat.le_refl _, Nat.le_refl _, HP0, hG0⟩
    case round =>
      clear HP0 hG0
      obtain ⟨i, T, v, v2, qs, rI, rW2, hI, hW, rfl, hiM, hTi, hqi, HP, HFr⟩ := hrel
      by_cases hi : i < M
      · have hi' : i < ns.length := by rw [← HM.out]; exact hi
        obtain ⟨ib, off, e9, hib, hc⟩ := (HN.out _ HFr.out).lies (by omega)
        subst e9
        have hx := hc i hi'
        obtain ⟨n, hn⟩ : ∃ n, n = ns.getD i 0 := ⟨_, rfl⟩
        rw [← hn] at hx
        have HCn : Hid (∀ W, Fr [] w W → W.cell? ⟨ib, off + i, none⟩ = some (.int .i64 n)) := fun W hf => by
          obtain ⟨ib', off', e', _, hc'⟩ := (HN.out _ hf).lies (by omega)
          cases e'
          rw [hc' i hi', hn]
        clear hc hn
        go_wp2_with fail
        refine (sget_any HP.out.s n (by omega) (by have := HFr.out.size; have := HP.out.s.gn; have := HP.out.s.lt; omega)).mono ?_
        rintro e wc ⟨c, xn, xo, Mx, xc, xws, v', qs', rfl, hGv, hMx, hM32, hrow, hWx, hSc, hFc, hMc⟩
        have HGv : Hid (Gv (txs ds) n qs c xn xws qs') := hGv
        have HMx : Hid (Mx = xws.length) := hMx
        clear hMx
        have hPc := HP.out.get1 hSc hFc hMc
        have hGc : Fr [] w wc := HFr.out.on hFc (fun k hk => by have := HP.out.s.own_ge k hk; omega)
        have hsw : w.heap.size ≤ wr.heap.size := HFr.out.size
        have hswb : wb.heap.size ≤ wr.heap.size := by have := HP.out.b.bn; obtain ⟨_, h1, _⟩ := HP.out.b.box; have := lt_of_block h1.box; omega
        have hsrc : wr.heap.size ≤ wc.heap.size := hFc.size
        have hFd : Fr [] wc (wc.alloc (.cells #[.int .i64 xn, .slice xo Mx xc] 63)) := Fr.alloc _ _ _
        have hbx : B2 (wc.alloc (.cells #[.int .i64 xn, .slice xo Mx xc] 63)) wc.heap.size (.int .i64 xn) (.slice xo Mx xc) := ⟨heap_alloc_new _ _⟩
        have hPd := hPc.keep hFd
        have hGd := hGc.then hFd
        have hrd := owns_keepB hrow hFd (by simp)
        obtain ⟨wd, HWd⟩ : ∃ wd, Hid (wc.alloc (.cells #[.int .i64 xn, .slice xo Mx xc] 63) = wd) := ⟨_, rfl⟩
        rw [HWd.out] at hFd hbx hPd hGd hrd
        obtain ⟨bx, HBx⟩ : ∃ bx, Hid (wc.heap.size = bx) := ⟨_, rfl⟩
        rw [HBx.out] at hbx
        have HWx : Hid (WRs wc xo xws) := hWx
        have hxn := HCn.out _ hGd
        have HPd : Hid (Pr6 w4 w5 wb wd g lb g2 L lc lo ds us v' v2 qs' qs bj T rI rW2 hI hW) := hPd
        have HGd : Hid (Fr [] w wd) := hGd
        have HBd : Hid (B2 wd bx (.int .i64 xn) (.slice xo Mx xc)) := hbx
        have HRd : Hid (wd.ownsRow wr.heap.size 124 3 (.slice xo Mx xc) Mx (wtsC xws)) := hrd
        have HOl : Hid (∀ k, wr.heap.size ≤ k → k ∉ Bq.lbs hW) := fun k hk => (HP.out.old k hk).2.2.2
        clear hGv hrow hWx hSc hFc hMc hPc hGc hFd hbx hPd hGd hrd hx HP HFr
        go_upto_region 17 with fail
        rw [HWd.out, HBx.out]
        clear HWd
        go_wp2_with fail
        refine (yget_any HPd.out.y n (by omega) (by have := HPd.out.y.gn; have := HPd.out.y.lt; omega)).mono ?_
        rintro e we ⟨c2, yn, yo, My, yc, yws, v2', qs2, rfl, hGv2, hMy, hWy, hYe, hFe, hMe⟩
        rw [HUs.out] at hGv2
        obtain ⟨e1, e2, e3, e4⟩ := HGv.out.one hGv2
        subst e1 e2 e3 e4
        have e5 : Mx = My := by have := HMx.out; omega
        subst e5
        clear hMy
        have hPe := HPd.out.get2 hYe hFe hMe
        have hGe : Fr [] w we := HGd.out.on hFe (fun k hk => by have := HPd.out.y.own_ge k hk; omega)
        have hbe := HBd.out.keepS hFe (HPd.out.y.own_off HBd.out.box (by decide) (by decide))
        have hre := owns_keepB HRd.out hFe (fun k hk => by obtain ⟨_, cc, ee⟩ := owns_cells HRd.out hk; exact HPd.out.y.own_off ee (by decide) (by decide))
        have hFf : Fr [] we (we.alloc (.cells #[.int .i64 xn, .slice yo Mx yc] 63)) := Fr.alloc _ _ _
        have hby : B2 (we.alloc (.cells #[.int .i64 xn, .slice yo Mx yc] 63)) we.heap.size (.int .i64 xn) (.slice yo Mx yc) := ⟨heap_alloc_new _ _⟩
        obtain ⟨wf, HWf⟩ : ∃ wf, Hid (we.alloc (.cells #[.int .i64 xn, .slice yo Mx yc] 63) = wf) := ⟨_, rfl⟩
        rw [HWf.out] at hFf hby
        obtain ⟨bw, HBw⟩ : ∃ bw, Hid (we.heap.size = bw) := ⟨_, rfl⟩
        rw [HBw.out] at hby
        have hbf := hbe.keep hFf
        have HPf : Hid (Pr6 w4 w5 wb wf g lb g2 L lc lo ds us v' v2' qs' qs' bj T rI rW2 hI hW) := hPe.keep hFf
        have HGf : Hid (Fr [] w wf) := hGe.then hFf
        have HRf : Hid (wf.ownsRow wr.heap.size 124 3 (.slice xo Mx xc) Mx (wtsC xws)) := owns_keepB hre hFf (by simp)
        have HWxf : Hid (WRs wf xo xws) := (show WOw wr wf xo Mx xc xws from ⟨HMx.out, HRf.out⟩).rs HWx.out.few HWx.out.each
        have HWyf : Hid (WRs wf yo xws) := hWy.keep hFf
        have HSm : Hid _ := sameTxn_any xn xn xo yo Mx Mx xc yc true xws xws wf HWxf.out HWyf.out HMx.out HMx.out (by simp)
        obtain ⟨k0, k1, l0, l1⟩ : _ ∧ _ ∧ _ ∧ _ := ⟨hbf.c0, hbf.c1, hby.c0, hby.c1⟩
        have HBf : Hid (B2 wf bx (.int .i64 xn) (.slice xo Mx xc)) := hbf
        have hq' : qs'.length ≤ i + 1 := by have := HGv.out.len.1; omega
        have hcc : ((c : Int) != c) = false := by simp
        have hLL : ((L : Int) != L) = false := by simp
        clear hGv2 hWy hYe hFe hMe hPe hGe hbe hre hFf hby hbf HPd HGd HBd HRd HWx HWxf HWyf hxn
        go_upto_region 18 with fail
        rw [HWf.out, HBw.out]
        clear HWf
        go_wp2_with fail
        refine Calls.mono HSm.out ?_
        rintro e wg ⟨rfl, hFg⟩
        have HPg : Hid (Pr6 w4 w5 wb wg g lb g2 L lc lo ds us v' v2' qs' qs' bj T rI rW2 hI hW) := HPf.out.keep hFg
        have HGg : Hid (Fr [] w wg) := HGf.out.then hFg
        have hbg := HBf.out.keep hFg
        obtain ⟨m0, m1⟩ : _ ∧ _ := ⟨hbg.c0, hbg.c1⟩
        have HRg : Hid (wg.ownsRow wr.heap.size 124 3 (.slice xo Mx xc) Mx (wtsC xws)) := owns_keepB HRf.out hFg (by simp)
        clear hFg hbg HSm HPf HGf HBf HRf k0 k1 l0 l1
        go_wp2_with fail
        refine (sLast_any HPg.out.s).mono ?_
        rintro e _ ⟨rfl, rfl⟩
        go_wp2_with fail
        refine (yLast_any HPg.out.y).mono ?_
        rintro e _ ⟨rfl, rfl⟩
        by_cases h30 : i < 30
        · have h30' : (i : Int) < 30 := by omega
          have HC7 : Hid _ := HPg.out.txn xn xo Mx xc wr.heap.size (wtsC xws) HRg.out hswb hM32 (fun k hk => HOl.out k (owns_cells HRg.out hk).1) (by omega)
          go_wp2_with fail
          refine Calls.mono HC7.out ?_
          rintro e wh ⟨rfl, rW3, hW3, hPh, Sh, hFh, hSh⟩
          have HPh : Hid (Pr6 w4 w5 wb wh g lb g2 L lc lo ds us v' v2' qs' qs' bj (T + 1) rI rW3 hI hW3) := hPh
          have HGh : Hid (Fr [] w wh) := HGg.out.on hFh (fun k hk => by have := hSh k hk; have := HFb.out.size; omega)
          obtain ⟨Q, HQ⟩ : ∃ Q, Hid (Q = qs'.length) := ⟨_, rfl⟩
          have hQ : Q ≤ i + 1 := by rw [HQ.out]; exact hq'
          have hsh : wb.heap.size ≤ wh.heap.size := by have := HPh.out.b.bn; obtain ⟨_, h1, _⟩ := HPh.out.b.box; have := lt_of_block h1.box; omega
          clear hPh hFh hSh HC7 HPg HGg HRg m0 m1
          go_wp2_with fail
          refine (asn_any HPh.out.s (by omega) Q HQ.out).mono ?_
          rintro e wi ⟨bo, rfl, hri, hFi⟩
          have HPi : Hid (Pr6 w4 w5 wb wi g lb g2 L lc lo ds us v' v2' qs' qs' bj (T + 1) rI rW3 hI hW3) := HPh.out.keep hFi
          have HGi : Hid (Fr [] w wi) := HGh.out.then hFi
          have HC8 : Hid _ := HPi.out.nums bo Q Q wh.heap.size (ints qs') hri hsh (by omega) (fun k hk => ⟨(HPh.out.old k hk).1, (HPh.out.old k hk).2.1, (HPh.out.old k hk).2.2.1⟩) (by omega)
          clear hri hFi HPh HGh
          go_wp2_with fail
          refine Calls.mono HC8.out ?_
          rintro e wm ⟨rfl, rI3, hI3, hPm, Sm, hFm, hSm⟩
          have HPm : Hid (Pr6 w4 w5 wb wm g lb g2 L lc lo ds us v' v2' qs' qs' bj (T + 1 + 1) rI3 rW3 hI3 hW3) := hPm
          have HGm : Hid (Fr [] w wm) := HGi.out.on hFm (fun k hk => by have := hSm k hk; have := HFb.out.size; omega)
          clear hPm hFm hSm HC8 HPi HGi
          go_wp2
          go_roundw
          case rel => exact ⟨i + 1, T + 1 + 1, v', v2', qs', rI3, rW3, hI3, hW3, by simp, by omega, by omega, by omega, HPm, HGm⟩
          case measure => simp [RowKit.intOf]; omega
        · have h30' : ¬ (i : Int) < 30 := by omega
          clear HRg m0 m1
          go_wp2
          go_roundw
          case rel => exact ⟨i + 1, T, v', v2', qs', rI, rW2, hI, hW, by simp, by omega, by omega, by omega, HPg, HGg⟩
          case measure => simp [RowKit.intOf]; omega
      · obtain rfl : i = M := by omega
        obtain ⟨a2, ca2, e2⟩ := own_shapeB HP.out.y.row
        subst e2
        have hFz : Fr [] wr (wr.alloc (.cells #[.bool false, .slice none 0 0, .slice none 0 0] 72)) := Fr.alloc _ _ _
        have hNz : NoS (.pointer (some ⟨wr.heap.size, 0, none⟩)) (wr.alloc (.cells #[.bool false, .slice none 0 0, .slice none 0 0] 72)) := Or.inr ⟨_, rfl, heap_alloc_new _ _⟩
        obtain ⟨Q, HQ⟩ : ∃ Q, Hid (Q = qs.length) := ⟨_, rfl⟩
        rw [← HQ.out] at HP
        have hQ : Q ≤ i := by rw [HQ.out]; exact hqi
        obtain ⟨wz, HWz⟩ : ∃ wz, Hid (wr.alloc (.cells #[.bool false, .slice none 0 0, .slice none 0 0] 72) = wz) := ⟨_, rfl⟩
        rw [HWz.out] at hFz hNz
        obtain ⟨bz, HBz⟩ : ∃ bz, Hid (wr.heap.size = bz) := ⟨_, rfl⟩
        rw [HBz.out] at hNz
        have HPz : Hid (Pr6 w4 w5 wb wz g lb g2 L lc lo ds us v (.slice a2 Q ca2) qs qs bj T rI rW2 hI hW) := HP.out.keep hFz
        have HGz : Hid (Fr [] w wz) := HFr.out.then hFz
        have HNz : Hid (NoS (.pointer (some ⟨bz, 0, none⟩)) wz) := hNz
        clear hFz hNz HP HFr
        go_upto_region 24 with fail
        rw [HWz.out, HBz.out]
        clear HWz
        go_wp2_with fail
        refine (sGet_none HNz.out 1).mono ?_
        rintro e wo ⟨rfl, hFo⟩
        have hFp : Fr [] wo (wo.alloc (.cells #[.int .i64 0, .slice none 0 0] 63)) := Fr.alloc _ _ _
        obtain ⟨wp, HWp⟩ : ∃ wp, Hid (wo.alloc (.cells #[.int .i64 0, .slice none 0 0] 63) = wp) := ⟨_, rfl⟩
        rw [HWp.out] at hFp
        have hFq := hFo.then hFp
        have HPp : Hid (Pr6 w4 w5 wb wp g lb g2 L lc lo ds us v (.slice a2 Q ca2) qs qs bj T rI rW2 hI hW) := HPz.out.keep hFq
        have HGp : Hid (Fr [] w wp) := HGz.out.then hFq
        have HNp : Hid (NoS (.pointer (some ⟨bz, 0, none⟩)) wp) := HNz.out.keep hFq
        have HC9 : Hid _ := HPp.out.apart HSb.out HYb.out HTbb.out (HTb.out.keep HGp.out (by simp))
        clear hFo hFp hFq HPz HGz HNz
        go_upto_region 25 with fail
        rw [HWp.out]
        clear HWp
        go_wp2_with fail
        refine Calls.mono HC9.out ?_
        rintro e wq ⟨rfl, hSq, hYq, hNq, Sq, hFq, hSqq⟩
        have HSq : Hid (Src w4 wq g lb L ds v qs) := hSq
        have HYq : Hid (YSrc w5 wq g2 L lo lc us (.slice a2 Q ca2) qs) := hYq
        have HNq : Hid (NoS (.pointer (some ⟨bz, 0, none⟩)) wq) := hNq _ HNp.out
        have HGq : Hid (Fr [] w wq) := HGp.out.on hFq (fun k hk => by have := hSqq k hk; have := HFb.out.size; omega)
        clear hSq hYq hNq hFq hSqq HC9 HPp HGp HNp
        go_wp2_with fail
        refine (asked_any HSq.out (by rw [← HQ.out]; omega) Q HQ.out).mono ?_
        rintro e ws ⟨bo, rfl, hIs, hFs⟩
        have HYs := HYq.out.keep hFs
        have hI2 : Is ws a2 qs := Is.of_own (n := Q) (cap := ca2) (by have := HYs.row; rw [← HQ.out] at this; exact this) HQ.out
        go_wp2_with fail
        refine (yAsked_any HYs).mono ?_
        rintro e _ ⟨rfl, rfl⟩
        go_wp2_with fail
        refine (sameInts_any bo a2 Q Q ca2 qs ws hIs hI2 HQ.out (by omega)).mono ?_
        rintro e wt ⟨rfl, q, HWt⟩
        have hFt : Fr [] wq wt := hFs.then (by rw [HWt]; exact Fr.drewN _ _ _)
        have HSt : Hid (Src w4 wt g lb L ds v qs) := HSq.out.keep hFt
        have HYt : Hid (YSrc w5 wt g2 L lo lc us (.slice a2 Q ca2) qs) := HYq.out.keep hFt
        have HNt : Hid (NoS (.pointer (some ⟨bz, 0, none⟩)) wt) := HNq.out.keep hFt
        have HGt : Hid (Fr [] w wt) := HGq.out.then hFt
        clear HWt hFt hFs hIs hI2 HYs HSq HYq HNq HGq
        go_wp2_with fail
        refine (sLast_any HSt.out).mono ?_
        rintro e _ ⟨rfl, rfl⟩
        go_wp2_with fail
        refine (yLast_any HYt.out).mono ?_
        rintro e _ ⟨rfl, rfl⟩
        go_wp2_with fail
        refine (sLast_no HNt.out).mono ?_
        rintro e _ ⟨rfl, rfl⟩
        go_wp2_with fail
        refine (sAsked_no HNt.out).mono ?_
        rintro e _ ⟨rfl, rfl⟩
        go_wp2
        go_ret
        exact ⟨rfl, HGt.out⟩
end Go.Proofs.YtaefninikmaiiaaGreatDoor
/- The walk of the law LogfileSources where the log may not be. Conditions: how its arguments lie in memory; the table of powers of ten reads as the library lays it. -/
namespace Go.Proofs.YtaefninikmaiiaaGreatDoor
open BigFrame Go.ChangeShapes Go.WideShapes Go.ChangeAt Go.RowKit Go.Lib
set_option linter.unusedVariables false
set_option linter.unusedSimpArgs false

/-- Apart of a Book that was told of nothing that lies anywhere. -/
theorem nil_apart {w0 w : World} {bk T : Nat} {rI rW : Value} {hI hW : List Bq.HB} (h : Bq.B4 w0 w bk T (.slice none 0 0) rI rW (.slice none 0 0) [] hI hW []) (lI : Bq.lbs hI = []) (lW : Bq.lbs hW = []) (ht0 : Bq.Tab w0) (hf : Fr [] w0 w) :
    Calls Tryz.prog 17 #[.pointer (some ⟨bk, 0, none⟩)] w fun e w' => e = .returned (.bool true) ∧ (∀ p, NoS p w → NoS p w') ∧ Fr [] w0 w' := by
  obtain ⟨cs, hX, _⟩ := h.box
  have ho := h.own (by simp [Bq.lbs]) (by simp [lI]) (by simp [lW]) (by simp [Bq.lbs])
  have hcond : ∀ k ∈ Bq.own4 (.slice none 0 0) rI rW (.slice none 0 0) [] hI hW [], ∀ cs t, w.heap[k]? = some (.cells cs t (0, 0)) → t ≠ 72 := by
    intro k hk cs t hc
    simp only [Bq.own4, List.mem_append, Option.mem_toList, lI, lW] at hk
    rcases hk with (hk | hk) | (hk | hk) | (hk | hk) | (hk | hk)
    · simp [Value.ownBlock] at hk
    · simp [Bq.lbs] at hk
    · obtain ⟨cs1, h1⟩ := Bq.own_type h.sI.bl.row k hk
      have := cells_type hc h1
      subst this
      decide
    · simp at hk
    · obtain ⟨cs1, h1⟩ := Bq.own_type h.sW.bl.row k hk
      have := cells_type hc h1
      subst this
      decide
    · simp at hk
    · simp [Value.ownBlock] at hk
    · simp [Bq.lbs] at hk
  refine (Bq.apart4_any bk cs (.slice none 0 0) rI rW (.slice none 0 0) [] hI hW [] w hX h.sB h.sI h.sW h.sT (ht0.keep hf (by simp)) (fun hm => by have := ho _ hm; have := ht0.lt; omega)).mono ?_
  rintro e w' ⟨rfl, hF⟩
  refine ⟨rfl, fun p hp => ?_, hf.on hF ho⟩
  rcases hp with hp | ⟨x, e, hx⟩
  · exact Or.inl hp
  · exact Or.inr ⟨x, e, hF.keep hx (fun hm => hcond x hm _ _ hx rfl)⟩

set_option maxHeartbeats 16000000 in
set_option maxRecDepth 100000 in
theorem lsn (ao : Option Addr) (L cap : Nat) (ts : List Tm) (io : Option Addr) (M ic : Nat) (ns : List Int) (w : World) (hT : TRs w ao ts) (hLe : L = ts.length) (hN : IRs w io ns) (hMe : M = ns.length) (htab : Bq.Tab w) (c : Nat) (hbad : Bad 1 (txs ts) c) (hc0 : c ≠ 0) :
    Calls Tryz.prog 5 #[.slice ao L cap, .slice io M ic] w fun e w' => e = .returned (.bool true) ∧ Fr [] w w' := by
  have HL : Hid (L = ts.length) := hLe
  have HM : Hid (M = ns.length) := hMe
  have HTb : Hid (Bq.Tab w) := htab
  have HBad : Hid (Bad 1 (txs ts) c) := hbad
  have HI : Hid (∀ W, Fr [] w W → TRs W ao ts) := fun W hf => hT.keep hf
  have HN : Hid (∀ W, Fr [] w W → IRs W io ns) := fun W hf => hN.keep hf
  have hMM : M ≤ 17592186044416 := by have := hN.few; omega
  clear hLe htab hMe hbad hN
  go_enter Tryz.func5, Tryz.ntmps5
  go_wp2_with fail
  refine (txnsSizeB_any ao L cap ts _ hT HL.out).mono ?_
  rintro e w1 ⟨N0, rfl, hN0b, hLN, hFw0, hF1⟩
  have HFw0 : Hid (N0 ≤ 1048576 → Few ts) := hFw0
  clear hFw0
  go_wp2_with fail
  refine (beyond2_any w1.heap.size N0 M _ (by omega) (by omega) (by simp) (by simp)).mono ?_
  rintro e w2 ⟨rfl, rfl⟩
  have hF2 : Fr [] w1 (w1.alloc (.cells #[.int .i64 (N0 : Int), .int .i64 (M : Int)] 3)) := Fr.alloc _ _ _
  obtain ⟨w2, HW2⟩ : ∃ w2, Hid (w1.alloc (.cells #[.int .i64 (N0 : Int), .int .i64 (M : Int)] 3) = w2) := ⟨_, rfl⟩
  rw [HW2.out] at hF2 ⊢
  have hG2 := hF1.then hF2
  by_cases hbig : 1048576 < N0 + M
  · have hbd : decide (1048576 < N0 + M) = true := by simpa using hbig
    rw [hbd]
    go_wp2
    go_ret
    exact ⟨rfl, hG2⟩
  · have hbd : decide (1048576 < N0 + M) = false := by simpa using hbig
    rw [hbd]
    have hLs : L < 1048577 := by omega
    have hMs : M < 1048577 := by omega
    have HFew : Hid (Few ts) := HFw0.out (by omega)
    clear hF1 hF2 hbig hbd
    go_wp2_with fail
    refine (twinTs_any ao L cap ts _ (HI.out _ hG2) HL.out (by omega) HFew.out).mono ?_
    rintro e w4 ⟨b, ks, rfl, hb, hrow4, hTw4, hF4⟩
    have hG4 := hG2.then hF4
    have HG04 : Hid (Fr [] w w4) := hG4
    have hwb : w.heap.size ≤ b := by have := hG2.size; omega
    have hb4 : b < w4.heap.size := lt_of_block hrow4
    have HK4 : Hid (∀ k ∈ ks, k < w4.heap.size) := fun k hk => by
      obtain ⟨i, hi⟩ := List.getElem?_of_mem hk
      have hil : i < ts.length := by rw [← hTw4.len]; exact (List.getElem?_eq_some_iff.1 hi).1
      exact lt_of_block (hTw4.row i ts[i] k (List.getElem?_eq_getElem hil) hi)
    have HTw : Hid (∀ W, Fr [] w4 W → Twd w W ts ks) := fun W hf => by
      have h1 := hTw4.keep hf (by simp)
      exact ⟨h1.len, fun k hk => by have := h1.new k hk; have := hG2.size; omega, h1.row, h1.apart⟩
    have HRow : Hid (∀ W, Fr [] w4 W → W.heap[b]? = some (.cells (tmsC (twTs ts ks ++ [spT])).toArray 63 (0, 0))) := fun W hf => hf.keep hrow4 (by simp)
    have HX : Hid (∀ W, Fr [] w4 W → TRs W (some ⟨b, 0, none⟩) (twTs ts ks)) := fun W hf => twins_trs hT (HTw.out W hf) (HRow.out W hf)
    have HXL : Hid (L = (twTs ts ks).length) := by show _ = _; rw [twTs_length ts ks hTw4.len]; exact HL.out
    have HXT : Hid (txs (twTs ts ks) = txs ts) := txs_twTs ts ks hTw4.len
    have HBad2 : Hid (Bad 1 (txs (twTs ts ks)) c) := by show Bad _ _ _; rw [HXT.out]; exact HBad.out
    have hcc : ((c : Int) != c) = false := by simp
    have HI4 : Hid (∀ W, Fr [] w4 W → TRs W ao ts) := fun W hf => HI.out W (hG4.then hf)
    clear hrow4 hTw4 hF4 hG2 hG4 HI hb hT
    go_wp2_with fail
    refine (new_no (some ⟨b, 0, none⟩) L (L + 1) c (twTs ts ks) _ (HX.out _ (Fr.refl _ _)) HXL.out HBad2.out hc0).mono ?_
    rintro e w5 ⟨rfl, hF5⟩
    go_wp2_with fail
    refine (yNew_no ao L cap c ts _ (HI4.out _ hF5) HL.out HBad.out hc0).mono ?_
    rintro e w6 ⟨rfl, hF6⟩
    have hG6 := hF5.then hF6
    have HLf : Hid (∀ W, Fr [] w6 W → Calls Tryz.prog 14 #[.slice (some ⟨b, 0, none⟩) L (L + 1), .slice ao L cap] W fun e w' => e = .returned (.bool true) ∧ Fr [] W w') := fun W hf => leftTs_any b ks w ao L cap ts W (HI4.out _ (hG6.then hf)) HL.out (by omega) HFew.out (HTw.out _ (hG6.then hf)) (HRow.out _ (hG6.then hf))
    have HG6 : Hid (Fr [] w4 w6) := hG6
    clear hF5 hF6 hG6
    go_wp2_with fail
    refine (HLf.out _ (Fr.refl _ _)).mono ?_
    rintro e w9 ⟨rfl, hf9⟩
    have HG9 : Hid (Fr [] w4 w9) := HG6.out.then hf9
    obtain ⟨bk, HBk⟩ : ∃ bk, Hid (bk = w9.heap.size) := ⟨_, rfl⟩
    obtain ⟨wl, HWl⟩ : ∃ wl, Hid (wl = w9.alloc (Obj.cells #[.int .i64 0, .slice none 0 0, .slice none 0 0, .slice none 0 0, .slice none 0 0, .slice none 0 0, .slice none 0 0, .slice none 0 0, .slice none 0 0, .slice none 0 0, .slice none 0 0, .slice none 0 0] 45)) := ⟨_, rfl⟩
    clear hf9 HLf HG6
    go_upto_region 9 with fail
    rw [← HWl.out, ← HBk.out]
    have HFl : Hid (Fr [] w9 wl) := by rw [HWl.out]; exact Fr.alloc _ _ _
    have hBl : wl.heap[bk]? = some (.cells Bq.newBk 45 (0, 0)) := by rw [HWl.out, HBk.out]; exact heap_alloc_new w9 _
    have hs9 : w4.heap.size ≤ w9.heap.size := HG9.out.size
    have hs4 : w.heap.size ≤ w4.heap.size := HG04.out.size
    have hbk1 : w9.heap.size ≤ bk := by rw [HBk.out]; exact Nat.le_refl _
    have HB0 : Hid (Bq.B4 w wl bk 0 (.slice none 0 0) (.slice none 0 0) (.slice none 0 0) (.slice none 0 0) [] [] [] []) := Bq.B4.new hBl (by omega)
    have HG4l : Hid (Fr [] w4 wl) := HG9.out.then HFl.out
    have HD0 : Hid (Bq.Dts wl (some ⟨b, 0, none⟩) L (L + 1) (dts (twTs ts ks))) := twins_dts (HI4.out _ HG4l.out) HL.out hLs HFew.out (HTw.out _ HG4l.out) (HRow.out _ HG4l.out)
    have HC1 : Hid _ := Bq.txns_any HB0.out (some ⟨b, 0, none⟩) L (L + 1) _ HD0.out (fun i d hd k hk hm => by simp [Bq.lbs] at hm) (fun k hk hm => by simp [Bq.lbs] at hm) (by omega)
    clear hBl
    go_wp2_with fail
    refine Calls.mono HC1.out ?_
    rintro e wa ⟨rfl, rW, rT, hBa, hFa, hMWa, hMTa⟩
    have HBa : Hid (Bq.B4 w wa bk (0 + L + 1) (.slice none 0 0) (.slice none 0 0) rW rT [] [] ([] ++ Bq.held 0 (dts (twTs ts ks))) ([] ++ [⟨.slice (some ⟨b, 0, none⟩) L (L + 1), .slice none 0 0, 0 + L + 1⟩])) := hBa
    have HFa : Hid (Fr [bk] wl wa) := hFa
    have HGa : Hid (Fr [] w wa) := (HG04.out.then HG4l.out).on HFa.out (by intro x hx; simp at hx; omega)
    have HC4 : Hid _ := HBa.out.apart (by intro k hk; simp [Bq.lbs] at hk) (by intro k hk; simp [Bq.lbs] at hk) (by
        intro k hk
        rw [List.nil_append] at hk
        exact (HTw.out _ (Fr.refl _ _)).new k (lbs_twins hk)) (by
        intro k hk
        obtain ⟨h, hh, hk1⟩ := Bq.mem_lbs.1 hk
        simp at hh
        subst hh
        simp [Value.ownBlock] at hk1
        omega) HTb.out HGa.out
    clear hBa hFa hMWa hMTa HC1 HB0 HD0 HBa
    go_wp2_with fail
    refine Calls.mono HC4.out ?_
    rintro e wb ⟨rfl, hFb⟩
    have HFb : Hid (Fr [] w wb) := hFb
    obtain ⟨bj, HBj⟩ : ∃ bj, Hid (bj = wb.heap.size) := ⟨_, rfl⟩
    obtain ⟨wj, HWj⟩ : ∃ wj, Hid (wj = wb.alloc (Obj.cells #[.int .i64 0, .slice none 0 0, .slice none 0 0, .slice none 0 0, .slice none 0 0, .slice none 0 0, .slice none 0 0, .slice none 0 0, .slice none 0 0, .slice none 0 0, .slice none 0 0, .slice none 0 0] 45)) := ⟨_, rfl⟩
    clear hFb HC4 HFa HGa HG4l HFl HWl HBk HG9 HTw HRow HX HXL HXT HBad2 HI4 HK4
    go_upto_region 13 with fail
    rw [← HWj.out, ← HBj.out]
    have hFj : Fr [] wb wj := by rw [HWj.out]; exact Fr.alloc _ _ _
    have hBj : wj.heap[bj]? = some (.cells Bq.newBk 45 (0, 0)) := by rw [HWj.out, HBj.out]; exact heap_alloc_new wb _
    have HP0 : Hid (Bq.B4 w wj bj 0 (.slice none 0 0) (.slice none 0 0) (.slice none 0 0) (.slice none 0 0) [] [] [] []) := Bq.B4.new hBj (by rw [HBj.out]; exact HFb.out.size)
    have hG0 : Fr [] w wj := HFb.out.then hFj
    clear hFj hBj HWj HBj
    go_wp2_with fail
    go_loopw [12] (fun ii wr => ∃ (i T : Nat) (rI rW : Value) (hI hW : List Bq.HB), ii = .int .i64 i ∧ i ≤ M ∧ T ≤ 2 * i ∧ Hid (Bq.B4 w wr bj T (.slice none 0 0) rI rW (.slice none 0 0) [] hI hW []) ∧ Hid (Bq.lbs hI = []) ∧ Hid (Bq.lbs hW = []) ∧ Hid (Fr [] w wr)) (fun ii _ => M - (RowKit.intOf ii).toNat)
    case atStart => exact ⟨0, 0, _, _, [], [], rfl, Nat.zero_le _, Nat.le_refl _, HP0, rfl, rfl, hG0⟩
    case round =>
      clear HP0 hG0
      obtain ⟨i, T, rI, rW2, hI, hW, rfl, hiM, hTi, HP, HlI, HlW, HFr⟩ := hrel
      by_cases hi : i < M
      · have hi' : i < ns.length := by rw [← HM.out]; exact hi
        obtain ⟨ib, off, e9, hib, hc⟩ := (HN.out _ HFr.out).lies (by omega)
        subst e9
        have hx := hc i hi'
        obtain ⟨n, hn⟩ : ∃ n, n = ns.getD i 0 := ⟨_, rfl⟩
        rw [← hn] at hx
        have HCn : Hid (∀ W, Fr [] w W → W.cell? ⟨ib, off + i, none⟩ = some (.int .i64 n)) := fun W hf => by
          obtain ⟨ib', off', e', _, hc'⟩ := (HN.out _ hf).lies (by omega)
          cases e'
          rw [hc' i hi', hn]
        clear hc hn
        go_wp2_with fail
        refine (sGet_none (p := .pointer none) (Or.inl rfl) n).mono ?_
        rintro e wc ⟨rfl, hFc⟩
        have hFd : Fr [] wc (wc.alloc (.cells #[.int .i64 0, .slice none 0 0] 63)) := Fr.alloc _ _ _
        have hbx : B2 (wc.alloc (.cells #[.int .i64 0, .slice none 0 0] 63)) wc.heap.size (.int .i64 0) (.slice none 0 0) := ⟨heap_alloc_new _ _⟩
        obtain ⟨wd, HWd⟩ : ∃ wd, Hid (wc.alloc (.cells #[.int .i64 0, .slice none 0 0] 63) = wd) := ⟨_, rfl⟩
        rw [HWd.out] at hFd hbx
        obtain ⟨bx, HBx⟩ : ∃ bx, Hid (wc.heap.size = bx) := ⟨_, rfl⟩
        rw [HBx.out] at hbx
        have hGd : Fr [] wr wd := hFc.then hFd
        have hxn := HCn.out _ (HFr.out.then hGd)
        have HGd : Hid (Fr [] wr wd) := hGd
        have HBd : Hid (B2 wd bx (.int .i64 0) (.slice none 0 0)) := hbx
        clear hFc hFd hbx hGd hx
        go_upto_region 17 with fail
        rw [HWd.out, HBx.out]
        clear HWd
        go_wp2_with fail
        refine (yGet_nil _ n).mono ?_
        rintro e we ⟨rfl, hFe⟩
        have hFf : Fr [] we (we.alloc (.cells #[.int .i64 0, .slice none 0 0] 63)) := Fr.alloc _ _ _
        have hby : B2 (we.alloc (.cells #[.int .i64 0, .slice none 0 0] 63)) we.heap.size (.int .i64 0) (.slice none 0 0) := ⟨heap_alloc_new _ _⟩
        obtain ⟨wf, HWf⟩ : ∃ wf, Hid (we.alloc (.cells #[.int .i64 0, .slice none 0 0] 63) = wf) := ⟨_, rfl⟩
        rw [HWf.out] at hFf hby
        obtain ⟨bw, HBw⟩ : ∃ bw, Hid (we.heap.size = bw) := ⟨_, rfl⟩
        rw [HBw.out] at hby
        have hbf := HBd.out.keep (hFe.then hFf)
        have HGf : Hid (Fr [] wr wf) := HGd.out.then (hFe.then hFf)
        have HSm : Hid _ := sameTxn_any 0 0 none none 0 0 0 0 true [] [] wf (WRs.nil _ _) (WRs.nil _ _) rfl rfl (by simp)
        obtain ⟨k0, k1, l0, l1⟩ : _ ∧ _ ∧ _ ∧ _ := ⟨hbf.c0, hbf.c1, hby.c0, hby.c1⟩
        have HBf : Hid (B2 wf bx (.int .i64 0) (.slice none 0 0)) := hbf
        clear hFe hFf hby hbf HGd HBd hxn
        go_upto_region 18 with fail
        rw [HWf.out, HBw.out]
        clear HWf
        go_wp2_with fail
        refine Calls.mono HSm.out ?_
        rintro e wg ⟨rfl, hFg⟩
        have hGg := HGf.out.then hFg
        have HPg : Hid (Bq.B4 w wg bj T (.slice none 0 0) rI rW2 (.slice none 0 0) [] hI hW []) := HP.out.keep hGg
        have HGg : Hid (Fr [] w wg) := HFr.out.then hGg
        have hbg := HBf.out.keep hFg
        obtain ⟨m0, m1⟩ : _ ∧ _ := ⟨hbg.c0, hbg.c1⟩
        clear hFg hbg hGg HSm HGf HBf k0 k1 l0 l1 HP HFr
        go_wp2_with fail
        refine (sLast_no (p := .pointer none) (Or.inl rfl)).mono ?_
        rintro e _ ⟨rfl, rfl⟩
        go_wp2_with fail
        refine (yLast_nil _).mono ?_
        rintro e _ ⟨rfl, rfl⟩
        by_cases h30 : i < 30
        · have h30' : (i : Int) < 30 := by omega
          have HC7 : Hid _ := Bq.txn_any HPg.out 0 none 0 0 ⟨0, [], World.ownsRow_nil _ _ _ _, by omega⟩ (fun k hk => by simp [Value.ownBlock] at hk) (by omega)
          go_wp2_with fail
          refine Calls.mono HC7.out ?_
          rintro e wh ⟨rfl, rW3, hBh, hFh, hMh⟩
          have HBh : Hid (Bq.B4 w wh bj (T + 1) (.slice none 0 0) rI rW3 (.slice none 0 0) [] hI (hW ++ [⟨.slice none 0 0, .slice none 0 0, T + 1⟩]) []) := hBh
          have HlW2 : Hid (Bq.lbs (hW ++ [⟨.slice none 0 0, .slice none 0 0, T + 1⟩]) = []) := by show _ = _; rw [Bq.lbs_append, HlW.out]; rfl
          have HGh : Hid (Fr [] w wh) := HGg.out.on hFh (fun k hk => by
            rcases List.mem_cons.1 hk with hk | hk
            · have := HPg.out.bn; omega
            · exact HPg.out.rWn k (by simpa using hk))
          have HC8 : Hid _ := Bq.ints_any HBh.out none 0 0 ⟨0, [], World.ownsRow_nil _ _ _ _, by omega⟩ (fun k hk => by simp [Value.ownBlock] at hk) (by omega)
          clear hBh hFh hMh HC7 HPg HGg m0 m1
          go_wp2_with fail
          refine (sAsked_no (p := .pointer none) (Or.inl rfl)).mono ?_
          rintro e _ ⟨rfl, rfl⟩
          go_wp2_with fail
          refine Calls.mono HC8.out ?_
          rintro e wm ⟨rfl, rI3, hBm, hFm, hMm⟩
          have HBm : Hid (Bq.B4 w wm bj (T + 1 + 1) (.slice none 0 0) rI3 rW3 (.slice none 0 0) [] (hI ++ [⟨.slice none 0 0, .slice none 0 0, T + 1 + 1⟩]) (hW ++ [⟨.slice none 0 0, .slice none 0 0, T + 1⟩]) []) := hBm
          have HlI2 : Hid (Bq.lbs (hI ++ [⟨.slice none 0 0, .slice none 0 0, T + 1 + 1⟩]) = []) := by show _ = _; rw [Bq.lbs_append, HlI.out]; rfl
          have HGm : Hid (Fr [] w wm) := HGh.out.on hFm (fun k hk => by
            rcases List.mem_cons.1 hk with hk | hk
            · have := HBh.out.bn; omega
            · exact HBh.out.rIn k (by simpa using hk))
          clear hBm hFm hMm HC8 HBh HGh
          go_wp2
          go_roundw
          case rel => exact ⟨i + 1, T + 1 + 1, rI3, rW3, _, _, by simp, by omega, by omega, HBm, HlI2, HlW2, HGm⟩
          case measure => simp [RowKit.intOf]; omega
        · have h30' : ¬ (i : Int) < 30 := by omega
          clear m0 m1
          go_wp2
          go_roundw
          case rel => exact ⟨i + 1, T, rI, rW2, hI, hW, by simp, by omega, by omega, HPg, HlI, HlW, HGg⟩
          case measure => simp [RowKit.intOf]; omega
      · obtain rfl : i = M := by omega
        have hFz : Fr [] wr (wr.alloc (.cells #[.bool false, .slice none 0 0, .slice none 0 0] 72)) := Fr.alloc _ _ _
        have hNz : NoS (.pointer (some ⟨wr.heap.size, 0, none⟩)) (wr.alloc (.cells #[.bool false, .slice none 0 0, .slice none 0 0] 72)) := Or.inr ⟨_, rfl, heap_alloc_new _ _⟩
        obtain ⟨wz, HWz⟩ : ∃ wz, Hid (wr.alloc (.cells #[.bool false, .slice none 0 0, .slice none 0 0] 72) = wz) := ⟨_, rfl⟩
        rw [HWz.out] at hFz hNz
        obtain ⟨bz, HBz⟩ : ∃ bz, Hid (wr.heap.size = bz) := ⟨_, rfl⟩
        rw [HBz.out] at hNz
        have HFz : Hid (Fr [] wr wz) := hFz
        have HNz : Hid (NoS (.pointer (some ⟨bz, 0, none⟩)) wz) := hNz
        clear hFz hNz
        go_upto_region 24 with fail
        rw [HWz.out, HBz.out]
        clear HWz
        go_wp2_with fail
        refine (sGet_none HNz.out 1).mono ?_
        rintro e wo ⟨rfl, hFo⟩
        have hFp : Fr [] wo (wo.alloc (.cells #[.int .i64 0, .slice none 0 0] 63)) := Fr.alloc _ _ _
        obtain ⟨wp, HWp⟩ : ∃ wp, Hid (wo.alloc (.cells #[.int .i64 0, .slice none 0 0] 63) = wp) := ⟨_, rfl⟩
        rw [HWp.out] at hFp
        have hFq := hFo.then hFp
        have HNp : Hid (NoS (.pointer (some ⟨bz, 0, none⟩)) wp) := HNz.out.keep hFq
        have HC9 : Hid _ := nil_apart (HP.out.keep (HFz.out.then hFq)) HlI.out HlW.out HTb.out (HFr.out.then (HFz.out.then hFq))
        clear hFo hFp hFq HP HFr HFz HNz
        go_upto_region 25 with fail
        rw [HWp.out]
        clear HWp
        go_wp2_with fail
        refine Calls.mono HC9.out ?_
        rintro e wq ⟨rfl, hNq, hFq⟩
        have HNq : Hid (NoS (.pointer (some ⟨bz, 0, none⟩)) wq) := hNq _ HNp.out
        have HGq : Hid (Fr [] w wq) := hFq
        clear hNq hFq HC9 HNp
        go_wp2_with fail
        refine (sAsked_no (p := .pointer none) (Or.inl rfl)).mono ?_
        rintro e _ ⟨rfl, rfl⟩
        go_wp2_with fail
        refine (yAsked_nil _).mono ?_
        rintro e _ ⟨rfl, rfl⟩
        go_wp2_with fail
        refine (sameInts_any none none 0 0 0 [] wq ⟨fun h => by simp at h⟩ ⟨fun h => by simp at h⟩ rfl (by omega)).mono ?_
        rintro e wt ⟨rfl, q, HWt⟩
        have hFt : Fr [] wq wt := by rw [HWt]; exact Fr.drewN _ _ _
        have HNt : Hid (NoS (.pointer (some ⟨bz, 0, none⟩)) wt) := HNq.out.keep hFt
        have HGt : Hid (Fr [] w wt) := HGq.out.then hFt
        clear HWt hFt HNq HGq
        go_wp2_with fail
        refine (sLast_no (p := .pointer none) (Or.inl rfl)).mono ?_
        rintro e _ ⟨rfl, rfl⟩
        go_wp2_with fail
        refine (yLast_nil _).mono ?_
        rintro e _ ⟨rfl, rfl⟩
        go_wp2_with fail
        refine (sLast_no HNt.out).mono ?_
        rintro e _ ⟨rfl, rfl⟩
        go_wp2_with fail
        refine (sAsked_no HNt.out).mono ?_
        rintro e _ ⟨rfl, rfl⟩
        go_wp2
        go_ret
        exact ⟨rfl, HGt.out⟩
end Go.Proofs.YtaefninikmaiiaaGreatDoor
/- The walk of the law LogfileSources. Conditions: how its arguments lie in memory; the table of powers of ten reads as the library lays it. -/
namespace Go.Proofs.YtaefninikmaiiaaGreatDoor
open Go.ChangeShapes Go.WideShapes Go.ChangeAt Go.RowKit Go.Lib

theorem lsr (ao : Option Addr) (L cap : Nat) (ts : List Tm) (io : Option Addr) (M ic : Nat) (ns : List Int) (w : World) (hT : TRs w ao ts) (hLe : L = ts.length) (hN : IRs w io ns) (hMe : M = ns.length) (htab : Bq.Tab w) :
    Calls Tryz.prog 5 #[.slice ao L cap, .slice io M ic] w fun e w' => e = .returned (.bool true) ∧ Fr [] w w' := by
  obtain ⟨c, hc⟩ := Bad.ex (txs ts) 1
  by_cases h0 : c = 0
  · exact lso ao L cap ts io M ic ns w hT hLe hN hMe htab (hc.ok.1 h0)
  · exact lsn ao L cap ts io M ic ns w hT hLe hN hMe htab c hc h0
end Go.Proofs.YtaefninikmaiiaaGreatDoor
/- Transactions that came in: how they lie in memory. Conditions as each lemma names them. -/
namespace Go.Proofs.YtaefninikmaiiaaGreatDoor
open Go.ChangeShapes Go.WideShapes Go.ChangeAt Go.RowKit Go.Lib
set_option linter.unusedVariables false
section
variable {H : Type} {enc : TypeId × Value → H}
theorem Tryz.undTs' : Tryz.prog.underlying 22 = some (.slice 63) := by kernel_rfl
set_option maxRecDepth 100000 in
theorem ts_open {w : World} {fuel : Nat} {v : Value} {d : DataW H} {ps : List MemPlace} (h : DataW.trod enc Tryz.prog w 0 (fun _ => true) true fuel 22 [v] = some (d, ps)) (hsz : ∀ n ∈ d.weights Tryz.prog 22, n ≤ reachBytes) :
    ∃ ao L cap ts, v = .slice ao L cap ∧ TRs w ao ts ∧ L = ts.length ∧ L ≤ cap := by
  rcases Go.Deep.open_slice Tryz.undTs' h with ⟨hcs, _⟩ | ⟨a, len, cap, m, n, D, Pl, hcs, hb, hl, hm, hmm, hx, hE⟩
  · simp only [List.cons.injEq, and_true] at hcs
    exact ⟨none, 0, 0, [], hcs, TRs.nil _ _, rfl, Nat.le_refl _⟩
  · simp only [List.cons.injEq, and_true] at hcs
    simp only [if_true] at hmm
    subst hmm
    rw [Tryz.cellsT] at hE hx
    have hd : d = .slice ((List.range len).map D) ((List.range (m - len)).map fun j => D (len + j)) := by have := congrArg Prod.fst hx; simpa using this
    have hr := reachBytes_lt
    have hW : ∀ i, i < len → ∀ q ∈ (D i).weights Tryz.prog 63, q ≤ reachBytes := by
      intro i hi q hq
      apply hsz
      rw [hd]
      simp only [DataW.weights, Tryz.undTs']
      refine List.mem_cons_of_mem _ (List.mem_append_left _ ?_)
      exact weightsAll_mem (List.mem_map.2 ⟨i, by simpa using hi, rfl⟩) _ hq
    have hO : ∀ i, i < len → ∃ t : Tm, (w.cells? 0 (a.add (i * 2)) 2 = some [.int .i64 t.n, .slice t.ao t.L t.cap]) ∧ t.at w := by
      intro i hi
      obtain ⟨cs', h1, h2⟩ := hE i (by omega)
      obtain ⟨n, ao, L, cap, ws, rfl, hT⟩ := tx_open h2 (hW i hi)
      exact ⟨⟨n, ao, L, cap, ws⟩, h1, hT⟩
    haveI : Inhabited Tm := ⟨Tm.zero⟩
    obtain ⟨F, hF⟩ := Go.Deep.choose_lt hO
    have hlen : len ≤ 140737488355328 := by
      have hw : len * Tryz.prog.bytesOf 63 ≤ reachBytes := by
        refine Nat.le_trans (Nat.mul_le_mul_right _ hl) (hsz _ ?_)
        rw [hd]
        simp only [DataW.weights, Tryz.undTs', List.length_map, List.length_range]
        rw [show len + (m - len) = m by omega]
        exact List.mem_cons_self
      have hb40 : 1 ≤ Tryz.prog.bytesOf 63 := by
        rw [show Tryz.prog.bytesOf 63 = 32 from by kernel_rfl]
        decide
      have := Nat.le_mul_of_pos_right len hb40
      omega
    refine ⟨some a, len, m, (List.range len).map F, hcs, ⟨fun h0 => ?_, by simpa using hlen, ?_⟩, by simp, hl⟩
    · simp only [List.length_map, List.length_range] at h0 ⊢
      have hc0 := (World.cells?_some (hF 0 (by omega)).1).2.2
      obtain ⟨b, off, spot⟩ := a
      have hspot : spot = none := by
        have := hc0 0 (by omega)
        simp at this
        simpa [Addr.add] using World.cell?_spot this
      subst hspot
      have hcell : ∀ i, i < len → ∀ j, j < 2 → w.cell? ⟨b, off + i * 2 + j, none⟩ = [Value.int .i64 (F i).n, .slice (F i).ao (F i).L (F i).cap][j]? := by
        intro i hi j hj
        have := (World.cells?_some (hF i (by omega)).1).2.2 j hj
        rw [show ((⟨b, off, none⟩ : Addr).add (i * 2)).add j = ⟨b, off + i * 2 + j, none⟩ from by rw [Addr.add_lit, Addr.add_lit]] at this
        exact this
      refine ⟨b, off, rfl, World.block_lt_of_cell? w ⟨b, off + 0 * 2 + 0, none⟩ (by rw [hcell 0 (by omega) 0 (by omega)]; rfl), fun i hi => ?_⟩
      have e : ((List.range len).map F).getD i Tm.zero = F i := by simp [List.getD, hi]
      rw [e]
      exact ⟨hcell i hi 0 (by omega), hcell i hi 1 (by omega)⟩
    · intro t ht
      obtain ⟨i, hi, rfl⟩ := List.mem_map.1 ht
      exact (hF i (by simpa using hi)).2
end
end Go.Proofs.YtaefninikmaiiaaGreatDoor

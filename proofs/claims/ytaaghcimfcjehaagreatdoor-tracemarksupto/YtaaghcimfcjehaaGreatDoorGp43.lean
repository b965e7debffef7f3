/- Texts of this claim laid together, one behind the other: contracts and plain lemmas; conditions as each names them. -/
import Derived.Test.YtaaghcimfcjehaaGreatDoorGp38
/- What the Book answers when it looks at its lists (Write): true, where each and what was put behind it read as its mark. Conditions: fewer than 2^21 lists. -/
namespace Go.Proofs.YtaaghcimfcjehaaGreatDoor.Bq
open BigFrame Go.ChangeShapes Go.WideShapes Go.ChangeAt Go.RowKit Go.Lib
set_option linter.unusedVariables false
set_option linter.unusedSimpArgs false

set_option maxHeartbeats 8000000 in
set_option maxRecDepth 100000 in
theorem lookWrite_any (bk : Nat) (rv : Value) (hs : List HB) (w : World) (h : Bl kWrite w bk rv hs) (h2 : ∀ (j : Nat) (h : HB), hs[j]? = some h → P2 kWrite w h) (htab : Tab w) :
    Calls Tryz.prog 62 #[.pointer (some ⟨bk, 0, none⟩)] w fun e w' => e = .returned (.bool true) ∧ Fr [] w w' := by
  obtain ⟨N, HN⟩ : ∃ N, Hid (N = hs.length) := ⟨_, rfl⟩
  have hfew := h.few
  rw [← HN.out] at hfew
  obtain ⟨rao, rcap, hrv⟩ := own_slice h.row
  rw [← HN.out] at hrv
  have H : Hid (Bl kWrite w bk rv hs) := h
  clear h
  subst hrv
  go_enter Tryz.func62, Tryz.ntmps62
  go_wp2_with fail
  go_loopw [3] (fun ii wr => ∃ (i : Nat), ii = .int .i64 i ∧ i ≤ N ∧ Fr [] w wr) (fun ii _ => N - (RowKit.intOf ii).toNat)
  case atStart => exact ⟨0, rfl, Nat.zero_le _, Fr.refl _ _⟩
  case round =>
    obtain ⟨i, rfl, hiN, hF⟩ := hrel
    have hB := H.out.keep hF (by simp) (by simp)
    have c1 : wr.cell? ⟨bk, 4, none⟩ = some (.slice rao N rcap) := hB.c1
    by_cases hi : i < N
    · obtain ⟨e, he⟩ : ∃ e, hs[i]? = some e := ⟨_, List.getElem?_eq_getElem (by rw [← HN.out]; exact hi)⟩
      obtain ⟨rb, rc, hrv, hrc, d0, d1, d2⟩ := hB.at i e he
      rw [← HN.out] at hrv hrc
      cases hrv
      have hen : e.n < 4194304 := hB.num i e he
      have hp2 := (h2 i e he).keep hF (by simp) (by simp)
      obtain ⟨n, hR, hO, hn21⟩ := hp2
      obtain ⟨lao, lcap, hl, hlc, hlr⟩ := hR.shape
      obtain ⟨g, gcap, hx, hxc⟩ := own_form hO (by omega)
      obtain ⟨Q, hQ⟩ : ∃ Q, Q = n + 70 := ⟨_, rfl⟩
      rw [hx] at hO d1
      rw [hl] at d0
      obtain ⟨M, HM⟩ : ∃ M, Hid (M = e.n) := ⟨_, rfl⟩
      rw [← HM.out] at d2 hen
      obtain ⟨B, HB⟩ : ∃ B, Hid (mWord M = B) := ⟨_, rfl⟩
      have hmk : kWrite.mark e.n = [.string B, .string ⟨#[]⟩, .bool false] := by rw [← HM.out, ← HB.out]
      rw [hmk] at hlr hO
      rw [← hQ] at hO d1 hxc
      have hQn : (Q : Int) = (n : Int) + 70 := by omega
      have hne : ((Q : Int) != (n : Int) + 70) = false := by rw [hQn]; simp
      have hQb : Q < 2^35 := by omega
      have HQn : Hid (Q = n + 70) := hQ
      have HX : Hid (∀ W, Fr [] wr W → ∀ k i, k < Q → i < 3 → W.cell? ⟨g, k * 3 + i, none⟩ = [.string B, .string ⟨#[]⟩, .bool false][i]?) := by
        intro W hf k i hk hi
        exact own_marks (K := kWrite) (n := 0) rfl (owns_keep hO hf (by simp)) k i hk hi
      have HY : Hid (0 < n → ∃ t, lao = some ⟨t, 0, none⟩ ∧ ∀ W, Fr [] wr W → ∀ k i, k < n → i < 3 → W.cell? ⟨t, k * 3 + i, none⟩ = [.string B, .string ⟨#[]⟩, .bool false][i]?) := by
        intro h0
        obtain ⟨t, e1, hc⟩ := hlr h0
        refine ⟨t, e1, fun W hf k i hk hi => ?_⟩
        obtain ⟨cs, hcs⟩ := hR.type t (by rw [hl, e1]; rfl)
        exact (World.cell?_of_block (hf.block t (lt_of_block hcs) (by simp))).trans (hc k i hk hi)
      clear hO hR hB he hx hl hQ hQn hlr hmk
      go_wp2_with fail
      obtain ⟨hv, hhv⟩ : ∃ hv, hv = wr.heap.size := ⟨_, rfl⟩
      obtain ⟨w1, hw1⟩ : ∃ w1, w1 = wr.alloc (Obj.cells #[.slice lao n lcap, .slice (some ⟨g, 0, none⟩) Q gcap, .int .i64 (M : Int)] 147) := ⟨_, rfl⟩
      rw [← hw1, ← hhv]
      have hF1 : Fr [] wr w1 := by rw [hw1]; exact Fr.alloc [] _ _
      have hvb : w1.heap[hv]? = some (.cells #[.slice lao n lcap, .slice (some ⟨g, 0, none⟩) Q gcap, .int .i64 (M : Int)] 147 (0, 0)) := by rw [hw1, hhv]; exact heap_alloc_new wr _
      have HA : Hid (∀ W, Fr [] w1 W → W.cell? ⟨hv, 0, none⟩ = some (.slice lao n lcap) ∧ W.cell? ⟨hv, 1, none⟩ = some (.slice (some ⟨g, 0, none⟩) Q gcap) ∧ W.cell? ⟨hv, 2, none⟩ = some (.int .i64 (M : Int)) ∧ Fr [] wr W) := by
        intro W hf
        have hb := hf.keep hvb (by simp)
        exact ⟨by rw [cell_of_row _ _ _ _ _ _ hb]; rfl, by rw [cell_of_row _ _ _ _ _ _ hb]; rfl, by rw [cell_of_row _ _ _ _ _ _ hb]; rfl, hF1.then hf⟩
      have HF1 : Hid (Fr [] w w1) := hF.then hF1
      have HTW : Hid (Tab w1) := htab.keep HF1.out (by simp)
      obtain ⟨v0, v1, v2, _⟩ := HA.out _ (Fr.refl [] w1)
      clear hw1 hhv c1 d0 d1 d2 hvb hF hF1
      go_loopw [5] (fun kk wr' => ∃ (k : Nat), kk = .int .i64 k ∧ k ≤ Q ∧ Fr [] w1 wr') (fun kk _ => Q - (RowKit.intOf kk).toNat)
      case atStart => exact ⟨0, rfl, Nat.zero_le _, Fr.refl _ _⟩
      case round =>
        obtain ⟨k, rfl, hkQ, hFq⟩ := hrel
        obtain ⟨a0, a1, a2, _⟩ := HA.out _ hFq
        by_cases hk : k < Q
        · have hlt : (k : Int) < Q := by omega
          have HF : Hid (Fr [] w1 wr) := hFq
          have f0 : ∀ x : Wd w1, x.W.cell? ⟨hv, 0, none⟩ = some (.slice lao n lcap) := fun x => (HA.out _ x.h).1
          have f1 : ∀ x : Wd w1, x.W.cell? ⟨hv, 1, none⟩ = some (.slice (some ⟨g, 0, none⟩) Q gcap) := fun x => (HA.out _ x.h).2.1
          have f2 : ∀ x : Wd w1, x.W.cell? ⟨hv, 2, none⟩ = some (.int .i64 (M : Int)) := fun x => (HA.out _ x.h).2.2.1
          have g0 : ∀ x : Wd w1, x.W.cell? ⟨g, k * 3, none⟩ = some (.string B) := fun x => by exact HX.out x.W (HA.out _ x.h).2.2.2 k 0 hk (by omega)
          have g1 : ∀ x : Wd w1, x.W.cell? ⟨g, k * 3 + 1, none⟩ = some (.string ⟨#[]⟩) := fun x => by exact HX.out x.W (HA.out _ x.h).2.2.2 k 1 hk (by omega)
          have g2 : ∀ x : Wd w1, x.W.cell? ⟨g, k * 3 + 2, none⟩ = some (.bool false) := fun x => by exact HX.out x.W (HA.out _ x.h).2.2.2 k 2 hk (by omega)
          by_cases hkn : k < n
          · have hkn' : (k : Int) < n := by omega
            obtain ⟨t, e9, HT⟩ := HY.out (by omega)
            subst e9
            have y0 : ∀ x : Wd w1, x.W.cell? ⟨t, k * 3, none⟩ = some (.string B) := fun x => by exact HT x.W (HA.out _ x.h).2.2.2 k 0 hkn (by omega)
            have y1 : ∀ x : Wd w1, x.W.cell? ⟨t, k * 3 + 1, none⟩ = some (.string ⟨#[]⟩) := fun x => by exact HT x.W (HA.out _ x.h).2.2.2 k 1 hkn (by omega)
            have y2 : ∀ x : Wd w1, x.W.cell? ⟨t, k * 3 + 2, none⟩ = some (.bool false) := fun x => by exact HT x.W (HA.out _ x.h).2.2.2 k 2 hkn (by omega)
            clear hFq
            go_wp2_with fail
            refine wp_region_wd (w1 := w1) (by kernel_rfl) (by kernel_rfl) HF.out ?_
            repeat (go_big_quiet_step (exact (isWrite_at M B _ hen HB.out (HTW.out.keep (Wd.h _) (by simp))).mono fun e w3 hh => ⟨hh.1, ⟨_, Fr.then (Wd.h _) hh.2⟩, rfl⟩))
            refine wpQuiet_nil ?_
            rintro _ ⟨x, rfl⟩
            go_wp2_with fail
            go_roundw
            case rel => exact ⟨k + 1, by simp, by omega, x.h⟩
            case measure => simp [RowKit.intOf]; omega
          · have hkn' : ¬ ((k : Int) < n) := by omega
            clear hFq
            go_wp2_with fail
            refine wp_region_wd (w1 := w1) (by kernel_rfl) (by kernel_rfl) HF.out ?_
            repeat (go_big_quiet_step (exact (isWrite_at M B _ hen HB.out (HTW.out.keep (Wd.h _) (by simp))).mono fun e w3 hh => ⟨hh.1, ⟨_, Fr.then (Wd.h _) hh.2⟩, rfl⟩))
            refine wpQuiet_nil ?_
            rintro _ ⟨x, rfl⟩
            go_wp2_with fail
            go_roundw
            case rel => exact ⟨k + 1, by simp, by omega, x.h⟩
            case measure => simp [RowKit.intOf]; omega
        · have hle : (Q : Int) ≤ k := by omega
          have hF2 := HF1.out.then hFq
          go_wp2_with fail
          go_roundw
          case rel => exact ⟨i + 1, by simp, by omega, hF2⟩
          case measure => simp [RowKit.intOf]; omega
    · go_wp2_with fail
      go_ret
      exact ⟨rfl, hF⟩
end Go.Proofs.YtaaghcimfcjehaaGreatDoor.Bq
/- What the Book's fill does to its lists (Txn): each is written over with its mark, and nothing else. Conditions: no two held lists share a block. -/
namespace Go.Proofs.YtaaghcimfcjehaaGreatDoor.Bq
open Go.ChangeShapes Go.WideShapes Go.ChangeAt Go.RowKit Go.Lib
set_option linter.unusedVariables false

set_option maxHeartbeats 8000000 in
set_option maxRecDepth 100000 in
theorem fillTxn_any (bk : Nat) (rv : Value) (hs : List HB) (w : World) (h : Bl kTxn w bk rv hs) (h0 : ∀ (j : Nat) (h : HB), hs[j]? = some h → P0 kTxn w h) (ha : Alone hs) (hfre : Fresh hs) :
    Calls Tryz.prog 43 #[.pointer (some ⟨bk, 0, none⟩)] w fun e w' => e = .returned (.tuple #[]) ∧ Hid (FillInv kTxn w bk rv hs hs.length w') := by
  have HI0 : Hid (FillInv kTxn w bk rv hs 0 w) := ⟨h, fun _ _ _ hj => by omega, fun j b hb _ => h0 j b hb, Fr.refl _ _⟩
  obtain ⟨N, HN⟩ : ∃ N, Hid (N = hs.length) := ⟨_, rfl⟩
  have hfew := h.few
  have HNUM : Hid (∀ (j : Nat) (h : HB), hs[j]? = some h → h.n < 4194304) := h.num
  rw [← HN.out] at hfew
  clear h0
  obtain ⟨rao, rcap, hrv⟩ := own_slice h.row
  rw [← HN.out] at hrv
  clear h
  subst hrv
  go_enter Tryz.func43, Tryz.ntmps43
  go_wp2_with fail
  go_loopw [2] (fun ii wr => ∃ i : Nat, ii = .int .i64 i ∧ i ≤ N ∧ Hid (FillInv kTxn w bk (.slice rao N rcap) hs i wr)) (fun ii _ => N - (RowKit.intOf ii).toNat)
  case atStart => exact ⟨0, rfl, Nat.zero_le _, HI0⟩
  case round =>
    clear HI0
    obtain ⟨i, rfl, hiN, HI⟩ := hrel
    have c1 : wr.cell? ⟨bk, 7, none⟩ = some (.slice rao N rcap) := HI.out.bk.c1
    by_cases hi : i < N
    · obtain ⟨e, he⟩ : ∃ e, hs[i]? = some e := ⟨_, List.getElem?_eq_getElem (by rw [← HN.out]; exact hi)⟩
      have HE : Hid (hs[i]? = some e) := he
      obtain ⟨rb, rc, hrv, hrc, d0, d1, d2⟩ := HI.out.bk.at i e he
      rw [← HN.out] at hrv hrc
      cases hrv
      have hen : e.n < 4194304 := HNUM.out i e he
      obtain ⟨n, vs, hO, hn21⟩ := HI.out.left i e he (Nat.le_refl _)
      obtain ⟨lao, lcap, hl⟩ := own_slice hO
      have HLe : Hid (e.l = .slice lao n lcap) := hl
      rw [hl] at d0 hO
      obtain ⟨M, HM⟩ : ∃ M, Hid (M = e.n) := ⟨_, rfl⟩
      rw [hfre i e he] at d1
      rw [← HM.out] at d2 hen
      clear he hl
      obtain ⟨B, HB⟩ : ∃ B, Hid (mInt M = B) := ⟨_, rfl⟩
      go_wp2_with fail
      obtain ⟨hv, hhv⟩ : ∃ hv, hv = wr.heap.size := ⟨_, rfl⟩
      obtain ⟨w1, hw1⟩ : ∃ w1, w1 = wr.alloc (Obj.cells #[.slice lao n lcap, .slice none 0 0, .int .i64 (M : Int)] 160) := ⟨_, rfl⟩
      rw [← hw1, ← hhv]
      have hF1 : Fr [] wr w1 := by rw [hw1]; exact Fr.alloc [] _ _
      have hvb : w1.heap[hv]? = some (.cells #[.slice lao n lcap, .slice none 0 0, .int .i64 (M : Int)] 160 (0, 0)) := by rw [hw1, hhv]; exact heap_alloc_new wr _
      have HLT : Hid (∀ k, (Value.slice lao n lcap).ownBlock = some k → k ≠ hv) := by
        intro k hk
        have := (hO.lt k hk).2
        omega
      have hO1 := owns_keep hO hF1 (by simp)
      have hvl := hO.1
      clear hO hw1 hhv d0 d1 d2 c1
      have HI0 : Hid (w1.ownsRow 0 66 2 (.slice lao n lcap) n (marks [.int .i64 B, .slice none 0 0] 0 ++ vs)) := hO1
      clear hO1
      go_loopw [4] (fun kk wr' => ∃ (k : Nat) (R : List Value), kk = .int .i64 k ∧ k ≤ n ∧ Hid (R.length = (n - k) * 2) ∧ Hid (wr'.ownsRow 0 66 2 (.slice lao n lcap) n (marks [.int .i64 B, .slice none 0 0] k ++ R)) ∧ Hid (Fr (Value.slice lao n lcap).ownBlock.toList w1 wr')) (fun kk _ => n - (RowKit.intOf kk).toNat)
      case atStart => exact ⟨0, vs, rfl, Nat.zero_le _, hvl, HI0, Fr.refl _ _⟩
      case round =>
        clear HI0
        obtain ⟨k, R, rfl, hkn, HR, HO, HF2⟩ := hrel
        have hvb2 := HF2.out.keep hvb (by intro hm; exact HLT.out hv (by simpa using hm) rfl)
        by_cases hk : k < n
        · have hlt : (k : Int) < n := by omega
          obtain ⟨t, gc, hg, hgc⟩ := own_form HO.out (by omega)
          cases hg
          have hvt' : t ≠ hv := HLT.out t rfl
          have hvt : hv ≠ t := fun e => hvt' e.symm
          obtain ⟨a, b, S, hRe, hS⟩ := fmore2 hk HR.out
          subst hRe
          have HS : Hid (S.length = (n - (k + 1)) * 2) := hS
          have HC : Hid (∀ W, Fr [] wr W → W.cell? ⟨hv, 0, none⟩ = some (.slice (some ⟨t, 0, none⟩) n lcap) ∧ W.cell? ⟨hv, 2, none⟩ = some (.int .i64 (M : Int)) ∧ W.cell? ⟨t, k * 2, none⟩ = some a ∧ W.cell? ⟨t, k * 2 + 1, none⟩ = some b ∧ W.frozen? ⟨t, k * 2, none⟩ = false ∧ W.frozen? ⟨t, k * 2 + 1, none⟩ = false) := by
            intro W hf
            have hb := hf.keep hvb2 (by simp)
            have hO := owns_keep HO.out hf (by simp)
            have hc : ∀ j u, (a :: b :: S)[j]? = some u → W.cell? ⟨t, k * 2 + j, none⟩ = some u := behind rfl hO
            exact ⟨by rw [cell_of_row _ _ _ _ _ _ hb]; rfl, by rw [cell_of_row _ _ _ _ _ _ hb]; rfl, hc 0 a rfl, hc 1 b rfl, own_free hO _, own_free hO _⟩
          have HP : Hid (∀ W, Fr [] wr W → Hid ((((W.setCell ⟨t, k * 2, none⟩ (.int .i64 B)).setCell ⟨t, k * 2 + 1, none⟩ (.slice none 0 0))).ownsRow 0 66 2 (.slice (some ⟨t, 0, none⟩) n lcap) n (marks [.int .i64 B, .slice none 0 0] (k + 1) ++ S)) ∧ Hid (Fr (Value.slice (some ⟨t, 0, none⟩) n lcap).ownBlock.toList w1 (((W.setCell ⟨t, k * 2, none⟩ (.int .i64 B)).setCell ⟨t, k * 2 + 1, none⟩ (.slice none 0 0))))) := by
            intro W hf
            have hO := owns_keep HO.out hf (by simp)
            have h3 := (own_put (own_put hO (k * 2) (.int .i64 B)) (k * 2 + 1) (.slice none 0 0))
            rw [fstep2] at h3
            refine ⟨h3, ?_⟩
            show Fr [t] w1 _
            exact ((show Fr [t] w1 wr from HF2.out).trans hf (fun x hx _ => hx) (by simp)).then ((Fr.set W ⟨t, k * 2, none⟩ _ (by simp)).then (Fr.set _ ⟨t, k * 2 + 1, none⟩ _ (by simp)))
          obtain ⟨a0, a1, a2, a3, a4, a5⟩ := HC.out _ (Fr.refl [] wr)
          obtain ⟨b0, b1, b2, b3, b4, b5⟩ := HC.out _ (Fr.drew [] wr)
          have hMk := markTxn_at M B wr.drew hen HB.out
          clear hvb hvb2 hS
          go_wp2_with fail
          first
            | go_loud (go_region_held3 (fun W => W.cell? ⟨hv, 0, none⟩ = some (.slice (some ⟨t, 0, none⟩) n lcap) ∧ W.cell? ⟨hv, 2, none⟩ = some (.int .i64 (M : Int))) (go_keep)
                (first
                | (go_at_call 96; with_reducible refine hMk.mono ?_; rintro e w3 ⟨rfl, hF3⟩; obtain ⟨j0, j1, j2, j3, j4, j5⟩ := HC.out _ ((Fr.drew [] wr).then hF3))))
            | fail
          obtain ⟨p1, p2⟩ := HP.out _ ((Fr.drew [] wr).then hF3)
          clear hF3 hMk HP HC
          go_wp2_with fail
          go_roundw
          case rel => exact ⟨k + 1, S, by simp, by omega, HS, p1, p2⟩
          case measure => simp [RowKit.intOf]; omega
        · have hle : (n : Int) ≤ k := by omega
          have v0 : wr.cell? ⟨hv, 0, none⟩ = some (.slice lao n lcap) := by rw [cell_of_row _ _ _ _ _ _ hvb2]; rfl
          have HP1 : Hid (P1 kTxn wr e) := by
            refine ⟨n, ?_, hn21⟩
            have hkn' : k = n := by omega
            have hR0 : R = [] := List.eq_nil_of_length_eq_zero (by rw [HR.out, hkn']; omega)
            have := HO.out
            rw [hR0, List.append_nil, hkn', ← HB.out] at this
            rw [HLe.out, ← HM.out]
            exact this
          have HI2 : Hid (FillInv kTxn w bk (.slice (some ⟨rb, 0, none⟩) N rcap) hs (i + 1) wr) := HI.out.next ha HE.out hF1 (by rw [HLe.out]; exact HF2.out) HP1.out
          clear hvb hvb2 HO
          go_wp2_with fail
          go_roundw
          case rel => exact ⟨i + 1, by simp, by omega, HI2⟩
          case measure => simp [RowKit.intOf]; omega
    · obtain rfl : i = N := by omega
      go_wp2_with fail
      go_end0
      exact ⟨rfl, by rw [← HN.out]; exact HI⟩
end Go.Proofs.YtaaghcimfcjehaaGreatDoor.Bq
/- What the Book's grow does to its lists (Txn): more is put behind each, which stays as it is; nothing else is written. Conditions: no two held lists share a block. -/
namespace Go.Proofs.YtaaghcimfcjehaaGreatDoor.Bq
open Go.ChangeShapes Go.WideShapes Go.ChangeAt Go.RowKit Go.Lib
set_option linter.unusedVariables false
theorem Tryz.infoETxn : (Tryz.prog.info? 66).map (fun i => (i.zero, i.size, i.bytes)) = some (some (.agg #[.int .i64 0, .slice none 0 0]), 2, 32) := by kernel_rfl
theorem Tryz.undETxns : Tryz.prog.underlying 24 = some (.slice 66) := by kernel_rfl

set_option maxHeartbeats 4000000 in
set_option maxRecDepth 100000 in
theorem growTxn_any (bk : Nat) (rv : Value) (hs0 : List HB) (w : World) (h : Bl kTxn w bk rv hs0) (h1 : ∀ (j : Nat) (h : HB), hs0[j]? = some h → P1 kTxn w h) (ha : Alone hs0) (hfre : Fresh hs0) :
    Calls Tryz.prog 54 #[.pointer (some ⟨bk, 0, none⟩)] w fun e w' => e = .returned (.tuple #[]) ∧ ∃ hs, Hid (GrowInv kTxn w bk rv hs0 hs0.length hs w') := by
  obtain ⟨i0, hi0, hz0, hz1, hz2⟩ := info_parts Tryz.infoETxn
  have hold : ∀ (j : Nat) (a : HB), hs0[j]? = some a → ∀ k, a.l.ownBlock = some k → k < w.heap.size := by
    intro j a haj k hk
    obtain ⟨cs, hc⟩ := (h1 j a haj).type k hk
    exact lt_of_block hc
  have HI0 : Hid (GrowInv kTxn w bk rv hs0 0 hs0 w) := by
    refine ⟨h, rfl, fun j a haj => ⟨a, haj, rfl, rfl⟩, fun _ _ _ hj => by omega, fun j a haj _ => ⟨h1 j a haj, hfre j a haj⟩, ?_, ?_, Fr.refl _ _⟩
    · intro j a haj k hk
      rw [hfre j a haj] at hk
      simp [Value.ownBlock] at hk
    · intro j j' a b haj _ _ k hk
      rw [hfre j a haj] at hk
      simp [Value.ownBlock] at hk
  obtain ⟨N, HN⟩ : ∃ N, Hid (N = hs0.length) := ⟨_, rfl⟩
  have hfew := h.few
  rw [← HN.out] at hfew
  obtain ⟨rao, rcap, hrv⟩ := own_slice h.row
  rw [← HN.out] at hrv
  clear h h1
  subst hrv
  go_enter Tryz.func54, Tryz.ntmps54
  go_wp2_with fail
  go_loopw [2] (fun ii wr => ∃ (i : Nat) (hs : List HB), ii = .int .i64 i ∧ i ≤ N ∧ Hid (GrowInv kTxn w bk (.slice rao N rcap) hs0 i hs wr)) (fun ii _ => N - (RowKit.intOf ii).toNat)
  case atStart => exact ⟨0, hs0, rfl, Nat.zero_le _, HI0⟩
  case round =>
    clear HI0
    obtain ⟨i, hs, rfl, hiN, HI⟩ := hrel
    have c1 : wr.cell? ⟨bk, 7, none⟩ = some (.slice rao N rcap) := HI.out.bk.c1
    by_cases hi : i < N
    · have HN2 : Hid (N = hs.length) := by show _ = _; rw [HI.out.len, HN.out]
      obtain ⟨e, he⟩ : ∃ e, hs[i]? = some e := ⟨_, List.getElem?_eq_getElem (by rw [← HN2.out]; exact hi)⟩
      have HE : Hid (hs[i]? = some e) := he
      obtain ⟨rb, rc, hrv, hrc, d0, d1, d2⟩ := HI.out.bk.at i e he
      rw [← HN2.out] at hrv hrc
      cases hrv
      have hen : e.n < 4194304 := HI.out.bk.num i e he
      obtain ⟨⟨n, hO, hn21⟩, hnil⟩ := HI.out.left i e he (Nat.le_refl _)
      obtain ⟨lao, lcap, hl⟩ := own_slice hO
      have HLe : Hid (e.l = .slice lao n lcap) := hl
      rw [hnil] at d1
      rw [hl] at d0 hO
      have hlc : n ≤ lcap := by
        rcases hO.2 with ⟨hh, h0⟩ | ⟨_, _, _, hh, _, _, hnc, _⟩
        · cases hh; omega
        · cases hh; exact hnc
      obtain ⟨M, HM⟩ : ∃ M, Hid (M = e.n) := ⟨_, rfl⟩
      rw [← HM.out] at d2 hen hO
      clear he hl hnil
      go_wp2_with fail
      obtain ⟨hv, hhv⟩ : ∃ hv, hv = wr.heap.size := ⟨_, rfl⟩
      obtain ⟨w1, hw1⟩ : ∃ w1, w1 = wr.alloc (Obj.cells #[.slice lao n lcap, .slice none 0 0, .int .i64 (M : Int)] 160) := ⟨_, rfl⟩
      rw [← hw1, ← hhv]
      have hF1 : Fr [] wr w1 := by rw [hw1]; exact Fr.alloc [] _ _
      have hvb : w1.heap[hv]? = some (.cells #[.slice lao n lcap, .slice none 0 0, .int .i64 (M : Int)] 160 (0, 0)) := by rw [hw1, hhv]; exact heap_alloc_new wr _
      have hlt : ∀ k, (Value.slice lao n lcap).ownBlock = some k → k < w1.heap.size ∧ k ≠ hv := by
        intro k hk
        have := (hO.lt k hk).2
        have := hF1.size
        omega
      have hO1 := owns_keep hO hF1 (by simp)
      clear hO hw1 hhv d0 d1 d2 c1
      have HG0 : Hid (GIn kTxn w1 (.slice lao n lcap) n M 0 (.slice lao n lcap) w1) := by
        refine ⟨hO1, ?_, Fr.refl _ _, Or.inl rfl⟩
        refine Rdm.of_own (kTxn.len M) hO1 (Nat.le_refl _) rfl hlc ?_
        intro a ha'
        rcases hO1.2 with ⟨hh, _⟩ | ⟨g, _, _, hh, _⟩
        · cases hh; cases ha'
        · cases hh; cases ha'; exact ⟨rfl, rfl⟩
      clear hO1
      go_loopw [4, 5] (fun vv kk wr' => ∃ (k : Nat) (vao : Option Addr) (vcap : Nat), vv = .slice vao (n + k) vcap ∧ kk = .int .i64 k ∧ k ≤ 70 ∧ Hid (GIn kTxn w1 (.slice lao n lcap) n M k (.slice vao (n + k) vcap) wr')) (fun _ kk _ => 70 - (RowKit.intOf kk).toNat)
      case atStart => exact ⟨0, lao, lcap, rfl, rfl, by omega, HG0⟩
      case round =>
        clear HG0
        obtain ⟨k, vao, vcap, rfl, rfl, hk70, HG⟩ := hrel
        have hvb2 := HG.out.fr.keep hvb (by intro hm; exact (hlt hv (by simpa using hm)).2 rfl)
        by_cases hk : k < 70
        · have v2 : wr.cell? ⟨hv, 2, none⟩ = some (.int .i64 (M : Int)) := by rw [cell_of_row _ _ _ _ _ _ hvb2]; rfl
          obtain ⟨B, HB⟩ : ∃ B, Hid (mInt M = B) := ⟨_, rfl⟩
          clear hvb2
          go_wp2_with fail
          refine (markTxn_at M B _ hen HB.out).mono ?_
          rintro e w3 ⟨rfl, hF3⟩
          have HG3 := HG.out.keep hF3
          have HOa : Hid ((w3.alloc (Obj.cells #[.int .i64 B, .slice none 0 0] 66)).ownsRow 0 66 2 (.slice vao (n + k) vcap) (n + k) (marks (kTxn.mark M) (n + k))) := owns_keep HG3.own (Fr.alloc [] _ _) (by simp)
          go_wp2_with (at_builtin; go_loud (refine wpList_app _ rfl (.tmp 28) (.tmp 32) 24 rfl 66 i0 (.agg #[.int .i64 0, .slice none 0 0]) 2 32 Tryz.undETxns hi0 hz0 hz1 hz2 rfl (by omega) _ _ _ rfl HOa.out ⟨w3.heap.size, 0, none⟩ 1 [.int .i64 B, .slice none 0 0] rfl rfl ?c1 ?c2 (by omega) (by simp only [maxLen]; omega) ?_))
          case c1 =>
            intro j u hj
            have hnew : (w3.alloc (Obj.cells #[.int .i64 B, .slice none 0 0] 66)).heap[w3.heap.size]? = some (Obj.cells #[.int .i64 B, .slice none 0 0] 66) := heap_alloc_new w3 _
            rw [show (⟨w3.heap.size, 0, none⟩ : Addr).add j = ⟨w3.heap.size, j, none⟩ from by simp [Addr.add]; omega, cell_of_row _ _ _ _ _ _ hnew]
            simpa using hj
          case c2 =>
            intro u hu
            simp at hu
            rcases hu with rfl | rfl <;> rfl
          intro g cap' w' hO2 hW2
          have HG2 : Hid (GIn kTxn w1 (.slice lao n lcap) n M (k + 1) (.slice (some ⟨g, 0, none⟩) (n + (k + 1)) cap') w') := by
            refine GIn.next HG3 _ ?_ hW2 (fun k hk => (hlt k hk).1)
            have e9 := hO2
            rw [← HB.out] at e9
            exact e9
          clear HG3 hF3
          clear hO2 hW2 hlt hvb
          go_wp2_with fail
          go_roundw
          case rel => exact ⟨k + 1, some ⟨g, 0, none⟩, cap', by simp only [Nat.add_assoc], by simp, by omega, HG2⟩
          case measure => simp [RowKit.intOf]; omega
        · obtain rfl : k = 70 := by omega
          obtain ⟨V, HV⟩ : ∃ V, Hid (V = Value.slice vao (n + 70) vcap) := ⟨_, rfl⟩
          have HN3 : Hid (GrowInv kTxn w bk (.slice (some ⟨rb, 0, none⟩) N rcap) hs0 (i + 1) (hs.set i { e with long := .slice vao (n + 70) vcap }) (wr.setCell ⟨rb, i * 3 + 1, none⟩ (.slice vao (n + 70) vcap))) := by
            refine GrowInv.next HI.out ha hold HE.out HN2.out hF1 ?_ hn21
            rw [HLe.out, ← HM.out]
            exact HG.out
          have hbk2 : Bl kTxn wr bk (.slice (some ⟨rb, 0, none⟩) N rcap) hs := by
            have hf : Fr (Value.slice lao n lcap).ownBlock.toList _ wr := hF1.trans HG.out.fr (by simp) (fun x hx _ => hx)
            have hte := (HI.out.left i e HE.out (Nat.le_refl _)).1.type
            rw [HLe.out] at hte
            refine Bl.keep HI.out.bk hf ?_ ?_
            · intro hm
              obtain ⟨cs, hc⟩ := hte bk (by simpa using hm)
              exact (HI.out.bk.apart hc).1 rfl
            · intro k hk hm
              obtain ⟨cs, hc⟩ := hte k (by simpa using hm)
              exact (HI.out.bk.apart hc).2 hk
          have c1' : wr.cell? ⟨bk, 7, none⟩ = some (.slice (some ⟨rb, 0, none⟩) N rcap) := hbk2.c1
          obtain ⟨rb', rc', hrv', _, _, d1', _⟩ := hbk2.at i e HE.out
          cases hrv'
          have hf1 : wr.frozen? ⟨rb, i * 3 + 1, none⟩ = false := by
            have hr := hbk2.row
            rw [← HN2.out] at hr
            exact own_free hr _
          clear hbk2 hvb2 hvb hlt
          go_wp2_with fail
          go_roundw
          case rel => exact ⟨i + 1, _, by simp, by omega, HN3⟩
          case measure => simp [RowKit.intOf]; omega
    · obtain rfl : i = N := by omega
      go_wp2_with fail
      go_end0
      exact ⟨rfl, hs, by rw [← HN.out]; exact HI⟩
end Go.Proofs.YtaaghcimfcjehaaGreatDoor.Bq

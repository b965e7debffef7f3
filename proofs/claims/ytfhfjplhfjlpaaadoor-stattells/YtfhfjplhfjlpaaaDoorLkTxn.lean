/- What the Book answers when it looks at its lists (Txn): true, where each and what was put behind it read as its mark. Conditions: fewer than 2^21 lists. -/
import Derived.Test.YtfhfjplhfjlpaaaDoorBq4
namespace Go.Proofs.YtfhfjplhfjlpaaaDoor.Bq
open BigFrame Go.ChangeShapes Go.WideShapes Go.ChangeAt Go.RowKit Go.Lib
set_option linter.unusedVariables false
set_option linter.unusedSimpArgs false

set_option maxHeartbeats 8000000 in
set_option maxRecDepth 100000 in
theorem lookTxn_any (bk : Nat) (rv : Value) (hs : List HB) (w : World) (h : Bl kTxn w bk rv hs) (h2 : ∀ (j : Nat) (h : HB), hs[j]? = some h → P2 kTxn w h) :
    Calls Tryd.prog 48 #[.pointer (some ⟨bk, 0, none⟩)] w fun e w' => e = .returned (.bool true) ∧ Fr [] w w' := by
  obtain ⟨N, HN⟩ : ∃ N, Hid (N = hs.length) := ⟨_, rfl⟩
  have hfew := h.few
  rw [← HN.out] at hfew
  obtain ⟨rao, rcap, hrv⟩ := own_slice h.row
  rw [← HN.out] at hrv
  have H : Hid (Bl kTxn w bk rv hs) := h
  clear h
  subst hrv
  go_enter Tryd.func48, Tryd.ntmps48
  go_wp2_with fail
  go_loopw [3] (fun ii wr => ∃ (i : Nat), ii = .int .i64 i ∧ i ≤ N ∧ Fr [] w wr) (fun ii _ => N - (RowKit.intOf ii).toNat)
  case atStart => exact ⟨0, rfl, Nat.zero_le _, Fr.refl _ _⟩
  case round =>
    obtain ⟨i, rfl, hiN, hF⟩ := hrel
    have hB := H.out.keep hF (by simp) (by simp)
    have c1 : wr.cell? ⟨bk, 7, none⟩ = some (.slice rao N rcap) := hB.c1
    by_cases hi : i < N
    · obtain ⟨e, he⟩ : ∃ e, hs[i]? = some e := ⟨_, List.getElem?_eq_getElem (by rw [← HN.out]; exact hi)⟩
      obtain ⟨rb, rc, hrv, hrc, d0, d1, d2⟩ := hB.at i e he
      rw [← HN.out] at hrv hrc
      cases hrv
      have hen : e.n < 4194304 := hB.num i e he
      have hp2 := (h2 i e he).keep hF (by simp) (by simp)
      obtain ⟨n, hR, hO, hn21⟩ := hp2
      obtain ⟨lao, lcap, hl, hlc, hlr⟩ := hR.shape
      obtain ⟨g, gcap, hx, hxc⟩ := own_form hO (by omega)
      obtain ⟨Q, hQ⟩ : ∃ Q, Q = n + 70 := ⟨_, rfl⟩
      rw [hx] at hO d1
      rw [hl] at d0
      obtain ⟨M, HM⟩ : ∃ M, Hid (M = e.n) := ⟨_, rfl⟩
      rw [← HM.out] at d2 hen
      obtain ⟨B, HB⟩ : ∃ B, Hid (mInt M = B) := ⟨_, rfl⟩
      have hmk : kTxn.mark e.n = [.int .i64 B, .slice none 0 0] := by rw [← HM.out, ← HB.out]
      rw [hmk] at hlr hO
      rw [← hQ] at hO d1 hxc
      have hQn : (Q : Int) = (n : Int) + 70 := by omega
      have hne : ((Q : Int) != (n : Int) + 70) = false := by rw [hQn]; simp
      have hQb : Q < 2^35 := by omega
      have HQn : Hid (Q = n + 70) := hQ
      have HX : Hid (∀ W, Fr [] wr W → ∀ k i, k < Q → i < 2 → W.cell? ⟨g, k * 2 + i, none⟩ = [.int .i64 B, .slice none 0 0][i]?) := by
        intro W hf k i hk hi
        exact own_marks (K := kTxn) (n := 0) rfl (owns_keep hO hf (by simp)) k i hk hi
      have HY : Hid (0 < n → ∃ t, lao = some ⟨t, 0, none⟩ ∧ ∀ W, Fr [] wr W → ∀ k i, k < n → i < 2 → W.cell? ⟨t, k * 2 + i, none⟩ = [.int .i64 B, .slice none 0 0][i]?) := by
        intro h0
        obtain ⟨t, e1, hc⟩ := hlr h0
        refine ⟨t, e1, fun W hf k i hk hi => ?_⟩
        obtain ⟨cs, hcs⟩ := hR.type t (by rw [hl, e1]; rfl)
        exact (World.cell?_of_block (hf.block t (lt_of_block hcs) (by simp))).trans (hc k i hk hi)
      clear hO hR hB he hx hl hQ hQn hlr hmk
      go_wp2_with fail
      obtain ⟨hv, hhv⟩ : ∃ hv, hv = wr.heap.size := ⟨_, rfl⟩
      obtain ⟨w1, hw1⟩ : ∃ w1, w1 = wr.alloc (Obj.cells #[.slice lao n lcap, .slice (some ⟨g, 0, none⟩) Q gcap, .int .i64 (M : Int)] 102) := ⟨_, rfl⟩
      rw [← hw1, ← hhv]
      have hF1 : Fr [] wr w1 := by rw [hw1]; exact Fr.alloc [] _ _
      have hvb : w1.heap[hv]? = some (.cells #[.slice lao n lcap, .slice (some ⟨g, 0, none⟩) Q gcap, .int .i64 (M : Int)] 102 (0, 0)) := by rw [hw1, hhv]; exact heap_alloc_new wr _
      have HA : Hid (∀ W, Fr [] w1 W → W.cell? ⟨hv, 0, none⟩ = some (.slice lao n lcap) ∧ W.cell? ⟨hv, 1, none⟩ = some (.slice (some ⟨g, 0, none⟩) Q gcap) ∧ W.cell? ⟨hv, 2, none⟩ = some (.int .i64 (M : Int)) ∧ Fr [] wr W) := by
        intro W hf
        have hb := hf.keep hvb (by simp)
        exact ⟨by rw [cell_of_row _ _ _ _ _ _ hb]; rfl, by rw [cell_of_row _ _ _ _ _ _ hb]; rfl, by rw [cell_of_row _ _ _ _ _ _ hb]; rfl, hF1.then hf⟩
      have HF1 : Hid (Fr [] w w1) := hF.then hF1
      obtain ⟨v0, v1, v2, _⟩ := HA.out _ (Fr.refl [] w1)
      clear hw1 hhv c1 d0 d1 d2 hvb hF hF1
      go_loopw [5] (fun kk wr' => ∃ (k : Nat), kk = .int .i64 k ∧ k ≤ Q ∧ Fr [] w1 wr') (fun kk _ => Q - (RowKit.intOf kk).toNat)
      case atStart => exact ⟨0, rfl, Nat.zero_le _, Fr.refl _ _⟩
      case round =>
        obtain ⟨k, rfl, hkQ, hFq⟩ := hrel
        obtain ⟨a0, a1, a2, _⟩ := HA.out _ hFq
        by_cases hk : k < Q
        · have hlt : (k : Int) < Q := by omega
          have HF : Hid (Fr [] w1 wr) := hFq
          have f0 : ∀ x : Wd w1, x.W.cell? ⟨hv, 0, none⟩ = some (.slice lao n lcap) := fun x => (HA.out _ x.h).1
          have f1 : ∀ x : Wd w1, x.W.cell? ⟨hv, 1, none⟩ = some (.slice (some ⟨g, 0, none⟩) Q gcap) := fun x => (HA.out _ x.h).2.1
          have f2 : ∀ x : Wd w1, x.W.cell? ⟨hv, 2, none⟩ = some (.int .i64 (M : Int)) := fun x => (HA.out _ x.h).2.2.1
          have g0 : ∀ x : Wd w1, x.W.cell? ⟨g, k * 2, none⟩ = some (.int .i64 B) := fun x => by exact HX.out x.W (HA.out _ x.h).2.2.2 k 0 hk (by omega)
          have g1 : ∀ x : Wd w1, x.W.cell? ⟨g, k * 2 + 1, none⟩ = some (.slice none 0 0) := fun x => by exact HX.out x.W (HA.out _ x.h).2.2.2 k 1 hk (by omega)
          by_cases hkn : k < n
          · have hkn' : (k : Int) < n := by omega
            obtain ⟨t, e9, HT⟩ := HY.out (by omega)
            subst e9
            have y0 : ∀ x : Wd w1, x.W.cell? ⟨t, k * 2, none⟩ = some (.int .i64 B) := fun x => by exact HT x.W (HA.out _ x.h).2.2.2 k 0 hkn (by omega)
            have y1 : ∀ x : Wd w1, x.W.cell? ⟨t, k * 2 + 1, none⟩ = some (.slice none 0 0) := fun x => by exact HT x.W (HA.out _ x.h).2.2.2 k 1 hkn (by omega)
            clear hFq
            go_wp2_with fail
            refine wp_region_wd (w1 := w1) (by kernel_rfl) (by kernel_rfl) HF.out ?_
            repeat (go_big_quiet_step (exact (isTxn_at M B _ hen HB.out).mono fun e w3 hh => ⟨hh.1, ⟨_, Fr.then (Wd.h _) hh.2⟩, rfl⟩))
            refine wpQuiet_nil ?_
            rintro _ ⟨x, rfl⟩
            go_wp2_with fail
            go_roundw
            case rel => exact ⟨k + 1, by simp, by omega, x.h⟩
            case measure => simp [RowKit.intOf]; omega
          · have hkn' : ¬ ((k : Int) < n) := by omega
            clear hFq
            go_wp2_with fail
            refine wp_region_wd (w1 := w1) (by kernel_rfl) (by kernel_rfl) HF.out ?_
            repeat (go_big_quiet_step (exact (isTxn_at M B _ hen HB.out).mono fun e w3 hh => ⟨hh.1, ⟨_, Fr.then (Wd.h _) hh.2⟩, rfl⟩))
            refine wpQuiet_nil ?_
            rintro _ ⟨x, rfl⟩
            go_wp2_with fail
            go_roundw
            case rel => exact ⟨k + 1, by simp, by omega, x.h⟩
            case measure => simp [RowKit.intOf]; omega
        · have hle : (Q : Int) ≤ k := by omega
          have hF2 := HF1.out.then hFq
          go_wp2_with fail
          go_roundw
          case rel => exact ⟨i + 1, by simp, by omega, hF2⟩
          case measure => simp [RowKit.intOf]; omega
    · go_wp2_with fail
      go_ret
      exact ⟨rfl, hF⟩
end Go.Proofs.YtfhfjplhfjlpaaaDoor.Bq

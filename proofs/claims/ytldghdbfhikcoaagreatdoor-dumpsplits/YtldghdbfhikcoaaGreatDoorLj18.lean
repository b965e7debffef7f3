/- A Book's look at its list of lists. Conditions: one such list is held; the table of powers of ten reads as the library lays it. -/
import Derived.Test.YtldghdbfhikcoaaGreatDoorLf18
namespace Go.Proofs.YtldghdbfhikcoaaGreatDoor.Bq
open BigFrame Go.ChangeShapes Go.WideShapes Go.ChangeAt Go.RowKit Go.Lib
set_option linter.unusedVariables false
set_option linter.unusedSimpArgs false

set_option maxHeartbeats 2000000 in
theorem isHL_at (n b : Nat) (B : ByteArray) (w : World) (hn : n < 134217728) (hB : mWord n = B) (ht : Tab w) (hb : Mk9 w B b) : Calls Tryz.prog 135 #[.slice (some ⟨b, 0, none⟩) 1 1, .int .i64 (n : Int)] w fun e w' => e = .returned (.bool true) ∧ Fr [] w w' := by
  have HB : Hid (mWord n = B) := hB
  clear hB
  have HT0 : Hid (Tab w) := ht
  have f0 : ∀ x : Wd w, x.W.cell? ⟨b, 0, none⟩ = some (.string B) := fun x => (hb.keep x.h (by simp)).c0
  have f1 : ∀ x : Wd w, x.W.cell? ⟨b, 1, none⟩ = some (.slice none 0 0) := fun x => (hb.keep x.h (by simp)).c1
  clear hb ht
  go_enter Tryz.func135, Tryz.ntmps135
  go_upto_region 1 with fail
  refine wp_region_wd (w1 := w) (by kernel_rfl) (by kernel_rfl) (Fr.refl _ _) ?_
  repeat (go_big_quiet_step (exact (word_any n B hn HB.out _ (HT0.out.keep (Wd.h _) (by simp))).mono fun e w3 hh => ⟨hh.1, ⟨_, Fr.then (Wd.h _) hh.2⟩, rfl⟩))
  refine wpQuiet_nil ?_
  rintro _ ⟨x, rfl⟩
  go_wp2
  go_ret
  exact ⟨by simp, x.h⟩
set_option maxHeartbeats 8000000 in
set_option maxRecDepth 100000 in
theorem lookHL_any (bk : Nat) (rv : Value) (e : HB) (base : Nat) (w : World) (h : GL base w bk rv e) (htab : Tab w) :
    Calls Tryz.prog 77 #[.pointer (some ⟨bk, 0, none⟩)] w fun e w' => e = .returned (.bool true) ∧ Fr [] w w' := by
  obtain ⟨N, HN⟩ : ∃ N, Hid (N = [e].length) := ⟨_, rfl⟩
  have hN1 : N ≤ 1 := by have := HN.out; simp at this; omega
  obtain ⟨rao, rcap, hrv⟩ := own_slice h.bl.row
  rw [← HN.out] at hrv
  subst hrv
  have H : Hid (GL base w bk (.slice rao N rcap) e) := h
  clear h
  go_enter Tryz.func77, Tryz.ntmps77
  go_wp2_with fail
  go_loopw [3] (fun ii wr => ∃ (i : Nat), ii = .int .i64 i ∧ i ≤ N ∧ Fr [] w wr) (fun ii _ => N - (RowKit.intOf ii).toNat)
  case atStart => exact ⟨0, rfl, Nat.zero_le _, Fr.refl _ _⟩
  case round =>
    obtain ⟨i, rfl, hiN, hF⟩ := hrel
    have hN2 : 1 ≤ N := by have := HN.out; simp at this; omega
    have hG := H.out.stay hF
    have c1 : wr.cell? ⟨bk, 9, none⟩ = some (.slice rao N rcap) := hG.bl.c1
    by_cases hi : i < N
    · have hi0 : i = 0 := by omega
      obtain ⟨rb, rc, hrv, hrc, d0, d1, d2⟩ := hG.bl.at i e (by rw [hi0]; rfl)
      rw [← HN.out] at hrv hrc
      cases hrv
      clear hi0
      have hen : e.n < 134217728 := hG.bl.num 0 e rfl
      obtain ⟨n, ms, ns, hml, hnl, hn21, hR, hO, hmk⟩ := hG.row
      obtain ⟨lao, lcap, hl, hlc, hlr⟩ := hR.shape
      obtain ⟨xo, gcap, gf, hx, hxc, hgf, hO⟩ := hO
      obtain ⟨g, gc2, hgx, _⟩ := own_form hO (by omega)
      cases hgx
      obtain ⟨Q, hQ⟩ : ∃ Q, Q = n + 70 := ⟨_, rfl⟩
      rw [hx] at d1
      rw [hl] at d0
      obtain ⟨M, HM⟩ : ∃ M, Hid (M = e.n) := ⟨_, rfl⟩
      rw [← HM.out] at d2 hen hmk
      obtain ⟨B, HB⟩ : ∃ B, Hid (mWord M = B) := ⟨_, rfl⟩
      rw [HB.out] at hmk
      rw [← hQ] at hO d1 hxc
      have hQn : (Q : Int) = (n : Int) + 70 := by omega
      have hne : ((Q : Int) != (n : Int) + 70) = false := by rw [hQn]; simp
      have hQb : Q < 2^35 := by omega
      have HQn : Hid (Q = n + 70) := hQ
      have HX : Hid (∀ k, k < Q → ∃ b, ∀ W, Fr [] wr W → W.cell? ⟨g, k, none⟩ = some (.slice (some ⟨b, 0, none⟩) 1 1) ∧ Mk9 W B b) := by
        intro k hk
        refine ⟨(ms ++ ns).getD k 0, fun W hf => ⟨own_mkV (owns_keep hO hf (by simp)) k hk, ((hmk _ ?_).1).keep hf (by simp)⟩⟩
        have hkl : k < (ms ++ ns).length := by rw [List.length_append]; have := HQn.out; omega
        rw [show (ms ++ ns).getD k 0 = (ms ++ ns)[k] from by unfold List.getD; rw [List.getElem?_eq_getElem hkl]; rfl]
        exact List.getElem_mem _
      have HY : Hid (0 < n → ∃ t, lao = some ⟨t, 0, none⟩ ∧ ∀ k, k < n → ∃ b, ∀ W, Fr [] wr W → W.cell? ⟨t, k, none⟩ = some (.slice (some ⟨b, 0, none⟩) 1 1) ∧ Mk9 W B b) := by
        intro h0
        obtain ⟨t, e1, hc⟩ := hlr h0
        refine ⟨t, e1, fun k hk => ⟨ms.getD k 0, fun W hf => ⟨?_, ((hmk _ ?_).1).keep hf (by simp)⟩⟩⟩
        · obtain ⟨cs, hcs⟩ := hR.type t (by rw [hl, e1]; rfl)
          exact (World.cell?_of_block (hf.block t (lt_of_block hcs) (by simp))).trans (hc k hk)
        · rw [show ms.getD k 0 = ms[k]'(by omega) from by unfold List.getD; rw [List.getElem?_eq_getElem (by omega)]; rfl]
          exact List.mem_append_left _ (List.getElem_mem _)
      clear hO hR hx hl hQ hQn hlr hmk hml hnl hG
      go_wp2_with fail
      obtain ⟨hv, hhv⟩ : ∃ hv, hv = wr.heap.size := ⟨_, rfl⟩
      obtain ⟨w1, hw1⟩ : ∃ w1, w1 = wr.alloc (Obj.cells #[.slice lao n lcap, .slice (some ⟨g, 0, none⟩) Q gcap, .int .i64 (M : Int)] 168) := ⟨_, rfl⟩
      rw [← hw1, ← hhv]
      have hF1 : Fr [] wr w1 := by rw [hw1]; exact Fr.alloc [] _ _
      have hvb : w1.heap[hv]? = some (.cells #[.slice lao n lcap, .slice (some ⟨g, 0, none⟩) Q gcap, .int .i64 (M : Int)] 168 (0, 0)) := by rw [hw1, hhv]; exact heap_alloc_new wr _
      have HA : Hid (∀ W, Fr [] w1 W → W.cell? ⟨hv, 0, none⟩ = some (.slice lao n lcap) ∧ W.cell? ⟨hv, 1, none⟩ = some (.slice (some ⟨g, 0, none⟩) Q gcap) ∧ W.cell? ⟨hv, 2, none⟩ = some (.int .i64 (M : Int)) ∧ Fr [] wr W) := by
        intro W hf
        have hb := hf.keep hvb (by simp)
        exact ⟨by rw [cell_of_row _ _ _ _ _ _ hb]; rfl, by rw [cell_of_row _ _ _ _ _ _ hb]; rfl, by rw [cell_of_row _ _ _ _ _ _ hb]; rfl, hF1.then hf⟩
      have HF1 : Hid (Fr [] w w1) := hF.then hF1
      have HTW : Hid (Tab w1) := htab.keep HF1.out (by simp)
      obtain ⟨v0, v1, v2, _⟩ := HA.out _ (Fr.refl [] w1)
      clear hw1 hhv c1 d0 d1 d2 hvb hF hF1
      obtain ⟨wo, hwo⟩ : ∃ wo, wo = wr := ⟨_, rfl⟩
      subst hwo
      go_loopw [5] (fun kk wr' => ∃ (k : Nat), kk = .int .i64 k ∧ k ≤ Q ∧ Fr [] w1 wr') (fun kk _ => Q - (RowKit.intOf kk).toNat)
      case atStart => exact ⟨0, rfl, Nat.zero_le _, Fr.refl _ _⟩
      case round =>
        obtain ⟨k, rfl, hkQ, hFq⟩ := hrel
        obtain ⟨a0, a1, a2, _⟩ := HA.out _ hFq
        by_cases hk : k < Q
        · have hlt : (k : Int) < Q := by omega
          have HF : Hid (Fr [] w1 wr) := hFq
          have f0 : ∀ x : Wd w1, x.W.cell? ⟨hv, 0, none⟩ = some (.slice lao n lcap) := fun x => (HA.out _ x.h).1
          have f1 : ∀ x : Wd w1, x.W.cell? ⟨hv, 1, none⟩ = some (.slice (some ⟨g, 0, none⟩) Q gcap) := fun x => (HA.out _ x.h).2.1
          have f2 : ∀ x : Wd w1, x.W.cell? ⟨hv, 2, none⟩ = some (.int .i64 (M : Int)) := fun x => (HA.out _ x.h).2.2.1
          obtain ⟨b, hb⟩ := HX.out k hk
          have g0 : ∀ x : Wd w1, x.W.cell? ⟨g, k, none⟩ = some (.slice (some ⟨b, 0, none⟩) 1 1) := fun x => (hb x.W (HA.out _ x.h).2.2.2).1
          have HI1 : ∀ x : Wd w1, Calls Tryz.prog 135 #[.slice (some ⟨b, 0, none⟩) 1 1, .int .i64 (M : Int)] x.W fun e w' => e = .returned (.bool true) ∧ Fr [] x.W w' := fun x => isHL_at M b B x.W hen HB.out (HTW.out.keep x.h (by simp)) (hb x.W (HA.out _ x.h).2.2.2).2
          clear hb
          by_cases hkn : k < n
          · have hkn' : (k : Int) < n := by omega
            obtain ⟨t, e9, HT⟩ := HY.out (by omega)
            subst e9
            obtain ⟨b2, hb2⟩ := HT k hkn
            have y0 : ∀ x : Wd w1, x.W.cell? ⟨t, k, none⟩ = some (.slice (some ⟨b2, 0, none⟩) 1 1) := fun x => (hb2 x.W (HA.out _ x.h).2.2.2).1
            have HI2 : ∀ x : Wd w1, Calls Tryz.prog 135 #[.slice (some ⟨b2, 0, none⟩) 1 1, .int .i64 (M : Int)] x.W fun e w' => e = .returned (.bool true) ∧ Fr [] x.W w' := fun x => isHL_at M b2 B x.W hen HB.out (HTW.out.keep x.h (by simp)) (hb2 x.W (HA.out _ x.h).2.2.2).2
            clear hFq hb2 HT
            go_wp2_with fail
            refine wp_region_wd (w1 := w1) (by kernel_rfl) (by kernel_rfl) HF.out ?_
            repeat (go_big_quiet_step (first
              | (go_at_call 135; with_reducible refine (HI1 _).mono ?_; exact fun e w3 hh => ⟨hh.1, ⟨_, Fr.then (Wd.h _) hh.2⟩, rfl⟩)
              | (go_at_call 135; with_reducible refine (HI2 _).mono ?_; exact fun e w3 hh => ⟨hh.1, ⟨_, Fr.then (Wd.h _) hh.2⟩, rfl⟩)))
            refine wpQuiet_nil ?_
            rintro _ ⟨x, rfl⟩
            clear HI1 HI2
            go_wp2_with fail
            go_roundw
            case rel => exact ⟨k + 1, by simp, by omega, x.h⟩
            case measure => simp [RowKit.intOf]; omega
          · have hkn' : ¬ ((k : Int) < n) := by omega
            clear hFq
            go_wp2_with fail
            refine wp_region_wd (w1 := w1) (by kernel_rfl) (by kernel_rfl) HF.out ?_
            repeat (go_big_quiet_step (first
              | (go_at_call 135; with_reducible refine (HI1 _).mono ?_; exact fun e w3 hh => ⟨hh.1, ⟨_, Fr.then (Wd.h _) hh.2⟩, rfl⟩)))
            refine wpQuiet_nil ?_
            rintro _ ⟨x, rfl⟩
            clear HI1
            go_wp2_with fail
            go_roundw
            case rel => exact ⟨k + 1, by simp, by omega, x.h⟩
            case measure => simp [RowKit.intOf]; omega
        · have hle : (Q : Int) ≤ k := by omega
          have hF2 := HF1.out.then hFq
          go_wp2_with fail
          go_roundw
          case rel => exact ⟨i + 1, by simp, by omega, hF2⟩
          case measure => simp [RowKit.intOf]; omega
    · go_wp2_with fail
      go_ret
      exact ⟨rfl, hF⟩
end Go.Proofs.YtldghdbfhikcoaaGreatDoor.Bq

/- What the Book's lookByte answers: true, where each held list and what was put behind it read as its mark. Conditions: fewer than 2^20 lists. -/
import Derived.Test.YtcgfadmhjfncoaaGreatDoorBkGrow
namespace Go.Proofs.YtcgfadmhjfncoaaGreatDoor
open Go.ChangeShapes Go.WideShapes Go.ChangeAt Go.RowKit Go.Lib
set_option linter.unusedVariables false
variable {m : Nat} {wv : Value}

theorem cell_drewN {w : World} {q : Nat} {a : Addr} : (w.drewN q).cell? a = w.cell? a := rfl

theorem isByteQ (n B : Nat) (w : World) (hn : n < 1048577) (hB : mkN n = B) : Calls Tryz.prog 81 #[.int .u8 (B : Int), .int .i64 (n : Int)] w fun e w' => e = .returned (.bool true) ∧ w' = w :=
  (isByte_at n B w hn hB).mono fun _ _ ⟨h1, h2⟩ => ⟨h1, h2.symm⟩

set_option maxHeartbeats 4000000 in
set_option maxRecDepth 100000 in
theorem lookByte_any (bk : Nat) (rv : Value) (hs : List HB) (w : World) (h : Bk m wv w bk rv hs) (h2 : ∀ (j : Nat) (h : HB), hs[j]? = some h → P2 w h) (hn : Num m hs) :
    Calls Tryz.prog 53 #[.pointer (some ⟨bk, 0, none⟩)] w fun e w' => e = .returned (.bool true) ∧ Fr [] w w' := by
  obtain ⟨N, HN⟩ : ∃ N, Hid (N = hs.length) := ⟨_, rfl⟩
  have hfew := h.few
  rw [← HN.out] at hfew
  obtain ⟨rao, rcap, hrv⟩ := own_slice h.row
  rw [← HN.out] at hrv
  have H : Hid (Bk m wv w bk rv hs) := h
  clear h
  subst hrv
  go_enter Tryz.func53, Tryz.ntmps53
  go_wp2_with fail
  go_loopw [3] (fun ii wr => ∃ (i : Nat), ii = .int .i64 i ∧ i ≤ N ∧ Fr [] w wr) (fun ii _ => N - (intOf ii).toNat)
  case atStart => exact ⟨0, rfl, Nat.zero_le _, Fr.refl _ _⟩
  case round =>
    obtain ⟨i, rfl, hiN, hF⟩ := hrel
    have hB := H.out.keep hF (by simp) (by simp)
    have c1 := hB.c1
    by_cases hi : i < N
    · obtain ⟨e, he⟩ : ∃ e, hs[i]? = some e := ⟨_, List.getElem?_eq_getElem (by rw [← HN.out]; exact hi)⟩
      obtain ⟨rb, rc, hrv, hrc, d0, d1, d2⟩ := hB.at i e he
      rw [← HN.out] at hrv hrc
      cases hrv
      have hen : e.n < 1048577 := by
        rw [hn i e he]
        omega
      obtain ⟨n, hR, hO, hn40⟩ := (h2 i e he).keep hF (by simp) (by simp)
      obtain ⟨lao, lcap, hl, hlc, hlr⟩ := hR.shape
      obtain ⟨xg, xc, hx, hxc⟩ := own_form hO (by omega)
      obtain ⟨Q, hQ⟩ : ∃ Q, Q = n + 70 := ⟨_, rfl⟩
      rw [hx] at hO d1
      rw [hl] at d0
      obtain ⟨M, HM⟩ : ∃ M, Hid (M = e.n) := ⟨_, rfl⟩
      rw [← HM.out] at d2 hen hlr hO
      have hxcell : ∀ k, k < Q → wr.cell? ⟨xg, k, none⟩ = some (mkV M) := by
        intro k hk
        rw [hO.cellAt k (by omega)]
        simp [show k < n + 70 by omega]
      rw [← hQ] at d1 hxc
      have hQn : (Q : Int) = (n : Int) + 70 := by omega
      have hne : ((Q : Int) != (n : Int) + 70) = false := by rw [hQn]; simp
      have hQb : Q < 2^41 := by omega
      clear hO hR hB he hx hl hQ
      go_wp2_with fail
      obtain ⟨hv, hhv⟩ : ∃ hv, hv = wr.heap.size := ⟨_, rfl⟩
      obtain ⟨w1, hw1⟩ : ∃ w1, w1 = wr.alloc (Obj.cells #[.slice lao n lcap, .slice (some ⟨xg, 0, none⟩) Q xc, .int .i64 (M : Int)] 79) := ⟨_, rfl⟩
      rw [← hw1, ← hhv]
      have hF1 : Fr [] wr w1 := by rw [hw1]; exact Fr.alloc [] _ _
      have hvb : w1.heap[hv]? = some (.cells #[.slice lao n lcap, .slice (some ⟨xg, 0, none⟩) Q xc, .int .i64 (M : Int)] 79 (0, 0)) := by rw [hw1, hhv]; exact heap_alloc_new wr _
      have v0 : w1.cell? ⟨hv, 0, none⟩ = some (.slice lao n lcap) := by rw [cell_of_row _ _ _ _ _ _ hvb]; rfl
      have v1 : w1.cell? ⟨hv, 1, none⟩ = some (.slice (some ⟨xg, 0, none⟩) Q xc) := by rw [cell_of_row _ _ _ _ _ _ hvb]; rfl
      have v2 : w1.cell? ⟨hv, 2, none⟩ = some (.int .i64 (M : Int)) := by rw [cell_of_row _ _ _ _ _ _ hvb]; rfl
      have hk1 : ∀ (a : Addr) (x : Value), wr.cell? a = some x → w1.cell? a = some x := fun a x hx => (World.cell?_of_block (hF1.block a.block (block_lt_of_cell hx) (by simp))).trans hx
      clear hw1 hhv d0 d1 d2 c1 hvb
      go_loopw [5] (fun kk wr' => ∃ (k : Nat), kk = .int .i64 k ∧ k ≤ Q ∧ Fr [] w1 wr') (fun kk _ => Q - (intOf kk).toNat)
      case atStart => exact ⟨0, rfl, Nat.zero_le _, Fr.refl _ _⟩
      case round =>
        obtain ⟨k, rfl, hkQ, hFq⟩ := hrel
        have hk2 : ∀ (a : Addr) (x : Value), w1.cell? a = some x → wr.cell? a = some x := fun a x hx => (World.cell?_of_block (hFq.block a.block (block_lt_of_cell hx) (by simp))).trans hx
        replace v0 := hk2 _ _ v0
        replace v1 := hk2 _ _ v1
        replace v2 := hk2 _ _ v2
        by_cases hk : k < Q
        · have hxk := hk2 _ _ (hk1 _ _ (hxcell k hk))
          obtain ⟨B, HB⟩ : ∃ B, Hid (mkN M = B) := ⟨_, rfl⟩
          rw [mkV_eq, HB.out] at hxk
          by_cases hkn : k < n
          · obtain ⟨lb, hlb, hlc2⟩ := hlr (by omega)
            subst hlb
            have hlk := hk2 _ _ (hk1 _ _ (hlc2 k hkn))
            rw [mkV_eq, HB.out] at hlk
            clear hlc2 hxcell hk1 hk2
            have hFq' : ∀ m, Fr [] w1 (wr.drewN m) := fun m => hFq.then (Fr.drewN [] wr m)
            go_wp2_with fail
            go_quiet ((go_at_call 81; exact Calls.quiet_of_same (isByteQ M B _ hen HB.out)))
            go_wp2
            go_roundw
            case rel => exact ⟨k + 1, by simp, by omega, hFq' _⟩
            case measure => simp [intOf]; omega
          · have hkn' : decide ((k : Int) < (n : Int)) = false := by simp; omega
            clear hxcell hk1 hk2
            have hFq' : ∀ m, Fr [] w1 (wr.drewN m) := fun m => hFq.then (Fr.drewN [] wr m)
            go_wp2_with fail
            go_quiet ((go_at_call 81; exact Calls.quiet_of_same (isByteQ M B _ hen HB.out)))
            go_wp2
            go_roundw
            case rel => exact ⟨k + 1, by simp, by omega, hFq' _⟩
            case measure => simp [intOf]; omega
        · have hF2 := (hF.then hF1).then hFq
          clear hk2 hk1
          go_wp2_with fail
          go_roundw
          case rel => exact ⟨i + 1, by simp, by omega, hF2⟩
          case measure => simp [intOf]; omega
    · go_wp2_with fail
      go_ret
      exact ⟨rfl, hF⟩
end Go.Proofs.YtcgfadmhjfncoaaGreatDoor

/- What the Book answers when it looks at its one list of writes. Conditions: the list and what was put behind it read as the mark; fewer than 2^21 writes. -/
import Derived.Test.YtcgfadmhjfncoaaGreatDoorBkW3
import Derived.BigQuiet
namespace Go.Proofs.YtcgfadmhjfncoaaGreatDoor
open BigFrame Go.ChangeShapes Go.WideShapes Go.ChangeAt Go.RowKit Go.Lib
set_option linter.unusedVariables false
set_option linter.unusedSimpArgs false

/-- A world that keeps all that w1 held. -/
structure Wd (w1 : World) where
  W : World
  h : Fr [] w1 W

instance (w1 : World) : Nonempty (Wd w1) := ⟨⟨w1, Fr.refl _ _⟩⟩

theorem wp_region_wd {P : Program} {w1 wr : World} {id : Nat} {Q : Exit → Act → World → Prop} {a : Act} {l : List Oper} (hm : P.follows .mixedOrders = true) (hB : Region.lexB .any l.toArray = true) (hf : Fr [] w1 wr)
    (h : wpQuiet P l.toArray (fun w' => ∃ x : Wd w1, w' = x.W) (fun a' => ∀ w', (∃ x : Wd w1, w' = x.W) → Q .normal a' w') l a) : (Code.region id l.toArray true).wp P Q a wr :=
  wp_region_quiet (C := fun w' => ∃ x : Wd w1, w' = x.W) hm hB ⟨⟨_, hf.then (Fr.drew [] wr)⟩, rfl⟩ (by simpa using h)

set_option maxHeartbeats 8000000 in
set_option maxRecDepth 100000 in
theorem lookWrite_any (bk : Nat) (rb rc : Nat) (rv : Value) (hs : List HB) (t n lcap g gcap : Nat) (w : World) (h : Bk 1 (.slice (some ⟨rb, 0, none⟩) 1 rc) w bk rv hs) (hrow : w.ownsRow 0 89 3 (.slice (some ⟨rb, 0, none⟩) 1 rc) 1 [.slice (some ⟨t, 0, none⟩) n lcap, .slice (some ⟨g, 0, none⟩) (n + 70) gcap, .int .i64 1]) (hm1 : Mks w t n) (hm2 : Mks w g (n + 70)) (hn : n < 2^21) :
    Calls Tryz.prog 56 #[.pointer (some ⟨bk, 0, none⟩)] w fun e w' => e = .returned (.bool true) ∧ Fr [] w w' := by
  have hrcap : 1 ≤ rc := by
    rcases hrow.2 with ⟨hh, _⟩ | ⟨_, _, _, hh, _, _, hnc, _⟩
    · cases hh
    · cases hh; exact hnc
  obtain ⟨Q, hQ⟩ : ∃ Q, Q = n + 70 := ⟨_, rfl⟩
  rw [← hQ] at hrow hm2
  have hQn : (Q : Int) = (n : Int) + 70 := by omega
  have hne : ((Q : Int) != (n : Int) + 70) = false := by rw [hQn]; simp
  have hQb : Q < 2^22 := by omega
  have HQn : Hid (Q = n + 70) := hQ
  clear hQ hQn
  have HC : Hid (∀ W, Fr [] w W → W.cell? ⟨bk, 4, none⟩ = some (.slice (some ⟨rb, 0, none⟩) 1 rc) ∧ W.cell? ⟨rb, 0, none⟩ = some (.slice (some ⟨t, 0, none⟩) n lcap) ∧ W.cell? ⟨rb, 1, none⟩ = some (.slice (some ⟨g, 0, none⟩) Q gcap) ∧ W.cell? ⟨rb, 2, none⟩ = some (.int .i64 1)) := by
    intro W hf
    have hb := (h.keep hf (by simp) (by simp)).c4
    have hr := owns_keep hrow hf (by simp)
    exact ⟨hb, by rw [hr.cellAt 0 (by omega)]; rfl, by rw [hr.cellAt 1 (by omega)]; rfl, by rw [hr.cellAt 2 (by omega)]; rfl⟩
  have HM1 : Hid (Mks w t n) := hm1
  have HM2 : Hid (Mks w g Q) := hm2
  clear h hrow hm1 hm2
  go_enter Tryz.func56, Tryz.ntmps56
  go_wp2_with fail
  go_loopw [3] (fun ii wr => (ii = .int .i64 0 ∨ ii = .int .i64 1) ∧ Fr [] w wr) (fun ii _ => 1 - (intOf ii).toNat)
  case atStart => exact ⟨Or.inl rfl, Fr.refl _ _⟩
  case round =>
    obtain ⟨hii, hF⟩ := hrel
    obtain ⟨c4, e0, e1, e2⟩ := HC.out _ hF
    rcases hii with rfl | rfl
    · have hm1 := HM1.out.keep hF (by simp)
      have hm2 := HM2.out.keep hF (by simp)
      go_wp2_with fail
      obtain ⟨hv, hhv⟩ : ∃ hv, hv = wr.heap.size := ⟨_, rfl⟩
      obtain ⟨w1, hw1⟩ : ∃ w1, w1 = wr.alloc (Obj.cells #[.slice (some ⟨t, 0, none⟩) n lcap, .slice (some ⟨g, 0, none⟩) Q gcap, .int .i64 1] 89) := ⟨_, rfl⟩
      rw [← hw1, ← hhv]
      have hF1 : Fr [] wr w1 := by rw [hw1]; exact Fr.alloc [] _ _
      have hvb : w1.heap[hv]? = some (.cells #[.slice (some ⟨t, 0, none⟩) n lcap, .slice (some ⟨g, 0, none⟩) Q gcap, .int .i64 1] 89 (0, 0)) := by rw [hw1, hhv]; exact heap_alloc_new wr _
      have hFw1 := hF.then hF1
      have HA : Hid (∀ W, Fr [] w1 W → W.cell? ⟨hv, 0, none⟩ = some (.slice (some ⟨t, 0, none⟩) n lcap) ∧ W.cell? ⟨hv, 1, none⟩ = some (.slice (some ⟨g, 0, none⟩) Q gcap) ∧ W.cell? ⟨hv, 2, none⟩ = some (.int .i64 1) ∧ Mks W t n ∧ Mks W g Q) := by
        intro W hf
        have hb := hf.keep hvb (by simp)
        exact ⟨by rw [cell_of_row _ _ _ _ _ _ hb]; rfl, by rw [cell_of_row _ _ _ _ _ _ hb]; rfl, by rw [cell_of_row _ _ _ _ _ _ hb]; rfl, hm1.keep (hF1.then hf) (by simp), hm2.keep (hF1.then hf) (by simp)⟩
      have HF1 : Hid (Fr [] w w1) := hFw1
      obtain ⟨v0, v1, v2, _, _⟩ := HA.out _ (Fr.refl [] w1)
      clear hw1 hhv c4 e0 e1 e2 hvb hF hF1 hm1 hm2 hFw1
      go_loopw [5] (fun kk wr' => ∃ (k : Nat), kk = .int .i64 k ∧ k ≤ Q ∧ Fr [] w1 wr') (fun kk _ => Q - (intOf kk).toNat)
      case atStart => exact ⟨0, rfl, Nat.zero_le _, Fr.refl _ _⟩
      case round =>
        obtain ⟨k, rfl, hkQ, hFq⟩ := hrel
        obtain ⟨a0, a1, a2, am1, am2⟩ := HA.out _ hFq
        by_cases hk : k < Q
        · have hlt : (k : Int) < Q := by omega
          have HF : Hid (Fr [] w1 wr) := hFq
          have f0 : ∀ x : Wd w1, x.W.cell? ⟨hv, 0, none⟩ = some (.slice (some ⟨t, 0, none⟩) n lcap) := fun x => (HA.out _ x.h).1
          have f1 : ∀ x : Wd w1, x.W.cell? ⟨hv, 1, none⟩ = some (.slice (some ⟨g, 0, none⟩) Q gcap) := fun x => (HA.out _ x.h).2.1
          have f2 : ∀ x : Wd w1, x.W.cell? ⟨hv, 2, none⟩ = some (.int .i64 1) := fun x => (HA.out _ x.h).2.2.1
          have f3 : ∀ x : Wd w1, x.W.cell? ⟨g, k * 3, none⟩ = some (.string ⟨#[35, 49]⟩) := fun x => ((HA.out _ x.h).2.2.2.2 k hk).c0
          have f4 : ∀ x : Wd w1, x.W.cell? ⟨g, k * 3 + 1, none⟩ = some (.string ⟨#[]⟩) := fun x => ((HA.out _ x.h).2.2.2.2 k hk).c1
          have f5 : ∀ x : Wd w1, x.W.cell? ⟨g, k * 3 + 2, none⟩ = some (.bool false) := fun x => ((HA.out _ x.h).2.2.2.2 k hk).c2
          by_cases hkn : k < n
          · have hkn' : (k : Int) < n := by omega
            have f6 : ∀ x : Wd w1, x.W.cell? ⟨t, k * 3, none⟩ = some (.string ⟨#[35, 49]⟩) := fun x => ((HA.out _ x.h).2.2.2.1 k hkn).c0
            have f7 : ∀ x : Wd w1, x.W.cell? ⟨t, k * 3 + 1, none⟩ = some (.string ⟨#[]⟩) := fun x => ((HA.out _ x.h).2.2.2.1 k hkn).c1
            have f8 : ∀ x : Wd w1, x.W.cell? ⟨t, k * 3 + 2, none⟩ = some (.bool false) := fun x => ((HA.out _ x.h).2.2.2.1 k hkn).c2
            clear am1 am2 hFq
            go_wp2_with fail
            refine wp_region_wd (w1 := w1) (by kernel_rfl) (by kernel_rfl) HF.out ?_
            repeat (go_big_quiet_step (exact (isWrite_1 _).mono fun e w3 hh => ⟨hh.1, ⟨_, Fr.then (Wd.h _) hh.2⟩, rfl⟩))
            refine wpQuiet_nil ?_
            rintro _ ⟨x, rfl⟩
            go_wp2_with fail
            go_roundw
            case rel => exact ⟨k + 1, by simp, by omega, x.h⟩
            case measure => simp [intOf]; omega
          · have hkn' : ¬ ((k : Int) < n) := by omega
            clear am1 am2 hFq
            go_wp2_with fail
            refine wp_region_wd (w1 := w1) (by kernel_rfl) (by kernel_rfl) HF.out ?_
            repeat (go_big_quiet_step (exact (isWrite_1 _).mono fun e w3 hh => ⟨hh.1, ⟨_, Fr.then (Wd.h _) hh.2⟩, rfl⟩))
            refine wpQuiet_nil ?_
            rintro _ ⟨x, rfl⟩
            go_wp2_with fail
            go_roundw
            case rel => exact ⟨k + 1, by simp, by omega, x.h⟩
            case measure => simp [intOf]; omega
        · have hle : (Q : Int) ≤ k := by omega
          have hF2 := HF1.out.then hFq
          clear am1 am2
          go_wp2_with fail
          go_roundw
          case rel => exact ⟨Or.inr (by simp), hF2⟩
          case measure => simp [intOf]
    · go_wp2_with fail
      go_ret
      exact ⟨rfl, hF⟩
end Go.Proofs.YtcgfadmhjfncoaaGreatDoor

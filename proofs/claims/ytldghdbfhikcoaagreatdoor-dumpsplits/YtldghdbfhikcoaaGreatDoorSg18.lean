/- Are lists of keys the same: contract of SameHeldLists. Conditions: two rows of as many lists, list by list of the same keys with the same versions. -/
import Derived.Test.YtldghdbfhikcoaaGreatDoorHg18
import Derived.Test.YtldghdbfhikcoaaGreatDoorSo18
import Derived.Test.YtldghdbfhikcoaaGreatDoorCi13
namespace Go.Proofs.YtldghdbfhikcoaaGreatDoor
open BigFrame Go.ChangeShapes Go.WideShapes Go.ChangeAt Go.RowKit Go.Lib Go.Maps
set_option linter.unusedVariables false
set_option linter.unusedSimpArgs false

/-- A row of lists that can be read. -/
structure LRs (w : World) (ao : Option Addr) (rs : List Lr) : Prop where
  lies : 0 < rs.length → ∃ b off, ao = some ⟨b, off, none⟩ ∧ b < w.heap.size ∧ ∀ j, j < rs.length → w.cell? ⟨b, off + j, none⟩ = some (rs.getD j Lr.zero).v
  few : rs.length ≤ 17592186044416
  each : ∀ j, j < rs.length → HRs w (rs.getD j Lr.zero).ro (rs.getD j Lr.zero).hs ∧ (rs.getD j Lr.zero).N = (rs.getD j Lr.zero).hs.length
theorem LRs.keep {w w' : World} {ao : Option Addr} {rs : List Lr} (h : LRs w ao rs) (hf : Fr [] w w') : LRs w' ao rs := by
  refine ⟨fun h0 => ?_, h.few, fun j hj => ⟨(h.each j hj).1.keep hf, (h.each j hj).2⟩⟩
  obtain ⟨b, off, e, hb, hc⟩ := h.lies h0
  exact ⟨b, off, e, Nat.lt_of_lt_of_le hb hf.size, fun j hj => (World.cell?_of_block (hf.block b hb (by simp))).trans (hc j hj)⟩
set_option maxHeartbeats 4000000 in
set_option maxRecDepth 100000 in
theorem sameHL_any (ao bo : Option Addr) (S ca cb : Nat) (rs qs : List Lr) (w : World) (hA : LRs w ao rs) (hB : LRs w bo qs) (hS : S = rs.length) (hS2 : S = qs.length) (he : ∀ j, j < S → (rs.getD j Lr.zero).hs.map hkv = (qs.getD j Lr.zero).hs.map hkv) :
    Calls Tryz.prog 25 #[.slice ao S ca, .slice bo S cb] w fun e w' => e = .returned (.bool true) ∧ Fr [] w w' := by
  have HS : Hid (S = rs.length ∧ S = qs.length) := ⟨hS, hS2⟩
  have hSS : S ≤ 17592186044416 := by rw [hS]; exact hA.few
  have HAB : Hid (∀ W, Fr [] w W → LRs W ao rs ∧ LRs W bo qs) := fun W hf => ⟨hA.keep hf, hB.keep hf⟩
  have HE : Hid (∀ j, j < S → (rs.getD j Lr.zero).hs.map hkv = (qs.getD j Lr.zero).hs.map hkv) := he
  clear hA hB hS hS2 he
  go_enter Tryz.func25, Tryz.ntmps25
  go_wp2_with fail
  go_loopw [5] (fun ii wr => ∃ i : Nat, ii = .int .i64 i ∧ i ≤ S ∧ Hid (Fr [] w wr)) (fun ii _ => S - (RowKit.intOf ii).toNat)
  case atStart => exact ⟨0, rfl, Nat.zero_le _, Fr.refl _ _⟩
  case round =>
    obtain ⟨i, rfl, hiS, HF⟩ := hrel
    by_cases hi : i < S
    · have hlt : (i : Int) < S := by omega
      obtain ⟨hs1, hs2⟩ := HS.out
      obtain ⟨b1, o1, rfl, hb1, hc1⟩ := (HAB.out _ HF.out).1.lies (by omega)
      obtain ⟨b2, o2, rfl, hb2, hc2⟩ := (HAB.out _ HF.out).2.lies (by omega)
      have hx1 := hc1 i (by omega)
      have hx2 := hc2 i (by omega)
      have hkv := HE.out i hi
      have hN : (rs.getD i Lr.zero).N = (qs.getD i Lr.zero).N := by
        have h1 := ((HAB.out _ HF.out).1.each i (by omega)).2
        have h2 := ((HAB.out _ HF.out).2.each i (by omega)).2
        have h3 := congrArg List.length hkv
        simp only [List.length_map] at h3
        omega
      have HSm : ∀ y : Wd13 wr, Calls Tryz.prog 91 #[(rs.getD i Lr.zero).v, (qs.getD i Lr.zero).v] y.W fun e w' => e = .returned (.bool true) ∧ Fr [] y.W w' := fun y => by
        have h1 := (HAB.out _ (HF.out.then y.h)).1.each i (by omega)
        have h2 := (HAB.out _ (HF.out.then y.h)).2.each i (by omega)
        unfold Lr.v
        rw [← hN]
        exact sameHelds_any _ _ _ _ _ _ _ y.W h1.1 h2.1 h1.2 hkv
      obtain ⟨⟨r1, N1, k1, l1⟩, hr1⟩ : ∃ r, r = rs.getD i Lr.zero := ⟨_, rfl⟩
      obtain ⟨⟨r2, N2, k2, l2⟩, hr2⟩ : ∃ r, r = qs.getD i Lr.zero := ⟨_, rfl⟩
      rw [← hr1] at hx1 HSm hN
      rw [← hr2] at hx2 HSm hN
      simp only [Lr.v] at hx1 hx2 HSm hN
      have hy1 : ∀ y : Wd13 wr, y.W.cell? ⟨b1, o1 + i, none⟩ = some (.slice r1 N1 k1) := fun y => (World.cell?_of_block (y.h.block b1 hb1 (by simp))).trans hx1
      have hy2 : ∀ y : Wd13 wr, y.W.cell? ⟨b2, o2 + i, none⟩ = some (.slice r2 N2 k2) := fun y => (World.cell?_of_block (y.h.block b2 hb2 (by simp))).trans hx2
      clear hc1 hc2 hr1 hr2 hkv hb1 hb2 hN hx1 hx2 hs1 hs2
      go_upto_region 6 with fail
      refine wp_region_wd13 (w1 := wr) (by kernel_rfl) (by kernel_rfl) (Fr.refl _ _) ?_
      repeat (go_big_quiet_step (first
        | (go_at_call 91; with_reducible refine (HSm _).mono ?_; exact fun e w3 hh => ⟨hh.1, ⟨_, Fr.then (Wd13.h _) hh.2⟩, rfl⟩)))
      refine wpQuiet_nil ?_
      rintro _ ⟨y, rfl⟩
      clear hy1 hy2 HSm
      obtain ⟨wa, hFa⟩ := y
      simp only
      have HFa : Hid (Fr [] w wa) := HF.out.then hFa
      clear hFa
      go_wp2_with fail
      go_roundw
      case rel => exact ⟨i + 1, by simp, by omega, HFa⟩
      case measure => simp [RowKit.intOf]; omega
    · have hlt : ¬ (i : Int) < S := by omega
      go_wp2
      go_ret
      exact ⟨rfl, HF.out⟩
end Go.Proofs.YtldghdbfhikcoaaGreatDoor

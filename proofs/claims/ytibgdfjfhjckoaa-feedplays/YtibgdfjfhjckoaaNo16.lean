/- The walk of the law FeedNone. Conditions: what the law's frame hands on. -/
import Derived.Test.YtibgdfjfhjckoaaYz16
import Derived.Test.YtibgdfjfhjckoaaAl16
namespace Go.Proofs.Ytibgdfjfhjckoaa
open Go.ChangeShapes Go.WideShapes Go.ChangeAt Go.RowKit Go.Lib Go.Maps
set_option linter.unusedVariables false
set_option linter.unusedSimpArgs false

theorem OArg.keepO {w w' : World} {ao : Option Addr} {L cap : Nat} {os : List (Nat × Int)} (h : OArg w ao L cap os) (hf : Fr [] w w') : OArg w' ao L cap os := by
  refine ⟨h.len, h.fits, h.most, h.each, fun h0 => ?_⟩
  obtain ⟨b, off, e, hb, hc⟩ := h.lies h0
  refine ⟨b, off, e, Nat.lt_of_lt_of_le hb hf.size, fun j hj => ?_⟩
  obtain ⟨h1, h2⟩ := hc j hj
  exact ⟨(World.cell?_of_block (hf.block b hb (by simp))).trans h1, (World.cell?_of_block (hf.block b hb (by simp))).trans h2⟩
set_option maxHeartbeats 8000000 in
set_option maxRecDepth 100000 in
theorem none16_walk (mark win : Int) (bo : Option Addr) (M bc : Nat) (ao : Option Addr) (L cap : Nat) (os : List (Nat × Int)) (w : World) (hO : OArg w ao L cap os) :
    Calls Try.prog 4 #[.agg #[.int .i64 mark, .slice bo M bc, .int .i64 win], .slice ao L cap] w fun e w' => e = .returned (.bool true) ∧ Fr [] w w' := by
  obtain ⟨w0, HW0⟩ : ∃ w0, Hid ((w.alloc (.cells #[.int .i64 mark, .slice bo M bc, .int .i64 win] 25)).alloc (.cells #[.pointer none, .int .i64 0, .int .i64 0, .int .i64 0, .map none, .int .i64 0, .slice none 0 0, .bool false] 44) = w0) := ⟨_, rfl⟩
  obtain ⟨Z, HZ⟩ : ∃ Z, Hid (w.heap.size + 1 = Z) := ⟨_, rfl⟩
  obtain ⟨A, HA⟩ : ∃ A, Hid (w.heap.size = A) := ⟨_, rfl⟩
  have hF0 : Fr [] w w0 := by rw [← HW0.out]; exact (Fr.alloc _ _ _).then (Fr.alloc _ _ _)
  have hzb : w0.heap[Z]? = some (.cells #[.pointer none, .int .i64 0, .int .i64 0, .int .i64 0, .map none, .int .i64 0, .slice none 0 0, .bool false] 44 (0, 0)) := by rw [← HW0.out, ← HZ.out]; exact heap_at (by simp)
  have HZ0 : Hid (NoF (.pointer (some ⟨Z, 0, none⟩)) w0) := Or.inr ⟨Z, rfl, hzb⟩
  have hab : w0.heap[A]? = some (.cells #[.int .i64 mark, .slice bo M bc, .int .i64 win] 25 (0, 0)) := by rw [← HW0.out, ← HA.out]; exact (Below.heap_alloc _ _ _ (by simp)).trans (heap_alloc_new w _)
  have HA0 : Hid (∀ W, Fr [] w0 W → W.cell? ⟨A, 0, none⟩ = some (.int .i64 mark) ∧ W.cell? ⟨A, 1, none⟩ = some (.slice bo M bc) ∧ W.cell? ⟨A, 2, none⟩ = some (.int .i64 win)) := fun W hf => by
    have := hf.keep hab (by simp)
    exact ⟨by rw [cell_of_row _ _ _ _ _ _ this]; rfl, by rw [cell_of_row _ _ _ _ _ _ this]; rfl, by rw [cell_of_row _ _ _ _ _ _ this]; rfl⟩
  have HO : Hid (OArg w ao L cap os) := hO
  have HF0 : Hid (Fr [] w w0) := hF0
  have hmost := hO.most
  clear hO hF0 hzb hab
  go_enter Try.func4, Try.ntmps4
  go_upto_region 2 with fail
  rw [HW0.out, HZ.out, HA.out]
  clear HW0 HZ HA
  go_wp2_with fail
  go_loopw [6] (fun ii wr => ∃ i : Nat, ii = .int .i64 i ∧ i ≤ 50 ∧ Hid (Fr [] w0 wr)) (fun ii _ => 50 - (RowKit.intOf ii).toNat)
  case atStart => exact ⟨0, rfl, Nat.zero_le _, Fr.refl _ _⟩
  case round =>
    obtain ⟨i, rfl, hi50, HF⟩ := hrel
    by_cases hil : i < L
    · have hdl : decide ((i : Int) < (L : Int)) = true := by simpa using hil
      by_cases hi : i < 50
      · obtain ⟨bb, off, e, _, hc⟩ := (HO.out.keepO (HF0.out.then HF.out)).lies (by omega)
        subst e
        obtain ⟨d0, d1⟩ := hc i hil
        have hk := (HO.out.each (os.getD i (0, 0)) (by
          have := HO.out.len
          have hi' : i < os.length := by omega
          simp [List.getD, hi'])).1
        obtain ⟨k, hkk⟩ : ∃ k, k = (os.getD i (0, 0)).1 := ⟨_, rfl⟩
        obtain ⟨x, hxx⟩ : ∃ x, x = (os.getD i (0, 0)).2 := ⟨_, rfl⟩
        rw [← hkk] at d0 hk
        rw [← hxx] at d1
        clear hkk hxx hc
        have HC1 : Hid (Calls Try.prog 8 #[.pointer none, .pointer none, .agg #[.int .u8 (k : Int), .int .i64 x]] wr fun e w' => e = .returned (.bool true) ∧ Hid (Fr [] wr w') ∧ w'.cell? ⟨bb, off + i * 2, none⟩ = some (.int .u8 (k : Int)) ∧ w'.cell? ⟨bb, off + i * 2 + 1, none⟩ = some (.int .i64 x)) := by
          refine Calls.mono (asks16_any (asks_none (.pointer none) wr.heap.size) 0 (by omega) wr (Or.inl rfl) k hk x) ?_
          rintro e w' ⟨he, hf, _⟩
          have hlt := World.block_lt_of_cell? wr _ d0
          exact ⟨he, hf.fr', (World.cell?_of_block (hf.fr'.block bb hlt (by simp))).trans d0, (World.cell?_of_block (hf.fr'.block bb hlt (by simp))).trans d1⟩
        have HC2 : Hid (∀ W, Fr [] wr W → Calls Try.prog 8 #[.pointer (some ⟨Z, 0, none⟩), .pointer none, .agg #[.int .u8 (k : Int), .int .i64 x]] W fun e w' => e = .returned (.bool true) ∧ Hid (Fr [] W w')) := fun W hf => by
          refine Calls.mono (asks16_any (asks_none (.pointer (some ⟨Z, 0, none⟩)) W.heap.size) 0 (by omega) W ((HZ0.out.keep HF.out).keep hf) k hk x) ?_
          rintro e w' ⟨he, hf, _⟩
          exact ⟨he, hf.fr'⟩
        go_wp2_with fail
        refine Calls.mono HC1.out ?_
        rintro e w1 ⟨rfl, HF1, e0, e1⟩
        go_wp2_with fail
        refine Calls.mono (HC2.out _ HF1.out) ?_
        rintro e w2 ⟨rfl, HF2⟩
        have HF3 : Hid (Fr [] w0 w2) := HF.out.then (HF1.out.then HF2.out)
        have HH := (show Hid _ from fHeld_no (HZ0.out.keep HF3.out))
        have HD := (show Hid _ from fFed_no (HZ0.out.keep HF3.out))
        go_wp2_with fail
        refine Calls.mono HH.out ?_
        rintro e w3 ⟨rfl, rfl⟩
        go_wp2_with fail
        refine Calls.mono HD.out ?_
        rintro e w3 ⟨rfl, rfl⟩
        go_wp2
        go_roundw
        case rel => exact ⟨i + 1, by simp, by omega, HF3⟩
        case measure => simp [RowKit.intOf]; omega
      · have hi5 : i = 50 := by omega
        have hd5 : decide ((i : Int) < 50) = false := by simp; omega
        obtain ⟨a0, a1, a2⟩ := HA0.out _ HF.out
        have HN := (show Hid _ from fNew_none mark (.slice bo M bc) win wr (p := .pointer none) (Or.inl rfl))
        go_wp2_with fail
        refine Calls.mono HN.out ?_
        rintro e w1 ⟨rfl, hF1⟩
        have HL := (show Hid _ from lives16_any w1)
        go_wp2_with fail
        refine Calls.mono HL.out ?_
        rintro e w2 ⟨rfl, hF2⟩
        go_wp2
        go_ret
        exact ⟨rfl, HF0.out.then (HF.out.then (hF1.then hF2))⟩
    · have hdl : decide ((i : Int) < (L : Int)) = false := by simpa using hil
      obtain ⟨a0, a1, a2⟩ := HA0.out _ HF.out
      have HN := (show Hid _ from fNew_none mark (.slice bo M bc) win wr (p := .pointer none) (Or.inl rfl))
      go_wp2_with fail
      refine Calls.mono HN.out ?_
      rintro e w1 ⟨rfl, hF1⟩
      have HL := (show Hid _ from lives16_any w1)
      go_wp2_with fail
      refine Calls.mono HL.out ?_
      rintro e w2 ⟨rfl, hF2⟩
      go_wp2
      go_ret
      exact ⟨rfl, HF0.out.then (HF.out.then (hF1.then hF2))⟩
end Go.Proofs.Ytibgdfjfhjckoaa

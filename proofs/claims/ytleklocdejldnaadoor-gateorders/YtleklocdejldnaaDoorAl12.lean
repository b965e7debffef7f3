/- The statements' own helper alive. Conditions: the library's table lies as its variable lays it. -/
import Derived.Test.YtleklocdejldnaaDoorGd12
namespace Go.Proofs.YtleklocdejldnaaDoor
open Go.ChangeShapes Go.WideShapes Go.ChangeAt Go.RowKit Go.Lib Go.Maps
set_option linter.unusedVariables false
set_option linter.unusedSimpArgs false

theorem irs_new1 (w : World) (x : Int) : IRs (w.alloc (.cells #[.int .i64 x] 3)) (some ⟨w.heap.size, 0, none⟩) [x] := by
  refine ⟨fun _ => ⟨w.heap.size, 0, rfl, by simp, fun i hi => ?_⟩, by simp⟩
  obtain rfl : i = 0 := by simp at hi; exact hi
  exact cell_new1 _ _ _
theorem irs_new2 (w : World) (x y : Int) : IRs (w.alloc (.cells #[.int .i64 x, .int .i64 y] 3)) (some ⟨w.heap.size, 0, none⟩) [x, y] := by
  refine ⟨fun _ => ⟨w.heap.size, 0, rfl, by simp, fun i hi => ?_⟩, by simp⟩
  rw [cell_of_row _ _ _ _ _ _ (heap_alloc_new w _)]
  have hi : i < 2 := hi
  obtain rfl | rfl : i = 0 ∨ i = 1 := by omega
  · rfl
  · rfl
theorem ok357 : Gok 3 [5, 7] := ⟨⟨by omega, by omega, by simp [Ris], by simp⟩, by simp⟩
theorem ok57 : Gok 5 [7] := ⟨⟨by omega, by omega, by simp [Ris], by simp⟩, by simp⟩
theorem no34 : ¬ Gok 3 [4] := fun h => h.2 (by simp)
theorem do4 : DoT 3 [5, 7] 4 2 0 5 [7] := ⟨ok57, Or.inr ⟨by simp, by simp, rfl, by rfl⟩⟩
theorem do5 : DoT 5 [7] 5 0 1 5 [7] := ⟨ok57, Or.inl ⟨by simp, rfl, rfl, rfl, rfl⟩⟩
set_option maxHeartbeats 4000000 in
set_option maxRecDepth 100000 in
theorem alive12_any (w : World) (hT : Tz w) : Calls Tryd.prog 21 #[] w fun e w' => e = .returned (.bool true) ∧ Fr [] w w' := by
  have HTz : Hid (∀ W, Fr [] w W → Tz W) := fun W hf => hT.keep hf (by simp)
  have HN1 : Hid (Calls _ _ _ _ _) := gg_new 3 (some ⟨w.heap.size, 0, none⟩) 2 2 [5, 7] _ (irs_new2 w 5 7) rfl ok357
  have HN2 : Hid (∀ W : World, Calls Tryd.prog 8 #[.int .i64 3, .slice (some ⟨W.heap.size, 0, none⟩) 1 1] (W.alloc (.cells #[.int .i64 4] 3)) fun e w' => e = .returned (.tuple #[.pointer none, .int .i64 1]) ∧ Fr [] W w') := fun W =>
    (gg_new_no 3 (some ⟨W.heap.size, 0, none⟩) 1 1 [4] _ (irs_new1 W 4) rfl no34).mono (fun e w' h => ⟨h.1, (Fr.alloc [] W _).then h.2⟩)
  clear hT
  go_enter Tryd.func21, Tryd.ntmps21
  go_wp2_with fail
  refine Calls.mono HN1.out ?_
  rintro e w1 ⟨g, rfl, hg, hG1, hF1⟩
  have hgw : w.heap.size ≤ g := by simp at hg; omega
  have HF1 : Hid (Fr [] w w1) := (Fr.alloc [] w _).then hF1
  have HG1 : Hid (GG w1 g 3 [5, 7]) := hG1
  clear hG1 hF1 hg HN1
  go_wp2_with fail
  refine Calls.mono (HN2.out _) ?_
  rintro e w2 ⟨rfl, hF2⟩
  have HD4 : Hid (Calls _ _ _ _ _) := gg_done (HG1.out.keep hF2 (by simp)) do4
  have HF2 : Hid (Fr [] w w2) := HF1.out.then hF2
  clear hF2 HG1 HF1 HN2
  go_wp2_with fail
  refine Calls.mono HD4.out ?_
  rintro e w3 ⟨rfl, hG3, hF3⟩
  have HD5 : Hid (Calls _ _ _ _ _) := gg_done hG3 do5
  have HF3 : Hid (Fr [] w w3) := HF2.out.on hF3 (by simpa using hgw)
  clear hF3 hG3 HF2 HD4
  go_wp2_with fail
  refine Calls.mono HD5.out ?_
  rintro e w4 ⟨rfl, hG4, hF4⟩
  have HF4 : Hid (Fr [] w w4) := HF3.out.on hF4 (by simpa using hgw)
  have HG4 : Hid (∀ W, Fr [] w4 W → GG W g 5 [7]) := fun W hf => hG4.keep hf (by simp)
  clear hF4 hG4 HF3 HD5
  go_wp2_with fail
  refine Calls.mono (gg_mark (HG4.out _ (Fr.refl _ _))) ?_
  rintro e w5 ⟨rfl, hF5⟩
  go_wp2_with fail
  refine Calls.mono (gg_has (HG4.out _ hF5) 7 true (by simp)) ?_
  rintro e w6 ⟨rfl, hF6⟩
  have hF6 := hF5.then hF6
  clear hF5
  go_wp2_with fail
  refine Calls.mono (gg_has (HG4.out _ hF6) 6 false (by simp)) ?_
  rintro e w7 ⟨rfl, hF7⟩
  have hF7 := hF6.then hF7
  clear hF6
  go_wp2_with fail
  refine Calls.mono (gg_beyond (HG4.out _ hF7) (HTz.out _ (HF4.out.then hF7))) ?_
  rintro e w8 ⟨o, N, c, rfl, hO8, hF8⟩
  obtain rfl : N = 1 := hO8.len
  have hF8 := hF7.then hF8
  have HS : Hid (Calls _ _ _ _ _) := same12 o (some ⟨w8.heap.size, 0, none⟩) 1 c 1 [7] (w8.alloc (.cells #[.int .i64 7] 3)) ((hO8.rs (by omega)).keep (Fr.alloc [] _ _)) (irs_new1 w8 7) rfl (by omega)
  have HF8 : Hid (Fr [] w (w8.alloc (.cells #[.int .i64 7] 3))) := (HF4.out.then hF8).then (Fr.alloc [] _ _)
  clear hF7 hF8 hO8 HF4 HG4
  go_wp2_with fail
  refine Calls.mono HS.out ?_
  rintro e w9 ⟨rfl, hF9⟩
  go_wp2
  go_ret
  exact ⟨rfl, HF8.out.then hF9⟩
end Go.Proofs.YtleklocdejldnaaDoor

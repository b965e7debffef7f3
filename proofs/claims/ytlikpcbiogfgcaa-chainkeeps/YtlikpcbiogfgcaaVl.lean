/- The chapter's list, and the statements' own test that the program answers as the document fixes. No conditions. -/
import Derived.Test.YtlikpcbiogfgcaaVt
namespace Go.Proofs.Ytlikpcbiogfgcaa
open Go.ChangeShapes Go.WideShapes Go.ChangeAt Go.RowKit Go.Lib
set_option linter.unusedVariables false
set_option linter.unusedSimpArgs false
def docL : List Vn := [⟨2, ⟨#[120]⟩, false⟩, ⟨4, ⟨#[]⟩, true⟩, ⟨6, ⟨#[121]⟩, false⟩]
theorem doc_each : ∀ x ∈ docL, okX x := by
  intro x hx
  simp only [docL, List.mem_cons, List.not_mem_nil, or_false] at hx
  rcases hx with rfl | rfl | rfl
  · exact ⟨by decide, by decide, by decide, fun h => by cases h⟩
  · exact ⟨by decide, by decide, by decide, fun h => rfl⟩
  · exact ⟨by decide, by decide, by decide, fun h => by cases h⟩
theorem doc_ok : okV docL := ⟨doc_each, by simp [Ris, docL]⟩
theorem doc_up (k : Int) (d : Nat) (h : (d = 2 ∧ 4 ≤ k ∧ k < 6) ∨ (d = 1 ∧ 2 ≤ k ∧ k < 4) ∨ (d = 3 ∧ 6 ≤ k)) : UpTo docL k d := by
  refine ⟨by simp [docL]; omega, fun j hj => ?_, fun j h1 h2 => ?_⟩
  · have hj3 : j = 0 ∨ j = 1 ∨ j = 2 := by omega
    rcases hj3 with rfl | rfl | rfl <;> simp [docL] <;> omega
  · have hj3 : j = 0 ∨ j = 1 ∨ j = 2 := by simp [docL] at h2; omega
    rcases hj3 with rfl | rfl | rfl <;> simp [docL] <;> omega
set_option maxHeartbeats 1000000 in
theorem list8_any (w : World) : Calls Try.prog 15 #[] w fun e w' => e = .returned (.slice (some ⟨w.heap.size, 0, none⟩) 3 3) ∧ VRs w' (some ⟨w.heap.size, 0, none⟩) docL ∧ Fr [] w w' := by
  have hb : (w.alloc (.cells #[.int .i64 2, .string ⟨#[120]⟩, .bool false, .int .i64 4, .string ⟨#[]⟩, .bool true, .int .i64 6, .string ⟨#[121]⟩, .bool false] 30)).heap[w.heap.size]? = some (.cells #[.int .i64 2, .string ⟨#[120]⟩, .bool false, .int .i64 4, .string ⟨#[]⟩, .bool true, .int .i64 6, .string ⟨#[121]⟩, .bool false] 30 (0, 0)) := heap_alloc_new w _
  obtain ⟨W, hW⟩ : ∃ W, w.alloc (.cells #[.int .i64 2, .string ⟨#[120]⟩, .bool false, .int .i64 4, .string ⟨#[]⟩, .bool true, .int .i64 6, .string ⟨#[121]⟩, .bool false] 30) = W := ⟨_, rfl⟩
  have HF : Hid (Fr [] w W) := by rw [← hW]; exact Fr.alloc [] w _
  rw [hW] at hb
  have HR : Hid (VRs W (some ⟨w.heap.size, 0, none⟩) docL) := VRs.of_cells (fun _ => lt_of_block hb) (fun j u hu => by
    rw [cell_of_row _ _ _ _ _ _ hb, Nat.zero_add]
    simpa [vnsC, vnC, docL] using hu) (by simp [docL]) (fun x hx => okX_each (doc_each x hx))
  have HW : Hid (_ = W) := hW
  clear hW hb
  go_enter Try.func15, Try.ntmps15
  go_wp2
  go_ret
  rw [HW.out]
  exact ⟨rfl, HR.out, HF.out⟩
theorem doc_put1 {us : List Vn} {ok : Bool} {c : Nat} (h : PuTold docL ⟨5, ⟨#[122]⟩, false⟩ us ok c) : ok = true ∧ c = 0 ∧ us = [⟨2, ⟨#[120]⟩, false⟩, ⟨4, ⟨#[]⟩, true⟩, ⟨5, ⟨#[122]⟩, false⟩, ⟨6, ⟨#[121]⟩, false⟩] := by
  have hx : okX ⟨5, ⟨#[122]⟩, false⟩ := ⟨by decide, by decide, by decide, fun h => by cases h⟩
  rcases h with ⟨_, h, _⟩ | ⟨hc, _, _, d, hd, h⟩
  · exact absurd ⟨doc_ok, hx⟩ h
  · obtain rfl : d = 2 := hd.one (doc_up 5 2 (by omega))
    rcases h with ⟨⟨_, h⟩, _⟩ | ⟨_, h1, h2⟩
    · simp [docL] at h
    · exact ⟨h2, hc, by rw [h1]; simp [docL]⟩
theorem doc_put2 {us : List Vn} {ok : Bool} {c : Nat} (h : PuTold docL ⟨4, ⟨#[122]⟩, false⟩ us ok c) : ok = false ∧ c = 0 := by
  have hx : okX ⟨4, ⟨#[122]⟩, false⟩ := ⟨by decide, by decide, by decide, fun h => by cases h⟩
  rcases h with ⟨_, h, _⟩ | ⟨hc, _, _, d, hd, h⟩
  · exact absurd ⟨doc_ok, hx⟩ h
  · obtain rfl : d = 2 := hd.one (doc_up 4 2 (by omega))
    rcases h with ⟨_, _, h⟩ | ⟨h, _⟩
    · exact ⟨h, hc⟩
    · exact absurd ⟨by omega, by simp [docL]⟩ h
theorem doc_at {x : Vn} {ok : Bool} {c : Nat} (h : AtTold docL 3 x ok c) : x = ⟨2, ⟨#[120]⟩, false⟩ ∧ ok = true ∧ c = 0 := by
  rcases h with ⟨_, h, _⟩ | ⟨hc, _, d, hd, h1, h2⟩
  · exact absurd doc_ok h
  · obtain rfl : d = 1 := hd.one (doc_up 3 1 (by omega))
    exact ⟨by rw [h1]; rfl, by rw [h2]; rfl, hc⟩
theorem doc_col {us : List Vn} {n c : Nat} (h : CoTold docL 9 us n c) : us.length = 1 ∧ n = 2 ∧ c = 0 := by
  rcases h with ⟨_, h, _⟩ | ⟨hc, _, d, hd, h1, h2⟩
  · exact absurd doc_ok h
  · obtain rfl : d = 3 := hd.one (doc_up 9 3 (by omega))
    subst h1
    exact ⟨by rw [h2]; rfl, rfl, hc⟩
theorem zero_bad : CkT [Vn.zero] 1 := Or.inr ⟨rfl, fun h => by have := (h.1 Vn.zero (by simp)).1; simp [Vn.zero] at this⟩
set_option maxHeartbeats 4000000 in
set_option maxRecDepth 100000 in
theorem alive8_any (w : World) : Calls Try.prog 6 #[] w fun e w' => e = .returned (.bool true) ∧ Fr [] w w' := by
  go_enter Try.func6, Try.ntmps6
  go_wp2_with fail
  refine (list8_any _).mono ?_
  rintro e w1 ⟨rfl, hV1, hF1⟩
  have HP : Hid (Calls _ _ _ _ _) := put_any _ 3 3 ⟨5, ⟨#[122]⟩, false⟩ docL w1 hV1 rfl (Nat.le_refl _) ⟨by decide, by decide, by decide⟩
  clear hV1
  go_wp2_with fail
  refine Calls.mono HP.out ?_
  rintro e w2 ⟨ro, N, rc, us, ok, c, rfl, hT, hO, hF2⟩
  obtain ⟨rfl, rfl, rfl⟩ := doc_put1 hT
  have hG2 := hF1.then hF2
  obtain rfl : N = 4 := hO.len
  have hR := hO.rs (by simp) (by
    intro x hx
    simp only [List.mem_cons, List.not_mem_nil, or_false] at hx
    rcases hx with rfl | rfl | rfl | rfl <;> exact ⟨by decide, by decide, by decide⟩)
  obtain ⟨b, off, rfl, _, hat⟩ := hR.lies (by simp)
  have a2 := (hat 2 (by simp)).c1
  simp only [List.getD_cons_succ, List.getD_cons_zero] at a2
  have HA2 : Hid (∀ W, Fr [] w2 W → W.cell? ⟨b, off + 2 * 3 + 1, none⟩ = some (.string ⟨#[122]⟩)) := fun W hf => hf.cell a2
  clear HP hT hO hR hat a2 hF2
  go_wp2_with fail
  refine (list8_any _).mono ?_
  rintro e w3 ⟨rfl, hV3, hF3⟩
  have HP : Hid (Calls _ _ _ _ _) := put_any _ 3 3 ⟨4, ⟨#[122]⟩, false⟩ docL w3 hV3 rfl (Nat.le_refl _) ⟨by decide, by decide, by decide⟩
  clear hV3
  go_wp2_with fail
  refine Calls.mono HP.out ?_
  rintro e w4 ⟨ro', N', rc', us, ok, c, rfl, hT, _, hF4⟩
  obtain ⟨rfl, rfl⟩ := doc_put2 hT
  have hG4 := hF3.then hF4
  clear HP hT hF3 hF4
  go_wp2_with fail
  refine (list8_any _).mono ?_
  rintro e w5 ⟨rfl, hV5, hF5⟩
  have HP : Hid (Calls _ _ _ _ _) := at_any _ 3 3 3 docL w5 hV5 rfl
  clear hV5
  go_wp2_with fail
  refine Calls.mono HP.out ?_
  rintro e w6 ⟨x, ok, c, rfl, hT, hF6⟩
  obtain ⟨rfl, rfl, rfl⟩ := doc_at hT
  have hG6 := hG4.then (hF5.then hF6)
  clear HP hT hF5 hF6
  obtain ⟨W6, HW6⟩ : ∃ W6, Hid (w6.alloc (.cells #[.int .i64 2, .string ⟨#[120]⟩, .bool false] 30) = W6) := ⟨_, rfl⟩
  have hF6 : Fr [] w6 W6 := by rw [← HW6.out]; exact Fr.alloc [] w6 _
  have hb6 : W6.heap[w6.heap.size]? = some (.cells #[.int .i64 2, .string ⟨#[120]⟩, .bool false] 30 (0, 0)) := by rw [← HW6.out]; exact heap_alloc_new w6 _
  have HB6 : Hid (∀ W, Fr [] W6 W → W.cell? ⟨w6.heap.size, 1, none⟩ = some (.string ⟨#[120]⟩)) := fun W hf => by
    rw [cell_of_row _ _ _ _ _ _ (hf.keep hb6 (by simp))]; rfl
  clear hb6
  go_wp2_with fail
  rw [HW6.out]
  refine (list8_any _).mono ?_
  rintro e w7 ⟨rfl, hV7, hF7⟩
  have HP : Hid (Calls _ _ _ _ _) := collect_any _ 3 3 9 docL w7 hV7 rfl (Nat.le_refl _)
  clear hV7
  go_wp2_with fail
  refine Calls.mono HP.out ?_
  rintro e w8 ⟨ro8, N8, rc8, us8, n8, c8, rfl, hT, hO8, hF8⟩
  obtain ⟨hl8, rfl, rfl⟩ := doc_col hT
  obtain rfl : N8 = 1 := hO8.len.trans hl8
  have hG8 := hF7.then hF8
  have hg8 : Fr [] w2 w8 := hG6.then (hF6.then hG8)
  have q0 := HB6.out _ hG8
  have q1 := HA2.out _ hg8
  obtain ⟨W9, HW9⟩ : ∃ W9, Hid (w8.alloc (.cells #[.int .i64 0, .string ⟨#[]⟩, .bool false] 30) = W9) := ⟨_, rfl⟩
  have hF9 : Fr [] w8 W9 := by rw [← HW9.out]; exact Fr.alloc [] w8 _
  have hb9 : W9.heap[w8.heap.size]? = some (.cells #[.int .i64 0, .string ⟨#[]⟩, .bool false] 30 (0, 0)) := by rw [← HW9.out]; exact heap_alloc_new w8 _
  have hV9 : VRs W9 (some ⟨w8.heap.size, 0, none⟩) [Vn.zero] := VRs.of_cells (fun _ => lt_of_block hb9) (fun j u hu => by
    rw [cell_of_row _ _ _ _ _ _ hb9, Nat.zero_add]
    simpa [vnsC, vnC, Vn.zero, noS] using hu) (by simp) (by intro x hx; rw [List.mem_singleton] at hx; rw [hx]; exact ⟨by decide, by decide, by decide⟩)
  have HC9 : Hid (Calls _ _ _ _ _) := vcheck_any _ 1 1 1 [Vn.zero] W9 hV9 rfl zero_bad
  have HG9 : Hid (Fr [] w W9) := hG2.then (hg8.then hF9)
  clear HP hT hO8 hF8 hF7 hb9 hV9 hF9 hl8
  go_wp2_with fail
  rw [HW9.out]
  refine Calls.mono HC9.out ?_
  rintro e w10 ⟨rfl, hF10⟩
  go_wp2
  go_ret
  exact ⟨rfl, HG9.out.then hF10⟩
end Go.Proofs.Ytlikpcbiogfgcaa

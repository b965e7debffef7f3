/- Some answers that the document fixes: contracts of sample, alive. No conditions. -/
import Derived.Test.YtldghdbfhikcoaaDe18
import Derived.Test.YtldghdbfhikcoaaEn18
namespace Go.Proofs.Ytldghdbfhikcoaa
open Go.ChangeShapes Go.WideShapes Go.ChangeAt Go.RowKit Go.Lib Go.Maps
set_option linter.unusedVariables false
set_option linter.unusedSimpArgs false
theorem d00 : dS [0, 0] = .error 5 := by rfl
def psS : List Kv := [(⟨#[97]⟩, [⟨2, ⟨#[120]⟩, false⟩, ⟨5, noS, true⟩]), (⟨#[98]⟩, [⟨5, noS, false⟩])]
def ysS : List Nat := [3, 1, 5, 2, 1, 97, 2, 2, 0, 1, 120, 5, 1, 1, 98, 1, 5, 0, 0]
theorem encS18 : encD 3 [5] psS = ysS := by decide +kernel
theorem okS18 : OkS 3 [5] psS := by
  refine ⟨by decide, by decide, ⟨by simp, by simp, by simp⟩, ⟨?_, ?_⟩, ?_⟩
  · simp only [psS, List.pairwise_cons, List.Pairwise.nil, List.not_mem_nil, false_implies, implies_true, List.mem_singleton, forall_eq, and_true]
    decide +kernel
  · intro p hp
    simp only [psS, List.mem_cons, List.not_mem_nil, or_false] at hp
    rcases hp with rfl | rfl
    · refine ⟨⟨by decide +kernel, by decide +kernel⟩, by simp, ⟨?_, ?_⟩⟩
      · intro x hx
        simp only [List.mem_cons, List.not_mem_nil, or_false] at hx
        rcases hx with rfl | rfl
        · exact ⟨by decide, by decide, by decide +kernel, by simp⟩
        · exact ⟨by decide, by decide, by decide +kernel, by simp⟩
      · simp [Ris]
    · refine ⟨⟨by decide +kernel, by decide +kernel⟩, by simp, ⟨?_, ?_⟩⟩
      · intro x hx
        simp only [List.mem_cons, List.not_mem_nil, or_false] at hx
        subst hx
        exact ⟨by decide, by decide, by decide +kernel, by simp⟩
      · simp [Ris]
  · intro p hp
    simp only [psS, List.mem_cons, List.not_mem_nil, or_false] at hp
    rcases hp with rfl | rfl
    · exact ⟨by simp, by simp⟩
    · exact ⟨by simp, by simp⟩
theorem no18 : ¬ OkS 3 [4] [] := fun h => by
  have := h.bey.low 4 (by simp)
  omega
/-- The sample in memory. -/
structure Smp (w' : World) (bo ho : Option Addr) (hs : List Hd) : Prop where
  ir : IRs w' bo [5]
  hr : HRs w' ho hs
  kv : hs.map Hd.kv = psS
theorem Smp.len {w' : World} {bo ho : Option Addr} {hs : List Hd} (h : Smp w' bo ho hs) : hs.length = 2 := by
  have := congrArg List.length h.kv
  simpa [psS] using this
theorem smp_of (w : World) (o : Obj) : ∃ hs, Smp (((((w.alloc o).alloc (.cells #[.int .i64 5] 3)).alloc (.cells #[.int .i64 2, .string ⟨#[120]⟩, .bool false, .int .i64 5, .string ⟨#[]⟩, .bool true] 91)).alloc (.cells #[.int .i64 5, .string ⟨#[]⟩, .bool false] 91)).alloc (.cells #[.string ⟨#[97]⟩, .slice (some ⟨w.heap.size + 1 + 1, 0, none⟩) 2 2, .string ⟨#[98]⟩, .slice (some ⟨w.heap.size + 1 + 1 + 1, 0, none⟩) 1 1] 52)) (some ⟨w.heap.size + 1, 0, none⟩) (some ⟨w.heap.size + 1 + 1 + 1 + 1, 0, none⟩) hs := by
  obtain ⟨w1, h1⟩ : ∃ w1, w1 = w.alloc o := ⟨_, rfl⟩
  rw [← h1]
  obtain ⟨w2, h2⟩ : ∃ w2, w2 = w1.alloc (.cells #[.int .i64 5] 3) := ⟨_, rfl⟩
  rw [← h2]
  obtain ⟨w3, h3⟩ : ∃ w3, w3 = w2.alloc (.cells #[.int .i64 2, .string ⟨#[120]⟩, .bool false, .int .i64 5, .string ⟨#[]⟩, .bool true] 91) := ⟨_, rfl⟩
  rw [← h3]
  obtain ⟨w4, h4⟩ : ∃ w4, w4 = w3.alloc (.cells #[.int .i64 5, .string ⟨#[]⟩, .bool false] 91) := ⟨_, rfl⟩
  rw [← h4]
  have s1 : w1.heap.size = w.heap.size + 1 := by rw [h1]; simp
  have s2 : w2.heap.size = w.heap.size + 1 + 1 := by rw [h2]; simp [s1]
  have s3 : w3.heap.size = w.heap.size + 1 + 1 + 1 := by rw [h3]; simp [s2]
  have s4 : w4.heap.size = w.heap.size + 1 + 1 + 1 + 1 := by rw [h4]; simp [s3]
  rw [← s4, ← s3, ← s2, ← s1]
  have b2 : w2.heap[w1.heap.size]? = some (.cells #[.int .i64 5] 3 (0, 0)) := by rw [h2]; exact heap_alloc_new _ _
  have b3 : w3.heap[w2.heap.size]? = some (.cells #[.int .i64 2, .string ⟨#[120]⟩, .bool false, .int .i64 5, .string ⟨#[]⟩, .bool true] 91 (0, 0)) := by rw [h3]; exact heap_alloc_new _ _
  have b4 : w4.heap[w3.heap.size]? = some (.cells #[.int .i64 5, .string ⟨#[]⟩, .bool false] 91 (0, 0)) := by rw [h4]; exact heap_alloc_new _ _
  have f3 : Fr [] w2 w3 := by rw [h3]; exact Fr.alloc [] _ _
  have f4 : Fr [] w3 w4 := by rw [h4]; exact Fr.alloc [] _ _
  obtain ⟨w5, h5⟩ : ∃ w5, w5 = w4.alloc (.cells #[.string ⟨#[97]⟩, .slice (some ⟨w2.heap.size, 0, none⟩) 2 2, .string ⟨#[98]⟩, .slice (some ⟨w3.heap.size, 0, none⟩) 1 1] 52) := ⟨_, rfl⟩
  rw [← h5]
  have b5 : w5.heap[w4.heap.size]? = some (.cells #[.string ⟨#[97]⟩, .slice (some ⟨w2.heap.size, 0, none⟩) 2 2, .string ⟨#[98]⟩, .slice (some ⟨w3.heap.size, 0, none⟩) 1 1] 52 (0, 0)) := by rw [h5]; exact heap_alloc_new _ _
  have f5 : Fr [] w4 w5 := by rw [h5]; exact Fr.alloc [] _ _
  have c2 := (f3.then (f4.then f5)).keep b2 (by simp)
  have c3 := (f4.then f5).keep b3 (by simp)
  have c4 := f5.keep b4 (by simp)
  refine ⟨[⟨⟨#[97]⟩, some ⟨w2.heap.size, 0, none⟩, 2, 2, [⟨2, ⟨#[120]⟩, false⟩, ⟨5, noS, true⟩]⟩, ⟨⟨#[98]⟩, some ⟨w3.heap.size, 0, none⟩, 1, 1, [⟨5, noS, false⟩]⟩], ⟨fun _ => ⟨_, 0, rfl, lt_of_block c2, fun i hi => ?_⟩, by simp⟩, ⟨fun _ => ⟨_, 0, rfl, lt_of_block b5, fun i hi => ?_⟩, by simp, fun h hh => ?_⟩, rfl⟩
  · obtain rfl : i = 0 := by simp at hi; omega
    rw [cell_of_row _ _ _ _ _ _ c2]; rfl
  · have hi2 : i = 0 ∨ i = 1 := by simp at hi; omega
    rcases hi2 with rfl | rfl
    · exact ⟨by rw [cell_of_row _ _ _ _ _ _ b5]; rfl, by rw [cell_of_row _ _ _ _ _ _ b5]; rfl⟩
    · exact ⟨by rw [cell_of_row _ _ _ _ _ _ b5]; rfl, by rw [cell_of_row _ _ _ _ _ _ b5]; rfl⟩
  · simp only [List.mem_cons, List.not_mem_nil, or_false] at hh
    rcases hh with rfl | rfl
    · refine ⟨(by show (1 : Nat) ≤ 140737488355328; decide), rfl, Nat.le_refl _, ⟨fun _ => ⟨_, 0, rfl, lt_of_block c3, fun i hi => ?_⟩, by simp, fun x hx => ?_⟩⟩
      · have hi2 : i = 0 ∨ i = 1 := by simp at hi; omega
        rcases hi2 with rfl | rfl
        · exact ⟨by rw [cell_of_row _ _ _ _ _ _ c3]; rfl, by rw [cell_of_row _ _ _ _ _ _ c3]; rfl, by rw [cell_of_row _ _ _ _ _ _ c3]; rfl⟩
        · exact ⟨by rw [cell_of_row _ _ _ _ _ _ c3]; rfl, by rw [cell_of_row _ _ _ _ _ _ c3]; rfl, by rw [cell_of_row _ _ _ _ _ _ c3]; rfl⟩
      · simp only [List.mem_cons, List.not_mem_nil, or_false] at hx
        rcases hx with rfl | rfl
        · exact ⟨by decide +kernel, by decide, by decide⟩
        · exact ⟨by decide +kernel, by decide, by decide⟩
    · refine ⟨(by show (1 : Nat) ≤ 140737488355328; decide), rfl, Nat.le_refl _, ⟨fun _ => ⟨_, 0, rfl, lt_of_block c4, fun i hi => ?_⟩, by simp, fun x hx => ?_⟩⟩
      · obtain rfl : i = 0 := by simp at hi; omega
        exact ⟨by rw [cell_of_row _ _ _ _ _ _ c4]; rfl, by rw [cell_of_row _ _ _ _ _ _ c4]; rfl, by rw [cell_of_row _ _ _ _ _ _ c4]; rfl⟩
      · simp only [List.mem_cons, List.not_mem_nil, or_false] at hx
        subst hx
        exact ⟨by decide +kernel, by decide, by decide⟩
set_option maxRecDepth 100000 in
theorem sample_any (w : World) : Calls Try.prog 21 #[] w fun e w' => ∃ bo ho hs, e = .returned (.agg #[.int .i64 3, .slice bo 1 1, .slice ho 2 2]) ∧ Smp w' bo ho hs ∧ Fr [] w w' := by
  have HS : Hid (∀ o, ∃ hs, Smp _ _ _ hs) := fun o => smp_of w o
  go_enter Try.func21, Try.ntmps21
  go_wp2
  refine bodyPost_ret (v := .agg #[.int .i64 3, .slice (some ⟨w.heap.size + 1, 0, none⟩) 1 1, .slice (some ⟨w.heap.size + 1 + 1 + 1 + 1, 0, none⟩) 2 2]) (by rw [results_cell1 rfl]; go_simp) rfl ?_
  obtain ⟨hs, h⟩ := HS.out (.cells #[.int .i64 3, .slice (some ⟨w.heap.size + 1, 0, none⟩) 1 1, .slice (some ⟨w.heap.size + 1 + 1 + 1 + 1, 0, none⟩) 2 2] 25)
  exact ⟨_, _, hs, rfl, h, ((((Fr.alloc [] _ _).then (Fr.alloc [] _ _)).then (Fr.alloc [] _ _)).then (Fr.alloc [] _ _)).then (Fr.alloc [] _ _)⟩
theorem barg_new (w : World) (xs : List Nat) (L : Nat) (hL : L = xs.length) (hl : L ≤ 4096) (hb : ∀ x ∈ xs, x < 256) : BArg (w.alloc (.cells (bts xs).toArray 5)) (some ⟨w.heap.size, 0, none⟩) L L xs := by
  have hr := heap_alloc_new w (.cells (bts xs).toArray 5)
  refine ⟨hL, hb, Nat.le_refl _, by omega, fun h0 => ⟨_, 0, rfl, lt_of_block hr, fun j hj => ?_⟩⟩
  rw [cell_of_row _ _ _ _ _ _ hr, Nat.zero_add, List.getElem?_toArray]
  exact bts_get xs j (by omega)
theorem Rs.of_row18 {w : World} {b : Nat} {xs : List Nat} (h : w.heap[b]? = some (.cells (bts xs).toArray 5 (0, 0))) (hl : xs.length < 2^41) : Rs w (some ⟨b, 0, none⟩) xs :=
  ⟨fun _ => ⟨b, 0, rfl, fun j hj => by
    rw [cell_of_row _ _ _ _ _ _ h, Nat.zero_add, List.getElem?_toArray]
    exact bts_get xs j hj⟩, hl⟩
set_option maxHeartbeats 8000000 in
set_option maxRecDepth 100000 in
theorem alive18_any (w : World) : Calls Try.prog 6 #[] w fun e w' => e = .returned (.bool true) ∧ Fr [] w w' := by
  have HC1 : Hid (Calls _ _ _ _ _) := sample_any w
  go_enter Try.func6, Try.ntmps6
  go_wp2_with fail
  refine Calls.mono HC1.out ?_
  rintro e w1 ⟨bo, ho, hs, rfl, hS, hF1⟩
  have HC2 : Hid (Calls _ _ _ _ _) := dencode_ok 3 bo ho 1 1 2 2 19 [5] hs ysS w1 hS.ir rfl hS.hr hS.len.symm (by rw [hS.kv]; exact okS18) (by rw [hS.kv]; exact encS18.symm) rfl (by decide)
  have HF1 : Hid (Fr [] w w1) := hF1
  clear hS hF1 HC1
  go_wp2_with fail
  refine Calls.mono HC2.out ?_
  rintro e w2 ⟨k, rfl, hk, hrow, hF2⟩
  have HF2 : Hid (Fr [] w w2) := HF1.out.then hF2
  have HRow : Hid (w2.heap[k]? = some (.cells (bts ysS).toArray 5 (0, 0))) := hrow
  have HC3 : Hid (Calls Try.prog 11 #[.slice (some ⟨w2.heap.size, 0, none⟩) 2 2] (w2.alloc (.cells #[.int .u8 0, .int .u8 0] 5)) fun e w' => e = .returned (.tuple #[.agg #[.int .i64 0, .slice none 0 0, .slice none 0 0], .int .i64 5]) ∧ Fr [] w2 w') := by
    refine (ddecode_any (some ⟨w2.heap.size, 0, none⟩) 2 2 [0, 0] _ (barg_new w2 [0, 0] 2 rfl (by decide) (by decide)) rfl (by decide)).mono ?_
    rintro e w' (⟨c, hT, hc, rfl, hF⟩ | ⟨m, _, _, _, _, _, _, bs, hs, h1, _⟩)
    · have hc5 : c = 5 := by
        rcases hT with h | ⟨_, s, r, h, _⟩ | ⟨_, s, h, _⟩
        · rw [d00] at h; cases h; rfl
        · rw [d00] at h; cases h
        · rw [d00] at h; cases h
      subst hc5
      exact ⟨rfl, (Fr.alloc [] _ _).then hF⟩
    · rw [d00] at h1; cases h1
  clear hrow hF2 HC2 hk HF1
  go_wp2_with fail
  refine Calls.mono HC3.out ?_
  rintro e w3 ⟨rfl, hF3⟩
  obtain ⟨w4, HW4⟩ : ∃ w4, Hid (w3.alloc (.cells #[.int .i64 0, .slice none 0 0, .slice none 0 0] 25) = w4) := ⟨_, rfl⟩
  have hF4 : Fr [] w2 w4 := by rw [← HW4.out]; exact hF3.then (Fr.alloc [] _ _)
  obtain ⟨w5, HW5⟩ : ∃ w5, Hid (w4.alloc (.cells #[.int .i64 4] 3) = w5) := ⟨_, rfl⟩
  have hF5 : Fr [] w4 w5 := by rw [← HW5.out]; exact Fr.alloc [] _ _
  have hb5 : w5.heap[w4.heap.size]? = some (.cells #[.int .i64 4] 3 (0, 0)) := by rw [← HW5.out]; exact heap_alloc_new _ _
  have hI5 : IRs w5 (some ⟨w4.heap.size, 0, none⟩) [4] := ⟨fun _ => ⟨_, 0, rfl, lt_of_block hb5, fun i hi => by
    obtain rfl : i = 0 := by simp at hi; omega
    rw [cell_of_row _ _ _ _ _ _ hb5]; rfl⟩, by simp⟩
  have hH5 : HRs w5 none [] := ⟨fun h => by simp at h, by simp, by simp⟩
  have HC5 : Hid (Calls _ _ _ _ _) := dcheck_any 3 (some ⟨w4.heap.size, 0, none⟩) none 1 1 0 0 1 [4] [] w5 hI5 rfl hH5 rfl (Or.inr ⟨rfl, no18⟩)
  have HF5 : Hid (Fr [] w2 w5) := hF4.then hF5
  clear hF3 hF4 hF5 hb5 hI5 hH5 HC3
  go_upto_region 3 with fail
  rw [HW4.out]
  go_wp2_with fail
  rw [HW5.out]
  refine Calls.mono HC5.out ?_
  rintro e w6 ⟨rfl, hF6⟩
  have hF7 : Fr [] w6 (w6.alloc (.cells (bts ysS).toArray 5)) := Fr.alloc [] _ _
  have hb7 := heap_alloc_new w6 (.cells (bts ysS).toArray 5)
  have HC7 : Hid (Calls _ _ _ _ _) := same_yes (some ⟨k, 0, none⟩) (some ⟨w6.heap.size, 0, none⟩) 19 19 19 19 ysS ysS (w6.alloc (.cells (bts ysS).toArray 5)) (Rs.of_row18 ((HF5.out.then (hF6.then hF7)).keep HRow.out (by simp)) (by decide)) (Rs.of_row18 hb7 (by decide)) rfl rfl rfl
  have HF7 : Hid (Fr [] w (w6.alloc (.cells (bts ysS).toArray 5))) := HF2.out.then (HF5.out.then (hF6.then hF7))
  clear hF6 hF7 hb7 HC5
  go_wp2_with fail
  refine Calls.mono HC7.out ?_
  rintro e w8 ⟨rfl, q, rfl⟩
  go_wp2
  go_ret
  exact ⟨rfl, HF7.out.then (Fr.drewN _ _ _)⟩
end Go.Proofs.Ytldghdbfhikcoaa

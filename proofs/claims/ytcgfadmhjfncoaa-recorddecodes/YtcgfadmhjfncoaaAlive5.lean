/- That the statements' own check of some fixed answers (the function alive) is true. No conditions. -/
import Derived.Test.YtcgfadmhjfncoaaDcd
import Derived.Test.YtcgfadmhjfncoaaSa
namespace Go.Proofs.Ytcgfadmhjfncoaa
open Go.ChangeShapes Go.WideShapes Go.ChangeAt Go.RowKit Go.Lib
set_option linter.unusedVariables false

def aw : List Wt := [⟨⟨#[97]⟩, ⟨#[120]⟩, false⟩, ⟨⟨#[98]⟩, ⟨#[]⟩, true⟩]
def ab : List Nat := [1, 2, 1, 97, 0, 1, 120, 1, 98, 1]
theorem aw_ok : okT 1 aw := by
  refine ⟨by decide, by decide, by decide, ?_⟩
  intro x hx
  simp only [aw, List.mem_cons, List.not_mem_nil, or_false] at hx
  rcases hx with rfl | rfl
  · exact ⟨by decide, by decide, by decide, fun h => by simp at h⟩
  · exact ⟨by decide, by decide, by decide, fun _ => rfl⟩
theorem aw_enc : ab = encT (1 : Int).toNat aw := by decide +kernel
theorem none_no : ¬ okT 0 [] := fun h => absurd h.1 (by decide)
theorem ad_err : decT [1, 33] = .error 3 := by rfl
set_option maxHeartbeats 8000000 in
set_option maxRecDepth 100000 in
theorem alive5_any (w : World) : Calls Try.prog 13 #[] w fun e w' => e = .returned (.bool true) ∧ Fr [] w w' := by
  obtain ⟨w0, HW0⟩ : ∃ w0, Hid (w.alloc (.cells #[.string ⟨#[97]⟩, .string ⟨#[120]⟩, .bool false, .string ⟨#[98]⟩, .string ⟨#[]⟩, .bool true] 52) = w0) := ⟨_, rfl⟩
  have hF0 : Fr [] w w0 := by rw [← HW0.out]; exact Fr.alloc [] w _
  have hR0 : WRs w0 (some ⟨w.heap.size, 0, none⟩) aw := by
    refine WRs.of_row (rest := []) (t := 52) (f := (0, 0)) ?_ (by decide) ?_
    · rw [← HW0.out, List.append_nil]; exact heap_alloc_new w _
    · intro x hx
      simp only [aw, List.mem_cons, List.not_mem_nil, or_false] at hx
      rcases hx with rfl | rfl <;> exact ⟨by decide, by decide⟩
  go_enter Try.func13, Try.ntmps13
  go_wp2_with fail
  rw [HW0.out]
  refine (encode_ok 1 (some ⟨w.heap.size, 0, none⟩) 2 2 10 aw ab _ hR0 rfl aw_ok aw_enc rfl).mono ?_
  rintro e w1 ⟨k, rfl, hk, hrow, hF1⟩
  have hG1 := hF0.then hF1
  clear hF0 hF1 hR0
  go_wp2_with fail
  refine (encode_no 0 none 0 0 [] _ (WRs.nil _ _) rfl (by decide) (by decide) none_no).mono ?_
  rintro e w2 ⟨rfl, hF2⟩
  have hG2 := hG1.then hF2
  have hrow2 := hF2.keep hrow (by simp)
  clear hG1 hF2 hrow
  go_wp2_with fail
  have hl : (w2.alloc (Obj.cells #[Value.int IntKind.u8 1, Value.int IntKind.u8 33] 5)).heap[w2.heap.size]? = some (.cells (bts [1, 33]).toArray 5 (0, 0)) := heap_alloc_new w2 _
  have hA : BArg (w2.alloc (Obj.cells #[Value.int IntKind.u8 1, Value.int IntKind.u8 33] 5)) (some ⟨w2.heap.size, 0, none⟩) 2 2 [1, 33] :=
    ⟨rfl, by decide, Nat.le_refl _, by decide, fun _ => ⟨_, 0, rfl, lt_of_block hl, fun j hj => by rw [cell_of_row _ _ _ _ _ _ hl, Nat.zero_add]; simpa using bts_get [1, 33] j hj⟩⟩
  have hF3 : Fr [] w2 (w2.alloc (Obj.cells #[Value.int IntKind.u8 1, Value.int IntKind.u8 33] 5)) := Fr.alloc _ _ _
  refine (decode_err (some ⟨w2.heap.size, 0, none⟩) 2 2 3 [1, 33] _ hA rfl (by decide) ad_err).mono ?_
  clear hl hA
  rintro e w4 ⟨rfl, hF4⟩
  have hG4 := hG2.then (hF3.then hF4)
  have hrow4 := (hF3.then hF4).keep hrow2 (by simp)
  clear hG2 hF3 hF4 hrow2
  go_wp2_with fail
  have hl2 : ((w4.alloc (Obj.cells #[Value.int IntKind.i64 0, Value.slice none 0 0] 27)).alloc (.cells (bts ab).toArray 5)).heap[w4.heap.size + 1]? = some (.cells (bts ab).toArray 5 (0, 0)) := by
    have := heap_alloc_new (w4.alloc (Obj.cells #[Value.int IntKind.i64 0, Value.slice none 0 0] 27)) (.cells (bts ab).toArray 5)
    simpa using this
  have hF5 : Fr [] w4 ((w4.alloc (Obj.cells #[Value.int IntKind.i64 0, Value.slice none 0 0] 27)).alloc (.cells (bts ab).toArray 5)) := (Fr.alloc [] _ _).then (Fr.alloc [] _ _)
  refine (same_any (some ⟨k, 0, none⟩) (some ⟨w4.heap.size + 1, 0, none⟩) 10 10 10 10 ab ab _ (Rs.of_row (hF5.keep hrow4 (by simp)) (by decide)) (Rs.of_row hl2 (by decide)) rfl rfl).mono ?_
  clear hl2 hrow4
  rintro e w6 ⟨rfl, q, rfl⟩
  have hG := hG4.then (hF5.then (Fr.drewN [] _ q))
  have HG : Hid (Fr [] w _) := hG
  clear hG hG4 hF5
  go_wp2
  go_ret
  exact ⟨by simp, HG.out⟩
end Go.Proofs.Ytcgfadmhjfncoaa

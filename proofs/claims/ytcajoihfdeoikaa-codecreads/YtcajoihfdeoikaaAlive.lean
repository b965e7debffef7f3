/- That the statements' own check of some fixed answers (the function alive) is true. No conditions. -/
import Derived.Test.YtcajoihfdeoikaaRea
namespace Go.Proofs.Ytcajoihfdeoikaa
open Go.ChangeShapes Go.WideShapes Go.ChangeAt Go.RowKit Go.Lib
def wn1 : List Nat := [172, 2]
def wn2 : List Nat := [172, 2, 1]
def wn3 : List Nat := [172, 2, 1, 2, 97, 98]
def wn4 : List Nat := [172, 2, 1, 2, 97, 98, 52, 18]
set_option maxHeartbeats 4000000 in
set_option maxRecDepth 100000 in
theorem alive_any (w : World) : Calls Try.prog 18 #[] w fun e w' => e = .returned (.bool true) ∧ Fr [] w w' := by
  go_enter Try.func18, Try.ntmps18
  go_wp2_with fail
  refine (newWriter_wr w w (Fr.refl _ _)).mono ?_
  rintro e w1 ⟨g, rfl, _, h1, _⟩
  go_wp2_with fail
  refine (var_any g _ _ 300 _ h1.wr (by decide) (by decide) (by decide)).mono ?_
  rintro e w2 ⟨rfl, v2, hW2, hF2, hM2⟩
  have h2 : WB w w2 g v2 wn1 := h1.next hW2 hF2 hM2
  clear h1 hW2 hF2 hM2
  go_wp2_with fail
  refine (int_any g _ _ (-1) _ h2.wr (by decide) (by decide) (by decide)).mono ?_
  rintro e w3 ⟨rfl, v3, hW3, hF3, hM3⟩
  have h3 : WB w w3 g v3 wn2 := h2.next hW3 hF3 hM3
  clear h2 hW3 hF3 hM3
  go_wp2_with fail
  refine (text_any g _ _ ⟨#[97, 98]⟩ _ h3.wr (by decide) (by decide)).mono ?_
  rintro e w4 ⟨rfl, v4, hW4, hF4, hM4⟩
  have h4 : WB w w4 g v4 wn3 := h3.next hW4 hF4 hM4
  clear h3 hW4 hF4 hM4
  go_wp2_with fail
  refine (fixed_any g _ _ 4660 2 _ h4.wr (by decide) (by decide) (by decide) (by decide) (by decide) (by decide)).mono ?_
  rintro e w5 ⟨rfl, v5, hW5, hF5, hM5⟩
  have h5 : WB w w5 g v5 wn4 := h4.next hW5 hF5 hM5
  clear h4 hW5 hF5 hM5
  go_wp2_with fail
  refine (fixed_limit g _ _ 256 1 _ h5.wr (by decide) (by decide) (by decide) (by decide) (by decide)).mono ?_
  rintro e w6 ⟨rfl, rfl⟩
  go_wp2_with fail
  have hl : (w5.alloc (Obj.cells #[Value.int IntKind.u8 128, Value.int IntKind.u8 0] 5)).heap[w5.heap.size]? = some (.cells (bts [128, 0]).toArray 5 (0, 0)) := heap_alloc_new w5 _
  refine (newReader_any (some ⟨w5.heap.size, 0, none⟩) 2 2 [128, 0] _ rfl (fun _ => ⟨_, rfl, row_src hl⟩) (by decide) (by decide)).mono ?_
  clear hl
  rintro e w7 ⟨gr, rfl, hgr, hR, hF7⟩
  have hF57 : Fr [] w5 w7 := (Fr.alloc [] w5 _).then hF7
  have h7 : WB w w7 g v5 wn4 := h5.quiet hF57
  have hs5 := h5.fr.size
  have hgr' : w5.heap.size < gr := by simp at hgr; omega
  obtain ⟨r, hr5, hR7⟩ : ∃ r, w5.heap.size ≤ r ∧ Rd w7 gr r [128, 0] 0 (some ⟨r, 0, none⟩) 2 := ⟨_, by simp, hR⟩
  clear hR hF7 h5 hgr
  go_wp2_with fail
  refine (done_some g _ wn4 _ h7.wr (by decide) (by decide)).mono ?_
  rintro e w8 ⟨rfl, hrow, hF8⟩
  have hR8 : Rd w8 gr r [128, 0] 0 (some ⟨r, 0, none⟩) 2 := hR7.keep hF8 (by simp) (by simp)
  have h8 : Fr [] w w8 := h7.fr.then hF8
  clear hR7
  go_wp2_with fail
  have hl2 : (w8.alloc (Obj.cells #[Value.int IntKind.u8 172, Value.int IntKind.u8 2, Value.int IntKind.u8 1, Value.int IntKind.u8 2, Value.int IntKind.u8 97, Value.int IntKind.u8 98, Value.int IntKind.u8 52, Value.int IntKind.u8 18] 5)).heap[w8.heap.size]? = some (.cells (bts wn4).toArray 5 (0, 0)) := heap_alloc_new w8 _
  have hr7 := (Fr.alloc [] w8 (Obj.cells #[Value.int IntKind.u8 172, Value.int IntKind.u8 2, Value.int IntKind.u8 1, Value.int IntKind.u8 2, Value.int IntKind.u8 97, Value.int IntKind.u8 98, Value.int IntKind.u8 52, Value.int IntKind.u8 18] 5)).keep hrow (by simp)
  refine (same_any (some ⟨w7.heap.size, 0, none⟩) (some ⟨w8.heap.size, 0, none⟩) 8 8 8 8 wn4 wn4 _ (Rs.of_row hr7 (by decide)) (Rs.of_row hl2 (by decide)) rfl rfl).mono ?_
  clear hl2 hr7
  rintro e w9 ⟨rfl, q, rfl⟩
  have hF9 := (Fr.alloc [] w8 (Obj.cells #[Value.int IntKind.u8 172, Value.int IntKind.u8 2, Value.int IntKind.u8 1, Value.int IntKind.u8 2, Value.int IntKind.u8 97, Value.int IntKind.u8 98, Value.int IntKind.u8 52, Value.int IntKind.u8 18] 5)).then (Fr.drewN [] _ q)
  have hR9 := hR8.keep hF9 (by simp) (by simp)
  have h9 := h8.then hF9
  clear hR8 h8 hF9 hF8 hrow h7 hF57
  go_wp2_with fail
  refine (rVar_any gr r [128, 0] 0 _ _ _ hR9).mono ?_
  rintro e w10 ⟨rfl, ao10, cap10, hR10, hF10⟩
  have h10 : Fr [] w w10 := h9.on hF10 (by intro x hx; simp at hx; omega)
  have hR10' : Rd w10 gr r [128, 0] 4 ao10 cap10 := hR10
  clear hR10 hF10 h9 hR9
  go_wp2_with fail
  refine (end_any gr r [128, 0] 4 _ _ _ hR10').mono ?_
  rintro e w11 ⟨rfl, rfl⟩
  go_wp2_with fail
  refine (left_any gr r [128, 0] 4 _ _ _ hR10').mono ?_
  rintro e w12 ⟨rfl, rfl⟩
  go_wp2
  go_ret
  exact ⟨rfl, h10⟩
end Go.Proofs.Ytcajoihfdeoikaa

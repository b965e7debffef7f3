/- The statements' helper SameResp. Conditions as each names them. -/
import Derived.Test.YtomajifklajilaaDd15
import Derived.Test.YtomajifklajilaaHg9
namespace Go.Proofs.Ytomajifklajilaa
open Go.ChangeShapes Go.WideShapes Go.ChangeAt Go.RowKit Go.Lib
set_option linter.unusedVariables false
set_option linter.unusedSimpArgs false
set_option maxHeartbeats 4000000 in
set_option maxRecDepth 100000 in
theorem sameResp_any (t : Int) (ok : Bool) (eo eo' ho ho' : Option Addr) (el ec ec' hl hc hc' : Nat) (c : Int) (ps : List Pr) (hs hs' : List Hd) (w : World) (h1 : ERs w eo ps) (h2 : ERs w eo' ps) (h3 : el = ps.length) (h4 : HRs w ho hs) (h5 : HRs w ho' hs') (h6 : hl = hs.length) (h7 : hs.map hkv = hs'.map hkv) :
    Calls Try.prog 14 #[.agg #[.int .i64 t, .bool ok, .slice eo el ec, .slice ho hl hc, .int .i64 c], .agg #[.int .i64 t, .bool ok, .slice eo' el ec', .slice ho' hl hc', .int .i64 c]] w fun e w' => e = .returned (.bool true) ∧ Fr [] w w' := by
  have hF0 : Fr [] w ((w.alloc (.cells #[.int .i64 t, .bool ok, .slice eo el ec, .slice ho hl hc, .int .i64 c] 39)).alloc (.cells #[.int .i64 t, .bool ok, .slice eo' el ec', .slice ho' hl hc', .int .i64 c] 39)) := (Fr.alloc [] w _).then (Fr.alloc [] _ _)
  have HE : Hid (∀ W, Fr [] w W → Calls _ _ _ _ _) := fun W hf => sameEntries_any eo eo' el ec ec' ps W (h1.keep hf) (h2.keep hf) h3
  have HH : Hid (∀ W, Fr [] w W → Calls _ _ _ _ _) := fun W hf => sameHelds_any ho ho' hl hc hc' hs hs' W (h4.keep hf) (h5.keep hf) h6 h7
  have hr1 := (Fr.alloc [] (w.alloc (.cells #[.int .i64 t, .bool ok, .slice eo el ec, .slice ho hl hc, .int .i64 c] 39)) (.cells #[.int .i64 t, .bool ok, .slice eo' el ec', .slice ho' hl hc', .int .i64 c] 39)).keep (heap_alloc_new w (.cells #[.int .i64 t, .bool ok, .slice eo el ec, .slice ho hl hc, .int .i64 c] 39)) (by simp)
  have hr2 := heap_alloc_new (w.alloc (.cells #[.int .i64 t, .bool ok, .slice eo el ec, .slice ho hl hc, .int .i64 c] 39)) (.cells #[.int .i64 t, .bool ok, .slice eo' el ec', .slice ho' hl hc', .int .i64 c] 39)
  obtain ⟨wz, HWz⟩ : ∃ wz, Hid ((w.alloc (.cells #[.int .i64 t, .bool ok, .slice eo el ec, .slice ho hl hc, .int .i64 c] 39)).alloc (.cells #[.int .i64 t, .bool ok, .slice eo' el ec', .slice ho' hl hc', .int .i64 c] 39) = wz) := ⟨_, rfl⟩
  obtain ⟨Z1, HZ1⟩ : ∃ Z, Hid (w.heap.size = Z) := ⟨_, rfl⟩
  obtain ⟨Z2, HZ2⟩ : ∃ Z, Hid (w.heap.size + 1 = Z) := ⟨_, rfl⟩
  rw [show (w.alloc (.cells #[.int .i64 t, .bool ok, .slice eo el ec, .slice ho hl hc, .int .i64 c] 39)).heap.size = w.heap.size + 1 by simp, HWz.out, HZ2.out] at hr2
  rw [HWz.out, HZ1.out] at hr1
  rw [HWz.out] at hF0
  have HF0 : Hid (Fr [] w wz) := hF0
  have HC : Hid (∀ W, Fr [] wz W → (W.cell? ⟨Z1, 3, none⟩ = some (.slice ho hl hc) ∧ W.cell? ⟨Z1, 4, none⟩ = some (.int .i64 c)) ∧ (W.cell? ⟨Z2, 3, none⟩ = some (.slice ho' hl hc') ∧ W.cell? ⟨Z2, 4, none⟩ = some (.int .i64 c))) := fun W hf => by
    have k1 := hf.keep hr1 (by simp)
    have k2 := hf.keep hr2 (by simp)
    exact ⟨⟨by rw [cell_of_row _ _ _ _ _ _ k1]; rfl, by rw [cell_of_row _ _ _ _ _ _ k1]; rfl⟩, by rw [cell_of_row _ _ _ _ _ _ k2]; rfl, by rw [cell_of_row _ _ _ _ _ _ k2]; rfl⟩
  have bo : (ok == ok) = true := by simp
  clear h1 h2 h3 h4 h5 h6 h7 hF0 hr1 hr2
  go_enter Try.func14, Try.ntmps14
  go_wp2_with fail
  rw [HWz.out]
  refine Calls.mono (HE.out _ HF0.out) ?_
  rintro e w1 ⟨rfl, hF1⟩
  obtain ⟨⟨c1, c2⟩, c3, c4⟩ := HC.out _ hF1
  clear HWz
  rw [HZ2.out, HZ1.out]
  go_wp2_with fail
  refine Calls.mono (HH.out _ (HF0.out.then hF1)) ?_
  rintro e w2 ⟨rfl, hF2⟩
  obtain ⟨⟨d1, d2⟩, d3, d4⟩ := HC.out _ (hF1.then hF2)
  clear c1 c2 c3 c4
  go_wp2
  go_ret
  exact ⟨rfl, HF0.out.then (hF1.then hF2)⟩
end Go.Proofs.Ytomajifklajilaa

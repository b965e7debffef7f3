/- What the Book does when it is told one more list (Int). Conditions: fewer than 2^21 lists. -/
import Derived.Test.YtfhfjplhfjlpaaaDoorBq2
namespace Go.Proofs.YtfhfjplhfjlpaaaDoor.Bq
open Go.ChangeShapes Go.WideShapes Go.ChangeAt Go.RowKit Go.Lib
set_option linter.unusedVariables false

theorem Tryd.infoHInt : (Tryd.prog.info? 72).map (fun i => (i.zero, i.size, i.bytes)) = some (some (.agg #[.slice none 0 0, .slice none 0 0, .int .i64 0]), 3, 56) := by kernel_rfl
theorem Tryd.undHInts : Tryd.prog.underlying 37 = some (.slice 72) := by kernel_rfl

set_option maxHeartbeats 4000000 in
set_option maxRecDepth 100000 in
theorem keepInt_any (bk : Nat) (cs : Array Value) (rv : Value) (hs : List HB) (T : Nat) (ao : Option Addr) (L cap : Nat) (w : World) (hb0 : w.heap[bk]? = some (.cells cs 48 (0, 0))) (h12 : cs.size = 12) (hc0 : cs[0]? = some (.int .i64 (T : Int))) (hc1 : cs[2]? = some rv) (hr0 : w.ownsRow 0 72 3 rv hs.length (rowOf hs)) (hfew : hs.length < 2097152) (hT : T < 4194304) :
    Calls Tryd.prog 19 #[.pointer (some ⟨bk, 0, none⟩), .slice ao L cap] w fun e w' => e = .returned (.tuple #[]) ∧ ∃ rv', w'.heap[bk]? = some (.cells ((cs.setIfInBounds 0 (.int .i64 ((T : Int) + 1))).setIfInBounds 2 rv') 48 (0, 0)) ∧ w'.ownsRow 0 72 3 rv' (hs.length + 1) (rowOf (hs ++ [⟨.slice ao L cap, .slice none 0 0, T + 1⟩])) ∧ Fr (bk :: rv.ownBlock.toList) w w' ∧ Moved w.heap.size rv rv' := by
  obtain ⟨i0, hi, hz0, hz1, hz2⟩ := info_parts Tryd.infoHInt
  have c0 : w.cell? ⟨bk, 0, none⟩ = some (.int .i64 (T : Int)) := by rw [cell_of_row _ _ _ _ _ _ hb0, hc0]
  have c1 : w.cell? ⟨bk, 2, none⟩ = some rv := by rw [cell_of_row _ _ _ _ _ _ hb0, hc1]
  have f0 : w.frozen? ⟨bk, 0, none⟩ = false := by simp [World.frozen?, hb0]
  have f1 : w.frozen? ⟨bk, 2, none⟩ = false := by simp [World.frozen?, hb0]
  obtain ⟨N, HN⟩ : ∃ N, Hid (N = hs.length) := ⟨_, rfl⟩
  have hrow := hr0
  rw [← HN.out] at hrow hfew
  have hoth : rv.ownBlock ≠ some bk := by
    intro e
    obtain ⟨cs', hc⟩ := own_type hr0 bk e
    rw [hb0] at hc
    simp at hc
  obtain ⟨rao, rcap, hrv⟩ := own_slice hrow
  subst hrv
  clear hr0
  go_enter Tryd.func19, Tryd.ntmps19
  go_wp2_with fail
  obtain ⟨w1, hw1⟩ : ∃ w1, w1 = w.setCell ⟨bk, 0, none⟩ (.int .i64 ((T : Int) + 1)) := ⟨_, rfl⟩
  rw [← hw1]
  have hF1 : Fr [bk] w w1 := by rw [hw1]; exact Fr.set _ _ _ (by simp)
  have hbox : w1.heap[bk]? = some (.cells (cs.setIfInBounds 0 (.int .i64 ((T : Int) + 1))) 48 (0, 0)) := by rw [hw1, row_setCell _ hb0]
  have hO1 : w1.ownsRow 0 72 3 (.slice rao N rcap) N (rowOf hs) := by rw [hw1]; exact ownsRow_setCell_other hrow hoth _
  have hcs0 : (cs.setIfInBounds 0 (.int .i64 ((T : Int) + 1)))[0]? = some (.int .i64 ((T : Int) + 1)) := by rw [Array.getElem?_setIfInBounds_self]; simp [h12]
  have hcs1 : (cs.setIfInBounds 0 (.int .i64 ((T : Int) + 1)))[2]? = some (.slice rao N rcap) := by rw [Array.getElem?_setIfInBounds_ne (by omega)]; exact hc1
  have d0 : w1.cell? ⟨bk, 0, none⟩ = some (.int .i64 ((T : Int) + 1)) := by rw [cell_of_row _ _ _ _ _ _ hbox, hcs0]
  have d1 : w1.cell? ⟨bk, 2, none⟩ = some (.slice rao N rcap) := by rw [cell_of_row _ _ _ _ _ _ hbox, hcs1]
  have e1 : w1.frozen? ⟨bk, 2, none⟩ = false := by simp [World.frozen?, hbox]
  clear hw1 c0 c1 f0 f1 hrow
  have hFa : Fr [] w1 (w1.alloc (Obj.cells #[.slice ao L cap, .slice none 0 0, .int .i64 ((T : Int) + 1)] 72)).drew := (Fr.alloc [] w1 _).then (Fr.drew [] _)
  have HOa : Hid ((w1.alloc (Obj.cells #[.slice ao L cap, .slice none 0 0, .int .i64 ((T : Int) + 1)] 72)).drew.ownsRow 0 72 3 (.slice rao N rcap) N (rowOf hs)) := owns_keep hO1 hFa (by simp)
  have HNw : Hid (∀ (j : Nat) u, [Value.slice ao L cap, .slice none 0 0, .int .i64 ((T : Int) + 1)][j]? = some u → (w1.alloc (Obj.cells #[.slice ao L cap, .slice none 0 0, .int .i64 ((T : Int) + 1)] 72)).drew.cell? ((⟨w1.heap.size, 0, none⟩ : Addr).add j) = some u) := by
    intro j u hj
    have hn : (w1.alloc (Obj.cells #[.slice ao L cap, .slice none 0 0, .int .i64 ((T : Int) + 1)] 72)).drew.heap[w1.heap.size]? = some (Obj.cells #[.slice ao L cap, .slice none 0 0, .int .i64 ((T : Int) + 1)] 72) := heap_alloc_new w1 _
    rw [show (⟨w1.heap.size, 0, none⟩ : Addr).add j = ⟨w1.heap.size, j, none⟩ from by simp [Addr.add]; omega, cell_of_row _ _ _ _ _ _ hn]
    simpa using hj
  have hboxa := (Fr.alloc [] w1 (Obj.cells #[.slice ao L cap, .slice none 0 0, .int .i64 ((T : Int) + 1)] 72)).keep hbox (by simp)
  have d0a : (w1.alloc (Obj.cells #[.slice ao L cap, .slice none 0 0, .int .i64 ((T : Int) + 1)] 72)).cell? ⟨bk, 0, none⟩ = some (.int .i64 ((T : Int) + 1)) := by rw [cell_of_row _ _ _ _ _ _ hboxa, hcs0]
  have d1a : (w1.alloc (Obj.cells #[.slice ao L cap, .slice none 0 0, .int .i64 ((T : Int) + 1)] 72)).cell? ⟨bk, 2, none⟩ = some (.slice rao N rcap) := by rw [cell_of_row _ _ _ _ _ _ hboxa, hcs1]
  clear hboxa
  have HOne : Hid (∀ u ∈ [Value.slice ao L cap, .slice none 0 0, .int .i64 ((T : Int) + 1)], u.oneCell' = true) := by
    intro u hu
    simp at hu
    rcases hu with rfl | rfl | rfl <;> rfl
  have HK : Hid (∀ (g cap' : Nat) (w' : World), w'.ownsRow 0 72 3 (.slice (some ⟨g, 0, none⟩) (N + 1) cap') (N + 1) (rowOf hs ++ [Value.slice ao L cap, .slice none 0 0, .int .i64 ((T : Int) + 1)]) → Went (w1.alloc (Obj.cells #[.slice ao L cap, .slice none 0 0, .int .i64 ((T : Int) + 1)] 72)).drew (.slice rao N rcap) g w' →
      w'.cell? ⟨bk, 2, none⟩ = some (.slice rao N rcap) ∧ w'.frozen? ⟨bk, 2, none⟩ = false ∧ Hid ((w'.setCell ⟨bk, 2, none⟩ (.slice (some ⟨g, 0, none⟩) (N + 1) cap')).heap[bk]? = some (.cells ((cs.setIfInBounds 0 (.int .i64 ((T : Int) + 1))).setIfInBounds 2 (.slice (some ⟨g, 0, none⟩) (N + 1) cap')) 48 (0, 0)) ∧ (w'.setCell ⟨bk, 2, none⟩ (.slice (some ⟨g, 0, none⟩) (N + 1) cap')).ownsRow 0 72 3 (.slice (some ⟨g, 0, none⟩) (N + 1) cap') (hs.length + 1) (rowOf (hs ++ [⟨.slice ao L cap, .slice none 0 0, T + 1⟩])) ∧ Fr (bk :: (Value.slice rao N rcap).ownBlock.toList) w (w'.setCell ⟨bk, 2, none⟩ (.slice (some ⟨g, 0, none⟩) (N + 1) cap')) ∧ Moved w.heap.size (.slice rao N rcap) (.slice (some ⟨g, 0, none⟩) (N + 1) cap'))) := by
    intro g cap' w' hO hW
    have hFw := hW.fr
    have hF1w : Fr (Value.slice rao N rcap).ownBlock.toList w1 w' := hFa.trans hFw (by simp) (fun x hx _ => hx)
    have hbox' := hF1w.keep hbox (by simpa using hoth)
    refine ⟨by rw [cell_of_row _ _ _ _ _ _ hbox', hcs1], by simp [World.frozen?, hbox'], ?_, ?_, ?_, ?_⟩
    · rw [row_setCell _ hbox']
    · have hne : (Value.slice (some ⟨g, 0, none⟩) (N + 1) cap').ownBlock ≠ some bk := by
        intro e
        obtain ⟨cs', hc⟩ := own_type hO bk e
        rw [hbox'] at hc
        simp at hc
      have e : HB.cells ⟨.slice ao L cap, .slice none 0 0, T + 1⟩ = [.slice ao L cap, .slice none 0 0, .int .i64 ((T : Int) + 1)] := by simp [HB.cells]
      rw [rowOf_snoc, e, ← HN.out]
      exact ownsRow_setCell_other hO hne _
    · refine (hF1.trans (hF1w.trans (U := bk :: (Value.slice rao N rcap).ownBlock.toList) (Fr.set (S := [bk]) w' ⟨bk, 2, none⟩ _ (by simp)) ?_ ?_) ?_ (fun x hx _ => hx))
      · intro x hx _; exact List.mem_cons_of_mem _ hx
      · intro x hx _; simp at hx; simp [hx]
      · intro x hx _; simp at hx; simp [hx]
    · have hs1 := hF1.size
      have hs2 := hFa.size
      exact (Moved.refl w.heap.size _).trans hW.moved (by omega)
  clear hcs0 hcs1
  go_region_law (refine step_app _ rfl (.tmp 15) (.tmp 22) 37 rfl 72 i0 _ 3 56 Tryd.undHInts hi hz0 hz1 hz2 rfl (by omega) (.slice rao N rcap) N (rowOf hs) (by simp [Act.eval]) HOa.out ⟨w1.heap.size, 0, none⟩ 1 [.slice ao L cap, .slice none 0 0, .int .i64 ((T : Int) + 1)] (by simp [Act.eval]) rfl HNw.out HOne.out (by omega) (by simp only [maxLen]; omega) ?_; intro g cap' w' hO2 hW2; obtain ⟨q1, q2, q3⟩ := HK.out g cap' w' hO2 hW2)
  all_goals (go_wp2_with fail; go_end0; exact ⟨rfl, _, q3.out⟩)
end Go.Proofs.YtfhfjplhfjlpaaaDoor.Bq

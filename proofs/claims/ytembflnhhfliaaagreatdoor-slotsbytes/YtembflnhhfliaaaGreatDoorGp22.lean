/- Contracts and plain lemmas of this claim. -/
import Derived.Test.YtembflnhhfliaaaGreatDoorGp21
import Derived.Test.YtembflnhhfliaaaGreatDoorGp20
set_option linter.unusedVariables false
set_option maxHeartbeats 4000000
set_option maxRecDepth 100000
namespace Go.Proofs.YtembflnhhfliaaaGreatDoor.Bq
open Go.ChangeShapes Go.WideShapes Go.ChangeAt Go.RowKit Go.Lib
section
variable {K J : Kd} {S : List Nat} {w w' : World} {bk : Nat} {rv rv' : Value} {hs : List HB} {cs' : Array Value}
theorem S0.beside (h : S0 J w bk rv hs) (hb : w'.heap[bk]? = some (.cells cs' 52 (0, 0))) (hc : cs'[J.col]? = some rv) (hf : Fr (bk :: S) w w') (ho : Off J S w) : S0 J w' bk rv hs := by
  obtain ⟨cs, h1, _⟩ := h.bl.box
  have hE : ∀ k cs, w.heap[k]? = some (.cells cs J.tE (0, 0)) -> k ∉ bk :: S := by
    intro k cs hk hm
    rcases List.mem_cons.1 hm with rfl | hm
    · rw [h1] at hk
      simp only [Option.some.injEq, Obj.cells.injEq] at hk
      exact J.eB hk.2.1.symm
    · exact ho.notE hk hm
  have hH : ∀ k cs, w.heap[k]? = some (.cells cs J.tH (0, 0)) -> k ∉ bk :: S := by
    intro k cs hk hm
    rcases List.mem_cons.1 hm with rfl | hm
    · rw [h1] at hk
      simp only [Option.some.injEq, Obj.cells.injEq] at hk
      exact J.hB hk.2.1.symm
    · exact ho.notH hk hm
  refine ⟨⟨⟨cs', hb, hc⟩, zab h.bl.row hf (fun k hk => by obtain ⟨c, hc⟩ := zaf h.bl.row k hk; exact hH k c hc), h.bl.few, h.bl.num⟩, fun j b hb => (h.each j b hb).keep hf (fun k hk => by obtain ⟨c, hc⟩ := (h.each j b hb).type k hk; exact hE k c hc), h.alone, h.fresh⟩
theorem S0.told (h : S0 K w bk rv hs) (l : Value) (n : Nat) (hb : w'.heap[bk]? = some (.cells cs' 52 (0, 0))) (hc : cs'[K.col]? = some rv') (hrow : w'.ownsRow 0 K.tH 3 rv' (hs.length + 1) (zam (hs ++ [⟨l, .slice none 0 0, n⟩]))) (hf : Fr (bk :: rv.ownBlock.toList) w w')
    (hp : P0 K w ⟨l, .slice none 0 0, n⟩) (hn : n < 134217728) (hfew : hs.length + 1 < 67108864) (hal : ∀ k, l.ownBlock = some k -> k ∉ lbs hs) : S0 K w' bk rv' (hs ++ [⟨l, .slice none 0 0, n⟩]) := by
  obtain ⟨cs, h1, _⟩ := h.bl.box
  have hE : ∀ k cs, w.heap[k]? = some (.cells cs K.tE (0, 0)) -> k ∉ bk :: rv.ownBlock.toList := by
    intro k cs hk hm
    obtain ⟨q1, q2⟩ := h.bl.apart hk
    rcases List.mem_cons.1 hm with e | hm
    · exact q1 e
    · exact q2 (by simpa using hm)
  have hget : ∀ (j : Nat) (b : HB), (hs ++ [⟨l, .slice none 0 0, n⟩])[j]? = some b -> hs[j]? = some b \/ (j = hs.length /\ b = ⟨l, .slice none 0 0, n⟩) := by
    intro j b hb
    by_cases hj : j < hs.length
    · rw [List.getElem?_append_left hj] at hb
      exact Or.inl hb
    · rw [List.getElem?_append_right (by omega)] at hb
      by_cases hj2 : j = hs.length
      · subst hj2
        simp at hb
        exact Or.inr ⟨rfl, hb.symm⟩
      · rw [List.getElem?_eq_none (by simp; omega)] at hb
        cases hb
  refine ⟨⟨⟨cs', hb, hc⟩, by simpa using hrow, by simpa using hfew, ?_⟩, ?_, ?_, ?_⟩
  · intro j b hb
    rcases hget j b hb with hb | ⟨_, rfl⟩
    · exact h.bl.num j b hb
    · exact hn
  · intro j b hb
    rcases hget j b hb with hb | ⟨_, rfl⟩
    · exact (h.each j b hb).keep hf (fun k hk => by obtain ⟨c, hc⟩ := (h.each j b hb).type k hk; exact hE k c hc)
    · exact hp.keep hf (fun k hk => by obtain ⟨c, hc⟩ := hp.type k hk; exact hE k c hc)
  · intro i j a b ha hb hij k hk hkb
    rcases hget i a ha with ha | ⟨hi, rfl⟩
    · rcases hget j b hb with hb | ⟨hj, rfl⟩
      · exact h.alone i j a b ha hb hij k hk hkb
      · exact hal k hkb (mem_lbs.2 ⟨a, List.mem_of_getElem? ha, hk⟩)
    · rcases hget j b hb with hb | ⟨hj, rfl⟩
      · exact hal k hk (mem_lbs.2 ⟨b, List.mem_of_getElem? hb, hkb⟩)
      · omega
  · intro j b hb
    rcases hget j b hb with hb | ⟨_, rfl⟩
    · exact h.fresh j b hb
    · rfl
end
structure B4 (w0 w : World) (bk T : Nat) (rB rI rW rT : Value) (hB hI hW hT : List HB) : Prop where
  box : ∃ cs, Bx w bk cs /\ cs[0]? = some (.int .i64 (T : Int))
  sB : S0 kByte w bk rB hB
  sI : S0 kInt w bk rI hI
  sW : S0 kHeld w bk rW hW
  sT : S0 kVersion w bk rT hT
  bn : w0.heap.size <= bk
  rBn : ∀ k, rB.ownBlock = some k -> w0.heap.size <= k
  rIn : ∀ k, rI.ownBlock = some k -> w0.heap.size <= k
  rWn : ∀ k, rW.ownBlock = some k -> w0.heap.size <= k
  rTn : ∀ k, rT.ownBlock = some k -> w0.heap.size <= k
  lB : hB.length <= T
  lI : hI.length <= T
  lW : hW.length <= T
  lT : hT.length <= T
theorem zci (hs : List HB) (h : HB) : (hs ++ [h]).length = hs.length + 1 := by simp
theorem Bx.told {w w' : World} {bk : Nat} {cs : Array Value} (h : Bx w bk cs) (T' : Value) (c : Nat) (rv' : Value) (hc : c = 1 \/ c = 2 \/ c = 8 \/ c = 6) (hb : w'.heap[bk]? = some (.cells ((cs.setIfInBounds 0 T').setIfInBounds c rv') 52 (0, 0))) :
    Bx w' bk ((cs.setIfInBounds 0 T').setIfInBounds c rv') /\ ((cs.setIfInBounds 0 T').setIfInBounds c rv')[0]? = some T' /\ ((cs.setIfInBounds 0 T').setIfInBounds c rv')[c]? = some rv' /\ ∀ j, j ≠ 0 -> j ≠ c -> ((cs.setIfInBounds 0 T').setIfInBounds c rv')[j]? = cs[j]? := by
  have h12 := h.size
  have hoth : ∀ j, j ≠ 0 -> j ≠ c -> ((cs.setIfInBounds 0 T').setIfInBounds c rv')[j]? = cs[j]? := by
    intro j h0 h1
    rw [Array.getElem?_setIfInBounds_ne (fun e => h1 e.symm), Array.getElem?_setIfInBounds_ne (fun e => h0 e.symm)]
  refine ⟨⟨hb, by simpa using h12, fun j hj => ?_⟩, ?_, ?_, hoth⟩
  · rw [hoth j (by omega) (by omega)]
    exact h.rest j hj
  · rw [Array.getElem?_setIfInBounds_ne (by omega), Array.getElem?_setIfInBounds_self]
    simp [h12]
  · rw [Array.getElem?_setIfInBounds_self]
    simp [h12]
    omega
theorem Tryz.infoHInt : (Tryz.prog.info? 114).map (fun i => (i.zero, i.size, i.bytes)) = some (some (.agg #[.slice none 0 0, .slice none 0 0, .int .i64 0]), 3, 56) := by kernel_rfl
theorem Tryz.undHInts : Tryz.prog.underlying 41 = some (.slice 114) := by kernel_rfl
theorem zim (bk : Nat) (cs : Array Value) (rv : Value) (hs : List HB) (T : Nat) (ao : Option Addr) (L cap : Nat) (w : World) (hb0 : w.heap[bk]? = some (.cells cs 52 (0, 0))) (h12 : cs.size = 12) (hc0 : cs[0]? = some (.int .i64 (T : Int))) (hc1 : cs[2]? = some rv) (hr0 : w.ownsRow 0 114 3 rv hs.length (zam hs)) (hfew : hs.length < 67108864) (hT : T < 134217728) :
    Calls Tryz.prog 139 #[.pointer (some ⟨bk, 0, none⟩), .slice ao L cap] w fun e w' => e = .returned (.tuple #[]) /\ ∃ rv', w'.heap[bk]? = some (.cells ((cs.setIfInBounds 0 (.int .i64 ((T : Int) + 1))).setIfInBounds 2 rv') 52 (0, 0)) /\ w'.ownsRow 0 114 3 rv' (hs.length + 1) (zam (hs ++ [⟨.slice ao L cap, .slice none 0 0, T + 1⟩])) /\ Fr (bk :: rv.ownBlock.toList) w w' /\ Moved w.heap.size rv rv' := by
  obtain ⟨i0, hi, hz0, hz1, hz2⟩ := info_parts Tryz.infoHInt
  have c0 : w.cell? ⟨bk, 0, none⟩ = some (.int .i64 (T : Int)) := by rw [cell_of_row _ _ _ _ _ _ hb0, hc0]
  have c1 : w.cell? ⟨bk, 2, none⟩ = some rv := by rw [cell_of_row _ _ _ _ _ _ hb0, hc1]
  have f0 : w.frozen? ⟨bk, 0, none⟩ = false := by simp [World.frozen?, hb0]
  have f1 : w.frozen? ⟨bk, 2, none⟩ = false := by simp [World.frozen?, hb0]
  obtain ⟨N, HN⟩ : ∃ N, Hid (N = hs.length) := ⟨_, rfl⟩
  have hrow := hr0
  rw [<- HN.out] at hrow hfew
  have hoth : rv.ownBlock ≠ some bk := by
    intro e
    obtain ⟨cs', hc⟩ := zaf hr0 bk e
    rw [hb0] at hc
    simp at hc
  obtain ⟨rao, rcap, hrv⟩ := zad hrow
  subst hrv
  clear hr0
  go_enter Tryz.func139, Tryz.ntmps139
  go_wp2_with fail
  obtain ⟨w1, hw1⟩ : ∃ w1, w1 = w.setCell ⟨bk, 0, none⟩ (.int .i64 ((T : Int) + 1)) := ⟨_, rfl⟩
  rw [<- hw1]
  have hF1 : Fr [bk] w w1 := by rw [hw1]; exact Fr.set _ _ _ (by simp)
  have hbox : w1.heap[bk]? = some (.cells (cs.setIfInBounds 0 (.int .i64 ((T : Int) + 1))) 52 (0, 0)) := by rw [hw1, zae _ hb0]
  have hO1 : w1.ownsRow 0 114 3 (.slice rao N rcap) N (zam hs) := by rw [hw1]; exact ownsRow_setCell_other hrow hoth _
  have hcs0 : (cs.setIfInBounds 0 (.int .i64 ((T : Int) + 1)))[0]? = some (.int .i64 ((T : Int) + 1)) := by rw [Array.getElem?_setIfInBounds_self]; simp [h12]
  have hcs1 : (cs.setIfInBounds 0 (.int .i64 ((T : Int) + 1)))[2]? = some (.slice rao N rcap) := by rw [Array.getElem?_setIfInBounds_ne (by omega)]; exact hc1
  have d0 : w1.cell? ⟨bk, 0, none⟩ = some (.int .i64 ((T : Int) + 1)) := by rw [cell_of_row _ _ _ _ _ _ hbox, hcs0]
  have d1 : w1.cell? ⟨bk, 2, none⟩ = some (.slice rao N rcap) := by rw [cell_of_row _ _ _ _ _ _ hbox, hcs1]
  have e1 : w1.frozen? ⟨bk, 2, none⟩ = false := by simp [World.frozen?, hbox]
  clear hw1 c0 c1 f0 f1 hrow
  have hFa : Fr [] w1 (w1.alloc (Obj.cells #[.slice ao L cap, .slice none 0 0, .int .i64 ((T : Int) + 1)] 114)).drew := (Fr.alloc [] w1 _).then (Fr.drew [] _)
  have HOa : Hid ((w1.alloc (Obj.cells #[.slice ao L cap, .slice none 0 0, .int .i64 ((T : Int) + 1)] 114)).drew.ownsRow 0 114 3 (.slice rao N rcap) N (zam hs)) := zab hO1 hFa (by simp)
  have HNw : Hid (∀ (j : Nat) u, [Value.slice ao L cap, .slice none 0 0, .int .i64 ((T : Int) + 1)][j]? = some u -> (w1.alloc (Obj.cells #[.slice ao L cap, .slice none 0 0, .int .i64 ((T : Int) + 1)] 114)).drew.cell? ((⟨w1.heap.size, 0, none⟩ : Addr).add j) = some u) := by
    intro j u hj
    have hn : (w1.alloc (Obj.cells #[.slice ao L cap, .slice none 0 0, .int .i64 ((T : Int) + 1)] 114)).drew.heap[w1.heap.size]? = some (Obj.cells #[.slice ao L cap, .slice none 0 0, .int .i64 ((T : Int) + 1)] 114) := heap_alloc_new w1 _
    rw [show (⟨w1.heap.size, 0, none⟩ : Addr).add j = ⟨w1.heap.size, j, none⟩ from by simp [Addr.add]; omega, cell_of_row _ _ _ _ _ _ hn]
    simpa using hj
  have hboxa := (Fr.alloc [] w1 (Obj.cells #[.slice ao L cap, .slice none 0 0, .int .i64 ((T : Int) + 1)] 114)).keep hbox (by simp)
  have d0a : (w1.alloc (Obj.cells #[.slice ao L cap, .slice none 0 0, .int .i64 ((T : Int) + 1)] 114)).cell? ⟨bk, 0, none⟩ = some (.int .i64 ((T : Int) + 1)) := by rw [cell_of_row _ _ _ _ _ _ hboxa, hcs0]
  have d1a : (w1.alloc (Obj.cells #[.slice ao L cap, .slice none 0 0, .int .i64 ((T : Int) + 1)] 114)).cell? ⟨bk, 2, none⟩ = some (.slice rao N rcap) := by rw [cell_of_row _ _ _ _ _ _ hboxa, hcs1]
  clear hboxa
  have HOne : Hid (∀ u ∈ [Value.slice ao L cap, .slice none 0 0, .int .i64 ((T : Int) + 1)], u.oneCell' = true) := by
    intro u hu
    simp at hu
    rcases hu with rfl | rfl | rfl <;> rfl
  have HK : Hid (∀ (g cap' : Nat) (w' : World), w'.ownsRow 0 114 3 (.slice (some ⟨g, 0, none⟩) (N + 1) cap') (N + 1) (zam hs ++ [Value.slice ao L cap, .slice none 0 0, .int .i64 ((T : Int) + 1)]) -> Went (w1.alloc (Obj.cells #[.slice ao L cap, .slice none 0 0, .int .i64 ((T : Int) + 1)] 114)).drew (.slice rao N rcap) g w' ->
      w'.cell? ⟨bk, 2, none⟩ = some (.slice rao N rcap) /\ w'.frozen? ⟨bk, 2, none⟩ = false /\ Hid ((w'.setCell ⟨bk, 2, none⟩ (.slice (some ⟨g, 0, none⟩) (N + 1) cap')).heap[bk]? = some (.cells ((cs.setIfInBounds 0 (.int .i64 ((T : Int) + 1))).setIfInBounds 2 (.slice (some ⟨g, 0, none⟩) (N + 1) cap')) 52 (0, 0)) /\ (w'.setCell ⟨bk, 2, none⟩ (.slice (some ⟨g, 0, none⟩) (N + 1) cap')).ownsRow 0 114 3 (.slice (some ⟨g, 0, none⟩) (N + 1) cap') (hs.length + 1) (zam (hs ++ [⟨.slice ao L cap, .slice none 0 0, T + 1⟩])) /\ Fr (bk :: (Value.slice rao N rcap).ownBlock.toList) w (w'.setCell ⟨bk, 2, none⟩ (.slice (some ⟨g, 0, none⟩) (N + 1) cap')) /\ Moved w.heap.size (.slice rao N rcap) (.slice (some ⟨g, 0, none⟩) (N + 1) cap'))) := by
    intro g cap' w' hO hW
    have hFw := hW.fr
    have hF1w : Fr (Value.slice rao N rcap).ownBlock.toList w1 w' := hFa.trans hFw (by simp) (fun x hx _ => hx)
    have hbox' := hF1w.keep hbox (by simpa using hoth)
    refine ⟨by rw [cell_of_row _ _ _ _ _ _ hbox', hcs1], by simp [World.frozen?, hbox'], ?_, ?_, ?_, ?_⟩
    · rw [zae _ hbox']
    · have hne : (Value.slice (some ⟨g, 0, none⟩) (N + 1) cap').ownBlock ≠ some bk := by
        intro e
        obtain ⟨cs', hc⟩ := zaf hO bk e
        rw [hbox'] at hc
        simp at hc
      have e : HB.cells ⟨.slice ao L cap, .slice none 0 0, T + 1⟩ = [.slice ao L cap, .slice none 0 0, .int .i64 ((T : Int) + 1)] := by simp [HB.cells]
      rw [zgt, e, <- HN.out]
      exact ownsRow_setCell_other hO hne _
    · refine (hF1.trans (hF1w.trans (U := bk :: (Value.slice rao N rcap).ownBlock.toList) (Fr.set (S := [bk]) w' ⟨bk, 2, none⟩ _ (by simp)) ?_ ?_) ?_ (fun x hx _ => hx))
      · intro x hx _; exact List.mem_cons_of_mem _ hx
      · intro x hx _; simp at hx; simp [hx]
      · intro x hx _; simp at hx; simp [hx]
    · have hs1 := hF1.size
      have hs2 := hFa.size
      exact (Moved.refl w.heap.size _).trans hW.moved (by omega)
  clear hcs0 hcs1
  go_region_law (refine zgr _ rfl (.tmp 15) (.tmp 22) 41 rfl 114 i0 _ 3 56 Tryz.undHInts hi hz0 hz1 hz2 rfl (by omega) (.slice rao N rcap) N (zam hs) (by simp [Act.eval]) HOa.out ⟨w1.heap.size, 0, none⟩ 1 [.slice ao L cap, .slice none 0 0, .int .i64 ((T : Int) + 1)] (by simp [Act.eval]) rfl HNw.out HOne.out (by omega) (by simp only [maxLen]; omega) ?_; intro g cap' w' hO2 hW2; obtain ⟨q1, q2, q3⟩ := HK.out g cap' w' hO2 hW2)
  all_goals (go_wp2_with fail; go_end0; exact ⟨rfl, _, q3.out⟩)
theorem Tryz.infoHHeld : (Tryz.prog.info? 145).map (fun i => (i.zero, i.size, i.bytes)) = some (some (.agg #[.slice none 0 0, .slice none 0 0, .int .i64 0]), 3, 56) := by kernel_rfl
theorem Tryz.undHHelds : Tryz.prog.underlying 47 = some (.slice 145) := by kernel_rfl
theorem zhj (bk : Nat) (cs : Array Value) (rv : Value) (hs : List HB) (T : Nat) (ao : Option Addr) (L cap : Nat) (w : World) (hb0 : w.heap[bk]? = some (.cells cs 52 (0, 0))) (h12 : cs.size = 12) (hc0 : cs[0]? = some (.int .i64 (T : Int))) (hc1 : cs[8]? = some rv) (hr0 : w.ownsRow 0 145 3 rv hs.length (zam hs)) (hfew : hs.length < 67108864) (hT : T < 134217728) :
    Calls Tryz.prog 141 #[.pointer (some ⟨bk, 0, none⟩), .slice ao L cap] w fun e w' => e = .returned (.tuple #[]) /\ ∃ rv', w'.heap[bk]? = some (.cells ((cs.setIfInBounds 0 (.int .i64 ((T : Int) + 1))).setIfInBounds 8 rv') 52 (0, 0)) /\ w'.ownsRow 0 145 3 rv' (hs.length + 1) (zam (hs ++ [⟨.slice ao L cap, .slice none 0 0, T + 1⟩])) /\ Fr (bk :: rv.ownBlock.toList) w w' /\ Moved w.heap.size rv rv' := by
  obtain ⟨i0, hi, hz0, hz1, hz2⟩ := info_parts Tryz.infoHHeld
  have c0 : w.cell? ⟨bk, 0, none⟩ = some (.int .i64 (T : Int)) := by rw [cell_of_row _ _ _ _ _ _ hb0, hc0]
  have c1 : w.cell? ⟨bk, 8, none⟩ = some rv := by rw [cell_of_row _ _ _ _ _ _ hb0, hc1]
  have f0 : w.frozen? ⟨bk, 0, none⟩ = false := by simp [World.frozen?, hb0]
  have f1 : w.frozen? ⟨bk, 8, none⟩ = false := by simp [World.frozen?, hb0]
  obtain ⟨N, HN⟩ : ∃ N, Hid (N = hs.length) := ⟨_, rfl⟩
  have hrow := hr0
  rw [<- HN.out] at hrow hfew
  have hoth : rv.ownBlock ≠ some bk := by
    intro e
    obtain ⟨cs', hc⟩ := zaf hr0 bk e
    rw [hb0] at hc
    simp at hc
  obtain ⟨rao, rcap, hrv⟩ := zad hrow
  subst hrv
  clear hr0
  go_enter Tryz.func141, Tryz.ntmps141
  go_wp2_with fail
  obtain ⟨w1, hw1⟩ : ∃ w1, w1 = w.setCell ⟨bk, 0, none⟩ (.int .i64 ((T : Int) + 1)) := ⟨_, rfl⟩
  rw [<- hw1]
  have hF1 : Fr [bk] w w1 := by rw [hw1]; exact Fr.set _ _ _ (by simp)
  have hbox : w1.heap[bk]? = some (.cells (cs.setIfInBounds 0 (.int .i64 ((T : Int) + 1))) 52 (0, 0)) := by rw [hw1, zae _ hb0]
  have hO1 : w1.ownsRow 0 145 3 (.slice rao N rcap) N (zam hs) := by rw [hw1]; exact ownsRow_setCell_other hrow hoth _
  have hcs0 : (cs.setIfInBounds 0 (.int .i64 ((T : Int) + 1)))[0]? = some (.int .i64 ((T : Int) + 1)) := by rw [Array.getElem?_setIfInBounds_self]; simp [h12]
  have hcs1 : (cs.setIfInBounds 0 (.int .i64 ((T : Int) + 1)))[8]? = some (.slice rao N rcap) := by rw [Array.getElem?_setIfInBounds_ne (by omega)]; exact hc1
  have d0 : w1.cell? ⟨bk, 0, none⟩ = some (.int .i64 ((T : Int) + 1)) := by rw [cell_of_row _ _ _ _ _ _ hbox, hcs0]
  have d1 : w1.cell? ⟨bk, 8, none⟩ = some (.slice rao N rcap) := by rw [cell_of_row _ _ _ _ _ _ hbox, hcs1]
  have e1 : w1.frozen? ⟨bk, 8, none⟩ = false := by simp [World.frozen?, hbox]
  clear hw1 c0 c1 f0 f1 hrow
  have hFa : Fr [] w1 (w1.alloc (Obj.cells #[.slice ao L cap, .slice none 0 0, .int .i64 ((T : Int) + 1)] 145)).drew := (Fr.alloc [] w1 _).then (Fr.drew [] _)
  have HOa : Hid ((w1.alloc (Obj.cells #[.slice ao L cap, .slice none 0 0, .int .i64 ((T : Int) + 1)] 145)).drew.ownsRow 0 145 3 (.slice rao N rcap) N (zam hs)) := zab hO1 hFa (by simp)
  have HNw : Hid (∀ (j : Nat) u, [Value.slice ao L cap, .slice none 0 0, .int .i64 ((T : Int) + 1)][j]? = some u -> (w1.alloc (Obj.cells #[.slice ao L cap, .slice none 0 0, .int .i64 ((T : Int) + 1)] 145)).drew.cell? ((⟨w1.heap.size, 0, none⟩ : Addr).add j) = some u) := by
    intro j u hj
    have hn : (w1.alloc (Obj.cells #[.slice ao L cap, .slice none 0 0, .int .i64 ((T : Int) + 1)] 145)).drew.heap[w1.heap.size]? = some (Obj.cells #[.slice ao L cap, .slice none 0 0, .int .i64 ((T : Int) + 1)] 145) := heap_alloc_new w1 _
    rw [show (⟨w1.heap.size, 0, none⟩ : Addr).add j = ⟨w1.heap.size, j, none⟩ from by simp [Addr.add]; omega, cell_of_row _ _ _ _ _ _ hn]
    simpa using hj
  have hboxa := (Fr.alloc [] w1 (Obj.cells #[.slice ao L cap, .slice none 0 0, .int .i64 ((T : Int) + 1)] 145)).keep hbox (by simp)
  have d0a : (w1.alloc (Obj.cells #[.slice ao L cap, .slice none 0 0, .int .i64 ((T : Int) + 1)] 145)).cell? ⟨bk, 0, none⟩ = some (.int .i64 ((T : Int) + 1)) := by rw [cell_of_row _ _ _ _ _ _ hboxa, hcs0]
  have d1a : (w1.alloc (Obj.cells #[.slice ao L cap, .slice none 0 0, .int .i64 ((T : Int) + 1)] 145)).cell? ⟨bk, 8, none⟩ = some (.slice rao N rcap) := by rw [cell_of_row _ _ _ _ _ _ hboxa, hcs1]
  clear hboxa
  have HOne : Hid (∀ u ∈ [Value.slice ao L cap, .slice none 0 0, .int .i64 ((T : Int) + 1)], u.oneCell' = true) := by
    intro u hu
    simp at hu
    rcases hu with rfl | rfl | rfl <;> rfl
  have HK : Hid (∀ (g cap' : Nat) (w' : World), w'.ownsRow 0 145 3 (.slice (some ⟨g, 0, none⟩) (N + 1) cap') (N + 1) (zam hs ++ [Value.slice ao L cap, .slice none 0 0, .int .i64 ((T : Int) + 1)]) -> Went (w1.alloc (Obj.cells #[.slice ao L cap, .slice none 0 0, .int .i64 ((T : Int) + 1)] 145)).drew (.slice rao N rcap) g w' ->
      w'.cell? ⟨bk, 8, none⟩ = some (.slice rao N rcap) /\ w'.frozen? ⟨bk, 8, none⟩ = false /\ Hid ((w'.setCell ⟨bk, 8, none⟩ (.slice (some ⟨g, 0, none⟩) (N + 1) cap')).heap[bk]? = some (.cells ((cs.setIfInBounds 0 (.int .i64 ((T : Int) + 1))).setIfInBounds 8 (.slice (some ⟨g, 0, none⟩) (N + 1) cap')) 52 (0, 0)) /\ (w'.setCell ⟨bk, 8, none⟩ (.slice (some ⟨g, 0, none⟩) (N + 1) cap')).ownsRow 0 145 3 (.slice (some ⟨g, 0, none⟩) (N + 1) cap') (hs.length + 1) (zam (hs ++ [⟨.slice ao L cap, .slice none 0 0, T + 1⟩])) /\ Fr (bk :: (Value.slice rao N rcap).ownBlock.toList) w (w'.setCell ⟨bk, 8, none⟩ (.slice (some ⟨g, 0, none⟩) (N + 1) cap')) /\ Moved w.heap.size (.slice rao N rcap) (.slice (some ⟨g, 0, none⟩) (N + 1) cap'))) := by
    intro g cap' w' hO hW
    have hFw := hW.fr
    have hF1w : Fr (Value.slice rao N rcap).ownBlock.toList w1 w' := hFa.trans hFw (by simp) (fun x hx _ => hx)
    have hbox' := hF1w.keep hbox (by simpa using hoth)
    refine ⟨by rw [cell_of_row _ _ _ _ _ _ hbox', hcs1], by simp [World.frozen?, hbox'], ?_, ?_, ?_, ?_⟩
    · rw [zae _ hbox']
    · have hne : (Value.slice (some ⟨g, 0, none⟩) (N + 1) cap').ownBlock ≠ some bk := by
        intro e
        obtain ⟨cs', hc⟩ := zaf hO bk e
        rw [hbox'] at hc
        simp at hc
      have e : HB.cells ⟨.slice ao L cap, .slice none 0 0, T + 1⟩ = [.slice ao L cap, .slice none 0 0, .int .i64 ((T : Int) + 1)] := by simp [HB.cells]
      rw [zgt, e, <- HN.out]
      exact ownsRow_setCell_other hO hne _
    · refine (hF1.trans (hF1w.trans (U := bk :: (Value.slice rao N rcap).ownBlock.toList) (Fr.set (S := [bk]) w' ⟨bk, 8, none⟩ _ (by simp)) ?_ ?_) ?_ (fun x hx _ => hx))
      · intro x hx _; exact List.mem_cons_of_mem _ hx
      · intro x hx _; simp at hx; simp [hx]
      · intro x hx _; simp at hx; simp [hx]
    · have hs1 := hF1.size
      have hs2 := hFa.size
      exact (Moved.refl w.heap.size _).trans hW.moved (by omega)
  clear hcs0 hcs1
  go_region_law (refine zgr _ rfl (.tmp 15) (.tmp 22) 47 rfl 145 i0 _ 3 56 Tryz.undHHelds hi hz0 hz1 hz2 rfl (by omega) (.slice rao N rcap) N (zam hs) (by simp [Act.eval]) HOa.out ⟨w1.heap.size, 0, none⟩ 1 [.slice ao L cap, .slice none 0 0, .int .i64 ((T : Int) + 1)] (by simp [Act.eval]) rfl HNw.out HOne.out (by omega) (by simp only [maxLen]; omega) ?_; intro g cap' w' hO2 hW2; obtain ⟨q1, q2, q3⟩ := HK.out g cap' w' hO2 hW2)
  all_goals (go_wp2_with fail; go_end0; exact ⟨rfl, _, q3.out⟩)
theorem Tryz.infoHVersion : (Tryz.prog.info? 134).map (fun i => (i.zero, i.size, i.bytes)) = some (some (.agg #[.slice none 0 0, .slice none 0 0, .int .i64 0]), 3, 56) := by kernel_rfl
theorem Tryz.undHVersions : Tryz.prog.underlying 45 = some (.slice 134) := by kernel_rfl
theorem zev (bk : Nat) (cs : Array Value) (rv : Value) (hs : List HB) (T : Nat) (ao : Option Addr) (L cap : Nat) (w : World) (hb0 : w.heap[bk]? = some (.cells cs 52 (0, 0))) (h12 : cs.size = 12) (hc0 : cs[0]? = some (.int .i64 (T : Int))) (hc1 : cs[6]? = some rv) (hr0 : w.ownsRow 0 134 3 rv hs.length (zam hs)) (hfew : hs.length < 67108864) (hT : T < 134217728) :
    Calls Tryz.prog 163 #[.pointer (some ⟨bk, 0, none⟩), .slice ao L cap] w fun e w' => e = .returned (.tuple #[]) /\ ∃ rv', w'.heap[bk]? = some (.cells ((cs.setIfInBounds 0 (.int .i64 ((T : Int) + 1))).setIfInBounds 6 rv') 52 (0, 0)) /\ w'.ownsRow 0 134 3 rv' (hs.length + 1) (zam (hs ++ [⟨.slice ao L cap, .slice none 0 0, T + 1⟩])) /\ Fr (bk :: rv.ownBlock.toList) w w' /\ Moved w.heap.size rv rv' := by
  obtain ⟨i0, hi, hz0, hz1, hz2⟩ := info_parts Tryz.infoHVersion
  have c0 : w.cell? ⟨bk, 0, none⟩ = some (.int .i64 (T : Int)) := by rw [cell_of_row _ _ _ _ _ _ hb0, hc0]
  have c1 : w.cell? ⟨bk, 6, none⟩ = some rv := by rw [cell_of_row _ _ _ _ _ _ hb0, hc1]
  have f0 : w.frozen? ⟨bk, 0, none⟩ = false := by simp [World.frozen?, hb0]
  have f1 : w.frozen? ⟨bk, 6, none⟩ = false := by simp [World.frozen?, hb0]
  obtain ⟨N, HN⟩ : ∃ N, Hid (N = hs.length) := ⟨_, rfl⟩
  have hrow := hr0
  rw [<- HN.out] at hrow hfew
  have hoth : rv.ownBlock ≠ some bk := by
    intro e
    obtain ⟨cs', hc⟩ := zaf hr0 bk e
    rw [hb0] at hc
    simp at hc
  obtain ⟨rao, rcap, hrv⟩ := zad hrow
  subst hrv
  clear hr0
  go_enter Tryz.func163, Tryz.ntmps163
  go_wp2_with fail
  obtain ⟨w1, hw1⟩ : ∃ w1, w1 = w.setCell ⟨bk, 0, none⟩ (.int .i64 ((T : Int) + 1)) := ⟨_, rfl⟩
  rw [<- hw1]
  have hF1 : Fr [bk] w w1 := by rw [hw1]; exact Fr.set _ _ _ (by simp)
  have hbox : w1.heap[bk]? = some (.cells (cs.setIfInBounds 0 (.int .i64 ((T : Int) + 1))) 52 (0, 0)) := by rw [hw1, zae _ hb0]
  have hO1 : w1.ownsRow 0 134 3 (.slice rao N rcap) N (zam hs) := by rw [hw1]; exact ownsRow_setCell_other hrow hoth _
  have hcs0 : (cs.setIfInBounds 0 (.int .i64 ((T : Int) + 1)))[0]? = some (.int .i64 ((T : Int) + 1)) := by rw [Array.getElem?_setIfInBounds_self]; simp [h12]
  have hcs1 : (cs.setIfInBounds 0 (.int .i64 ((T : Int) + 1)))[6]? = some (.slice rao N rcap) := by rw [Array.getElem?_setIfInBounds_ne (by omega)]; exact hc1
  have d0 : w1.cell? ⟨bk, 0, none⟩ = some (.int .i64 ((T : Int) + 1)) := by rw [cell_of_row _ _ _ _ _ _ hbox, hcs0]
  have d1 : w1.cell? ⟨bk, 6, none⟩ = some (.slice rao N rcap) := by rw [cell_of_row _ _ _ _ _ _ hbox, hcs1]
  have e1 : w1.frozen? ⟨bk, 6, none⟩ = false := by simp [World.frozen?, hbox]
  clear hw1 c0 c1 f0 f1 hrow
  have hFa : Fr [] w1 (w1.alloc (Obj.cells #[.slice ao L cap, .slice none 0 0, .int .i64 ((T : Int) + 1)] 134)).drew := (Fr.alloc [] w1 _).then (Fr.drew [] _)
  have HOa : Hid ((w1.alloc (Obj.cells #[.slice ao L cap, .slice none 0 0, .int .i64 ((T : Int) + 1)] 134)).drew.ownsRow 0 134 3 (.slice rao N rcap) N (zam hs)) := zab hO1 hFa (by simp)
  have HNw : Hid (∀ (j : Nat) u, [Value.slice ao L cap, .slice none 0 0, .int .i64 ((T : Int) + 1)][j]? = some u -> (w1.alloc (Obj.cells #[.slice ao L cap, .slice none 0 0, .int .i64 ((T : Int) + 1)] 134)).drew.cell? ((⟨w1.heap.size, 0, none⟩ : Addr).add j) = some u) := by
    intro j u hj
    have hn : (w1.alloc (Obj.cells #[.slice ao L cap, .slice none 0 0, .int .i64 ((T : Int) + 1)] 134)).drew.heap[w1.heap.size]? = some (Obj.cells #[.slice ao L cap, .slice none 0 0, .int .i64 ((T : Int) + 1)] 134) := heap_alloc_new w1 _
    rw [show (⟨w1.heap.size, 0, none⟩ : Addr).add j = ⟨w1.heap.size, j, none⟩ from by simp [Addr.add]; omega, cell_of_row _ _ _ _ _ _ hn]
    simpa using hj
  have hboxa := (Fr.alloc [] w1 (Obj.cells #[.slice ao L cap, .slice none 0 0, .int .i64 ((T : Int) + 1)] 134)).keep hbox (by simp)
  have d0a : (w1.alloc (Obj.cells #[.slice ao L cap, .slice none 0 0, .int .i64 ((T : Int) + 1)] 134)).cell? ⟨bk, 0, none⟩ = some (.int .i64 ((T : Int) + 1)) := by rw [cell_of_row _ _ _ _ _ _ hboxa, hcs0]
  have d1a : (w1.alloc (Obj.cells #[.slice ao L cap, .slice none 0 0, .int .i64 ((T : Int) + 1)] 134)).cell? ⟨bk, 6, none⟩ = some (.slice rao N rcap) := by rw [cell_of_row _ _ _ _ _ _ hboxa, hcs1]
  clear hboxa
  have HOne : Hid (∀ u ∈ [Value.slice ao L cap, .slice none 0 0, .int .i64 ((T : Int) + 1)], u.oneCell' = true) := by
    intro u hu
    simp at hu
    rcases hu with rfl | rfl | rfl <;> rfl
  have HK : Hid (∀ (g cap' : Nat) (w' : World), w'.ownsRow 0 134 3 (.slice (some ⟨g, 0, none⟩) (N + 1) cap') (N + 1) (zam hs ++ [Value.slice ao L cap, .slice none 0 0, .int .i64 ((T : Int) + 1)]) -> Went (w1.alloc (Obj.cells #[.slice ao L cap, .slice none 0 0, .int .i64 ((T : Int) + 1)] 134)).drew (.slice rao N rcap) g w' ->
      w'.cell? ⟨bk, 6, none⟩ = some (.slice rao N rcap) /\ w'.frozen? ⟨bk, 6, none⟩ = false /\ Hid ((w'.setCell ⟨bk, 6, none⟩ (.slice (some ⟨g, 0, none⟩) (N + 1) cap')).heap[bk]? = some (.cells ((cs.setIfInBounds 0 (.int .i64 ((T : Int) + 1))).setIfInBounds 6 (.slice (some ⟨g, 0, none⟩) (N + 1) cap')) 52 (0, 0)) /\ (w'.setCell ⟨bk, 6, none⟩ (.slice (some ⟨g, 0, none⟩) (N + 1) cap')).ownsRow 0 134 3 (.slice (some ⟨g, 0, none⟩) (N + 1) cap') (hs.length + 1) (zam (hs ++ [⟨.slice ao L cap, .slice none 0 0, T + 1⟩])) /\ Fr (bk :: (Value.slice rao N rcap).ownBlock.toList) w (w'.setCell ⟨bk, 6, none⟩ (.slice (some ⟨g, 0, none⟩) (N + 1) cap')) /\ Moved w.heap.size (.slice rao N rcap) (.slice (some ⟨g, 0, none⟩) (N + 1) cap'))) := by
    intro g cap' w' hO hW
    have hFw := hW.fr
    have hF1w : Fr (Value.slice rao N rcap).ownBlock.toList w1 w' := hFa.trans hFw (by simp) (fun x hx _ => hx)
    have hbox' := hF1w.keep hbox (by simpa using hoth)
    refine ⟨by rw [cell_of_row _ _ _ _ _ _ hbox', hcs1], by simp [World.frozen?, hbox'], ?_, ?_, ?_, ?_⟩
    · rw [zae _ hbox']
    · have hne : (Value.slice (some ⟨g, 0, none⟩) (N + 1) cap').ownBlock ≠ some bk := by
        intro e
        obtain ⟨cs', hc⟩ := zaf hO bk e
        rw [hbox'] at hc
        simp at hc
      have e : HB.cells ⟨.slice ao L cap, .slice none 0 0, T + 1⟩ = [.slice ao L cap, .slice none 0 0, .int .i64 ((T : Int) + 1)] := by simp [HB.cells]
      rw [zgt, e, <- HN.out]
      exact ownsRow_setCell_other hO hne _
    · refine (hF1.trans (hF1w.trans (U := bk :: (Value.slice rao N rcap).ownBlock.toList) (Fr.set (S := [bk]) w' ⟨bk, 6, none⟩ _ (by simp)) ?_ ?_) ?_ (fun x hx _ => hx))
      · intro x hx _; exact List.mem_cons_of_mem _ hx
      · intro x hx _; simp at hx; simp [hx]
      · intro x hx _; simp at hx; simp [hx]
    · have hs1 := hF1.size
      have hs2 := hFa.size
      exact (Moved.refl w.heap.size _).trans hW.moved (by omega)
  clear hcs0 hcs1
  go_region_law (refine zgr _ rfl (.tmp 15) (.tmp 22) 45 rfl 134 i0 _ 3 56 Tryz.undHVersions hi hz0 hz1 hz2 rfl (by omega) (.slice rao N rcap) N (zam hs) (by simp [Act.eval]) HOa.out ⟨w1.heap.size, 0, none⟩ 1 [.slice ao L cap, .slice none 0 0, .int .i64 ((T : Int) + 1)] (by simp [Act.eval]) rfl HNw.out HOne.out (by omega) (by simp only [maxLen]; omega) ?_; intro g cap' w' hO2 hW2; obtain ⟨q1, q2, q3⟩ := HK.out g cap' w' hO2 hW2)
  all_goals (go_wp2_with fail; go_end0; exact ⟨rfl, _, q3.out⟩)
theorem zfl {w0 w : World} {bk T : Nat} {rB rI rW rT : Value} {hB hI hW hT : List HB} (h : B4 w0 w bk T rB rI rW rT hB hI hW hT) (ao : Option Addr) (L cap : Nat) (hp : P0 kInt w ⟨.slice ao L cap, .slice none 0 0, T + 1⟩) (hal : ∀ k, (Value.slice ao L cap).ownBlock = some k -> k ∉ lbs hI) (hT2 : T < 67108862) :
    Calls Tryz.prog 139 #[.pointer (some ⟨bk, 0, none⟩), .slice ao L cap] w fun e w' => e = .returned (.tuple #[]) /\ ∃ rv', B4 w0 w' bk (T + 1) rB rv' rW rT hB (hI ++ [⟨.slice ao L cap, .slice none 0 0, T + 1⟩]) hW hT /\ Fr (bk :: rI.ownBlock.toList) w w' /\ Moved w.heap.size rI rv' := by
  obtain ⟨cs, hX, hc0⟩ := h.box
  have hbl := h.sI.bl
  obtain ⟨cs1, b1, hc1⟩ := hbl.box
  have e1 := hX.box
  rw [b1] at e1
  simp only [Option.some.injEq, Obj.cells.injEq, and_true] at e1
  subst e1
  have hlen := h.lI
  refine (zim bk cs1 rI hI T ao L cap w b1 hX.size hc0 hc1 hbl.row (by omega) (by omega)).mono ?_
  rintro e w' ⟨rfl, rv', hb', hrow', hF', hM'⟩
  obtain ⟨hX', k0, k1, koth⟩ := hX.told _ 2 rv' (by omega) hb'
  have hbn := h.bn
  refine ⟨rfl, rv', ⟨⟨_, hX', by rw [k0]; simp⟩, ?_, ?_, ?_, ?_, h.bn, ?_, ?_, ?_, ?_, ?_, ?_, ?_, ?_⟩, hF', hM'⟩
  · obtain ⟨cs2, b2, hc2⟩ := h.sB.bl.box
    rw [b1] at b2
    simp only [Option.some.injEq, Obj.cells.injEq, and_true] at b2
    subst b2
    exact h.sB.beside hb' (by rw [koth _ (by decide) (by decide)]; exact hc2) hF' (zau zct hbl)
  · exact h.sI.told (.slice ao L cap) (T + 1) hb' k1 hrow' hF' hp (by omega) (by omega) hal
  · obtain ⟨cs2, b2, hc2⟩ := h.sW.bl.box
    rw [b1] at b2
    simp only [Option.some.injEq, Obj.cells.injEq, and_true] at b2
    subst b2
    exact h.sW.beside hb' (by rw [koth _ (by decide) (by decide)]; exact hc2) hF' (zau zdw hbl)
  · obtain ⟨cs2, b2, hc2⟩ := h.sT.bl.box
    rw [b1] at b2
    simp only [Option.some.injEq, Obj.cells.injEq, and_true] at b2
    subst b2
    exact h.sT.beside hb' (by rw [koth _ (by decide) (by decide)]; exact hc2) hF' (zau zdx hbl)
  · exact h.rBn
  · exact hM'.lt (by have := hX.box; have := lt_of_block this; omega) h.rIn
  · exact h.rWn
  · exact h.rTn
  · have := h.lB; omega
  · rw [zci]; omega
  · have := h.lW; omega
  · have := h.lT; omega
theorem zeq {w0 w : World} {bk T : Nat} {rB rI rW rT : Value} {hB hI hW hT : List HB} (h : B4 w0 w bk T rB rI rW rT hB hI hW hT) (ao : Option Addr) (L cap : Nat) (hp : P0 kHeld w ⟨.slice ao L cap, .slice none 0 0, T + 1⟩) (hal : ∀ k, (Value.slice ao L cap).ownBlock = some k -> k ∉ lbs hW) (hT2 : T < 67108862) :
    Calls Tryz.prog 141 #[.pointer (some ⟨bk, 0, none⟩), .slice ao L cap] w fun e w' => e = .returned (.tuple #[]) /\ ∃ rv', B4 w0 w' bk (T + 1) rB rI rv' rT hB hI (hW ++ [⟨.slice ao L cap, .slice none 0 0, T + 1⟩]) hT /\ Fr (bk :: rW.ownBlock.toList) w w' /\ Moved w.heap.size rW rv' := by
  obtain ⟨cs, hX, hc0⟩ := h.box
  have hbl := h.sW.bl
  obtain ⟨cs1, b1, hc1⟩ := hbl.box
  have e1 := hX.box
  rw [b1] at e1
  simp only [Option.some.injEq, Obj.cells.injEq, and_true] at e1
  subst e1
  have hlen := h.lW
  refine (zhj bk cs1 rW hW T ao L cap w b1 hX.size hc0 hc1 hbl.row (by omega) (by omega)).mono ?_
  rintro e w' ⟨rfl, rv', hb', hrow', hF', hM'⟩
  obtain ⟨hX', k0, k1, koth⟩ := hX.told _ 8 rv' (by omega) hb'
  have hbn := h.bn
  refine ⟨rfl, rv', ⟨⟨_, hX', by rw [k0]; simp⟩, ?_, ?_, ?_, ?_, h.bn, ?_, ?_, ?_, ?_, ?_, ?_, ?_, ?_⟩, hF', hM'⟩
  · obtain ⟨cs2, b2, hc2⟩ := h.sB.bl.box
    rw [b1] at b2
    simp only [Option.some.injEq, Obj.cells.injEq, and_true] at b2
    subst b2
    exact h.sB.beside hb' (by rw [koth _ (by decide) (by decide)]; exact hc2) hF' (zau zcu hbl)
  · obtain ⟨cs2, b2, hc2⟩ := h.sI.bl.box
    rw [b1] at b2
    simp only [Option.some.injEq, Obj.cells.injEq, and_true] at b2
    subst b2
    exact h.sI.beside hb' (by rw [koth _ (by decide) (by decide)]; exact hc2) hF' (zau zfu hbl)
  · exact h.sW.told (.slice ao L cap) (T + 1) hb' k1 hrow' hF' hp (by omega) (by omega) hal
  · obtain ⟨cs2, b2, hc2⟩ := h.sT.bl.box
    rw [b1] at b2
    simp only [Option.some.injEq, Obj.cells.injEq, and_true] at b2
    subst b2
    exact h.sT.beside hb' (by rw [koth _ (by decide) (by decide)]; exact hc2) hF' (zau zfx hbl)
  · exact h.rBn
  · exact h.rIn
  · exact hM'.lt (by have := hX.box; have := lt_of_block this; omega) h.rWn
  · exact h.rTn
  · have := h.lB; omega
  · have := h.lI; omega
  · rw [zci]; omega
  · have := h.lT; omega
theorem zdj {w0 w : World} {bk T : Nat} {rB rI rW rT : Value} {hB hI hW hT : List HB} (h : B4 w0 w bk T rB rI rW rT hB hI hW hT) (ao : Option Addr) (L cap : Nat) (hp : P0 kVersion w ⟨.slice ao L cap, .slice none 0 0, T + 1⟩) (hal : ∀ k, (Value.slice ao L cap).ownBlock = some k -> k ∉ lbs hT) (hT2 : T < 67108862) :
    Calls Tryz.prog 163 #[.pointer (some ⟨bk, 0, none⟩), .slice ao L cap] w fun e w' => e = .returned (.tuple #[]) /\ ∃ rv', B4 w0 w' bk (T + 1) rB rI rW rv' hB hI hW (hT ++ [⟨.slice ao L cap, .slice none 0 0, T + 1⟩]) /\ Fr (bk :: rT.ownBlock.toList) w w' /\ Moved w.heap.size rT rv' := by
  obtain ⟨cs, hX, hc0⟩ := h.box
  have hbl := h.sT.bl
  obtain ⟨cs1, b1, hc1⟩ := hbl.box
  have e1 := hX.box
  rw [b1] at e1
  simp only [Option.some.injEq, Obj.cells.injEq, and_true] at e1
  subst e1
  have hlen := h.lT
  refine (zev bk cs1 rT hT T ao L cap w b1 hX.size hc0 hc1 hbl.row (by omega) (by omega)).mono ?_
  rintro e w' ⟨rfl, rv', hb', hrow', hF', hM'⟩
  obtain ⟨hX', k0, k1, koth⟩ := hX.told _ 6 rv' (by omega) hb'
  have hbn := h.bn
  refine ⟨rfl, rv', ⟨⟨_, hX', by rw [k0]; simp⟩, ?_, ?_, ?_, ?_, h.bn, ?_, ?_, ?_, ?_, ?_, ?_, ?_, ?_⟩, hF', hM'⟩
  · obtain ⟨cs2, b2, hc2⟩ := h.sB.bl.box
    rw [b1] at b2
    simp only [Option.some.injEq, Obj.cells.injEq, and_true] at b2
    subst b2
    exact h.sB.beside hb' (by rw [koth _ (by decide) (by decide)]; exact hc2) hF' (zau zcv hbl)
  · obtain ⟨cs2, b2, hc2⟩ := h.sI.bl.box
    rw [b1] at b2
    simp only [Option.some.injEq, Obj.cells.injEq, and_true] at b2
    subst b2
    exact h.sI.beside hb' (by rw [koth _ (by decide) (by decide)]; exact hc2) hF' (zau zfv hbl)
  · obtain ⟨cs2, b2, hc2⟩ := h.sW.bl.box
    rw [b1] at b2
    simp only [Option.some.injEq, Obj.cells.injEq, and_true] at b2
    subst b2
    exact h.sW.beside hb' (by rw [koth _ (by decide) (by decide)]; exact hc2) hF' (zau zfw hbl)
  · exact h.sT.told (.slice ao L cap) (T + 1) hb' k1 hrow' hF' hp (by omega) (by omega) hal
  · exact h.rBn
  · exact h.rIn
  · exact h.rWn
  · exact hM'.lt (by have := hX.box; have := lt_of_block this; omega) h.rTn
  · have := h.lB; omega
  · have := h.lI; omega
  · have := h.lW; omega
  · rw [zci]; omega
end Go.Proofs.YtembflnhhfliaaaGreatDoor.Bq

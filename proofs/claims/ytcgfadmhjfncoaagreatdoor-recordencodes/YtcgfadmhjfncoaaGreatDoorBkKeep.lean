/- What the Book's marks are, and what it does when it is told a list of bytes. Conditions: a list in a block of its own; fewer than 2^20 lists. -/
import Derived.Test.YtcgfadmhjfncoaaGreatDoorBkNone
namespace Go.Proofs.YtcgfadmhjfncoaaGreatDoor
open Go.ChangeShapes Go.WideShapes Go.ChangeAt Go.RowKit Go.Lib
set_option linter.unusedVariables false
variable {m : Nat} {wv : Value}

set_option maxHeartbeats 1000000 in
theorem markByte_any (n : Nat) (w : World) (hn : n < 1048577) : Calls Tryz.prog 70 #[.int .i64 (n : Int)] w fun e w' => e = .returned (mkV n) ∧ w = w' := by
  have h1 : (1 + (n : Int) % 255) % 256 = ((1 + n % 255 : Nat) : Int) := by omega
  have HM : Hid (mkV n = .int .u8 ((1 + n % 255 : Nat) : Int)) := rfl
  go_enter Tryz.func70, Tryz.ntmps70
  go_wp2
  go_ret
  rw [HM.out]
  exact ⟨rfl, rfl⟩
set_option maxHeartbeats 1000000 in
theorem isByte_any (n : Nat) (w : World) (hn : n < 1048577) : Calls Tryz.prog 81 #[mkV n, .int .i64 (n : Int)] w fun e w' => e = .returned (.bool true) ∧ w = w' := by
  have h1 : (1 + (n : Int) % 255) % 256 = ((1 + n % 255 : Nat) : Int) := by omega
  have HM : Hid (mkV n = .int .u8 ((1 + n % 255 : Nat) : Int)) := rfl
  rw [HM.out]
  go_enter Tryz.func81, Tryz.ntmps81
  go_wp2
  go_ret
  exact ⟨rfl, rfl⟩

/-- The mark as a number. -/
def mkN (n : Nat) : Nat := 1 + n % 255
theorem mkV_eq (n : Nat) : mkV n = .int .u8 ((mkN n : Nat) : Int) := rfl
theorem markByte_at (n B : Nat) (w : World) (hn : n < 1048577) (hB : mkN n = B) : Calls Tryz.prog 70 #[.int .i64 (n : Int)] w fun e w' => e = .returned (.int .u8 (B : Int)) ∧ w = w' := by
  subst hB
  exact markByte_any n w hn
theorem isByte_at (n B : Nat) (w : World) (hn : n < 1048577) (hB : mkN n = B) : Calls Tryz.prog 81 #[.int .u8 (B : Int), .int .i64 (n : Int)] w fun e w' => e = .returned (.bool true) ∧ w = w' := by
  subst hB
  exact isByte_any n w hn

theorem Tryz.infoHB : (Tryz.prog.info? 79).map (fun i => (i.zero, i.size, i.bytes)) = some (some (.agg #[.slice none 0 0, .slice none 0 0, .int .i64 0]), 3, 56) := by kernel_rfl
theorem Tryz.undHBs : Tryz.prog.underlying 37 = some (.slice 79) := by kernel_rfl

set_option maxHeartbeats 4000000 in
set_option maxRecDepth 100000 in
theorem keepByte_any (bk : Nat) (rv : Value) (hs : List HB) (ao : Option Addr) (L cap : Nat) (w : World) (h : Bk m wv w bk rv hs) (hfew : m + hs.length < 1000000) :
    Calls Tryz.prog 30 #[.pointer (some ⟨bk, 0, none⟩), .slice ao L cap] w fun e w' => e = .returned (.tuple #[]) ∧ ∃ rv', Bk m wv w' bk rv' (hs ++ [⟨.slice ao L cap, .slice none 0 0, m + hs.length + 1⟩]) ∧ Fr (bk :: rv.ownBlock.toList) w w' ∧ Moved w.heap.size rv rv' := by
  obtain ⟨i0, hi, hz0, hz1, hz2⟩ := info_parts Tryz.infoHB
  have c0 := h.c0
  have c1 := h.c1
  have f0 := h.free 0
  have f1 := h.free 1
  obtain ⟨N, HN⟩ : ∃ N, Hid (N = hs.length) := ⟨_, rfl⟩
  obtain ⟨T, HT⟩ : ∃ T, Hid (T = m + hs.length) := ⟨_, rfl⟩
  have hrow := h.row
  have hcnt : m + N < 1000000 := by rw [HN.out]; exact hfew
  rw [← HT.out] at c0 hfew
  rw [← HN.out] at hrow
  obtain ⟨rao, rcap, hrv⟩ := own_slice hrow
  subst hrv
  go_enter Tryz.func30, Tryz.ntmps30
  go_wp2_with fail
  obtain ⟨w1, hw1⟩ : ∃ w1, w1 = w.setCell ⟨bk, 0, none⟩ (.int .i64 ((T : Int) + 1)) := ⟨_, rfl⟩
  rw [← hw1]
  have hF1 : Fr [bk] w w1 := by rw [hw1]; exact Fr.set _ _ _ (by simp)
  have hbox : w1.heap[bk]? = some (.cells #[.int .i64 ((T : Int) + 1), .slice rao N rcap, .slice none 0 0, .slice none 0 0, wv, .slice none 0 0, .slice none 0 0, .slice none 0 0, .slice none 0 0, .slice none 0 0, .slice none 0 0, .slice none 0 0] 49 (0, 0)) := by
    rw [hw1, row_setCell _ h.box, ← HT.out]
    rfl
  have hoth := h.other
  have hO1 : w1.ownsRow 0 79 3 (.slice rao N rcap) N (rowOf hs) := by rw [hw1]; exact ownsRow_setCell_other hrow hoth _
  have d0 : w1.cell? ⟨bk, 0, none⟩ = some (.int .i64 ((T : Int) + 1)) := by rw [cell_of_row _ _ _ _ _ _ hbox]; rfl
  have d1 : w1.cell? ⟨bk, 1, none⟩ = some (.slice rao N rcap) := by rw [cell_of_row _ _ _ _ _ _ hbox]; rfl
  have e1 : w1.frozen? ⟨bk, 1, none⟩ = false := by simp [World.frozen?, hbox]
  clear hw1 c0 c1 f0 f1 hrow
  have hFa : Fr [] w1 (w1.alloc (Obj.cells #[.slice ao L cap, .slice none 0 0, .int .i64 ((T : Int) + 1)] 79)).drew := (Fr.alloc [] w1 _).then (Fr.drew [] _)
  have HOa : Hid ((w1.alloc (Obj.cells #[.slice ao L cap, .slice none 0 0, .int .i64 ((T : Int) + 1)] 79)).drew.ownsRow 0 79 3 (.slice rao N rcap) N (rowOf hs)) := owns_keep hO1 hFa (by simp)
  have HNw : Hid (∀ (j : Nat) u, [Value.slice ao L cap, .slice none 0 0, .int .i64 ((T : Int) + 1)][j]? = some u → (w1.alloc (Obj.cells #[.slice ao L cap, .slice none 0 0, .int .i64 ((T : Int) + 1)] 79)).drew.cell? ((⟨w1.heap.size, 0, none⟩ : Addr).add j) = some u) := by
    intro j u hj
    have hn : (w1.alloc (Obj.cells #[.slice ao L cap, .slice none 0 0, .int .i64 ((T : Int) + 1)] 79)).drew.heap[w1.heap.size]? = some (Obj.cells #[.slice ao L cap, .slice none 0 0, .int .i64 ((T : Int) + 1)] 79) := heap_alloc_new w1 _
    rw [show (⟨w1.heap.size, 0, none⟩ : Addr).add j = ⟨w1.heap.size, j, none⟩ from by simp [Addr.add]; omega, cell_of_row _ _ _ _ _ _ hn]
    simpa using hj
  have hboxa := (Fr.alloc [] w1 (Obj.cells #[.slice ao L cap, .slice none 0 0, .int .i64 ((T : Int) + 1)] 79)).keep hbox (by simp)
  have d0a : (w1.alloc (Obj.cells #[.slice ao L cap, .slice none 0 0, .int .i64 ((T : Int) + 1)] 79)).cell? ⟨bk, 0, none⟩ = some (.int .i64 ((T : Int) + 1)) := by rw [cell_of_row _ _ _ _ _ _ hboxa]; rfl
  have d1a : (w1.alloc (Obj.cells #[.slice ao L cap, .slice none 0 0, .int .i64 ((T : Int) + 1)] 79)).cell? ⟨bk, 1, none⟩ = some (.slice rao N rcap) := by rw [cell_of_row _ _ _ _ _ _ hboxa]; rfl
  clear hboxa
  have HOne : Hid (∀ u ∈ [Value.slice ao L cap, .slice none 0 0, .int .i64 ((T : Int) + 1)], u.oneCell' = true) := by
    intro u hu
    simp at hu
    rcases hu with rfl | rfl | rfl <;> rfl
  have HK : Hid (∀ (g cap' : Nat) (w' : World), w'.ownsRow 0 79 3 (.slice (some ⟨g, 0, none⟩) (N + 1) cap') (N + 1) (rowOf hs ++ [Value.slice ao L cap, .slice none 0 0, .int .i64 ((T : Int) + 1)]) → Went (w1.alloc (Obj.cells #[.slice ao L cap, .slice none 0 0, .int .i64 ((T : Int) + 1)] 79)).drew (.slice rao N rcap) g w' →
      w'.cell? ⟨bk, 1, none⟩ = some (.slice rao N rcap) ∧ w'.frozen? ⟨bk, 1, none⟩ = false ∧ Hid (Bk m wv (w'.setCell ⟨bk, 1, none⟩ (.slice (some ⟨g, 0, none⟩) (N + 1) cap')) bk (.slice (some ⟨g, 0, none⟩) (N + 1) cap') (hs ++ [⟨.slice ao L cap, .slice none 0 0, m + hs.length + 1⟩]) ∧ Fr (bk :: (Value.slice rao N rcap).ownBlock.toList) w (w'.setCell ⟨bk, 1, none⟩ (.slice (some ⟨g, 0, none⟩) (N + 1) cap')) ∧ Moved w.heap.size (.slice rao N rcap) (.slice (some ⟨g, 0, none⟩) (N + 1) cap'))) := by
    intro g cap' w' hO hW
    have hFw := hW.fr
    have hF1w : Fr (Value.slice rao N rcap).ownBlock.toList w1 w' := hFa.trans hFw (by simp) (fun x hx _ => hx)
    have hbox' := hF1w.keep hbox (by simpa using hoth)
    refine ⟨by rw [cell_of_row _ _ _ _ _ _ hbox']; rfl, by simp [World.frozen?, hbox'], ?_, ?_, ?_⟩
    · have hne : (Value.slice (some ⟨g, 0, none⟩) (N + 1) cap').ownBlock ≠ some bk := by
        intro e
        obtain ⟨cs, hc⟩ := own_type hO bk e
        rw [hbox'] at hc
        simp at hc
      refine ⟨?_, ?_, ?_⟩
      · have e : ((m + (hs ++ [(⟨.slice ao L cap, .slice none 0 0, m + hs.length + 1⟩ : HB)]).length : Nat) : Int) = (T : Int) + 1 := by rw [List.length_append, HT.out]; simp; omega
        rw [row_setCell _ hbox', e]
        rfl
      · have e : HB.cells ⟨.slice ao L cap, .slice none 0 0, m + hs.length + 1⟩ = [.slice ao L cap, .slice none 0 0, .int .i64 ((T : Int) + 1)] := by simp [HB.cells, HT.out]
        rw [rowOf_snoc, e, List.length_append, ← HN.out]
        exact ownsRow_setCell_other hO hne _
      · rw [List.length_append, ← HN.out]
        simp
        omega
    · refine (hF1.trans (hF1w.trans (U := bk :: (Value.slice rao N rcap).ownBlock.toList) (Fr.set (S := [bk]) w' ⟨bk, 1, none⟩ _ (by simp)) ?_ ?_) ?_ (fun x hx _ => hx))
      · intro x hx _; exact List.mem_cons_of_mem _ hx
      · intro x hx _; simp at hx; simp [hx]
      · intro x hx _; simp at hx; simp [hx]
    · have hs1 := hF1.size
      have hs2 := hFa.size
      exact (Moved.refl w.heap.size _).trans hW.moved (by omega)
  go_region_law (refine step_app _ rfl (.tmp 15) (.tmp 22) 37 rfl 79 i0 _ 3 56 Tryz.undHBs hi hz0 hz1 hz2 rfl (by omega) (.slice rao N rcap) N (rowOf hs) (by simp [Act.eval]) HOa.out ⟨w1.heap.size, 0, none⟩ 1 [.slice ao L cap, .slice none 0 0, .int .i64 ((T : Int) + 1)] (by simp [Act.eval]) rfl HNw.out HOne.out (by omega) (by simp only [maxLen]; omega) ?_; intro g cap' w' hO2 hW2; obtain ⟨q1, q2, q3⟩ := HK.out g cap' w' hO2 hW2)
  all_goals (go_wp2_with fail; go_end0; exact ⟨rfl, _, q3.out⟩)

set_option maxHeartbeats 1000000 in
theorem bytes_any (bk : Nat) (rv : Value) (hs : List HB) (ao : Option Addr) (L cap : Nat) (w : World) (h : Bk m wv w bk rv hs) (hfew : m + hs.length < 1000000) :
    Calls Tryz.prog 15 #[.pointer (some ⟨bk, 0, none⟩), .slice ao L cap] w fun e w' => e = .returned (.tuple #[]) ∧ ∃ rv', Bk m wv w' bk rv' (hs ++ [⟨.slice ao L cap, .slice none 0 0, m + hs.length + 1⟩]) ∧ Fr (bk :: rv.ownBlock.toList) w w' ∧ Moved w.heap.size rv rv' := by
  go_enter Tryz.func15, Tryz.ntmps15
  go_wp2_with fail
  refine (keepByte_any bk rv hs ao L cap w h hfew).mono ?_
  rintro e w' ⟨rfl, rest⟩
  have R : Hid _ := rest
  clear rest
  go_wp2_with fail
  go_end0
  exact ⟨rfl, R.out⟩
end Go.Proofs.YtcgfadmhjfncoaaGreatDoor

/- May a transaction be: contracts of Check and of the closure that it asks. Conditions as each names them. -/
import Derived.Test.YtakbodlicfmkjaaGreatWm
namespace Go.Proofs.YtakbodlicfmkjaaGreat
open Go.ChangeShapes Go.WideShapes Go.ChangeAt Go.RowKit Go.Lib
set_option linter.unusedVariables false

/-- It tells whether the write may not be. -/
def TellsW (e : Ending) (x : Wt) : Prop := ∃ B : Bool, e = .returned (.bool B) ∧ (B = true ↔ ¬ okW x)
set_option maxHeartbeats 2000000 in
set_option maxRecDepth 100000 in
theorem cCheck_any (i L cap b off g : Nat) (x : Wt) (w : World) (hi : i < L) (hL : L ≤ 140737488355328) (hx : WAt w b (off + i * 3) x) (hk : x.key.size ≤ 140737488355328) (hv : x.val.size ≤ 140737488355328)
    (hg : w.cell? ⟨g, 1, none⟩ = some (.slice (some ⟨b, off, none⟩) L cap)) :
    Calls Tryz.prog 125 #[.int .i64 (i : Int), .pointer (some ⟨g, 0, none⟩)] w fun e w' => TellsW e x ∧ Fr [] w w' := by
  obtain ⟨key, val, drop⟩ := x
  obtain ⟨c0, c1, c2⟩ := hx
  simp only at c0 c1 c2 hk hv
  have HO : Hid (okW ⟨key, val, drop⟩ ↔ _) := okW_iff key val drop
  go_enter Tryz.func125, Tryz.ntmps125
  go_wp2
  all_goals (
    go_ret
    refine ⟨⟨_, rfl, ?_⟩, Fr.alloc _ _ _⟩
    have HO' := HO.out
    clear HO
    simp_all)
  all_goals (intros; exfalso; omega)

theorem okT_no {n : Int} {ws : List Wt} {i : Nat} (hi : i < ws.length) (h : ¬ okW (ws.getD i Wt.zero)) : ¬ okT n ws := fun hh => h (hh.2.2.2 _ (wgetD_mem ws i hi))

set_option maxHeartbeats 4000000 in
set_option maxRecDepth 100000 in
theorem check_any (n : Int) (ao : Option Addr) (L cap c : Nat) (ws : List Wt) (w : World) (hW : WRs w ao ws) (hL : L = ws.length) (hn0 : -9223372036854775808 ≤ n) (hn1 : n ≤ 9223372036854775807)
    (hc : (okT n ws ∧ c = 0) ∨ (¬ okT n ws ∧ c = 1)) :
    Calls Tryz.prog 87 #[.agg #[.int .i64 n, .slice ao L cap]] w fun e w' => e = .returned (.int .i64 (c : Int)) ∧ Fr [] w w' := by
  have HC : Hid (_ ∨ _) := hc
  have HL : Hid (L = ws.length) := hL
  have hLm : L ≤ 140737488355328 := by have := hW.few; omega
  clear hc hL
  by_cases h1 : n < 1
  · have hc1 : c = 1 := by rcases HC.out with ⟨h, _⟩ | ⟨_, h⟩; · exact absurd h.1 (by omega)
                           · exact h
    subst hc1
    clear HC
    go_enter Tryz.func87, Tryz.ntmps87
    go_wp2
    go_ret
    exact ⟨rfl, Fr.alloc _ _ _⟩
  · by_cases h2 : 65536 < n
    · have hc1 : c = 1 := by rcases HC.out with ⟨h, _⟩ | ⟨_, h⟩; · exact absurd h.2.1 (by omega)
                             · exact h
      subst hc1
      clear HC
      have h1' : 1 ≤ n := by omega
      clear h1
      go_enter Tryz.func87, Tryz.ntmps87
      go_wp2
      go_ret
      exact ⟨rfl, Fr.alloc _ _ _⟩
    · have h1' : 1 ≤ n := by omega
      have h2' : n ≤ 65536 := by omega
      clear h1 h2
      by_cases h3 : 32 < L
      · have hc1 : c = 1 := by rcases HC.out with ⟨h, _⟩ | ⟨_, h⟩; · exact absurd h.2.2.1 (by rw [← HL.out]; omega)
                               · exact h
        subst hc1
        clear HC
        have h3' : (32 : Int) < L := by omega
        go_enter Tryz.func87, Tryz.ntmps87
        go_wp2
        go_ret
        exact ⟨rfl, Fr.alloc _ _ _⟩
      · have h3' : (L : Int) ≤ 32 := by omega
        clear h3
        have c1 : (w.alloc (.cells #[.int .i64 n, .slice ao L cap] 59)).cell? ⟨w.heap.size, 1, none⟩ = some (.slice ao L cap) := cell_of_row _ _ _ _ _ _ (heap_alloc_new w _)
        have hd1 : decide (n < 1) = false := by simp; omega
        have hd2 : decide (65536 < n) = false := by simp; omega
        have hd3 : decide ((32 : Int) < L) = false := by simp; omega
        have hF0 : Fr [] w (w.alloc (.cells #[.int .i64 n, .slice ao L cap] 59)) := Fr.alloc _ _ _
        have hW1 := hW.keep hF0
        go_enter Tryz.func87, Tryz.ntmps87
        go_wp2_with fail
        obtain ⟨w1, HW1⟩ : ∃ w1, Hid (w.alloc (.cells #[.int .i64 n, .slice ao L cap] 59) = w1) := ⟨_, rfl⟩
        rw [HW1.out] at c1 hF0 hW1 ⊢
        have hlt : w.heap.size < w1.heap.size := by rw [← HW1.out]; simp
        go_loopw [23] (fun ii wr => ∃ (i : Nat), ii = .int .i64 i ∧ i ≤ L ∧ Hid (∀ j, j < i → okW (ws.getD j Wt.zero)) ∧ Fr [] w1 wr) (fun ii _ => L - (intOf ii).toNat)
        case atStart => exact ⟨0, rfl, Nat.zero_le _, fun j hj => by omega, Fr.refl _ _⟩
        case round =>
          obtain ⟨i, rfl, hiL, HE, hFr⟩ := hrel
          have c1r : wr.cell? ⟨w.heap.size, 1, none⟩ = some (.slice ao L cap) := (World.cell?_of_block (hFr.block _ hlt (by simp))).trans c1
          by_cases hi : i < L
          · have hi' : i < ws.length := by rw [← HL.out]; exact hi
            obtain ⟨b, off, rfl, _, hc⟩ := (hW1.keep hFr).lies (by omega)
            have hx := hc i hi'
            have hm := hW.each _ (wgetD_mem ws i hi')
            obtain ⟨x, hxx⟩ : ∃ x, x = ws.getD i Wt.zero := ⟨_, rfl⟩
            rw [← hxx] at hx hm
            have HX : Hid (x = ws.getD i Wt.zero) := hxx
            clear hxx hc
            go_wp2_with fail
            refine (cCheck_any i L cap b off w.heap.size x _ hi hLm hx hm.1 hm.2 c1r).mono ?_
            rintro e w2 ⟨⟨B, rfl, hB⟩, hF2⟩
            cases B with
            | true =>
              have hno : ¬ okW x := hB.1 rfl
              have hc1 : c = 1 := by rcases HC.out with ⟨h, _⟩ | ⟨_, h⟩; · exact absurd h (okT_no hi' (HX.out ▸ hno))
                                     · exact h
              subst hc1
              clear HC hB hno
              go_wp2
              go_ret
              exact ⟨rfl, hF0.then (hFr.then hF2)⟩
            | false =>
              have HE2 : Hid (∀ j, j < i + 1 → okW (ws.getD j Wt.zero)) := by
                intro j hj
                by_cases hji : j = i
                · subst hji
                  rw [← HX.out]
                  exact Classical.byContradiction fun h => absurd (hB.2 h) (by simp)
                · exact HE.out j (by omega)
              clear hB
              go_wp2
              go_roundw
              case rel => exact ⟨i + 1, by simp, by omega, HE2, hFr.then hF2⟩
              case measure => simp [intOf]; omega
          · have hc0 : c = 0 := by
              rcases HC.out with ⟨_, h⟩ | ⟨h, _⟩
              · exact h
              · refine absurd ⟨h1', h2', by rw [← HL.out]; omega, ?_⟩ h
                intro x hx
                obtain ⟨j, hj, rfl⟩ := List.getElem_of_mem hx
                have := HE.out j (by have := HL.out; omega)
                simpa [List.getD, hj] using this
            subst hc0
            clear HC
            go_wp2
            go_ret
            exact ⟨rfl, hF0.then hFr⟩
end Go.Proofs.YtakbodlicfmkjaaGreat

/- May a log be: contracts of inTurn, of the closure that it makes, of Check. Conditions as each names them. -/
import Derived.Test.YtakbodlicfmkjaaGreatTm
namespace Go.Proofs.YtakbodlicfmkjaaGreat.F
open Go.ChangeShapes Go.WideShapes Go.ChangeAt Go.RowKit Go.Lib
set_option linter.unusedVariables false

theorem row_setCell {w : World} {b j : Nat} {cs : Array Value} {t : TypeId} (x : Value) (h : w.heap[b]? = some (.cells cs t (0, 0))) : (w.setCell ⟨b, j, none⟩ x).heap[b]? = some (.cells (cs.setIfInBounds j x) t (0, 0)) := by
  have hlt := lt_of_block h
  have h' : w.heap[b] = .cells cs t (0, 0) := by simpa [Array.getElem?_eq_getElem hlt] using h
  show (w.heap.modify b _)[b]? = _
  rw [Array.getElem?_eq_getElem (by simpa using hlt), Array.getElem_modify_self, h']
  rfl
/-- A variable in a block of its own. -/
structure Bv (w : World) (b : Nat) (t : TypeId) (v : Value) : Prop where
  box : w.heap[b]? = some (.cells #[v] t (0, 0))
theorem Bv.lt {w : World} {b : Nat} {t : TypeId} {v : Value} (h : Bv w b t v) : b < w.heap.size := lt_of_block h.box
theorem Bv.c {w : World} {b : Nat} {t : TypeId} {v : Value} (h : Bv w b t v) : w.cell? ⟨b, 0, none⟩ = some v := by simp [World.cell?, h.box]
theorem Bv.f {w : World} {b : Nat} {t : TypeId} {v : Value} (h : Bv w b t v) : w.frozen? ⟨b, 0, none⟩ = false := by simp [World.frozen?, h.box]
theorem Bv.keep {S : List Nat} {w w' : World} {b : Nat} {t : TypeId} {v : Value} (h : Bv w b t v) (hf : Fr S w w') (hn : b ∉ S) : Bv w' b t v := ⟨hf.keep h.box hn⟩
theorem Bv.set {w : World} {b : Nat} {t : TypeId} {v : Value} (h : Bv w b t v) (u : Value) : Bv (w.setCell ⟨b, 0, none⟩ u) b t u := by
  have := row_setCell (j := 0) u h.box
  exact ⟨by simpa using this⟩
theorem Bv.new (w : World) (t : TypeId) (v : Value) : Bv (w.alloc (.cells #[v] t)) w.heap.size t v := ⟨heap_alloc_new w _⟩

theorem inTurn_any (w : World) : Calls Tryz.prog 51 #[] w fun e w' => e = .returned (.func (Fn.func 86) #[] #[.pointer (some ⟨w.heap.size, 0, none⟩)]) ∧ w' = w.alloc (.cells #[.int .i64 1] 3) := by
  go_enter Tryz.func51, Tryz.ntmps51
  go_wp2
  go_ret
  exact ⟨rfl, rfl⟩

set_option maxHeartbeats 2000000 in
set_option maxRecDepth 100000 in
theorem turn1_no (b k c : Nat) (n : Int) (ao : Option Addr) (L cap : Nat) (ws : List Wt) (w : World) (hb : Bv w b 3 (.int .i64 (k : Int))) (ht : TArg w n ao L cap ws) (hk : k ≤ 140737488355329)
    (hc : (¬ okT n ws ∧ c = 1) ∨ (okT n ws ∧ n ≠ (k : Int) ∧ c = 6)) :
    Calls Tryz.prog 86 #[.agg #[.int .i64 n, .slice ao L cap], .pointer (some ⟨b, 0, none⟩)] w fun e w' => e = .returned (.int .i64 (c : Int)) ∧ Fr [] w w' := by
  have HL : Hid (L = ws.length) := ht.len
  have hn0 := ht.n0
  have hn1 := ht.n1
  have hF0 : Fr [] w (w.alloc (.cells #[.int .i64 n, .slice ao L cap] 59)) := Fr.alloc _ _ _
  have hW0 := ht.rs.keep hF0
  have hb0 := hb.keep hF0 (by simp)
  have c0 : (w.alloc (.cells #[.int .i64 n, .slice ao L cap] 59)).cell? ⟨w.heap.size, 0, none⟩ = some (.int .i64 n) := cell_of_row _ _ _ _ _ _ (heap_alloc_new w _)
  have hsz : w.heap.size < (w.alloc (.cells #[.int .i64 n, .slice ao L cap] 59)).heap.size := by simp
  obtain ⟨w0, HW0⟩ : ∃ w0, Hid (w.alloc (.cells #[.int .i64 n, .slice ao L cap] 59) = w0) := ⟨_, rfl⟩
  rw [HW0.out] at hF0 hW0 hb0 c0 hsz
  clear hb
  rcases hc with ⟨hno, rfl⟩ | ⟨hok, hne, rfl⟩
  · have HN : Hid (¬ okT n ws) := hno
    clear hno
    go_enter Tryz.func86, Tryz.ntmps86
    go_wp2_with fail
    rw [HW0.out]
    refine (check_any n ao L cap 1 ws _ hW0 HL.out hn0 hn1 (Or.inr ⟨HN.out, rfl⟩)).mono ?_
    rintro e w1 ⟨rfl, hF1⟩
    have hF := hF0.then hF1
    clear hF0 hF1 hW0
    go_wp2
    go_ret
    exact ⟨rfl, hF⟩
  · have HK : Hid (okT n ws) := hok
    have hnb : (n != (k : Int)) = true := by rw [bne_iff_ne]; exact hne
    clear hok
    go_enter Tryz.func86, Tryz.ntmps86
    go_wp2_with fail
    rw [HW0.out]
    refine (check_any n ao L cap 0 ws _ hW0 HL.out hn0 hn1 (Or.inl ⟨HK.out, rfl⟩)).mono ?_
    rintro e w1 ⟨rfl, hF1⟩
    have hF := hF0.then hF1
    have d0 : w1.cell? ⟨w.heap.size, 0, none⟩ = some (.int .i64 n) := (World.cell?_of_block (hF1.block _ hsz (by simp))).trans c0
    have d1 := (hb0.keep hF1 (by simp)).c
    clear hF0 hF1 hW0 hne
    go_wp2
    go_ret
    exact ⟨rfl, hF⟩

set_option maxHeartbeats 2000000 in
set_option maxRecDepth 100000 in
theorem turn1_ok (b k : Nat) (n : Int) (ao : Option Addr) (L cap : Nat) (ws : List Wt) (w : World) (hb : Bv w b 3 (.int .i64 (k : Int))) (ht : TArg w n ao L cap ws) (hk : k ≤ 140737488355329)
    (hok : okT n ws) (hn : n = (k : Int)) :
    Calls Tryz.prog 86 #[.agg #[.int .i64 n, .slice ao L cap], .pointer (some ⟨b, 0, none⟩)] w fun e w' => e = .returned (.int .i64 0) ∧ Bv w' b 3 (.int .i64 ((k + 1 : Nat) : Int)) ∧ Fr [b] w w' := by
  subst hn
  have HL : Hid (L = ws.length) := ht.len
  have hn0 := ht.n0
  have hn1 := ht.n1
  have HK : Hid (okT (k : Int) ws) := hok
  clear hok
  have hF0 : Fr [] w (w.alloc (.cells #[.int .i64 (k : Int), .slice ao L cap] 59)) := Fr.alloc _ _ _
  have hW0 := ht.rs.keep hF0
  have hb0 := hb.keep hF0 (by simp)
  have c0 : (w.alloc (.cells #[.int .i64 (k : Int), .slice ao L cap] 59)).cell? ⟨w.heap.size, 0, none⟩ = some (.int .i64 (k : Int)) := cell_of_row _ _ _ _ _ _ (heap_alloc_new w _)
  have hsz : w.heap.size < (w.alloc (.cells #[.int .i64 (k : Int), .slice ao L cap] 59)).heap.size := by simp
  obtain ⟨w0, HW0⟩ : ∃ w0, Hid (w.alloc (.cells #[.int .i64 (k : Int), .slice ao L cap] 59) = w0) := ⟨_, rfl⟩
  rw [HW0.out] at hF0 hW0 hb0 c0 hsz
  clear hb
  have hnb : ((k : Int) != (k : Int)) = false := by simp
  go_enter Tryz.func86, Tryz.ntmps86
  go_wp2_with fail
  rw [HW0.out]
  refine (check_any (k : Int) ao L cap 0 ws _ hW0 HL.out hn0 hn1 (Or.inl ⟨HK.out, rfl⟩)).mono ?_
  rintro e w1 ⟨rfl, hF1⟩
  have hF := hF0.then hF1
  have d0 : w1.cell? ⟨w.heap.size, 0, none⟩ = some (.int .i64 (k : Int)) := (World.cell?_of_block (hF1.block _ hsz (by simp))).trans c0
  have hb1 := hb0.keep hF1 (by simp)
  have d1 := hb1.c
  have d2 := hb1.f
  have hR : Bv (w1.setCell ⟨b, 0, none⟩ (.int .i64 ((k : Int) + 1))) b 3 (.int .i64 ((k + 1 : Nat) : Int)) := by
    have := hb1.set (.int .i64 ((k : Int) + 1))
    simpa using this
  have HR : Hid (_ ∧ Fr [b] w (w1.setCell ⟨b, 0, none⟩ (.int .i64 ((k : Int) + 1)))) := ⟨hR, (hF.mono (by simp)).then (Fr.set _ _ _ (by simp))⟩
  clear hF0 hF1 hW0 hb0 hR hb1 hF
  go_wp2
  go_ret
  exact ⟨rfl, HR.out⟩

theorem tdrop_cons (ts : List Tm) (i : Nat) (h : i < ts.length) : ts.drop i = ts.getD i Tm.zero :: ts.drop (i + 1) := by
  rw [List.drop_eq_getElem_cons h]
  simp [List.getD, h]
set_option maxHeartbeats 4000000 in
set_option maxRecDepth 100000 in
theorem lcheck_any (ao : Option Addr) (L cap c : Nat) (ts : List Tm) (w : World) (hT : TRs w ao ts) (hL : L = ts.length) (hc : Bad 1 (txs ts) c) :
    Calls Tryz.prog 26 #[.slice ao L cap] w fun e w' => e = .returned (.int .i64 (c : Int)) ∧ Fr [] w w' := by
  have HC : Hid (Bad 1 (txs ts) c) := hc
  have HL : Hid (L = ts.length) := hL
  have hLm : L ≤ 140737488355328 := by have := hT.few; omega
  clear hc hL
  have hF0 : Fr [] w (w.alloc (.cells #[.int .i64 1] 3)) := Fr.alloc _ _ _
  have hB0 : Bv (w.alloc (.cells #[.int .i64 1] 3)) w.heap.size 3 (.int .i64 ((1 : Nat) : Int)) := Bv.new w _ _
  go_enter Tryz.func26, Tryz.ntmps26
  go_wp2_with fail
  refine (inTurn_any _).mono ?_
  rintro e w0 ⟨rfl, HW0⟩
  rw [← HW0] at hF0 hB0
  obtain ⟨b, hb⟩ : ∃ b, b = w.heap.size := ⟨_, rfl⟩
  rw [← hb] at hB0 ⊢
  have hbw : w.heap.size ≤ b := by omega
  clear hb HW0
  go_wp2_with fail
  go_loopw [10] (fun ii wr => ∃ (i : Nat), ii = .int .i64 i ∧ i ≤ L ∧ Hid (Bad (1 + i) (txs (ts.drop i)) c) ∧ Bv wr b 3 (.int .i64 ((1 + i : Nat) : Int)) ∧ Fr [] w wr) (fun ii _ => L - (intOf ii).toNat)
  case atStart => exact ⟨0, rfl, Nat.zero_le _, HC.out, hB0, hF0⟩
  case round =>
    obtain ⟨i, rfl, hiL, HE, hBi, hFr⟩ := hrel
    by_cases hi : i < L
    · have hi' : i < ts.length := by rw [← HL.out]; exact hi
      obtain ⟨bb, off, rfl, _, hc⟩ := (hT.keep hFr).lies (by omega)
      have hx := hc i hi'
      have hat := (hT.keep hFr).each _ (tgetD_mem ts i hi')
      obtain ⟨x, hxx⟩ : ∃ x, x = ts.getD i Tm.zero := ⟨_, rfl⟩
      rw [← hxx] at hx hat
      have HX : Hid (x = ts.getD i Tm.zero) := hxx
      clear hxx hc
      obtain ⟨n, ao, M, cm, ws⟩ := x
      obtain ⟨c0, c1⟩ := hx
      simp only at c0 c1
      have e1 := HE.out
      rw [tdrop_cons ts i hi', ← HX.out] at e1
      have hF1 : Fr [] wr (wr.alloc (.cells #[.int .i64 n, .slice ao M cm] 59)) := Fr.alloc _ _ _
      have hB1 := hBi.keep hF1 (by simp)
      have hat1 : TArg (wr.alloc (.cells #[.int .i64 n, .slice ao M cm] 59)) n ao M cm ws := TArg.keep hat hF1
      have hG := hFr.then hF1
      clear HE HC
      rcases e1 with ⟨h1, rfl⟩ | ⟨h1, h2, rfl⟩ | ⟨h1, h2, h3⟩
      · have HN : Hid (¬ okT n ws) := h1
        clear h1
        go_wp2_with fail
        refine (turn1_no b (1 + i) 1 n ao M cm ws _ hB1 hat1 (by omega) (Or.inl ⟨HN.out, rfl⟩)).mono ?_
        rintro e w2 ⟨rfl, hF2⟩
        have hG2 := hG.then hF2
        clear hG hF2 hB1 hat1 hF1
        go_wp2
        go_ret
        exact ⟨rfl, hG2⟩
      · have HN : Hid (okT n ws ∧ n ≠ ((1 + i : Nat) : Int)) := ⟨h1, h2⟩
        clear h1 h2
        go_wp2_with fail
        refine (turn1_no b (1 + i) 6 n ao M cm ws _ hB1 hat1 (by omega) (Or.inr ⟨HN.out.1, HN.out.2, rfl⟩)).mono ?_
        rintro e w2 ⟨rfl, hF2⟩
        have hG2 := hG.then hF2
        clear hG hF2 hB1 hat1 hF1
        go_wp2
        go_ret
        exact ⟨rfl, hG2⟩
      · have HN : Hid (okT n ws ∧ n = ((1 + i : Nat) : Int) ∧ Bad (1 + i + 1) (txs (ts.drop (i + 1))) c) := ⟨h1, h2, h3⟩
        clear h1 h2 h3
        go_wp2_with fail
        refine (turn1_ok b (1 + i) n ao M cm ws _ hB1 hat1 (by omega) HN.out.1 HN.out.2.1).mono ?_
        rintro e w2 ⟨rfl, hB2, hF2⟩
        have hG2 := hG.on hF2 (by intro x hx; simp at hx; omega)
        clear hG hF2 hB1 hat1 hF1
        go_wp2
        go_roundw
        case rel => exact ⟨i + 1, by simp, by omega, by show Bad _ _ _; rw [show 1 + (i + 1) = 1 + i + 1 by omega]; exact HN.out.2.2, by rw [show 1 + (i + 1) = 1 + i + 1 by omega]; exact hB2, hG2⟩
        case measure => simp [intOf]; omega
    · have hc0 : c = 0 := by
        have e1 := HE.out
        rw [List.drop_eq_nil_of_le (by rw [← HL.out]; omega)] at e1
        exact e1
      subst hc0
      clear HC HE
      go_wp2
      go_ret
      exact ⟨rfl, hFr⟩
end Go.Proofs.YtakbodlicfmkjaaGreat.F

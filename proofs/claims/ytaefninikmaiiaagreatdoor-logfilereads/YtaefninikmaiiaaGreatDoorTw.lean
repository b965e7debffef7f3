/- A write taken off a reader: the contract of takeWrite. Conditions: the reader is one of NewReader with nothing wrong. -/
import Derived.Test.YtaefninikmaiiaaGreatDoorDec
import Derived.Laws.ResultCell
namespace Go.Proofs.YtaefninikmaiiaaGreatDoor
open Go.ChangeShapes Go.WideShapes Go.ChangeAt Go.RowKit Go.Lib
set_option linter.unusedVariables false

/-- A write's struct in a block of its own. -/
structure B3 (w : World) (b : Nat) (u v x : Value) : Prop where
  box : w.heap[b]? = some (.cells #[u, v, x] 124 (0, 0))
theorem B3.lt {w : World} {b : Nat} {u v x : Value} (h : B3 w b u v x) : b < w.heap.size := lt_of_block h.box
theorem B3.c0 {w : World} {b : Nat} {u v x : Value} (h : B3 w b u v x) : w.cell? ⟨b, 0, none⟩ = some u := by simp [World.cell?, h.box]
theorem B3.c1 {w : World} {b : Nat} {u v x : Value} (h : B3 w b u v x) : w.cell? ⟨b, 1, none⟩ = some v := by simp [World.cell?, h.box]
theorem B3.c2 {w : World} {b : Nat} {u v x : Value} (h : B3 w b u v x) : w.cell? ⟨b, 2, none⟩ = some x := by simp [World.cell?, h.box]
theorem B3.f0 {w : World} {b : Nat} {u v x : Value} (h : B3 w b u v x) : w.frozen? ⟨b, 0, none⟩ = false := by simp [World.frozen?, h.box]
theorem B3.f1 {w : World} {b : Nat} {u v x : Value} (h : B3 w b u v x) : w.frozen? ⟨b, 1, none⟩ = false := by simp [World.frozen?, h.box]
theorem B3.f2 {w : World} {b : Nat} {u v x : Value} (h : B3 w b u v x) : w.frozen? ⟨b, 2, none⟩ = false := by simp [World.frozen?, h.box]
theorem B3.keep {S : List Nat} {w w' : World} {b : Nat} {u v x : Value} (h : B3 w b u v x) (hf : Fr S w w') (hn : b ∉ S) : B3 w' b u v x := ⟨hf.keep h.box hn⟩
theorem Fr.wide {S : List Nat} {w w' : World} (h : Fr [] w w') : Fr S w w' := h.mono (by simp)
theorem Fr.set3 {g : Nat} {w w1 : World} {b : Nat} (h : Fr [g] w w1) (hb : w.heap.size ≤ b) (u v x : Value) : Fr [g] w (((w1.setCell ⟨b, 0, none⟩ u).setCell ⟨b, 1, none⟩ v).setCell ⟨b, 2, none⟩ x) := by
  have k : Fr [b] w1 (((w1.setCell ⟨b, 0, none⟩ u).setCell ⟨b, 1, none⟩ v).setCell ⟨b, 2, none⟩ x) :=
    ((Fr.set w1 ⟨b, 0, none⟩ u (by simp)).then (Fr.set _ ⟨b, 1, none⟩ v (by simp))).then (Fr.set _ ⟨b, 2, none⟩ x (by simp))
  exact h.trans k (fun _ x _ => x) (fun y hy hl => by simp at hy; omega)

set_option maxHeartbeats 4000000 in
set_option maxRecDepth 100000 in
theorem takeWrite_err (g r c : Nat) (xs : List Nat) (ao : Option Addr) (cap : Nat) (w : World) (h : Rd w g r xs 0 ao cap) (hd : decW xs = .error c) :
    Er 191 #[.pointer (some ⟨g, 0, none⟩)] w (.tuple #[.agg #[.string ⟨#[]⟩, .string ⟨#[]⟩, .bool false], .int .i64 (c : Int)]) g := by
  show Calls _ _ _ _ _
  have HD : Hid (_ = _) := hd
  clear hd
  have hgl := h.lt
  obtain ⟨w0, HW0⟩ : ∃ w0, Hid ((w.alloc (.cells #[.pointer (some ⟨g, 0, none⟩)] 187)).alloc (.cells #[.string ⟨#[]⟩, .string ⟨#[]⟩, .bool false] 124) = w0) := ⟨_, rfl⟩
  have hF0 : Fr [] w w0 := by rw [← HW0.out]; exact (Fr.alloc [] w _).then (Fr.alloc [] _ _)
  have hb : w0.heap[w.heap.size]? = some (.cells #[.pointer (some ⟨g, 0, none⟩)] 187 (0, 0)) := by
    rw [← HW0.out]; exact (Fr.alloc [] _ _).keep (heap_alloc_new w _) (by simp)
  have hB : B3 w0 (w.heap.size + 1) (.string ⟨#[]⟩) (.string ⟨#[]⟩) (.bool false) := by
    refine ⟨?_⟩
    rw [← HW0.out]
    have := heap_alloc_new (w.alloc (.cells #[.pointer (some ⟨g, 0, none⟩)] 187)) (.cells #[.string ⟨#[]⟩, .string ⟨#[]⟩, .bool false] 124)
    simpa using this
  have hng : w.heap.size ∉ [g] := by simp; omega
  have hng1 : w.heap.size + 1 ∉ [g] := by simp; omega
  have cb : w0.cell? ⟨w.heap.size, 0, none⟩ = some (.pointer (some ⟨g, 0, none⟩)) := by simp [World.cell?, hb]
  have h0 : Rd w0 g r xs 0 ao cap := h.keep hF0 (by simp) (by simp)
  have hG0 := hF0.wide (S := [g])
  go_enter Tryz.func191, Tryz.ntmps191
  go_wp2_with fail
  rw [HW0.out]
  rcases takeK_any g r xs ao cap w0 h0 w.heap.size cb with ⟨c1, hc1, h1, hE⟩ | ⟨key, ys, h1, hE⟩
  · have hcc : c1 = c := by have := HD.out; unfold decW at this; rw [h1] at this; cases this; rfl
    subst hcc
    have hcb : ((c1 : Int) != 0) = true := by rw [bne_iff_ne]; omega
    clear hc1 HD
    refine hE.calls.mono ?_
    rintro e w1 ⟨rfl, hF1⟩
    have hB1 := hB.keep hF1 hng1
    obtain ⟨x0, x1, x2, y0, y1, y2⟩ : _ ∧ _ ∧ _ ∧ _ ∧ _ ∧ _ := ⟨hB1.c0, hB1.c1, hB1.c2, hB1.f0, hB1.f1, hB1.f2⟩
    have hF := hG0.then hF1
    clear hE hB1
    go_wp2
    refine bodyPost_ret (v := .tuple #[.agg #[.string ⟨#[]⟩, .string ⟨#[]⟩, .bool false], .int .i64 (c1 : Int)]) (by rw [results_cell_tmp rfl]; go_simp) rfl ⟨rfl, ?_⟩
    exact hF.set3 (by omega) _ _ _
  · refine hE.calls.mono ?_
    rintro e w1 ⟨rfl, ao1, cap1, hR1, hF1⟩
    have hB1 := hB.keep hF1 hng1
    have hb1 := hF1.keep hb hng
    have cb1 : w1.cell? ⟨w.heap.size, 0, none⟩ = some (.pointer (some ⟨g, 0, none⟩)) := by simp [World.cell?, hb1]
    have hG1 := hG0.then hF1
    clear hE
    go_wp2_with fail
    rcases takeD_any g r ys ao1 cap1 w1 hR1 w.heap.size cb1 with ⟨c1, hc1, h2, hE⟩ | ⟨d, zs, h2, hE⟩
    · have hcc : c1 = c := by have := HD.out; unfold decW at this; rw [h1] at this; simp only at this; unfold decD at this; rw [h2] at this; cases this; rfl
      subst hcc
      have hcb : ((c1 : Int) != 0) = true := by rw [bne_iff_ne]; omega
      clear hc1 HD
      refine hE.calls.mono ?_
      rintro e w2 ⟨rfl, hF2⟩
      have hB2 := hB1.keep hF2 hng1
      obtain ⟨x0, x1, x2, y0, y1, y2⟩ : _ ∧ _ ∧ _ ∧ _ ∧ _ ∧ _ := ⟨hB2.c0, hB2.c1, hB2.c2, hB2.f0, hB2.f1, hB2.f2⟩
      have hF := hG1.then hF2
      clear hE hB2
      go_wp2
      refine bodyPost_ret (v := .tuple #[.agg #[.string ⟨#[]⟩, .string ⟨#[]⟩, .bool false], .int .i64 (c1 : Int)]) (by rw [results_cell_tmp rfl]; go_simp) rfl ⟨rfl, ?_⟩
      exact hF.set3 (by omega) _ _ _
    · obtain ⟨_, hd01⟩ := tkD_inv h2
      have hd0 : d = 0 := by
        rcases hd01 with h' | h'
        · exact h'
        · exfalso
          have := HD.out; unfold decW at this; rw [h1] at this; simp only at this; unfold decD at this; rw [h2] at this; simp only at this; rw [if_pos h'] at this; cases this
      subst hd0
      refine hE.calls.mono ?_
      rintro e w2 ⟨rfl, ao2, cap2, hR2, hF2⟩
      have hB2 := hB1.keep hF2 hng1
      have hb2 := hF2.keep hb1 hng
      have cb2 : w2.cell? ⟨w.heap.size, 0, none⟩ = some (.pointer (some ⟨g, 0, none⟩)) := by simp [World.cell?, hb2]
      have hG2 := hG1.then hF2
      clear hE
      go_wp2_with fail
      rcases takeV_any g r zs ao2 cap2 w2 hR2 w.heap.size cb2 with ⟨c1, hc1, h3, hE⟩ | ⟨val, us, h3, hE⟩
      · have hcc : c1 = c := by have := HD.out; unfold decW at this; rw [h1] at this; simp only at this; unfold decD at this; rw [h2] at this; simp only at this; rw [if_neg (by decide)] at this; unfold decV at this; rw [h3] at this; cases this; rfl
        subst hcc
        have hcb : ((c1 : Int) != 0) = true := by rw [bne_iff_ne]; omega
        clear hc1 HD
        refine hE.calls.mono ?_
        rintro e w3 ⟨rfl, hF3⟩
        have hB3 := hB2.keep hF3 hng1
        obtain ⟨x0, x1, x2, y0, y1, y2⟩ : _ ∧ _ ∧ _ ∧ _ ∧ _ ∧ _ := ⟨hB3.c0, hB3.c1, hB3.c2, hB3.f0, hB3.f1, hB3.f2⟩
        have hF := hG2.then hF3
        clear hE hB3
        go_wp2
        refine bodyPost_ret (v := .tuple #[.agg #[.string ⟨#[]⟩, .string ⟨#[]⟩, .bool false], .int .i64 (c1 : Int)]) (by rw [results_cell_tmp rfl]; go_simp) rfl ⟨rfl, ?_⟩
        exact hF.set3 (by omega) _ _ _
      · exfalso
        have := HD.out; unfold decW at this; rw [h1] at this; simp only at this; unfold decD at this; rw [h2] at this; simp only at this; rw [if_neg (by decide)] at this; unfold decV at this; rw [h3] at this; cases this
set_option maxHeartbeats 4000000 in
set_option maxRecDepth 100000 in
theorem takeWrite_ok (g r : Nat) (key val : ByteArray) (drop : Bool) (xs rest : List Nat) (ao : Option Addr) (cap : Nat) (w : World) (h : Rd w g r xs 0 ao cap) (hr : r < w.heap.size) (hd : decW xs = .ok (⟨key, val, drop⟩, rest)) :
    Dn 191 #[.pointer (some ⟨g, 0, none⟩)] w (.tuple #[.agg #[.string key, .string val, .bool drop], .int .i64 0]) g r rest 0 := by
  show Calls _ _ _ _ _
  have HD : Hid (_ = _) := hd
  clear hd
  have hgl := h.lt
  obtain ⟨w0, HW0⟩ : ∃ w0, Hid ((w.alloc (.cells #[.pointer (some ⟨g, 0, none⟩)] 187)).alloc (.cells #[.string ⟨#[]⟩, .string ⟨#[]⟩, .bool false] 124) = w0) := ⟨_, rfl⟩
  have hF0 : Fr [] w w0 := by rw [← HW0.out]; exact (Fr.alloc [] w _).then (Fr.alloc [] _ _)
  have hb : w0.heap[w.heap.size]? = some (.cells #[.pointer (some ⟨g, 0, none⟩)] 187 (0, 0)) := by
    rw [← HW0.out]; exact (Fr.alloc [] _ _).keep (heap_alloc_new w _) (by simp)
  have hB : B3 w0 (w.heap.size + 1) (.string ⟨#[]⟩) (.string ⟨#[]⟩) (.bool false) := by
    refine ⟨?_⟩
    rw [← HW0.out]
    have := heap_alloc_new (w.alloc (.cells #[.pointer (some ⟨g, 0, none⟩)] 187)) (.cells #[.string ⟨#[]⟩, .string ⟨#[]⟩, .bool false] 124)
    simpa using this
  have hng : w.heap.size ∉ [g] := by simp; omega
  have hng1 : w.heap.size + 1 ∉ [g] := by simp; omega
  have cb : w0.cell? ⟨w.heap.size, 0, none⟩ = some (.pointer (some ⟨g, 0, none⟩)) := by simp [World.cell?, hb]
  have h0 : Rd w0 g r xs 0 ao cap := h.keep hF0 (by simp) (by simp)
  have hG0 := hF0.wide (S := [g])
  go_enter Tryz.func191, Tryz.ntmps191
  go_wp2_with fail
  rw [HW0.out]
  rcases takeK_any g r xs ao cap w0 h0 w.heap.size cb with ⟨c1, hc1, h1, hE⟩ | ⟨k0, ys, h1, hE⟩
  · exfalso
    have := HD.out; unfold decW at this; rw [h1] at this; cases this
  · refine hE.calls.mono ?_
    rintro e w1 ⟨rfl, ao1, cap1, hR1, hF1⟩
    have hB1 := hB.keep hF1 hng1
    have hb1 := hF1.keep hb hng
    have cb1 : w1.cell? ⟨w.heap.size, 0, none⟩ = some (.pointer (some ⟨g, 0, none⟩)) := by simp [World.cell?, hb1]
    have hG1 := hG0.then hF1
    clear hE
    go_wp2_with fail
    rcases takeD_any g r ys ao1 cap1 w1 hR1 w.heap.size cb1 with ⟨c1, hc1, h2, hE⟩ | ⟨d, zs, h2, hE⟩
    · exfalso
      have := HD.out; unfold decW at this; rw [h1] at this; simp only at this; unfold decD at this; rw [h2] at this; cases this
    · obtain ⟨_, hd01⟩ := tkD_inv h2
      rcases hd01 with h' | h'
      · subst h'
        refine hE.calls.mono ?_
        rintro e w2 ⟨rfl, ao2, cap2, hR2, hF2⟩
        have hB2 := hB1.keep hF2 hng1
        have hb2 := hF2.keep hb1 hng
        have cb2 : w2.cell? ⟨w.heap.size, 0, none⟩ = some (.pointer (some ⟨g, 0, none⟩)) := by simp [World.cell?, hb2]
        have hG2 := hG1.then hF2
        clear hE
        go_wp2_with fail
        rcases takeV_any g r zs ao2 cap2 w2 hR2 w.heap.size cb2 with ⟨c1, hc1, h3, hE⟩ | ⟨v0, us, h3, hE⟩
        · exfalso
          have := HD.out; unfold decW at this; rw [h1] at this; simp only at this; unfold decD at this; rw [h2] at this; simp only at this; rw [if_neg (by decide)] at this; unfold decV at this; rw [h3] at this; cases this
        · have HQ : Hid (k0 = key ∧ v0 = val ∧ false = drop ∧ us = rest) := by
            have := HD.out; unfold decW at this; rw [h1] at this; simp only at this; unfold decD at this; rw [h2] at this; simp only at this; rw [if_neg (by decide)] at this; unfold decV at this; rw [h3] at this
            simp only [Except.ok.injEq, Prod.mk.injEq, Wt.mk.injEq] at this
            obtain ⟨⟨a, b, c⟩, d⟩ := this
            exact ⟨a, b, c, d⟩
          clear HD h1 h2 h3
          refine hE.calls.mono ?_
          rintro e w3 ⟨rfl, ao3, cap3, hR3, hF3⟩
          have hB3 := hB2.keep hF3 hng1
          have hb3 := hF3.keep hb2 hng
          have cb3 : w3.cell? ⟨w.heap.size, 0, none⟩ = some (.pointer (some ⟨g, 0, none⟩)) := by simp [World.cell?, hb3]
          have hG3 := hG2.then hF3
          clear hE
          obtain ⟨x0, x1, x2, y0, y1, y2⟩ : _ ∧ _ ∧ _ ∧ _ ∧ _ ∧ _ := ⟨hB3.c0, hB3.c1, hB3.c2, hB3.f0, hB3.f1, hB3.f2⟩
          have hsz := hF0.size
          have h3 : Fr [w.heap.size + 1] w3 (((w3.setCell ⟨w.heap.size + 1, 0, none⟩ (.string k0)).setCell ⟨w.heap.size + 1, 1, none⟩ (.string v0)).setCell ⟨w.heap.size + 1, 2, none⟩ (.bool false)) :=
            ((Fr.set w3 ⟨w.heap.size + 1, 0, none⟩ _ (by simp)).then (Fr.set _ ⟨w.heap.size + 1, 1, none⟩ _ (by simp))).then (Fr.set _ ⟨w.heap.size + 1, 2, none⟩ _ (by simp))
          have HX : Hid (Rd _ g r _ 0 ao3 cap3) := hR3.keep h3 (by simp; omega) (by simp; omega)
          have HF : Hid (Fr [g] w _) := hG3.set3 (b := w.heap.size + 1) (by omega) (.string k0) (.string v0) (.bool false)
          clear hB3 h3 hR3
          go_wp2
          refine bodyPost_ret (v := .tuple #[.agg #[.string k0, (.string v0), (.bool false)], .int .i64 0]) (by rw [results_cell_tmp rfl]; go_simp) rfl ⟨?_, ao3, cap3, ?_, HF.out⟩
          · obtain ⟨a, b, c, d⟩ := HQ.out
            rw [← a, ← b, ← c]
          · obtain ⟨a, b, c, d⟩ := HQ.out
            rw [← d]
            exact HX.out
      · subst h'
        have HQ : Hid (k0 = key ∧ noS = val ∧ true = drop ∧ zs = rest) := by
          have := HD.out; unfold decW at this; rw [h1] at this; simp only at this; unfold decD at this; rw [h2] at this
          simp only [if_true, Except.ok.injEq, Prod.mk.injEq, Wt.mk.injEq] at this
          obtain ⟨⟨a, b, c⟩, d⟩ := this
          exact ⟨a, b, c, d⟩
        clear HD h1 h2
        refine hE.calls.mono ?_
        rintro e w2 ⟨rfl, ao2, cap2, hR2, hF2⟩
        have hB2 := hB1.keep hF2 hng1
        have hb2 := hF2.keep hb1 hng
        have cb2 : w2.cell? ⟨w.heap.size, 0, none⟩ = some (.pointer (some ⟨g, 0, none⟩)) := by simp [World.cell?, hb2]
        have hG2 := hG1.then hF2
        clear hE
        obtain ⟨x0, x1, x2, y0, y1, y2⟩ : _ ∧ _ ∧ _ ∧ _ ∧ _ ∧ _ := ⟨hB2.c0, hB2.c1, hB2.c2, hB2.f0, hB2.f1, hB2.f2⟩
        have hsz := hF0.size
        have h3 : Fr [w.heap.size + 1] w2 (((w2.setCell ⟨w.heap.size + 1, 0, none⟩ (.string k0)).setCell ⟨w.heap.size + 1, 1, none⟩ (.string ⟨#[]⟩)).setCell ⟨w.heap.size + 1, 2, none⟩ (.bool true)) :=
          ((Fr.set w2 ⟨w.heap.size + 1, 0, none⟩ _ (by simp)).then (Fr.set _ ⟨w.heap.size + 1, 1, none⟩ _ (by simp))).then (Fr.set _ ⟨w.heap.size + 1, 2, none⟩ _ (by simp))
        have HX : Hid (Rd _ g r _ 0 ao2 cap2) := hR2.keep h3 (by simp; omega) (by simp; omega)
        have HF : Hid (Fr [g] w _) := hG2.set3 (b := w.heap.size + 1) (by omega) (.string k0) (.string ⟨#[]⟩) (.bool true)
        clear hB2 h3 hR2
        go_wp2
        refine bodyPost_ret (v := .tuple #[.agg #[.string k0, (.string ⟨#[]⟩), (.bool true)], .int .i64 0]) (by rw [results_cell_tmp rfl]; go_simp) rfl ⟨?_, ao2, cap2, ?_, HF.out⟩
        · obtain ⟨a, b, c, d⟩ := HQ.out
          rw [← a, ← b, ← c]
          rfl
        · obtain ⟨a, b, c, d⟩ := HQ.out
          rw [← d]
          exact HX.out
end Go.Proofs.YtaefninikmaiiaaGreatDoor

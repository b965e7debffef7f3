/- Texts of this claim laid together, one behind the other: contracts and plain lemmas; conditions as each names them. -/
import Derived.Test.YtaefninikmaiiaaGreatDoorGp4
import Derived.Laws.ResultCell
import Derived.Test.YtaefninikmaiiaaGreatDoorGp2
import Derived.Deep.RegionWith
import Derived.Deep.CutRange
import Derived.Deep.RegionHeld3
import Derived.Deep.LoopGhost
/- Texts of this claim laid together, one behind the other: contracts and plain lemmas; conditions as each names them. -/
/- A write taken off a reader: the contract of takeWrite. Conditions: the reader is one of NewReader with nothing wrong. -/
namespace Go.Proofs.YtaefninikmaiiaaGreatDoor
open Go.ChangeShapes Go.WideShapes Go.ChangeAt Go.RowKit Go.Lib
set_option linter.unusedVariables false

/-- A write's struct in a block of its own. -/
structure B3 (w : World) (b : Nat) (u v x : Value) : Prop where
  box : w.heap[b]? = some (.cells #[u, v, x] 124 (0, 0))
theorem B3.lt {w : World} {b : Nat} {u v x : Value} (h : B3 w b u v x) : b < w.heap.size := lt_of_block h.box
theorem B3.c0 {w : World} {b : Nat} {u v x : Value} (h : B3 w b u v x) : w.cell? ⟨b, 0, none⟩ = some u := by simp [World.cell?, h.box]
theorem B3.c1 {w : World} {b : Nat} {u v x : Value} (h : B3 w b u v x) : w.cell? ⟨b, 1, none⟩ = some v := by simp [World.cell?, h.box]
theorem B3.c2 {w : World} {b : Nat} {u v x : Value} (h : B3 w b u v x) : w.cell? ⟨b, 2, none⟩ = some x := by simp [World.cell?, h.box]
theorem B3.f0 {w : World} {b : Nat} {u v x : Value} (h : B3 w b u v x) : w.frozen? ⟨b, 0, none⟩ = false := by simp [World.frozen?, h.box]
theorem B3.f1 {w : World} {b : Nat} {u v x : Value} (h : B3 w b u v x) : w.frozen? ⟨b, 1, none⟩ = false := by simp [World.frozen?, h.box]
theorem B3.f2 {w : World} {b : Nat} {u v x : Value} (h : B3 w b u v x) : w.frozen? ⟨b, 2, none⟩ = false := by simp [World.frozen?, h.box]
theorem B3.keep {S : List Nat} {w w' : World} {b : Nat} {u v x : Value} (h : B3 w b u v x) (hf : Fr S w w') (hn : b ∉ S) : B3 w' b u v x := ⟨hf.keep h.box hn⟩
theorem Fr.wide {S : List Nat} {w w' : World} (h : Fr [] w w') : Fr S w w' := h.mono (by simp)
theorem Fr.set3 {g : Nat} {w w1 : World} {b : Nat} (h : Fr [g] w w1) (hb : w.heap.size ≤ b) (u v x : Value) : Fr [g] w (((w1.setCell ⟨b, 0, none⟩ u).setCell ⟨b, 1, none⟩ v).setCell ⟨b, 2, none⟩ x) := by
  have k : Fr [b] w1 (((w1.setCell ⟨b, 0, none⟩ u).setCell ⟨b, 1, none⟩ v).setCell ⟨b, 2, none⟩ x) :=
    ((Fr.set w1 ⟨b, 0, none⟩ u (by simp)).then (Fr.set _ ⟨b, 1, none⟩ v (by simp))).then (Fr.set _ ⟨b, 2, none⟩ x (by simp))
  exact h.trans k (fun _ x _ => x) (fun y hy hl => by simp at hy; omega)

set_option maxHeartbeats 4000000 in
set_option maxRecDepth 100000 in
theorem takeWrite_err (g r c : Nat) (xs : List Nat) (ao : Option Addr) (cap : Nat) (w : World) (h : Rd w g r xs 0 ao cap) (hd : decW xs = .error c) :
    Er 191 #[.pointer (some ⟨g, 0, none⟩)] w (.tuple #[.agg #[.string ⟨#[]⟩, .string ⟨#[]⟩, .bool false], .int .i64 (c : Int)]) g := by
  show Calls _ _ _ _ _
  have HD : Hid (_ = _) := hd
  clear hd
  have hgl := h.lt
  obtain ⟨w0, HW0⟩ : ∃ w0, Hid ((w.alloc (.cells #[.pointer (some ⟨g, 0, none⟩)] 187)).alloc (.cells #[.string ⟨#[]⟩, .string ⟨#[]⟩, .bool false] 124) = w0) := ⟨_, rfl⟩
  have hF0 : Fr [] w w0 := by rw [← HW0.out]; exact (Fr.alloc [] w _).then (Fr.alloc [] _ _)
  have hb : w0.heap[w.heap.size]? = some (.cells #[.pointer (some ⟨g, 0, none⟩)] 187 (0, 0)) := by
    rw [← HW0.out]; exact (Fr.alloc [] _ _).keep (heap_alloc_new w _) (by simp)
  have hB : B3 w0 (w.heap.size + 1) (.string ⟨#[]⟩) (.string ⟨#[]⟩) (.bool false) := by
    refine ⟨?_⟩
    rw [← HW0.out]
    have := heap_alloc_new (w.alloc (.cells #[.pointer (some ⟨g, 0, none⟩)] 187)) (.cells #[.string ⟨#[]⟩, .string ⟨#[]⟩, .bool false] 124)
    simpa using this
  have hng : w.heap.size ∉ [g] := by simp; omega
  have hng1 : w.heap.size + 1 ∉ [g] := by simp; omega
  have cb : w0.cell? ⟨w.heap.size, 0, none⟩ = some (.pointer (some ⟨g, 0, none⟩)) := by simp [World.cell?, hb]
  have h0 : Rd w0 g r xs 0 ao cap := h.keep hF0 (by simp) (by simp)
  have hG0 := hF0.wide (S := [g])
  go_enter Tryz.func191, Tryz.ntmps191
  go_wp2_with fail
  rw [HW0.out]
  rcases takeK_any g r xs ao cap w0 h0 w.heap.size cb with ⟨c1, hc1, h1, hE⟩ | ⟨key, ys, h1, hE⟩
  · have hcc : c1 = c := by have := HD.out; unfold decW at this; rw [h1] at this; cases this; rfl
    subst hcc
    have hcb : ((c1 : Int) != 0) = true := by rw [bne_iff_ne]; omega
    clear hc1 HD
    refine hE.calls.mono ?_
    rintro e w1 ⟨rfl, hF1⟩
    have hB1 := hB.keep hF1 hng1
    obtain ⟨x0, x1, x2, y0, y1, y2⟩ : _ ∧ _ ∧ _ ∧ _ ∧ _ ∧ _ := ⟨hB1.c0, hB1.c1, hB1.c2, hB1.f0, hB1.f1, hB1.f2⟩
    have hF := hG0.then hF1
    clear hE hB1
    go_wp2
    refine bodyPost_ret (v := .tuple #[.agg #[.string ⟨#[]⟩, .string ⟨#[]⟩, .bool false], .int .i64 (c1 : Int)]) (by rw [results_cell_tmp rfl]; go_simp) rfl ⟨rfl, ?_⟩
    exact hF.set3 (by omega) _ _ _
  · refine hE.calls.mono ?_
    rintro e w1 ⟨rfl, ao1, cap1, hR1, hF1⟩
    have hB1 := hB.keep hF1 hng1
    have hb1 := hF1.keep hb hng
    have cb1 : w1.cell? ⟨w.heap.size, 0, none⟩ = some (.pointer (some ⟨g, 0, none⟩)) := by simp [World.cell?, hb1]
    have hG1 := hG0.then hF1
    clear hE
    go_wp2_with fail
    rcases takeD_any g r ys ao1 cap1 w1 hR1 w.heap.size cb1 with ⟨c1, hc1, h2, hE⟩ | ⟨d, zs, h2, hE⟩
    · have hcc : c1 = c := by have := HD.out; unfold decW at this; rw [h1] at this; simp only at this; unfold decD at this; rw [h2] at this; cases this; rfl
      subst hcc
      have hcb : ((c1 : Int) != 0) = true := by rw [bne_iff_ne]; omega
      clear hc1 HD
      refine hE.calls.mono ?_
      rintro e w2 ⟨rfl, hF2⟩
      have hB2 := hB1.keep hF2 hng1
      obtain ⟨x0, x1, x2, y0, y1, y2⟩ : _ ∧ _ ∧ _ ∧ _ ∧ _ ∧ _ := ⟨hB2.c0, hB2.c1, hB2.c2, hB2.f0, hB2.f1, hB2.f2⟩
      have hF := hG1.then hF2
      clear hE hB2
      go_wp2
      refine bodyPost_ret (v := .tuple #[.agg #[.string ⟨#[]⟩, .string ⟨#[]⟩, .bool false], .int .i64 (c1 : Int)]) (by rw [results_cell_tmp rfl]; go_simp) rfl ⟨rfl, ?_⟩
      exact hF.set3 (by omega) _ _ _
    · obtain ⟨_, hd01⟩ := tkD_inv h2
      have hd0 : d = 0 := by
        rcases hd01 with h' | h'
        · exact h'
        · exfalso
          have := HD.out; unfold decW at this; rw [h1] at this; simp only at this; unfold decD at this; rw [h2] at this; simp only at this; rw [if_pos h'] at this; cases this
      subst hd0
      refine hE.calls.mono ?_
      rintro e w2 ⟨rfl, ao2, cap2, hR2, hF2⟩
      have hB2 := hB1.keep hF2 hng1
      have hb2 := hF2.keep hb1 hng
      have cb2 : w2.cell? ⟨w.heap.size, 0, none⟩ = some (.pointer (some ⟨g, 0, none⟩)) := by simp [World.cell?, hb2]
      have hG2 := hG1.then hF2
      clear hE
      go_wp2_with fail
      rcases takeV_any g r zs ao2 cap2 w2 hR2 w.heap.size cb2 with ⟨c1, hc1, h3, hE⟩ | ⟨val, us, h3, hE⟩
      · have hcc : c1 = c := by have := HD.out; unfold decW at this; rw [h1] at this; simp only at this; unfold decD at this; rw [h2] at this; simp only at this; rw [if_neg (by decide)] at this; unfold decV at this; rw [h3] at this; cases this; rfl
        subst hcc
        have hcb : ((c1 : Int) != 0) = true := by rw [bne_iff_ne]; omega
        clear hc1 HD
        refine hE.calls.mono ?_
        rintro e w3 ⟨rfl, hF3⟩
        have hB3 := hB2.keep hF3 hng1
        obtain ⟨x0, x1, x2, y0, y1, y2⟩ : _ ∧ _ ∧ _ ∧ _ ∧ _ ∧ _ := ⟨hB3.c0, hB3.c1, hB3.c2, hB3.f0, hB3.f1, hB3.f2⟩
        have hF := hG2.then hF3
        clear hE hB3
        go_wp2
        refine bodyPost_ret (v := .tuple #[.agg #[.string ⟨#[]⟩, .string ⟨#[]⟩, .bool false], .int .i64 (c1 : Int)]) (by rw [results_cell_tmp rfl]; go_simp) rfl ⟨rfl, ?_⟩
        exact hF.set3 (by omega) _ _ _
      · exfalso
        have := HD.out; unfold decW at this; rw [h1] at this; simp only at this; unfold decD at this; rw [h2] at this; simp only at this; rw [if_neg (by decide)] at this; unfold decV at this; rw [h3] at this; cases this
set_option maxHeartbeats 4000000 in
set_option maxRecDepth 100000 in
theorem takeWrite_ok (g r : Nat) (key val : ByteArray) (drop : Bool) (xs rest : List Nat) (ao : Option Addr) (cap : Nat) (w : World) (h : Rd w g r xs 0 ao cap) (hr : r < w.heap.size) (hd : decW xs = .ok (⟨key, val, drop⟩, rest)) :
    Dn 191 #[.pointer (some ⟨g, 0, none⟩)] w (.tuple #[.agg #[.string key, .string val, .bool drop], .int .i64 0]) g r rest 0 := by
  show Calls _ _ _ _ _
  have HD : Hid (_ = _) := hd
  clear hd
  have hgl := h.lt
  obtain ⟨w0, HW0⟩ : ∃ w0, Hid ((w.alloc (.cells #[.pointer (some ⟨g, 0, none⟩)] 187)).alloc (.cells #[.string ⟨#[]⟩, .string ⟨#[]⟩, .bool false] 124) = w0) := ⟨_, rfl⟩
  have hF0 : Fr [] w w0 := by rw [← HW0.out]; exact (Fr.alloc [] w _).then (Fr.alloc [] _ _)
  have hb : w0.heap[w.heap.size]? = some (.cells #[.pointer (some ⟨g, 0, none⟩)] 187 (0, 0)) := by
    rw [← HW0.out]; exact (Fr.alloc [] _ _).keep (heap_alloc_new w _) (by simp)
  have hB : B3 w0 (w.heap.size + 1) (.string ⟨#[]⟩) (.string ⟨#[]⟩) (.bool false) := by
    refine ⟨?_⟩
    rw [← HW0.out]
    have := heap_alloc_new (w.alloc (.cells #[.pointer (some ⟨g, 0, none⟩)] 187)) (.cells #[.string ⟨#[]⟩, .string ⟨#[]⟩, .bool false] 124)
    simpa using this
  have hng : w.heap.size ∉ [g] := by simp; omega
  have hng1 : w.heap.size + 1 ∉ [g] := by simp; omega
  have cb : w0.cell? ⟨w.heap.size, 0, none⟩ = some (.pointer (some ⟨g, 0, none⟩)) := by simp [World.cell?, hb]
  have h0 : Rd w0 g r xs 0 ao cap := h.keep hF0 (by simp) (by simp)
  have hG0 := hF0.wide (S := [g])
  go_enter Tryz.func191, Tryz.ntmps191
  go_wp2_with fail
  rw [HW0.out]
  rcases takeK_any g r xs ao cap w0 h0 w.heap.size cb with ⟨c1, hc1, h1, hE⟩ | ⟨k0, ys, h1, hE⟩
  · exfalso
    have := HD.out; unfold decW at this; rw [h1] at this; cases this
  · refine hE.calls.mono ?_
    rintro e w1 ⟨rfl, ao1, cap1, hR1, hF1⟩
    have hB1 := hB.keep hF1 hng1
    have hb1 := hF1.keep hb hng
    have cb1 : w1.cell? ⟨w.heap.size, 0, none⟩ = some (.pointer (some ⟨g, 0, none⟩)) := by simp [World.cell?, hb1]
    have hG1 := hG0.then hF1
    clear hE
    go_wp2_with fail
    rcases takeD_any g r ys ao1 cap1 w1 hR1 w.heap.size cb1 with ⟨c1, hc1, h2, hE⟩ | ⟨d, zs, h2, hE⟩
    · exfalso
      have := HD.out; unfold decW at this; rw [h1] at this; simp only at this; unfold decD at this; rw [h2] at this; cases this
    · obtain ⟨_, hd01⟩ := tkD_inv h2
      rcases hd01 with h' | h'
      · subst h'
        refine hE.calls.mono ?_
        rintro e w2 ⟨rfl, ao2, cap2, hR2, hF2⟩
        have hB2 := hB1.keep hF2 hng1
        have hb2 := hF2.keep hb1 hng
        have cb2 : w2.cell? ⟨w.heap.size, 0, none⟩ = some (.pointer (some ⟨g, 0, none⟩)) := by simp [World.cell?, hb2]
        have hG2 := hG1.then hF2
        clear hE
        go_wp2_with fail
        rcases takeV_any g r zs ao2 cap2 w2 hR2 w.heap.size cb2 with ⟨c1, hc1, h3, hE⟩ | ⟨v0, us, h3, hE⟩
        · exfalso
          have := HD.out; unfold decW at this; rw [h1] at this; simp only at this; unfold decD at this; rw [h2] at this; simp only at this; rw [if_neg (by decide)] at this; unfold decV at this; rw [h3] at this; cases this
        · have HQ : Hid (k0 = key ∧ v0 = val ∧ false = drop ∧ us = rest) := by
            have := HD.out; unfold decW at this; rw [h1] at this; simp only at this; unfold decD at this; rw [h2] at this; simp only at this; rw [if_neg (by decide)] at this; unfold decV at this; rw [h3] at this
            simp only [Except.ok.injEq, Prod.mk.injEq, Wt.mk.injEq] at this
            obtain ⟨⟨a, b, c⟩, d⟩ := this
            exact ⟨a, b, c, d⟩
          clear HD h1 h2 h3
          refine hE.calls.mono ?_
          rintro e w3 ⟨rfl, ao3, cap3, hR3, hF3⟩
          have hB3 := hB2.keep hF3 hng1
          have hb3 := hF3.keep hb2 hng
          have cb3 : w3.cell? ⟨w.heap.size, 0, none⟩ = some (.pointer (some ⟨g, 0, none⟩)) := by simp [World.cell?, hb3]
          have hG3 := hG2.then hF3
          clear hE
          obtain ⟨x0, x1, x2, y0, y1, y2⟩ : _ ∧ _ ∧ _ ∧ _ ∧ _ ∧ _ := ⟨hB3.c0, hB3.c1, hB3.c2, hB3.f0, hB3.f1, hB3.f2⟩
          have hsz := hF0.size
          have h3 : Fr [w.heap.size + 1] w3 (((w3.setCell ⟨w.heap.size + 1, 0, none⟩ (.string k0)).setCell ⟨w.heap.size + 1, 1, none⟩ (.string v0)).setCell ⟨w.heap.size + 1, 2, none⟩ (.bool false)) :=
            ((Fr.set w3 ⟨w.heap.size + 1, 0, none⟩ _ (by simp)).then (Fr.set _ ⟨w.heap.size + 1, 1, none⟩ _ (by simp))).then (Fr.set _ ⟨w.heap.size + 1, 2, none⟩ _ (by simp))
          have HX : Hid (Rd _ g r _ 0 ao3 cap3) := hR3.keep h3 (by simp; omega) (by simp; omega)
          have HF : Hid (Fr [g] w _) := hG3.set3 (b := w.heap.size + 1) (by omega) (.string k0) (.string v0) (.bool false)
          clear hB3 h3 hR3
          go_wp2
          refine bodyPost_ret (v := .tuple #[.agg #[.string k0, (.string v0), (.bool false)], .int .i64 0]) (by rw [results_cell_tmp rfl]; go_simp) rfl ⟨?_, ao3, cap3, ?_, HF.out⟩
          · obtain ⟨a, b, c, d⟩ := HQ.out
            rw [← a, ← b, ← c]
          · obtain ⟨a, b, c, d⟩ := HQ.out
            rw [← d]
            exact HX.out
      · subst h'
        have HQ : Hid (k0 = key ∧ noS = val ∧ true = drop ∧ zs = rest) := by
          have := HD.out; unfold decW at this; rw [h1] at this; simp only at this; unfold decD at this; rw [h2] at this
          simp only [if_true, Except.ok.injEq, Prod.mk.injEq, Wt.mk.injEq] at this
          obtain ⟨⟨a, b, c⟩, d⟩ := this
          exact ⟨a, b, c, d⟩
        clear HD h1 h2
        refine hE.calls.mono ?_
        rintro e w2 ⟨rfl, ao2, cap2, hR2, hF2⟩
        have hB2 := hB1.keep hF2 hng1
        have hb2 := hF2.keep hb1 hng
        have cb2 : w2.cell? ⟨w.heap.size, 0, none⟩ = some (.pointer (some ⟨g, 0, none⟩)) := by simp [World.cell?, hb2]
        have hG2 := hG1.then hF2
        clear hE
        obtain ⟨x0, x1, x2, y0, y1, y2⟩ : _ ∧ _ ∧ _ ∧ _ ∧ _ ∧ _ := ⟨hB2.c0, hB2.c1, hB2.c2, hB2.f0, hB2.f1, hB2.f2⟩
        have hsz := hF0.size
        have h3 : Fr [w.heap.size + 1] w2 (((w2.setCell ⟨w.heap.size + 1, 0, none⟩ (.string k0)).setCell ⟨w.heap.size + 1, 1, none⟩ (.string ⟨#[]⟩)).setCell ⟨w.heap.size + 1, 2, none⟩ (.bool true)) :=
          ((Fr.set w2 ⟨w.heap.size + 1, 0, none⟩ _ (by simp)).then (Fr.set _ ⟨w.heap.size + 1, 1, none⟩ _ (by simp))).then (Fr.set _ ⟨w.heap.size + 1, 2, none⟩ _ (by simp))
        have HX : Hid (Rd _ g r _ 0 ao2 cap2) := hR2.keep h3 (by simp; omega) (by simp; omega)
        have HF : Hid (Fr [g] w _) := hG2.set3 (b := w.heap.size + 1) (by omega) (.string k0) (.string ⟨#[]⟩) (.bool true)
        clear hB2 h3 hR2
        go_wp2
        refine bodyPost_ret (v := .tuple #[.agg #[.string k0, (.string ⟨#[]⟩), (.bool true)], .int .i64 0]) (by rw [results_cell_tmp rfl]; go_simp) rfl ⟨?_, ao2, cap2, ?_, HF.out⟩
        · obtain ⟨a, b, c, d⟩ := HQ.out
          rw [← a, ← b, ← c]
          rfl
        · obtain ⟨a, b, c, d⟩ := HQ.out
          rw [← d]
          exact HX.out
end Go.Proofs.YtaefninikmaiiaaGreatDoor
/- A transaction read off bytes: the contract of Decode. Conditions: fewer than 2^41 bytes. -/
namespace Go.Proofs.YtaefninikmaiiaaGreatDoor
open Go.ChangeShapes Go.WideShapes Go.ChangeAt Go.RowKit Go.Lib
set_option linter.unusedVariables false

theorem Tryz.undWs : Tryz.prog.underlying 61 = some (.slice 124) := by kernel_rfl
theorem Tryz.bytesWt : ((Tryz.prog.info? 124).map (fun i => decide (i.bytes ≤ 64))) = some true := by kernel_rfl

def glue (ds : List Wt) : Except Nat (List Wt × List Nat) → Except Nat (List Wt × List Nat)
  | .error e => .error e
  | .ok (ws, r) => .ok (ds ++ ws, r)
theorem glue_nil (x : Except Nat (List Wt × List Nat)) : glue [] x = x := by
  cases x with
  | error e => rfl
  | ok p => rfl
theorem glue_ok {ds : List Wt} {k : Nat} {ys zs : List Nat} {x : Wt} (h : decW ys = .ok (x, zs)) : glue ds (decWs (k + 1) ys) = glue (ds ++ [x]) (decWs k zs) := by
  rw [decWs, h]
  simp only
  cases decWs k zs with
  | error e => rfl
  | ok p => simp [glue]
theorem glue_err {ds : List Wt} {k c : Nat} {ys : List Nat} (h : decW ys = .error c) : glue ds (decWs (k + 1) ys) = .error c := by
  rw [decWs, h]
  rfl
theorem glue_end (ds : List Wt) (ys : List Nat) : glue ds (decWs 0 ys) = .ok (ds, ys) := by simp [decWs, glue]

theorem set3 (A R : List Value) (a b c x y z : Value) (j : Nat) (hA : A.length = j) : (((A ++ a :: b :: c :: R).set j x).set (j + 1) y).set (j + 2) z = A ++ x :: y :: z :: R := by
  subst hA
  rw [List.set_append_right _ _ (Nat.le_refl _), List.set_append_right _ _ (by omega), List.set_append_right _ _ (by omega)]
  simp
theorem row_put {w : World} {b j : Nat} {cs : Array Value} {t : TypeId} (x : Value) (h : w.heap[b]? = some (.cells cs t (0, 0))) : (w.setCell ⟨b, j, none⟩ x).heap[b]? = some (.cells (cs.setIfInBounds j x) t (0, 0)) := by
  have hlt := lt_of_block h
  have h' : w.heap[b] = .cells cs t (0, 0) := by simpa [Array.getElem?_eq_getElem hlt] using h
  show (w.heap.modify b _)[b]? = _
  rw [Array.getElem?_eq_getElem (by simpa using hlt), Array.getElem_modify_self, h']
  rfl
/-- A row of writes in a block of its own: those that are there, and others behind. -/
structure Ww (w : World) (k : Nat) (ds : List Wt) (R : List Value) : Prop where
  box : w.heap[k]? = some (.cells (wtsC ds ++ R).toArray 124 (0, 0))
theorem Ww.keep {S : List Nat} {w w' : World} {k : Nat} {ds : List Wt} {R : List Value} (h : Ww w k ds R) (hf : Fr S w w') (hn : k ∉ S) : Ww w' k ds R := ⟨hf.keep h.box hn⟩
theorem Ww.lt {w : World} {k : Nat} {ds : List Wt} {R : List Value} (h : Ww w k ds R) : k < w.heap.size := lt_of_block h.box
theorem Ww.cell {w : World} {k : Nat} {ds : List Wt} {a b c : Value} {R : List Value} (h : Ww w k ds (a :: b :: c :: R)) :
    w.cell? ⟨k, ds.length * 3, none⟩ = some a ∧ w.cell? ⟨k, ds.length * 3 + 1, none⟩ = some b ∧ w.cell? ⟨k, ds.length * 3 + 2, none⟩ = some c := by
  refine ⟨?_, ?_, ?_⟩ <;> (rw [cell_of_row _ _ _ _ _ _ h.box]; simp only [List.getElem?_toArray]; rw [List.getElem?_append_right (by rw [wtsC_length]; omega), wtsC_length])
  · simp
  · rw [show ds.length * 3 + 1 - ds.length * 3 = 1 by omega]; rfl
  · rw [show ds.length * 3 + 2 - ds.length * 3 = 2 by omega]; rfl
theorem Ww.free {w : World} {k : Nat} {ds : List Wt} {R : List Value} (h : Ww w k ds R) (j : Nat) : w.frozen? ⟨k, j, none⟩ = false := by simp [World.frozen?, h.box]
theorem Ww.put {w : World} {k : Nat} {ds : List Wt} {a b c : Value} {R : List Value} (h : Ww w k ds (a :: b :: c :: R)) (x : Wt) :
    Ww (((w.setCell ⟨k, ds.length * 3, none⟩ (.string x.key)).setCell ⟨k, ds.length * 3 + 1, none⟩ (.string x.val)).setCell ⟨k, ds.length * 3 + 2, none⟩ (.bool x.drop)) k (ds ++ [x]) R := by
  refine ⟨?_⟩
  rw [row_put _ (row_put _ (row_put _ h.box))]
  congr 2
  apply Array.toList_inj.1
  simp only [Array.toList_setIfInBounds]
  rw [set3 (wtsC ds) R a b c _ _ _ _ (wtsC_length ds), wtsC_append]
  simp [wtsC, wtC]
theorem Fr.at3 (w : World) (k a b c : Nat) (x y z : Value) : Fr [k] w (((w.setCell ⟨k, a, none⟩ x).setCell ⟨k, b, none⟩ y).setCell ⟨k, c, none⟩ z) :=
  ((Fr.set w ⟨k, a, none⟩ x (by simp)).then (Fr.set _ ⟨k, b, none⟩ y (by simp))).then (Fr.set _ ⟨k, c, none⟩ z (by simp))
theorem Fr.set2 {w w1 : World} {b : Nat} (h : Fr [] w w1) (hb : w.heap.size ≤ b) (u v : Value) : Fr [] w ((w1.setCell ⟨b, 0, none⟩ u).setCell ⟨b, 1, none⟩ v) :=
  h.on ((Fr.set w1 ⟨b, 0, none⟩ u (by simp)).then (Fr.set _ ⟨b, 1, none⟩ v (by simp) : Fr [b] _ _)) (by intro x hx; simp at hx; omega)
/-- A transaction's struct in a block of its own. -/
structure B2 (w : World) (b : Nat) (u v : Value) : Prop where
  box : w.heap[b]? = some (.cells #[u, v] 63 (0, 0))
theorem B2.lt {w : World} {b : Nat} {u v : Value} (h : B2 w b u v) : b < w.heap.size := lt_of_block h.box
theorem B2.c0 {w : World} {b : Nat} {u v : Value} (h : B2 w b u v) : w.cell? ⟨b, 0, none⟩ = some u := by simp [World.cell?, h.box]
theorem B2.c1 {w : World} {b : Nat} {u v : Value} (h : B2 w b u v) : w.cell? ⟨b, 1, none⟩ = some v := by simp [World.cell?, h.box]
theorem B2.f0 {w : World} {b : Nat} {u v : Value} (h : B2 w b u v) : w.frozen? ⟨b, 0, none⟩ = false := by simp [World.frozen?, h.box]
theorem B2.f1 {w : World} {b : Nat} {u v : Value} (h : B2 w b u v) : w.frozen? ⟨b, 1, none⟩ = false := by simp [World.frozen?, h.box]
theorem B2.keep {w w' : World} {b : Nat} {u v : Value} (h : B2 w b u v) (hf : Fr [] w w') : B2 w' b u v := ⟨hf.keep h.box (by simp)⟩
/-- A reader that was made since w0, in a world that left w0's blocks alone. -/
structure RB (w0 w : World) (g r : Nat) (ys : List Nat) (ao : Option Addr) (cap : Nat) : Prop where
  rd : Rd w g r ys 0 ao cap
  fr : Fr [] w0 w
  gg : w0.heap.size ≤ g
  rr : w0.heap.size ≤ r
theorem RB.next {w0 w w' : World} {g r : Nat} {ys zs : List Nat} {ao ao' : Option Addr} {cap cap' : Nat} (h : RB w0 w g r ys ao cap) (hR : Rd w' g r zs 0 ao' cap') (hF : Fr [g] w w') : RB w0 w' g r zs ao' cap' :=
  ⟨hR, h.fr.on hF (by intro x hx; simp at hx; have := h.gg; omega), h.gg, h.rr⟩
theorem RB.end_ {w0 w w' : World} {g r : Nat} {ys : List Nat} {ao : Option Addr} {cap : Nat} (h : RB w0 w g r ys ao cap) (hF : Fr [g] w w') : Fr [] w0 w' :=
  h.fr.on hF (by intro x hx; simp at hx; have := h.gg; omega)
theorem RB.quiet {w0 w w' : World} {g r : Nat} {ys : List Nat} {ao : Option Addr} {cap : Nat} (h : RB w0 w g r ys ao cap) (hF : Fr [] w w') : RB w0 w' g r ys ao cap :=
  ⟨h.rd.keep hF (by simp) (by simp), h.fr.then hF, h.gg, h.rr⟩
theorem made_row {w' : World} {b C : Nat} {ys : List Value} (h : w'.ownsRow 0 124 3 (.slice (some ⟨b, 0, none⟩) C C) C ys) : ∃ R : List Value, R.length = C * 3 ∧ Ww w' b [] R := by
  have hl := h.1
  rcases h.2 with ⟨hh, _⟩ | ⟨g', cap', cur, hh, hb, hg, hnc, hcm, hcs, ht⟩
  · cases hh
  · cases hh
    exact ⟨cur.toList, by simpa using hcs, ⟨by simpa [wtsC] using hg⟩⟩
theorem more3 {R : List Value} {m : Nat} (h : R.length = (m + 1) * 3) : ∃ a b c S, R = a :: b :: c :: S ∧ S.length = m * 3 := by
  match R, h with
  | a :: b :: c :: S, h => exact ⟨a, b, c, S, rfl, by simp at h; omega⟩
  | [], h => simp at h
  | [_], h => simp at h; omega
  | [_, _], h => simp at h; omega
theorem endOf_0 : endOf 0 0 = 0 := rfl
theorem endOf_4 (n : Nat) (h : 0 < n) : endOf 0 n = 4 := by simp [endOf]; omega
theorem refC_le {n : Nat} (h : refC n = 0) : n ≤ 32 := by unfold refC at h; split at h <;> omega
theorem refN_le {n : Nat} (h : refN n = 0) : 1 ≤ n ∧ n ≤ 65536 := by unfold refN at h; split at h <;> omega
theorem tk_ref {α : Type} {f : List Nat → α × Nat × Nat} {ref : α → Nat} {xs r : List Nat} {v : α} (h : tk f ref xs = .ok (v, r)) : ref v = 0 := (tk_inv h).2.2.1

theorem BArg.src' {w w0 : World} {ao : Option Addr} {L cap : Nat} {xs : List Nat} (h : BArg w ao L cap xs) (hf : Fr [] w w0) : 0 < L → ∃ a, ao = some a ∧ ∀ j u, (bts xs)[j]? = some u → w0.cell? (a.add j) = some u := (h.keep hf).src
theorem info_parts2 {P : Program} {t : TypeId} {z : Value} {n : Nat} (h : (P.info? t).map (fun i => (i.zero, i.size)) = some (some z, n)) : ∃ i, P.info? t = some i ∧ i.zero = some z ∧ i.size = n := by
  cases hi : P.info? t with
  | none => rw [hi] at h; cases h
  | some i =>
    rw [hi] at h
    simp only [Option.map_some, Option.some.injEq, Prod.mk.injEq] at h
    exact ⟨i, rfl, h.1, h.2⟩

set_option maxHeartbeats 8000000 in
set_option maxRecDepth 100000 in
theorem decode_err (ao : Option Addr) (L cap c : Nat) (xs : List Nat) (w : World) (hA : BArg w ao L cap xs) (hL : L = xs.length) (hlen : xs.length < 2^41) (hd : decT xs = .error c) :
    Calls Tryz.prog 168 #[.slice ao L cap] w fun e w' => e = .returned (.tuple #[.agg #[.int .i64 0, .slice none 0 0], .int .i64 (c : Int)]) ∧ Fr [] w w' := by
  have HD : Hid (_ = _) := hd
  have HL : Hid (L = xs.length) := hL
  clear hd hL
  obtain ⟨iW, hiW, hzW, hsW⟩ := info_parts2 Tryz.infoWt
  have hbW : iW.bytes ≤ 64 := by have := Tryz.bytesWt; rw [hiW] at this; simpa using this
  obtain ⟨w0, HW0⟩ : ∃ w0, Hid (w.alloc (.cells #[.int .i64 0, .slice none 0 0] 63) = w0) := ⟨_, rfl⟩
  have hF0 : Fr [] w w0 := by rw [← HW0.out]; exact Fr.alloc [] w _
  have hT0 : B2 w0 w.heap.size (.int .i64 0) (.slice none 0 0) := ⟨by rw [← HW0.out]; exact heap_alloc_new w _⟩
  have hs0 : w0.heap.size = w.heap.size + 1 := by rw [← HW0.out]; simp
  go_enter Tryz.func168, Tryz.ntmps168
  go_wp2_with fail
  rw [HW0.out]
  refine (newReader_any ao L cap xs _ HL.out (fun h0 => (hA.src' hF0 h0)) hA.low hlen).mono ?_
  rintro e w1 ⟨g, rfl, hg, hR1, hF1⟩
  have hB1 : RB w0 w1 g w0.heap.size xs (some ⟨w0.heap.size, 0, none⟩) xs.length := ⟨hR1, hF1, by omega, Nat.le_refl _⟩
  obtain ⟨r, hr⟩ : ∃ r, r = w0.heap.size := ⟨_, rfl⟩
  obtain ⟨ao1, hao1⟩ : ∃ a, a = some (⟨w0.heap.size, 0, none⟩ : Addr) := ⟨_, rfl⟩
  obtain ⟨cap1, hcap1⟩ : ∃ a, a = xs.length := ⟨_, rfl⟩
  have hB1' : RB w0 w1 g r xs ao1 cap1 := by rw [hr, hao1, hcap1]; exact hB1
  have HR : Hid (r = w0.heap.size) := hr
  clear hB1 hR1 hao1 hcap1 hr hF1
  go_wp2_with fail
  rcases takeN_any g r xs ao1 cap1 w1 hB1'.rd with ⟨c1, hc1, h1, hE⟩ | ⟨n, ys, h1, hE⟩
  · have hcc : c1 = c := by have := HD.out; unfold decT at this; rw [h1] at this; cases this; rfl
    subst hcc
    have hcb : ((c1 : Int) != 0) = true := by rw [bne_iff_ne]; omega
    clear hc1 HD
    refine hE.calls.mono ?_
    rintro e w2 ⟨rfl, hF2⟩
    have hF := hB1'.end_ hF2
    clear hE
    have hT := hT0.keep hF
    obtain ⟨x0, x1, y0, y1⟩ : _ ∧ _ ∧ _ ∧ _ := ⟨hT.c0, hT.c1, hT.f0, hT.f1⟩
    have hFF := hF0.then hF
    clear hT
    go_wp2
    refine bodyPost_ret (v := .tuple #[.agg #[.int .i64 0, .slice none 0 0], .int .i64 (c1 : Int)]) (by rw [results_cell_tmp rfl]; go_simp) rfl ⟨rfl, ?_⟩
    exact hFF.set2 (Nat.le_refl _) _ _
  · refine hE.calls.mono ?_
    rintro e w2 ⟨rfl, ao2, cap2, hR2, hF2⟩
    have hB2' := hB1'.next hR2 hF2
    clear hE hR2 hF2
    go_wp2_with fail
    rcases takeC_any g r ys ao2 cap2 w2 hB2'.rd with ⟨c1, hc1, h2, hE⟩ | ⟨C, zs, h2, hE⟩
    · have hcc : c1 = c := by have := HD.out; unfold decT at this; rw [h1] at this; simp only at this; unfold decC at this; rw [h2] at this; cases this; rfl
      subst hcc
      have hcb : ((c1 : Int) != 0) = true := by rw [bne_iff_ne]; omega
      clear hc1 HD
      refine hE.calls.mono ?_
      rintro e w3 ⟨rfl, hF3⟩
      have hF := hB2'.end_ hF3
      clear hE
      have hT := hT0.keep hF
      obtain ⟨x0, x1, y0, y1⟩ : _ ∧ _ ∧ _ ∧ _ := ⟨hT.c0, hT.c1, hT.f0, hT.f1⟩
      have hFF := hF0.then hF
      clear hT
      go_wp2
      refine bodyPost_ret (v := .tuple #[.agg #[.int .i64 0, .slice none 0 0], .int .i64 (c1 : Int)]) (by rw [results_cell_tmp rfl]; go_simp) rfl ⟨rfl, ?_⟩
      exact hFF.set2 (Nat.le_refl _) _ _
    · refine hE.calls.mono ?_
      rintro e w3 ⟨rfl, ao3, cap3, hR3, hF3⟩
      have hB3' := hB2'.next hR3 hF3
      clear hE hR3 hF3
      have hC32 := refC_le (tk_ref h2)
      have hN1 := refN_le (tk_ref h1)
      go_wp2_with (at_make; refine wpList_make_full _ rfl (.tmp 35) (.tmp 35) 61 rfl 0 124 iW _ 3 Tryz.undWs hiW hzW hsW .u64 .u64 C C C rfl rfl rfl rfl ?b2 ?b3 ?b4 ?_)
      case b2 => have : iW.bytes * C ≤ 64 * 32 := Nat.mul_le_mul hbW hC32; omega
      case b3 => unfold maxLen; omega
      case b4 => exact Nat.zero_le _
      intro w4 hown hgrow
      obtain ⟨R0, hR0, hW0⟩ := made_row hown
      have hF4 : Fr [] w3 w4 := Fr.grown (S := []) hgrow (by simp)
      have hB4 := hB3'.quiet hF4
      obtain ⟨k, hk⟩ : ∃ k, k = w3.heap.size := ⟨_, rfl⟩
      have hkg : k ≠ g := by have := hB3'.rd.lt; omega
      have hkr : k ≠ r := by have := hB3'.rd.sl.blk; omega
      have hk0 : w0.heap.size ≤ k := by have := hB3'.fr.size; omega
      rw [← hk] at hW0 ⊢
      clear hown hgrow hF4 hk
      go_wp2_with fail
      go_loopw [39] (fun ii wr => ∃ (i : Nat) (ds : List Wt) (vs : List Nat) (ao' : Option Addr) (cap' : Nat) (R : List Value), ii = .int .i64 i ∧ i ≤ C ∧ Hid (ds.length = i) ∧ Hid (R.length = (C - i) * 3) ∧ Hid (decWs C zs = glue ds (decWs (C - i) vs)) ∧ RB w0 wr g r vs ao' cap' ∧ Ww wr k ds R) (fun ii _ => C - (RowKit.intOf ii).toNat)
      case atStart => exact ⟨0, [], zs, ao3, cap3, R0, rfl, Nat.zero_le _, rfl, hR0, by show _ = _; rw [glue_nil]; rfl, hB4, hW0⟩
      case round =>
        obtain ⟨i, ds, vs, ao', cap', R, rfl, hiC, HI, HRl, HG, hBr, hWr⟩ := hrel
        by_cases hi : i < C
        · obtain ⟨m, hm⟩ : ∃ m, C - i = m + 1 := ⟨C - i - 1, by omega⟩
          obtain ⟨a, b, cc, S, rfl, hS⟩ := more3 (hm ▸ HRl.out)
          have hlt : (i : Int) < C := by omega
          cases hdw : decW vs with
          | error c1 =>
            have hcc : c1 = c := by
              have := HD.out; unfold decT at this; rw [h1] at this; simp only at this; unfold decC at this; rw [h2] at this; simp only at this; rw [HG.out, hm, glue_err hdw] at this; cases this; rfl
            subst hcc
            have hc1 : c1 ≠ 0 := by
              intro h0
              subst h0
              unfold decW decD decV at hdw
              repeat' split at hdw
              all_goals first | (cases hdw; rename_i hh; exact tk_code hh rfl) | (cases hdw)
            have hcb : ((c1 : Int) != 0) = true := by rw [bne_iff_ne]; omega
            clear HD hc1
            go_wp2_with fail
            refine (takeWrite_err g r c1 vs ao' cap' _ hBr.rd hdw).calls.mono ?_
            rintro e w5 ⟨rfl, hF5⟩
            have hWr1 := hWr.keep hF5 (by simp; exact hkg)
            obtain ⟨q0, q1, q2⟩ := hWr1.cell
            have p0 := hWr1.free (ds.length * 3)
            have p1 := hWr1.free (ds.length * 3 + 1)
            have p2 := hWr1.free (ds.length * 3 + 2)
            rw [HI.out] at q0 q1 q2 p0 p1 p2
            have hFe := hBr.end_ hF5
            have hF6 : Fr [] w0 (((w5.setCell ⟨k, i * 3, none⟩ (.string ⟨#[]⟩)).setCell ⟨k, i * 3 + 1, none⟩ (.string ⟨#[]⟩)).setCell ⟨k, i * 3 + 2, none⟩ (.bool false)) := hFe.on (Fr.at3 w5 k _ _ _ _ _ _) (by intro x hx; simp at hx; omega)
            have hT := hT0.keep hF6
            obtain ⟨x0, x1, y0, y1⟩ : _ ∧ _ ∧ _ ∧ _ := ⟨hT.c0, hT.c1, hT.f0, hT.f1⟩
            have hFF := hF0.then hF6
            clear hT hWr hWr1
            go_wp2
            refine bodyPost_ret (v := .tuple #[.agg #[.int .i64 0, .slice none 0 0], .int .i64 (c1 : Int)]) (by rw [results_cell_tmp rfl]; go_simp) rfl ⟨rfl, ?_⟩
            exact hFF.set2 (Nat.le_refl _) _ _
          | ok x =>
            obtain ⟨⟨key, val, drop⟩, us⟩ := x
            have HG2 : Hid (decWs C zs = glue (ds ++ [⟨key, val, drop⟩]) (decWs (C - (i + 1)) us)) := by
              show _ = _
              rw [HG.out, hm, glue_ok hdw, show C - (i + 1) = m by omega]
            go_wp2_with fail
            refine (takeWrite_ok g r key val drop vs us ao' cap' _ hBr.rd hBr.rd.sl.blk hdw).calls.mono ?_
            rintro e w5 ⟨rfl, ao5, cap5, hR5, hF5⟩
            have hB5 := hBr.next hR5 hF5
            have hWr1 := hWr.keep hF5 (by simp; exact hkg)
            obtain ⟨q0, q1, q2⟩ := hWr1.cell
            have p0 := hWr1.free (ds.length * 3)
            have p1 := hWr1.free (ds.length * 3 + 1)
            have p2 := hWr1.free (ds.length * 3 + 2)
            rw [HI.out] at q0 q1 q2 p0 p1 p2
            have hW6 := hWr1.put ⟨key, val, drop⟩
            rw [HI.out] at hW6
            have hF6 := Fr.at3 w5 k (i * 3) (i * 3 + 1) (i * 3 + 2) (.string key) (.string val) (.bool drop)
            have HW6 : Hid (Ww _ k _ S) := hW6
            have HB6 : Hid (RB w0 (((w5.setCell ⟨k, i * 3, none⟩ (.string key)).setCell ⟨k, i * 3 + 1, none⟩ (.string val)).setCell ⟨k, i * 3 + 2, none⟩ (.bool drop)) g r us ao5 cap5) :=
              ⟨hB5.rd.keep hF6 (by simp; exact fun h => hkg h.symm) (by simp; exact fun h => hkr h.symm), hB5.fr.on hF6 (by intro x hx; simp at hx; omega), hB5.gg, hB5.rr⟩
            clear hWr hWr1 hW6 hF6 hB5 hBr hR5 hF5
            go_wp2
            go_roundw
            case rel => exact ⟨i + 1, _, us, ao5, cap5, S, by simp, by omega, by show _ = _; simp [HI.out], by show _ = _; rw [hS]; congr 1; omega, HG2, HB6.out, HW6.out⟩
            case measure => simp [RowKit.intOf]; omega
        · have hiC' : C - i = 0 := by omega
          have hno : ¬ vs.length = 0 ∧ c = 4 := by
            have := HD.out; unfold decT at this; rw [h1] at this; simp only at this; unfold decC at this; rw [h2] at this; simp only at this; rw [HG.out, hiC', glue_end] at this; simp only [decE] at this
            split at this
            · cases this
            · rename_i h'; cases this; exact ⟨h', rfl⟩
          obtain ⟨hvl, rfl⟩ := hno
          have hE4 := end_any g r vs 0 ao' cap' _ hBr.rd
          rw [endOf_4 _ (by omega)] at hE4
          clear HD
          go_wp2_with fail
          refine hE4.mono ?_
          rintro e w5 ⟨rfl, rfl⟩
          have hF := hBr.fr
          have hT := hT0.keep hF
          obtain ⟨x0, x1, y0, y1⟩ : _ ∧ _ ∧ _ ∧ _ := ⟨hT.c0, hT.c1, hT.f0, hT.f1⟩
          have hFF := hF0.then hF
          clear hT
          go_wp2
          refine bodyPost_ret (v := .tuple #[.agg #[.int .i64 0, .slice none 0 0], .int .i64 (4 : Int)]) (by rw [results_cell_tmp rfl]; go_simp) rfl ⟨rfl, ?_⟩
          exact hFF.set2 (Nat.le_refl _) _ _

set_option maxHeartbeats 8000000 in
set_option maxRecDepth 100000 in
theorem decode_ok (ao : Option Addr) (L cap n : Nat) (ws : List Wt) (xs : List Nat) (w : World) (hA : BArg w ao L cap xs) (hL : L = xs.length) (hlen : xs.length < 2^41) (hd : decT xs = .ok (n, ws)) :
    Calls Tryz.prog 168 #[.slice ao L cap] w fun e w' => ∃ k C, e = .returned (.tuple #[.agg #[.int .i64 (n : Int), .slice (some ⟨k, 0, none⟩) C C], .int .i64 0]) ∧ w.heap.size ≤ k ∧ C = ws.length ∧ w'.heap[k]? = some (.cells (wtsC ws).toArray 124 (0, 0)) ∧ Fr [] w w' := by
  have HD : Hid (_ = _) := hd
  have HL : Hid (L = xs.length) := hL
  clear hd hL
  obtain ⟨iW, hiW, hzW, hsW⟩ := info_parts2 Tryz.infoWt
  have hbW : iW.bytes ≤ 64 := by have := Tryz.bytesWt; rw [hiW] at this; simpa using this
  obtain ⟨w0, HW0⟩ : ∃ w0, Hid (w.alloc (.cells #[.int .i64 0, .slice none 0 0] 63) = w0) := ⟨_, rfl⟩
  have hF0 : Fr [] w w0 := by rw [← HW0.out]; exact Fr.alloc [] w _
  have hT0 : B2 w0 w.heap.size (.int .i64 0) (.slice none 0 0) := ⟨by rw [← HW0.out]; exact heap_alloc_new w _⟩
  have hs0 : w0.heap.size = w.heap.size + 1 := by rw [← HW0.out]; simp
  go_enter Tryz.func168, Tryz.ntmps168
  go_wp2_with fail
  rw [HW0.out]
  refine (newReader_any ao L cap xs _ HL.out (fun h0 => (hA.src' hF0 h0)) hA.low hlen).mono ?_
  rintro e w1 ⟨g, rfl, hg, hR1, hF1⟩
  have hB1 : RB w0 w1 g w0.heap.size xs (some ⟨w0.heap.size, 0, none⟩) xs.length := ⟨hR1, hF1, by omega, Nat.le_refl _⟩
  obtain ⟨r, hr⟩ : ∃ r, r = w0.heap.size := ⟨_, rfl⟩
  obtain ⟨ao1, hao1⟩ : ∃ a, a = some (⟨w0.heap.size, 0, none⟩ : Addr) := ⟨_, rfl⟩
  obtain ⟨cap1, hcap1⟩ : ∃ a, a = xs.length := ⟨_, rfl⟩
  have hB1' : RB w0 w1 g r xs ao1 cap1 := by rw [hr, hao1, hcap1]; exact hB1
  have HR : Hid (r = w0.heap.size) := hr
  clear hB1 hR1 hao1 hcap1 hr hF1
  go_wp2_with fail
  rcases takeN_any g r xs ao1 cap1 w1 hB1'.rd with ⟨c1, hc1, h1, hE⟩ | ⟨n0, ys, h1, hE⟩
  · exfalso
    have := HD.out; unfold decT at this; rw [h1] at this; cases this
  · refine hE.calls.mono ?_
    rintro e w2 ⟨rfl, ao2, cap2, hR2, hF2⟩
    have hB2' := hB1'.next hR2 hF2
    clear hE hR2 hF2
    go_wp2_with fail
    rcases takeC_any g r ys ao2 cap2 w2 hB2'.rd with ⟨c1, hc1, h2, hE⟩ | ⟨C, zs, h2, hE⟩
    · exfalso
      have := HD.out; unfold decT at this; rw [h1] at this; simp only at this; unfold decC at this; rw [h2] at this; cases this
    · refine hE.calls.mono ?_
      rintro e w3 ⟨rfl, ao3, cap3, hR3, hF3⟩
      have hB3' := hB2'.next hR3 hF3
      clear hE hR3 hF3
      have hC32 := refC_le (tk_ref h2)
      have hN1 := refN_le (tk_ref h1)
      go_wp2_with (at_make; refine wpList_make_full _ rfl (.tmp 35) (.tmp 35) 61 rfl 0 124 iW _ 3 Tryz.undWs hiW hzW hsW .u64 .u64 C C C rfl rfl rfl rfl ?b2 ?b3 ?b4 ?_)
      case b2 => have : iW.bytes * C ≤ 64 * 32 := Nat.mul_le_mul hbW hC32; omega
      case b3 => unfold maxLen; omega
      case b4 => exact Nat.zero_le _
      intro w4 hown hgrow
      obtain ⟨R0, hR0, hW0⟩ := made_row hown
      have hF4 : Fr [] w3 w4 := Fr.grown (S := []) hgrow (by simp)
      have hB4 := hB3'.quiet hF4
      obtain ⟨k, hk⟩ : ∃ k, k = w3.heap.size := ⟨_, rfl⟩
      have hkg : k ≠ g := by have := hB3'.rd.lt; omega
      have hkr : k ≠ r := by have := hB3'.rd.sl.blk; omega
      have hk0 : w0.heap.size ≤ k := by have := hB3'.fr.size; omega
      rw [← hk] at hW0 ⊢
      clear hown hgrow hF4 hk
      go_wp2_with fail
      go_loopw [39] (fun ii wr => ∃ (i : Nat) (ds : List Wt) (vs : List Nat) (ao' : Option Addr) (cap' : Nat) (R : List Value), ii = .int .i64 i ∧ i ≤ C ∧ Hid (ds.length = i) ∧ Hid (R.length = (C - i) * 3) ∧ Hid (decWs C zs = glue ds (decWs (C - i) vs)) ∧ RB w0 wr g r vs ao' cap' ∧ Ww wr k ds R) (fun ii _ => C - (RowKit.intOf ii).toNat)
      case atStart => exact ⟨0, [], zs, ao3, cap3, R0, rfl, Nat.zero_le _, rfl, hR0, by show _ = _; rw [glue_nil]; rfl, hB4, hW0⟩
      case round =>
        obtain ⟨i, ds, vs, ao', cap', R, rfl, hiC, HI, HRl, HG, hBr, hWr⟩ := hrel
        by_cases hi : i < C
        · obtain ⟨m, hm⟩ : ∃ m, C - i = m + 1 := ⟨C - i - 1, by omega⟩
          obtain ⟨a, b, cc, S, rfl, hS⟩ := more3 (hm ▸ HRl.out)
          have hlt : (i : Int) < C := by omega
          cases hdw : decW vs with
          | error c1 =>
            exfalso
            have := HD.out; unfold decT at this; rw [h1] at this; simp only at this; unfold decC at this; rw [h2] at this; simp only at this; rw [HG.out, hm, glue_err hdw] at this; cases this
          | ok x =>
            obtain ⟨⟨key, val, drop⟩, us⟩ := x
            have HG2 : Hid (decWs C zs = glue (ds ++ [⟨key, val, drop⟩]) (decWs (C - (i + 1)) us)) := by
              show _ = _
              rw [HG.out, hm, glue_ok hdw, show C - (i + 1) = m by omega]
            go_wp2_with fail
            refine (takeWrite_ok g r key val drop vs us ao' cap' _ hBr.rd hBr.rd.sl.blk hdw).calls.mono ?_
            rintro e w5 ⟨rfl, ao5, cap5, hR5, hF5⟩
            have hB5 := hBr.next hR5 hF5
            have hWr1 := hWr.keep hF5 (by simp; exact hkg)
            obtain ⟨q0, q1, q2⟩ := hWr1.cell
            have p0 := hWr1.free (ds.length * 3)
            have p1 := hWr1.free (ds.length * 3 + 1)
            have p2 := hWr1.free (ds.length * 3 + 2)
            rw [HI.out] at q0 q1 q2 p0 p1 p2
            have hW6 := hWr1.put ⟨key, val, drop⟩
            rw [HI.out] at hW6
            have hF6 := Fr.at3 w5 k (i * 3) (i * 3 + 1) (i * 3 + 2) (.string key) (.string val) (.bool drop)
            have HW6 : Hid (Ww _ k _ S) := hW6
            have HB6 : Hid (RB w0 (((w5.setCell ⟨k, i * 3, none⟩ (.string key)).setCell ⟨k, i * 3 + 1, none⟩ (.string val)).setCell ⟨k, i * 3 + 2, none⟩ (.bool drop)) g r us ao5 cap5) :=
              ⟨hB5.rd.keep hF6 (by simp; exact fun h => hkg h.symm) (by simp; exact fun h => hkr h.symm), hB5.fr.on hF6 (by intro x hx; simp at hx; omega), hB5.gg, hB5.rr⟩
            clear hWr hWr1 hW6 hF6 hB5 hBr hR5 hF5
            go_wp2
            go_roundw
            case rel => exact ⟨i + 1, _, us, ao5, cap5, S, by simp, by omega, by show _ = _; simp [HI.out], by show _ = _; rw [hS]; congr 1; omega, HG2, HB6.out, HW6.out⟩
            case measure => simp [RowKit.intOf]; omega
        · have hiC' : C - i = 0 := by omega
          have HQ : Hid (vs.length = 0 ∧ n0 = n ∧ ds = ws ∧ C = ws.length) := by
            have hl : ds.length = C := by rw [HI.out]; omega
            have := HD.out; unfold decT at this; rw [h1] at this; simp only at this; unfold decC at this; rw [h2] at this; simp only at this; rw [HG.out, hiC', glue_end] at this; simp only [decE] at this
            split at this
            · rename_i h'
              cases this
              exact ⟨h', rfl, rfl, hl.symm⟩
            · cases this
          have hE4 := end_any g r vs 0 ao' cap' _ hBr.rd
          rw [HQ.out.1, endOf_0] at hE4
          have hwn : wrap64 (n0 : Int) = n0 := by unfold wrap64; omega
          have hR0 : R = [] := List.eq_nil_of_length_eq_zero (by rw [HRl.out, hiC'])
          subst hR0
          have hT := hT0.keep hBr.fr
          obtain ⟨x0, x1, y0, y1⟩ : _ ∧ _ ∧ _ ∧ _ := ⟨hT.c0, hT.c1, hT.f0, hT.f1⟩
          have hFF := (hF0.then hBr.fr).set2 (Nat.le_refl _) (.int .i64 (n0 : Int)) (.slice (some ⟨k, 0, none⟩) C C)
          have hbk : k ∉ [w.heap.size] := by simp; omega
          have hrow := (hWr.keep ((Fr.set wr ⟨w.heap.size, 0, none⟩ (.int .i64 (n0 : Int)) (by simp)).then (Fr.set _ ⟨w.heap.size, 1, none⟩ (.slice (some ⟨k, 0, none⟩) C C) (by simp)) : Fr [w.heap.size] _ _) hbk).box
          rw [List.append_nil, HQ.out.2.2.1] at hrow
          have HF : Hid (_ ∧ _) := ⟨hrow, hFF⟩
          clear HD hT hrow hFF hWr
          go_wp2_with fail
          refine hE4.mono ?_
          rintro e w5 ⟨rfl, rfl⟩
          clear hE4
          go_wp2
          refine bodyPost_ret (v := .tuple #[.agg #[.int .i64 (n0 : Int), .slice (some ⟨k, 0, none⟩) C C], .int .i64 0]) (by rw [results_cell_tmp rfl]; go_simp) rfl ⟨k, C, ?_, by omega, HQ.out.2.2.2, HF.out.1, HF.out.2⟩
          rw [HQ.out.2.1]
end Go.Proofs.YtaefninikmaiiaaGreatDoor
/- More on transactions as bytes: what goes wrong has a number; rows of writes that may be. Plain lemmas. -/
namespace Go.Proofs.YtaefninikmaiiaaGreatDoor
open Go.ChangeShapes Go.WideShapes Go.ChangeAt Go.RowKit Go.Lib
set_option linter.unusedVariables false
theorem decW_code {xs : List Nat} {c : Nat} (h : decW xs = .error c) : c ≠ 0 := by
  intro h0
  subst h0
  unfold decW decD decV at h
  repeat' split at h
  all_goals first | (cases h; rename_i hh; exact tk_code hh rfl) | (cases h)
theorem decWs_code : ∀ (k : Nat) {xs : List Nat} {c : Nat}, decWs k xs = .error c → c ≠ 0 := by
  intro k
  induction k with
  | zero => intro xs c h; simp [decWs] at h
  | succ k ih =>
    intro xs c h
    rw [decWs] at h
    split at h
    · rename_i hh; cases h; exact decW_code hh
    · split at h
      · rename_i hh; cases h; exact ih hh
      · cases h
theorem decT_code {xs : List Nat} {c : Nat} (h : decT xs = .error c) : c ≠ 0 := by
  unfold decT at h
  split at h
  · rename_i hh; cases h; exact tk_code hh
  · unfold decC at h
    split at h
    · rename_i hh; cases h; exact tk_code hh
    · split at h
      · rename_i hh; cases h; exact decWs_code _ hh
      · unfold decE at h
        split at h
        · cases h
        · cases h; decide
theorem okT_few {n : Int} {ws : List Wt} (h : okT n ws) : ws.length ≤ 140737488355328 ∧ ∀ x ∈ ws, x.key.size ≤ 140737488355328 ∧ x.val.size ≤ 140737488355328 := by
  refine ⟨by have := h.2.2.1; omega, fun x hx => ?_⟩
  obtain ⟨_, a, b, _⟩ := h.2.2.2 x hx
  exact ⟨by omega, by omega⟩
theorem WRs.of_ok {w : World} {k : Nat} {n : Int} {ws : List Wt} (h : okT n ws) (hr : w.heap[k]? = some (.cells (wtsC ws).toArray 124 (0, 0))) : WRs w (some ⟨k, 0, none⟩) ws :=
  WRs.of_row (rest := []) (t := 124) (f := (0, 0)) (by rw [List.append_nil]; exact hr) (okT_few h).1 (okT_few h).2
end Go.Proofs.YtaefninikmaiiaaGreatDoor
/- What the statements' helpers TwinBytes and LeftBytes answer. Conditions: fewer than 2^41 bytes. -/
namespace Go.Proofs.YtaefninikmaiiaaGreatDoor
open Go.ChangeShapes Go.WideShapes Go.ChangeAt Go.RowKit Go.Lib

theorem own_full {w : World} {g n : Nat} {xs : List Value} (h : w.ownsRow 0 5 1 (.slice (some ⟨g, 0, none⟩) n n) n xs) : w.heap[g]? = some (.cells xs.toArray 5 (0, 0)) := by
  have hl := h.1
  rcases h.2 with ⟨hh, _⟩ | ⟨g', cap', cur, hh, _, hg, _, _, hcs, ht⟩
  · cases hh
  · cases hh
    rw [hg]
    congr 2
    rw [← Array.toList_inj]
    simp only
    rw [← ht, List.take_of_length_le (by simp [hcs])]

set_option maxHeartbeats 4000000 in
set_option maxRecDepth 100000 in
theorem twin_any (ao : Option Addr) (L cap : Nat) (xs : List Nat) (w : World) (h : BArg w ao L cap xs) (hL : L < 2^40) :
    Calls Tryz.prog 18 #[.slice ao L cap] w fun e w' => ∃ b, e = .returned (.slice (some ⟨b, 0, none⟩) L (L + 1)) ∧ w.heap.size ≤ b ∧ w'.heap[b]? = some (.cells (bts (xs ++ [77])).toArray 5 (0, 0)) ∧ Fr [] w w' := by
  obtain ⟨i0, hi, hz0, hz1, hz2⟩ := info_parts Tryz.infoB
  have HL : Hid (L = xs.length) := h.len
  go_enter Tryz.func18, Tryz.ntmps18
  go_wp2_with (at_make; refine wpList_make_own _ rfl (.const (.int .i64 0)) (.tmp 7) 26 rfl 0 5 i0 (.int .u8 0) 1 Tryz.undBs hi hz0 hz1 .i64 .i64 ((L : Int) + 1) (L + 1) rfl rfl ?bC ?b2 ?b3 ?b4 ?_)
  case bC => simp
  case b2 => rw [hz2]; omega
  case b3 => unfold maxLen; omega
  case b4 => exact Nat.zero_le _
  intro w1 hown hgrow
  obtain ⟨g, hg⟩ : ∃ g, g = w.heap.size := ⟨_, rfl⟩
  have hgw : w.heap.size ≤ g := by omega
  rw [← hg] at hown ⊢
  have h01 : Fr [] w w1 := Fr.grown (S := []) hgrow (by simp)
  clear hgrow hg
  go_wp2_with fail
  go_loopw [3, 4] (fun vv ii wr => ∃ i : Nat, vv = .slice (some ⟨g, 0, none⟩) i (L + 1) ∧ ii = .int .i64 i ∧ i ≤ L ∧ wr.ownsRow 0 5 1 (.slice (some ⟨g, 0, none⟩) i (L + 1)) i (bts (xs.take i)) ∧ Fr [] w wr) (fun _ ii _ => L - (RowKit.intOf ii).toNat)
  case atStart => exact ⟨0, rfl, rfl, Nat.zero_le _, hown, h01⟩
  case round =>
    obtain ⟨i, rfl, rfl, hiL, hO, hF⟩ := hrel
    have hsz := (hO.lt g rfl).2
    by_cases hil : i < L
    · obtain ⟨b, off, e, _, hc⟩ := (h.keep hF).lies (by omega)
      subst e
      have hcx := hc i hil
      obtain ⟨x, hx⟩ : ∃ x, x = xs.getD i 0 := ⟨_, rfl⟩
      rw [← hx] at hcx
      have HE : Hid (bts (xs.take (i + 1)) = bts (xs.take i) ++ [.int .u8 (x : Int)]) := by
        show _ = _
        have hget : xs[i]? = some x := by rw [hx, List.getD, List.getElem?_eq_getElem (by rw [← HL.out]; exact hil)]; rfl
        have e : xs.take (i + 1) = xs.take i ++ [x] := by rw [List.take_add_one, hget]; rfl
        rw [e, bts_append]; rfl
      clear hc hx
      go_wp2_with (at_builtin; refine wpList_append_fits _ rfl (.tmp 15) (.tmp 20) 26 rfl 0 5 i0 1 Tryz.undBs hi hz1 g i (L + 1) _ rfl (hO.alloc _) ⟨wr.heap.size, 0, none⟩ 1 1 [.int .u8 (x : Int)] rfl rfl ?c1 ?c2 ?c3 ?_)
      case c1 => intro j u hj; match j, hj with | 0, hj => simp at hj; subst hj; simp [Addr.add]
      case c2 => intro u hu; simp at hu; subst hu; rfl
      case c3 => omega
      intro w2 hO2 hg2
      rw [← HE.out] at hO2
      have hF2 : Fr [] w w2 := (hF.then (Fr.alloc [] wr _)).on (Fr.grown (S := [g]) hg2 (by intro k hk _; cases hk; simp)) (by intro y hy; simp at hy; omega)
      clear hO hg2 hF hcx
      go_wp2
      go_roundw
      case rel => exact ⟨i + 1, rfl, by simp, by omega, hO2, hF2⟩
      case measure => simp [RowKit.intOf]; omega
    · have hiL' : L ≤ i := by omega
      obtain rfl : i = L := by omega
      have HE : Hid (bts (xs ++ [77]) = bts (xs.take i) ++ [.int .u8 77]) := by
        show _ = _
        rw [List.take_of_length_le (by rw [← HL.out]; omega), bts_append]; rfl
      go_wp2_with (at_builtin; refine wpList_append_fits _ rfl (.tmp 22) (.tmp 23) 26 rfl 0 5 i0 1 Tryz.undBs hi hz1 g i (i + 1) _ rfl (hO.alloc _) ⟨wr.heap.size, 0, none⟩ 1 1 [.int .u8 77] rfl rfl ?c1 ?c2 ?c3 ?_)
      case c1 => intro j u hj; match j, hj with | 0, hj => simp at hj; subst hj; simp [Addr.add]
      case c2 => intro u hu; simp at hu; subst hu; rfl
      case c3 => omega
      intro w2 hO2 hg2
      rw [← HE.out] at hO2
      have hF2 : Fr [] w w2 := (hF.then (Fr.alloc [] wr _)).on (Fr.grown (S := [g]) hg2 (by intro k hk _; cases hk; simp)) (by intro y hy; simp at hy; omega)
      have hrow := own_full hO2
      have HRow : Hid (w2.heap[g]? = some (.cells (bts (xs ++ [77])).toArray 5 (0, 0))) := hrow
      clear hO hg2 hF hO2 hrow
      go_wp2
      go_ret
      exact ⟨g, rfl, hgw, HRow.out, hF2⟩

set_option maxHeartbeats 4000000 in
set_option maxRecDepth 100000 in
theorem leftBytes_any (t : Nat) (ao : Option Addr) (L cap : Nat) (xs : List Nat) (w : World) (h : BArg w ao L cap xs) (hL : L < 2^40) (hrow : w.heap[t]? = some (.cells (bts (xs ++ [77])).toArray 5 (0, 0))) :
    Calls Tryz.prog 22 #[.slice (some ⟨t, 0, none⟩) L (L + 1), .slice ao L cap] w fun e w' => e = .returned (.bool true) ∧ ∃ q, w' = w.drewN q := by
  have HL : Hid (L = xs.length) := h.len
  have hct : ∀ j, j < L → w.cell? ⟨t, j, none⟩ = some (.int .u8 ((xs.getD j 0 : Nat) : Int)) := by
    intro j hj
    rw [cell_of_row _ _ _ _ _ _ hrow]
    have := bts_get (xs ++ [77]) j (by rw [List.length_append, ← HL.out]; omega)
    have e : (xs ++ [77]).getD j 0 = xs.getD j 0 := by simp [List.getD, List.getElem?_append_left (show j < xs.length by rw [← HL.out]; exact hj)]
    rw [e] at this
    simpa using this
  have hc77 : w.cell? ⟨t, L, none⟩ = some (.int .u8 77) := by
    rw [cell_of_row _ _ _ _ _ _ hrow]
    have := bts_get (xs ++ [77]) L (by rw [List.length_append, ← HL.out]; simp)
    have e : (xs ++ [77]).getD L 0 = 77 := by simp [List.getD, HL.out]
    rw [e] at this
    simpa using this
  have hne : ((L : Int) != L) = false := by simp
  clear hrow
  go_enter Tryz.func22, Tryz.ntmps22
  go_wp2_with fail
  go_loopw [5] (fun ii wr => ∃ (i q : Nat), ii = .int .i64 i ∧ i ≤ L ∧ wr = w.drewN q) (fun ii _ => L - (RowKit.intOf ii).toNat)
  case atStart => exact ⟨0, 0, rfl, Nat.zero_le _, rfl⟩
  case round =>
    obtain ⟨i, q, rfl, hi, rfl⟩ := hrel
    by_cases hil : i < L
    · obtain ⟨b, off, e, _, hc⟩ := h.lies (by omega)
      subst e
      have hx := hct i hil
      have hy := hc i hil
      obtain ⟨x, hxx⟩ : ∃ x, x = xs.getD i 0 := ⟨_, rfl⟩
      rw [← hxx] at hx hy
      clear hxx hct hc
      have hb1 : ((x : Int) != x) = false := by simp
      go_wp2_with fail
      go_quiet (fail)
      go_wp2
      go_roundw
      case rel => exact ⟨i + 1, q + nq, by simp, by omega, by simp⟩
      case measure => simp [RowKit.intOf]; omega
    · have hiL : L ≤ i := by omega
      clear hct
      go_wp2
      go_ret
      exact ⟨rfl, _, rfl⟩
end Go.Proofs.YtaefninikmaiiaaGreatDoor
/- What the reference's reader answers, call by call. Conditions: where its bytes lie, fewer than 2^41. -/
namespace Go.Proofs.YtaefninikmaiiaaGreatDoor
open Go.ChangeShapes Go.WideShapes Go.ChangeAt Go.RowKit Go.Lib

theorem results_cell1 {fn : Func} {p : Tmp} {ty : TypeId} (h : fn.results = #[.cell p ty]) (tmps : Array Value) (P : Program) (w : World) :
    (results fn tmps).run P w = ((asAddr (tmps.getD p undef)).run P w).andThen fun a w₁ => (loadVar ty a).run P w₁ := by
  simp only [results, h]
  simp [Sem.run_bind, Result.andThen]
set_option maxHeartbeats 2000000 in
set_option maxRecDepth 100000 in
theorem xDead_no (ao : Option Addr) (L cap : Nat) (p : Int) (w : World) : Calls Tryz.prog 141 #[(.agg #[.bool false, .slice ao L cap, .int .i64 p, .int .i64 0])] w fun e w' => e = .returned (.bool false) ∧ Fr [] w w' := by
  go_enter Tryz.func141, Tryz.ntmps141
  go_wp2
  go_ret
  exact ⟨rfl, Fr.alloc _ _ _⟩
set_option maxHeartbeats 2000000 in
set_option maxRecDepth 100000 in
theorem xDead_yes (ao : Option Addr) (L cap : Nat) (p c : Int) (w : World) (hc : c ≠ 0) : Calls Tryz.prog 141 #[(.agg #[.bool false, .slice ao L cap, .int .i64 p, .int .i64 c])] w fun e w' => e = .returned (.bool true) ∧ Fr [] w w' := by
  have hb : (c != 0) = true := by rw [bne_iff_ne]; exact hc
  clear hc
  go_enter Tryz.func141, Tryz.ntmps141
  go_wp2
  go_ret
  exact ⟨rfl, Fr.alloc _ _ _⟩
set_option maxHeartbeats 2000000 in
set_option maxRecDepth 100000 in
theorem xDead_gone (ao : Option Addr) (L cap : Nat) (p c : Int) (w : World) : Calls Tryz.prog 141 #[(.agg #[.bool true, .slice ao L cap, .int .i64 p, .int .i64 c])] w fun e w' => e = .returned (.bool true) ∧ Fr [] w w' := by
  go_enter Tryz.func141, Tryz.ntmps141
  go_wp2
  go_ret
  exact ⟨rfl, Fr.alloc _ _ _⟩
set_option maxHeartbeats 2000000 in
set_option maxRecDepth 100000 in
theorem xWrong_any (g : Bool) (ao : Option Addr) (L cap : Nat) (p c d : Int) (w : World) : Calls Tryz.prog 142 #[(.agg #[.bool g, .slice ao L cap, .int .i64 p, .int .i64 c]), .int .i64 d] w fun e w' => e = .returned (.agg #[.bool g, .slice ao L cap, .int .i64 p, .int .i64 d]) ∧ Fr [] w w' := by
  go_enter Tryz.func142, Tryz.ntmps142
  go_wp2
  refine bodyPost_ret (v := (.agg #[.bool g, .slice ao L cap, .int .i64 p, .int .i64 d])) (by rw [results_cell1 rfl]; go_simp) rfl ⟨rfl, ?_⟩
  exact (Fr.alloc [] w _).then (Fr.alloc [] _ _)
set_option maxHeartbeats 2000000 in
set_option maxRecDepth 100000 in
theorem xLeft_gone (ao : Option Addr) (L cap : Nat) (p c : Int) (w : World) : Calls Tryz.prog 87 #[(.agg #[.bool true, .slice ao L cap, .int .i64 p, .int .i64 c])] w fun e w' => e = .returned (.int .i64 0) ∧ Fr [] w w' := by
  go_enter Tryz.func87, Tryz.ntmps87
  go_wp2
  go_ret
  exact ⟨rfl, Fr.alloc _ _ _⟩
set_option maxHeartbeats 2000000 in
set_option maxRecDepth 100000 in
theorem xLeft_any (ao : Option Addr) (L cap p : Nat) (c : Int) (w : World) (_hL : L < 2^41) (hp : p ≤ L) : Calls Tryz.prog 87 #[(.agg #[.bool false, .slice ao L cap, .int .i64 p, .int .i64 c])] w fun e w' => e = .returned (.int .i64 ((L - p : Nat) : Int)) ∧ Fr [] w w' := by
  have e : ((L - p : Nat) : Int) = (L : Int) - p := by omega
  rw [e]
  clear e
  go_enter Tryz.func87, Tryz.ntmps87
  go_wp2
  go_ret
  exact ⟨rfl, Fr.alloc _ _ _⟩
set_option maxHeartbeats 2000000 in
set_option maxRecDepth 100000 in
theorem xEnd_gone (ao : Option Addr) (L cap : Nat) (p c : Int) (w : World) : Calls Tryz.prog 145 #[(.agg #[.bool true, .slice ao L cap, .int .i64 p, .int .i64 c])] w fun e w' => e = .returned (.int .i64 2) ∧ Fr [] w w' := by
  go_enter Tryz.func145, Tryz.ntmps145
  go_wp2
  go_ret
  exact ⟨rfl, Fr.alloc _ _ _⟩
set_option maxHeartbeats 2000000 in
set_option maxRecDepth 100000 in
theorem xEnd_any (ao : Option Addr) (L cap p c : Nat) (w : World) (_hL : L < 2^41) (hp : p ≤ L) : Calls Tryz.prog 145 #[(.agg #[.bool false, .slice ao L cap, .int .i64 p, .int .i64 c])] w fun e w' => e = .returned (.int .i64 ((endOf c (L - p) : Nat) : Int)) ∧ Fr [] w w' := by
  by_cases hc : c = 0
  · subst hc
    by_cases hl : p < L
    · have hl' : (p : Int) < L := by omega
      have E : Hid (endOf 0 (L - p) = 4) := by show _ = _; simp only [endOf]; rw [if_neg (by simp), if_pos (by omega)]
      go_enter Tryz.func145, Tryz.ntmps145
      go_wp2
      go_ret
      rw [E.out]
      exact ⟨rfl, Fr.alloc _ _ _⟩
    · have hl' : (L : Int) ≤ p := by omega
      have E : Hid (endOf 0 (L - p) = 0) := by show _ = _; simp only [endOf]; rw [if_neg (by simp), if_neg (by omega)]
      go_enter Tryz.func145, Tryz.ntmps145
      go_wp2
      go_ret
      rw [E.out]
      exact ⟨rfl, Fr.alloc _ _ _⟩
  · have hb : ((c : Int) != 0) = true := by rw [bne_iff_ne]; omega
    have E : Hid (endOf c (L - p) = c) := by show _ = _; simp [endOf, hc]
    clear hc
    go_enter Tryz.func145, Tryz.ntmps145
    go_wp2
    go_ret
    rw [E.out]
    exact ⟨rfl, Fr.alloc _ _ _⟩
/-- Where the reference's reader stands behind a call. -/
def stepAt (r : Nat × Nat) (p : Nat) : Nat := if r.2 = 0 then p + r.1 else p
theorem sumw (n x i F : Nat) (hn : n < 128 ^ i) (hi : i ≤ 9) (_hx : x < 256) (h9 : i = 9 → x % 128 ≤ 1) (hF : F = 128 ^ i) : Hid (IntKind.u64.wrap ((n : Int) + IntKind.u64.wrap ((F : Int) * ((x : Int) % 128))) = ((n + x % 128 * 128 ^ i : Nat) : Int)) := by
  have hb := grp_bd n (x % 128) i hn hi (by omega) h9
  show _ = _
  rw [wr_u64, wr_u64]
  have e1 : ((F : Int) * ((x : Int) % 128)) = ((x % 128 * 128 ^ i : Nat) : Int) := by rw [hF, Nat.mul_comm]; simp
  rw [e1]
  omega
theorem powu (i F : Nat) (hi : i ≤ 8) (hF : F = 128 ^ i) : Hid (IntKind.u64.wrap (128 * (F : Int)) = ((128 ^ (i + 1) : Nat) : Int)) := by
  show _ = _
  have hp : 128 ^ i ≤ 128 ^ 8 := Nat.pow_le_pow_right (by decide) hi
  have e8 : (128 : Nat) ^ 8 = 72057594037927936 := by decide
  rw [e8, ← hF] at hp
  rw [wr_u64, Nat.pow_succ, ← hF]
  omega
/-- A reader of the reference in a block of its own. -/
structure Bx (w : World) (b : Nat) (g : Bool) (s : Value) (p c : Int) : Prop where
  box : w.heap[b]? = some (.cells #[.bool g, s, .int .i64 p, .int .i64 c] 102 (0, 0))
theorem Bx.c0 {w : World} {b : Nat} {g : Bool} {s : Value} {p c : Int} (h : Bx w b g s p c) : w.cell? ⟨b, 0, none⟩ = some (.bool g) := by simp [World.cell?, h.box]
theorem Bx.c1 {w : World} {b : Nat} {g : Bool} {s : Value} {p c : Int} (h : Bx w b g s p c) : w.cell? ⟨b, 1, none⟩ = some s := by simp [World.cell?, h.box]
theorem Bx.c2 {w : World} {b : Nat} {g : Bool} {s : Value} {p c : Int} (h : Bx w b g s p c) : w.cell? ⟨b, 2, none⟩ = some (.int .i64 p) := by simp [World.cell?, h.box]
theorem Bx.c3 {w : World} {b : Nat} {g : Bool} {s : Value} {p c : Int} (h : Bx w b g s p c) : w.cell? ⟨b, 3, none⟩ = some (.int .i64 c) := by simp [World.cell?, h.box]
theorem Bx.f {w : World} {b : Nat} {g : Bool} {s : Value} {p c : Int} (h : Bx w b g s p c) (j : Nat) : w.frozen? ⟨b, j, none⟩ = false := by simp [World.frozen?, h.box]
theorem Bx.keep {S : List Nat} {w w' : World} {b : Nat} {g : Bool} {s : Value} {p c : Int} (h : Bx w b g s p c) (hf : Fr S w w') (hb : b ∉ S) : Bx w' b g s p c := ⟨hf.keep h.box hb⟩
theorem Fr.sets4 (w : World) (b : Nat) (a0 a1 a2 a3 : Value) : Fr [b] w ((((w.setCell ⟨b, 0, none⟩ a0).setCell ⟨b, 1, none⟩ a1).setCell ⟨b, 2, none⟩ a2).setCell ⟨b, 3, none⟩ a3) :=
  (((Fr.set w _ _ (by simp)).then (Fr.set _ _ _ (by simp))).then (Fr.set _ _ _ (by simp))).then (Fr.set _ _ _ (by simp))
theorem Bx.lt {w : World} {b : Nat} {g : Bool} {s : Value} {p c : Int} (h : Bx w b g s p c) : b < w.heap.size := lt_of_block h.box
set_option maxHeartbeats 2000000 in
set_option maxRecDepth 100000 in
theorem xVar_dead (g : Bool) (ao : Option Addr) (L cap : Nat) (p c : Int) (w : World) (hd : g = true ∨ c ≠ 0) : Calls Tryz.prog 143 #[(.agg #[.bool g, .slice ao L cap, .int .i64 p, .int .i64 c])] w fun e w' => e = .returned (.tuple #[(.agg #[.bool g, .slice ao L cap, .int .i64 p, .int .i64 c]), .int .u64 0]) ∧ Fr [] w w' := by
  have hD : ∀ w, Calls Tryz.prog 141 #[(.agg #[.bool g, .slice ao L cap, .int .i64 p, .int .i64 c])] w fun e w' => e = .returned (.bool true) ∧ Fr [] w w' := by
    intro w
    cases g with
    | true => exact xDead_gone ao L cap p c w
    | false => exact xDead_yes ao L cap p c w (by rcases hd with h | h; cases h; exact h)
  have HD : Hid _ := hD
  clear hD hd
  go_enter Tryz.func143, Tryz.ntmps143
  go_wp2_with fail
  refine Calls.mono (HD.out _) ?_
  rintro e w1 ⟨rfl, hF1⟩
  have B1 : Bx w1 w.heap.size g (.slice ao L cap) p c := ⟨hF1.keep ((Below.heap_alloc _ _ _ (by simp)).trans (heap_alloc_new w _)) (by simp)⟩
  have B2 : Bx w1 (w.heap.size + 1) false (.slice none 0 0) 0 0 := ⟨hF1.keep (by simpa using heap_alloc_new (w.alloc (.cells #[.bool g, .slice ao L cap, .int .i64 p, .int .i64 c] 102)) (.cells #[.bool false, .slice none 0 0, .int .i64 0, .int .i64 0] 102)) (by simp)⟩
  have x0 := B1.c0
  have x1 := B1.c1
  have x2 := B1.c2
  have x3 := B1.c3
  have xf0 := B1.f 0
  have xf1 := B1.f 1
  have xf2 := B1.f 2
  have xf3 := B1.f 3
  have y0 := B2.c0
  have y1 := B2.c1
  have y2 := B2.c2
  have y3 := B2.c3
  have yf0 := B2.f 0
  have yf1 := B2.f 1
  have yf2 := B2.f 2
  have yf3 := B2.f 3
  go_wp2
  refine bodyPost_ret (v := .tuple #[(.agg #[.bool g, .slice ao L cap, .int .i64 p, .int .i64 c]), .int .u64 0]) (by rw [results_cell_tmp rfl]; go_simp) rfl ⟨rfl, ?_⟩
  exact (((Fr.alloc [] w _).then (Fr.alloc [] _ _)).then hF1).on (Fr.sets4 _ _ _ _ _ _) (by intro x hx; simp at hx; omega)
set_option maxHeartbeats 8000000 in
set_option maxRecDepth 100000 in
theorem xVar_live (ao : Option Addr) (L cap p : Nat) (xs : List Nat) (w : World) (h : Rs w ao xs) (hb : ∀ x ∈ xs, x < 256) (hL : L = xs.length) (hp : p ≤ L) :
    Calls Tryz.prog 143 #[(.agg #[.bool false, .slice ao L cap, .int .i64 (p : Int), .int .i64 0])] w fun e w' => e = .returned (.tuple #[(.agg #[.bool false, .slice ao L cap, .int .i64 ((stepAt (shortF 0 0 (xs.drop p)).2 p : Nat) : Int), .int .i64 ((shortF 0 0 (xs.drop p)).2.2 : Int)]), .int .u64 ((shortF 0 0 (xs.drop p)).1 : Int)]) ∧ Fr [] w w' := by
  have hLl := h.len
  rw [← hL] at hLl
  have HL : Hid (L = xs.length) := hL
  obtain ⟨R, hR⟩ : ∃ R, R = shortF 0 0 (xs.drop p) := ⟨_, rfl⟩
  rw [← hR]
  have HR : Hid (R = shortF 0 0 ((xs.drop p).drop 0)) := hR
  clear hR hL
  go_enter Tryz.func143, Tryz.ntmps143
  go_wp2_with fail
  refine (xDead_no ao L cap (p : Int) _).mono ?_
  rintro e w1 ⟨rfl, hF1⟩
  have B1 : Bx w1 w.heap.size false (.slice ao L cap) p 0 := ⟨hF1.keep ((Below.heap_alloc _ _ _ (by simp)).trans (heap_alloc_new w _)) (by simp)⟩
  have B2 : Bx w1 (w.heap.size + 1) false (.slice none 0 0) 0 0 := ⟨hF1.keep (by simpa using heap_alloc_new (w.alloc (.cells #[.bool false, .slice ao L cap, .int .i64 p, .int .i64 0] 102)) (.cells #[.bool false, .slice none 0 0, .int .i64 0, .int .i64 0] 102)) (by simp)⟩
  have h01 : Fr [] w w1 := ((Fr.alloc [] w _).then (Fr.alloc [] _ _)).then hF1
  have x0 := B1.c0
  have x1 := B1.c1
  have x2 := B1.c2
  have x3 := B1.c3
  have xf0 := B1.f 0
  have xf1 := B1.f 1
  have xf2 := B1.f 2
  have xf3 := B1.f 3
  go_wp2_with fail
  go_loop [4, 5, 6] (fun vn vf vi => ∃ (n i : Nat), vn = .int .u64 n ∧ vf = .int .u64 ((128 ^ i : Nat) : Int) ∧ vi = .int .i64 i ∧ i ≤ L - p ∧ i ≤ 9 ∧ n < 128 ^ i ∧ Hid (R = shortF i n ((xs.drop p).drop i))) (fun _ _ vi => L - p - (RowKit.intOf vi).toNat)
  case atStart => exact ⟨0, 0, rfl, rfl, rfl, by omega, by omega, by omega, HR⟩
  case round =>
    obtain ⟨n, i, rfl, rfl, rfl, hi, hi9, hn, E⟩ := hrel
    obtain ⟨F, hF⟩ : ∃ F, F = 128 ^ i := ⟨_, rfl⟩
    rw [← hF]
    have HF : Hid (F = 128 ^ i) := hF
    by_cases hil : i < L - p
    · obtain ⟨rb, off, e, hc⟩ := h.lies (by rw [← HL.out]; omega)
      subst e
      have hcx : w1.cell? ⟨rb, off + (p + i), none⟩ = some (.int .u8 ((xs.getD (p + i) 0 : Nat) : Int)) := by
        have h1 := hc (p + i) (by rw [← HL.out]; omega)
        exact (World.cell?_of_block (h01.block rb (World.block_lt_of_cell? w _ h1) (by simp))).trans h1
      obtain ⟨x, hx⟩ : ∃ x, x = xs.getD (p + i) 0 := ⟨_, rfl⟩
      rw [← hx] at hcx
      have hget : xs[p + i]? = some x := by rw [hx, List.getD, List.getElem?_eq_getElem (by rw [← HL.out]; omega)]; rfl
      have hx256 : x < 256 := hb x (List.mem_of_getElem? hget)
      have hdr : (xs.drop p).drop i = x :: (xs.drop p).drop (i + 1) := by
        rw [List.drop_drop, List.drop_drop]
        obtain ⟨hlt, hge⟩ := List.getElem?_eq_some_iff.1 hget
        rw [List.drop_eq_getElem_cons hlt, hge]
        rfl
      have E2 : R = shortF i n (x :: (xs.drop p).drop (i + 1)) := by rw [← hdr]; exact E.out
      rw [shortF_cons] at E2
      have HE : Hid (R = _) := E2
      clear E2 hdr hget hx hc E HR
      have hpi : (p : Int) + i < L := by omega
      clear hF
      by_cases h9 : i = 9
      · by_cases hx1 : 1 < x
        · have h9b : ((i : Int) == 9) = true := by rw [beq_iff_eq]; omega
          have h0b : (0 : Int) < i := by omega
          have hx1b : (1 : Int) < x := by omega
          have HR' : Hid (R = (0, 0, 4)) := by have := HE.out; rw [if_pos (by omega)] at this; exact this
          clear HE
          (try clear h9); (try clear hx0); (try clear h00)
          go_wp2_with fail
          refine (xWrong_any false (some ⟨rb, off, none⟩) L cap (p : Int) 0 4 _).mono ?_
          rintro e w2 ⟨rfl, hF2⟩
          have B2' := B2.keep hF2 (by simp)
          have y0 := B2'.c0
          have y1 := B2'.c1
          have y2 := B2'.c2
          have y3 := B2'.c3
          have yf0 := B2'.f 0
          have yf1 := B2'.f 1
          have yf2 := B2'.f 2
          have yf3 := B2'.f 3
          clear h
          go_wp2
          refine bodyPost_ret (v := .tuple #[.agg #[.bool false, .slice (some ⟨rb, off, none⟩) L cap, .int .i64 (p : Int), .int .i64 4], .int .u64 0]) (by rw [results_cell_tmp rfl]; go_simp) rfl ⟨?_, ?_⟩
          · rw [HR'.out]; simp [stepAt]
          · exact (h01.then hF2).on (Fr.sets4 _ _ _ _ _ _) (by intro x hx; simp at hx; omega)
        · by_cases hx0 : x = 0
          · have h9b : ((i : Int) == 9) = true := by rw [beq_iff_eq]; omega
            have h0b : (0 : Int) < i := by omega
            have hx1b : (x : Int) ≤ 1 := by omega
            have hx0b : ((x : Int) == 0) = true := by rw [beq_iff_eq]; omega
            have HR' : Hid (R = (0, 0, 4)) := by have := HE.out; rw [if_pos (by omega)] at this; exact this
            clear HE
            (try clear h9); (try clear hx0); (try clear h00)
            go_wp2_with fail
            refine (xWrong_any false (some ⟨rb, off, none⟩) L cap (p : Int) 0 4 _).mono ?_
            rintro e w2 ⟨rfl, hF2⟩
            have B2' := B2.keep hF2 (by simp)
            have y0 := B2'.c0
            have y1 := B2'.c1
            have y2 := B2'.c2
            have y3 := B2'.c3
            have yf0 := B2'.f 0
            have yf1 := B2'.f 1
            have yf2 := B2'.f 2
            have yf3 := B2'.f 3
            clear h
            go_wp2
            refine bodyPost_ret (v := .tuple #[.agg #[.bool false, .slice (some ⟨rb, off, none⟩) L cap, .int .i64 (p : Int), .int .i64 4], .int .u64 0]) (by rw [results_cell_tmp rfl]; go_simp) rfl ⟨?_, ?_⟩
            · rw [HR'.out]; simp [stepAt]
            · exact (h01.then hF2).on (Fr.sets4 _ _ _ _ _ _) (by intro x hx; simp at hx; omega)
          · have h9b : ((i : Int) == 9) = true := by rw [beq_iff_eq]; omega
            have h0b : (0 : Int) < i := by omega
            have hx1b : (x : Int) ≤ 1 := by omega
            have hx0b : ((x : Int) == 0) = false := by rw [beq_eq_false_iff_ne]; omega
            have hx128 : (x : Int) < 128 := by omega
            have HG := sumw n x i F hn hi9 hx256 (by omega) HF.out
            have HR' : Hid (R = (n + x * 128 ^ i, i + 1, 0)) := by have := HE.out; rw [if_neg (by omega), if_pos (by omega)] at this; exact this
            clear HE h
            (try clear h9); (try clear hx0); (try clear h00)
            have y0 := B2.c0
            have y1 := B2.c1
            have y2 := B2.c2
            have y3 := B2.c3
            have yf0 := B2.f 0
            have yf1 := B2.f 1
            have yf2 := B2.f 2
            have yf3 := B2.f 3
            go_wp2
            refine bodyPost_ret (v := .tuple #[.agg #[.bool false, .slice (some ⟨rb, off, none⟩) L cap, .int .i64 ((p : Int) + i + 1), .int .i64 0], .int .u64 ((n + x % 128 * 128 ^ i : Nat) : Int)]) (by rw [results_cell_tmp rfl, ← HG.out]; go_simp) rfl ⟨?_, ?_⟩
            · rw [HR'.out, Nat.mod_eq_of_lt (by omega)]
              simp [stepAt]
              omega
            · exact (h01.on (Fr.set (S := [w.heap.size]) _ _ _ (by simp)) (by simp)).on (Fr.sets4 _ _ _ _ _ _) (by intro x hx; simp at hx; omega)
      · have hi8 : i ≤ 8 := by omega
        by_cases h00 : 0 < i ∧ x = 0
        · have h9b : ((i : Int) == 9) = false := by rw [beq_eq_false_iff_ne]; omega
          have h0b : (0 : Int) < i := by omega
          have hx0b : ((x : Int) == 0) = true := by rw [beq_iff_eq]; omega
          have HR' : Hid (R = (0, 0, 4)) := by have := HE.out; rw [if_pos (by omega)] at this; exact this
          clear HE
          (try clear h9); (try clear hx0); (try clear h00)
          go_wp2_with fail
          refine (xWrong_any false (some ⟨rb, off, none⟩) L cap (p : Int) 0 4 _).mono ?_
          rintro e w2 ⟨rfl, hF2⟩
          have B2' := B2.keep hF2 (by simp)
          have y0 := B2'.c0
          have y1 := B2'.c1
          have y2 := B2'.c2
          have y3 := B2'.c3
          have yf0 := B2'.f 0
          have yf1 := B2'.f 1
          have yf2 := B2'.f 2
          have yf3 := B2'.f 3
          clear h
          go_wp2
          refine bodyPost_ret (v := .tuple #[.agg #[.bool false, .slice (some ⟨rb, off, none⟩) L cap, .int .i64 (p : Int), .int .i64 4], .int .u64 0]) (by rw [results_cell_tmp rfl]; go_simp) rfl ⟨?_, ?_⟩
          · rw [HR'.out]; simp [stepAt]
          · exact (h01.then hF2).on (Fr.sets4 _ _ _ _ _ _) (by intro x hx; simp at hx; omega)
        · by_cases hx128 : x < 128
          · have hx128' : (x : Int) < 128 := by omega
            by_cases hi0 : 0 < i
            · have h9b : ((i : Int) == 9) = false := by rw [beq_eq_false_iff_ne]; omega
              have h0b : (0 : Int) < i := by omega
              have hx0b : ((x : Int) == 0) = false := by rw [beq_eq_false_iff_ne]; omega
              have HG := sumw n x i F hn hi9 hx256 (by omega) HF.out
              have HR' : Hid (R = (n + x * 128 ^ i, i + 1, 0)) := by have := HE.out; rw [if_neg (by omega), if_pos (by omega)] at this; exact this
              clear HE h
              (try clear h9); (try clear hx0); (try clear h00)
              have y0 := B2.c0
              have y1 := B2.c1
              have y2 := B2.c2
              have y3 := B2.c3
              have yf0 := B2.f 0
              have yf1 := B2.f 1
              have yf2 := B2.f 2
              have yf3 := B2.f 3
              go_wp2
              refine bodyPost_ret (v := .tuple #[.agg #[.bool false, .slice (some ⟨rb, off, none⟩) L cap, .int .i64 ((p : Int) + i + 1), .int .i64 0], .int .u64 ((n + x % 128 * 128 ^ i : Nat) : Int)]) (by rw [results_cell_tmp rfl, ← HG.out]; go_simp) rfl ⟨?_, ?_⟩
              · rw [HR'.out, Nat.mod_eq_of_lt (by omega)]
                simp [stepAt]
                omega
              · exact (h01.on (Fr.set (S := [w.heap.size]) _ _ _ (by simp)) (by simp)).on (Fr.sets4 _ _ _ _ _ _) (by intro x hx; simp at hx; omega)
            · have h9b : ((i : Int) == 9) = false := by rw [beq_eq_false_iff_ne]; omega
              have h0b : (i : Int) ≤ 0 := by omega
              have HG := sumw n x i F hn hi9 hx256 (by omega) HF.out
              have HR' : Hid (R = (n + x * 128 ^ i, i + 1, 0)) := by have := HE.out; rw [if_neg (by omega), if_pos (by omega)] at this; exact this
              clear HE h
              (try clear h9); (try clear hx0); (try clear h00)
              have y0 := B2.c0
              have y1 := B2.c1
              have y2 := B2.c2
              have y3 := B2.c3
              have yf0 := B2.f 0
              have yf1 := B2.f 1
              have yf2 := B2.f 2
              have yf3 := B2.f 3
              go_wp2
              refine bodyPost_ret (v := .tuple #[.agg #[.bool false, .slice (some ⟨rb, off, none⟩) L cap, .int .i64 ((p : Int) + i + 1), .int .i64 0], .int .u64 ((n + x % 128 * 128 ^ i : Nat) : Int)]) (by rw [results_cell_tmp rfl, ← HG.out]; go_simp) rfl ⟨?_, ?_⟩
              · rw [HR'.out, Nat.mod_eq_of_lt (by omega)]
                simp [stepAt]
                omega
              · exact (h01.on (Fr.set (S := [w.heap.size]) _ _ _ (by simp)) (by simp)).on (Fr.sets4 _ _ _ _ _ _) (by intro x hx; simp at hx; omega)
          · have hx128' : (128 : Int) ≤ x := by omega
            by_cases hi0 : 0 < i
            · have h9b : ((i : Int) == 9) = false := by rw [beq_eq_false_iff_ne]; omega
              have h0b : (0 : Int) < i := by omega
              have hx0b : ((x : Int) == 0) = false := by rw [beq_eq_false_iff_ne]; omega
              have HG := sumw n x i F hn hi9 hx256 (by omega) HF.out
              have HG2 := powu i F hi8 HF.out
              have hbd := grp_bd n (x % 128) i hn hi9 (by omega) (by omega)
              have HB : Hid (n + x % 128 * 128 ^ i < 128 ^ (i + 1)) := hbd.2.1
              have HR' : Hid (R = shortF (i + 1) (n + x % 128 * 128 ^ i) ((xs.drop p).drop (i + 1))) := by have := HE.out; rw [if_neg (by omega), if_neg (by omega)] at this; exact this
              clear HE hbd
              (try clear h9); (try clear hx0); (try clear h00)
              go_wp2
              go_round
              case rel => exact ⟨_, i + 1, congrArg (Value.int .u64) HG.out, congrArg (Value.int .u64) HG2.out, by simp, by omega, by omega, HB.out, HR'⟩
              case measure => simp [RowKit.intOf]; omega
            · have h9b : ((i : Int) == 9) = false := by rw [beq_eq_false_iff_ne]; omega
              have h0b : (i : Int) ≤ 0 := by omega
              have HG := sumw n x i F hn hi9 hx256 (by omega) HF.out
              have HG2 := powu i F hi8 HF.out
              have hbd := grp_bd n (x % 128) i hn hi9 (by omega) (by omega)
              have HB : Hid (n + x % 128 * 128 ^ i < 128 ^ (i + 1)) := hbd.2.1
              have HR' : Hid (R = shortF (i + 1) (n + x % 128 * 128 ^ i) ((xs.drop p).drop (i + 1))) := by have := HE.out; rw [if_neg (by omega), if_neg (by omega)] at this; exact this
              clear HE hbd
              (try clear h9); (try clear hx0); (try clear h00)
              go_wp2
              go_round
              case rel => exact ⟨_, i + 1, congrArg (Value.int .u64) HG.out, congrArg (Value.int .u64) HG2.out, by simp, by omega, by omega, HB.out, HR'⟩
              case measure => simp [RowKit.intOf]; omega
    · have hpi : (L : Int) ≤ p + i := by omega
      have HR' : Hid (R = (0, 0, 5)) := by have := E.out; rw [List.drop_drop, List.drop_eq_nil_of_le (by rw [← HL.out]; omega)] at this; exact this
      clear E
      (try clear h9); (try clear hx0); (try clear h00)
      go_wp2_with fail
      refine (xWrong_any false ao L cap (p : Int) 0 5 _).mono ?_
      rintro e w2 ⟨rfl, hF2⟩
      have B2' := B2.keep hF2 (by simp)
      have y0 := B2'.c0
      have y1 := B2'.c1
      have y2 := B2'.c2
      have y3 := B2'.c3
      have yf0 := B2'.f 0
      have yf1 := B2'.f 1
      have yf2 := B2'.f 2
      have yf3 := B2'.f 3
      clear h
      go_wp2
      refine bodyPost_ret (v := .tuple #[.agg #[.bool false, .slice ao L cap, .int .i64 (p : Int), .int .i64 5], .int .u64 0]) (by rw [results_cell_tmp rfl]; go_simp) rfl ⟨?_, ?_⟩
      · rw [HR'.out]; simp [stepAt]
      · exact (h01.then hF2).on (Fr.sets4 _ _ _ _ _ _) (by intro x hx; simp at hx; omega)
end Go.Proofs.YtaefninikmaiiaaGreatDoor
/- What the reference's reader answers: Int, Fixed, Text. Conditions: where its bytes lie, fewer than 2^41. -/
namespace Go.Proofs.YtaefninikmaiiaaGreatDoor
open Go.ChangeShapes Go.WideShapes Go.ChangeAt Go.RowKit Go.Lib
/-- The call answers v; new blocks may have been made. -/
def AnsF (f : Nat) (args : Array Value) (w : World) (v : Value) : Prop := Calls Tryz.prog f args w fun e w' => e = .returned v ∧ Fr [] w w'
theorem AnsF.calls {f : Nat} {args : Array Value} {w : World} {v : Value} (h : AnsF f args w v) : Calls Tryz.prog f args w fun e w' => e = .returned v ∧ Fr [] w w' := h
theorem Rs.fr {w w' : World} {ao : Option Addr} {xs : List Nat} (h : Rs w ao xs) (hf : Fr [] w w') : Rs w' ao xs := by
  refine ⟨fun h0 => ?_, h.len⟩
  obtain ⟨b, off, e, hc⟩ := h.lies h0
  exact ⟨b, off, e, fun j hj => by
    have hlt := World.block_lt_of_cell? w _ (hc j hj)
    rw [World.cell?_of_block (hf.block b hlt (by simp))]
    exact hc j hj⟩
/-- The box of a value receiver and the box of the result, as a call begins. -/
def two (w : World) (s : Value) (p c : Int) : World := (w.alloc (.cells #[.bool false, s, .int .i64 p, .int .i64 c] 102)).alloc (.cells #[.bool false, .slice none 0 0, .int .i64 0, .int .i64 0] 102)
theorem two_fr (w : World) (s : Value) (p c : Int) : Fr [] w (two w s p c) := (Fr.alloc [] w _).then (Fr.alloc [] _ _)
/-- The dead answer true, whatever makes them dead. -/
theorem xDead_dead (g : Bool) (ao : Option Addr) (L cap : Nat) (p c : Int) (w : World) (hd : g = true ∨ c ≠ 0) : Calls Tryz.prog 141 #[(.agg #[.bool g, .slice ao L cap, .int .i64 p, .int .i64 c])] w fun e w' => e = .returned (.bool true) ∧ Fr [] w w' := by
  cases g with
  | true => exact xDead_gone ao L cap p c w
  | false => exact xDead_yes ao L cap p c w (by rcases hd with h | h; cases h; exact h)
theorem short_zero : ∀ (xs : List Nat) (i n : Nat), (shortF i n xs).2.2 ≠ 0 → (shortF i n xs).1 = 0 := by
  intro xs
  induction xs with
  | nil => intro i n _; simp [shortF]
  | cons x r ih =>
    intro i n h
    rw [shortF_cons] at h ⊢
    split at h
    · rename_i h1; rw [if_pos h1]
    · rename_i h1
      rw [if_neg h1]
      split at h
      · simp at h
      · rename_i h2
        rw [if_neg h2]
        exact ih _ _ h
theorem bytw (n x j X : Nat) (hn : n < 256 ^ (X - (j + 1))) (hj : j < X) (hX : X ≤ 8) (hx : x < 256) : Hid (IntKind.u64.wrap (IntKind.u64.wrap (256 * (n : Int)) + (x : Int)) = ((x + 256 * n : Nat) : Int)) ∧ x + 256 * n < 256 ^ (X - j) := by
  have e : 256 ^ (X - j) = 256 * 256 ^ (X - (j + 1)) := by rw [show X - j = (X - (j + 1)) + 1 by omega, Nat.pow_succ, Nat.mul_comm]
  have hp : 256 ^ (X - j) ≤ 256 ^ 8 := Nat.pow_le_pow_right (by decide) (by omega)
  have e8 : (256 : Nat) ^ 8 = 18446744073709551616 := by decide
  rw [e8] at hp
  refine ⟨?_, by omega⟩
  show _ = _
  rw [wr_u64, wr_u64]
  omega
set_option maxHeartbeats 8000000 in
set_option maxRecDepth 100000 in
theorem xFixed_live (ao : Option Addr) (L cap p : Nat) (xs : List Nat) (wd : Int) (w : World) (h : Rs w ao xs) (hb : ∀ x ∈ xs, x < 256) (hL : L = xs.length) (hp : p ≤ L) :
    Calls Tryz.prog 89 #[(.agg #[.bool false, .slice ao L cap, .int .i64 (p : Int), .int .i64 0]), .int .i64 wd] w fun e w' => e = .returned (.tuple #[(.agg #[.bool false, .slice ao L cap, .int .i64 ((stepAt (fixF wd (xs.drop p)).2 p : Nat) : Int), .int .i64 ((fixF wd (xs.drop p)).2.2 : Int)]), .int .u64 ((fixF wd (xs.drop p)).1 : Int)]) ∧ Fr [] w w' := by
  have hLl := h.len
  rw [← hL] at hLl
  have HL : Hid (L = xs.length) := hL
  obtain ⟨R, hR⟩ : ∃ R, R = fixF wd (xs.drop p) := ⟨_, rfl⟩
  rw [← hR]
  have HR : Hid (R = fixF wd (xs.drop p)) := hR
  clear hR hL
  go_enter Tryz.func89, Tryz.ntmps89
  go_wp2_with fail
  refine (xDead_no ao L cap (p : Int) _).mono ?_
  rintro e w1 ⟨rfl, hF1⟩
  have B1 : Bx w1 w.heap.size false (.slice ao L cap) p 0 := ⟨hF1.keep ((Below.heap_alloc _ _ _ (by simp)).trans (heap_alloc_new w _)) (by simp)⟩
  have B2 : Bx w1 (w.heap.size + 1) false (.slice none 0 0) 0 0 := ⟨hF1.keep (by simpa using heap_alloc_new (w.alloc (.cells #[.bool false, .slice ao L cap, .int .i64 p, .int .i64 0] 102)) (.cells #[.bool false, .slice none 0 0, .int .i64 0, .int .i64 0] 102)) (by simp)⟩
  have x0 := B1.c0
  have x1 := B1.c1
  have x2 := B1.c2
  have x3 := B1.c3
  have xf0 := B1.f 0
  have xf1 := B1.f 1
  have xf2 := B1.f 2
  have xf3 := B1.f 3
  have h01 : Fr [] w w1 := ((Fr.alloc [] w _).then (Fr.alloc [] _ _)).then hF1
  clear hF1
  rcases (show wd < 1 ∨ 8 < wd ∨ (1 ≤ wd ∧ wd ≤ 8) from by omega) with hw | hw | ⟨hw1, hw8⟩
  · have HR' : Hid (R = (0, 0, 1)) := by show _ = _; rw [HR.out]; simp [fixF, hw]
    clear HR
    go_wp2_with fail
    refine (xWrong_any false ao L cap (p : Int) 0 1 _).mono ?_
    rintro e w2 ⟨rfl, hF2⟩
    have B2' := B2.keep hF2 (by simp)
    have y0 := B2'.c0
    have y1 := B2'.c1
    have y2 := B2'.c2
    have y3 := B2'.c3
    have yf0 := B2'.f 0
    have yf1 := B2'.f 1
    have yf2 := B2'.f 2
    have yf3 := B2'.f 3
    go_wp2
    refine bodyPost_ret (v := .tuple #[.agg #[.bool false, .slice ao L cap, .int .i64 (p : Int), .int .i64 1], .int .u64 0]) (by rw [results_cell_tmp rfl]; go_simp) rfl ⟨?_, ?_⟩
    · rw [HR'.out]; simp [stepAt]
    · exact (h01.then hF2).on (Fr.sets4 _ _ _ _ _ _) (by intro x hx; simp at hx; omega)
  · have HR' : Hid (R = (0, 0, 1)) := by show _ = _; rw [HR.out]; simp [fixF, hw]
    have hw1 : 1 ≤ wd := by omega
    clear HR
    go_wp2_with fail
    refine (xWrong_any false ao L cap (p : Int) 0 1 _).mono ?_
    rintro e w2 ⟨rfl, hF2⟩
    have B2' := B2.keep hF2 (by simp)
    have y0 := B2'.c0
    have y1 := B2'.c1
    have y2 := B2'.c2
    have y3 := B2'.c3
    have yf0 := B2'.f 0
    have yf1 := B2'.f 1
    have yf2 := B2'.f 2
    have yf3 := B2'.f 3
    go_wp2
    refine bodyPost_ret (v := .tuple #[.agg #[.bool false, .slice ao L cap, .int .i64 (p : Int), .int .i64 1], .int .u64 0]) (by rw [results_cell_tmp rfl]; go_simp) rfl ⟨?_, ?_⟩
    · rw [HR'.out]; simp [stepAt]
    · exact (h01.then hF2).on (Fr.sets4 _ _ _ _ _ _) (by intro x hx; simp at hx; omega)
  · obtain ⟨X, rfl⟩ := Int.eq_ofNat_of_zero_le (show 0 ≤ wd by omega)
    have hX8 : X ≤ 8 := by omega
    by_cases hs : L < p + X
    · have HR' : Hid (R = (0, 0, 5)) := by
        show _ = _
        rw [HR.out]
        unfold fixF
        rw [if_neg (by omega), if_pos (by rw [List.length_drop, ← HL.out]; omega)]
      have hs' : (L : Int) - p < X := by omega
      clear HR
      go_wp2_with fail
      refine (xWrong_any false ao L cap (p : Int) 0 5 _).mono ?_
      rintro e w2 ⟨rfl, hF2⟩
      have B2' := B2.keep hF2 (by simp)
      have y0 := B2'.c0
      have y1 := B2'.c1
      have y2 := B2'.c2
      have y3 := B2'.c3
      have yf0 := B2'.f 0
      have yf1 := B2'.f 1
      have yf2 := B2'.f 2
      have yf3 := B2'.f 3
      go_wp2
      refine bodyPost_ret (v := .tuple #[.agg #[.bool false, .slice ao L cap, .int .i64 (p : Int), .int .i64 5], .int .u64 0]) (by rw [results_cell_tmp rfl]; go_simp) rfl ⟨?_, ?_⟩
      · rw [HR'.out]; simp [stepAt]
      · exact (h01.then hF2).on (Fr.sets4 _ _ _ _ _ _) (by intro x hx; simp at hx; omega)
    · have HR' : Hid (R = (leN ((xs.drop p).take X), X, 0)) := by
        show _ = _
        rw [HR.out]
        unfold fixF
        rw [if_neg (by omega), if_neg (by rw [List.length_drop, ← HL.out]; omega), Int.toNat_natCast]
      have hs' : (X : Int) ≤ (L : Int) - p := by omega
      clear HR
      obtain ⟨rb, off, e, hc⟩ := h.lies (by rw [← HL.out]; omega)
      subst e
      go_wp2_with fail
      go_loop [6, 7] (fun vn vi => ∃ (n j : Nat), vn = .int .u64 n ∧ vi = .int .i64 ((j : Int) - 1) ∧ j ≤ X ∧ n < 256 ^ (X - j) ∧ Hid (n = leN (((xs.drop p).take X).drop j))) (fun _ vi => (RowKit.intOf vi + 1).toNat)
      case atStart => exact ⟨0, X, rfl, rfl, Nat.le_refl _, by simp, by show _ = _; rw [List.drop_eq_nil_of_le (by rw [List.length_take]; omega)]; rfl⟩
      case round =>
        obtain ⟨n, j, rfl, rfl, hj, hn, E⟩ := hrel
        by_cases hj0 : 0 < j
        · obtain ⟨i, rfl⟩ : ∃ i, j = i + 1 := ⟨j - 1, by omega⟩
          have hcx : w1.cell? ⟨rb, off + (p + i), none⟩ = some (.int .u8 ((xs.getD (p + i) 0 : Nat) : Int)) := by
            have h1 := hc (p + i) (by rw [← HL.out]; omega)
            exact (World.cell?_of_block (h01.block rb (World.block_lt_of_cell? w _ h1) (by simp))).trans h1
          obtain ⟨x, hx⟩ : ∃ x, x = xs.getD (p + i) 0 := ⟨_, rfl⟩
          rw [← hx] at hcx
          have hget : xs[p + i]? = some x := by rw [hx, List.getD, List.getElem?_eq_getElem (by rw [← HL.out]; omega)]; rfl
          have hx256 : x < 256 := hb x (List.mem_of_getElem? hget)
          have hB := bytw n x i X hn (by omega) hX8 hx256
          have HG := hB.1
          have HB : Hid (x + 256 * n < 256 ^ (X - i)) := hB.2
          have HE : Hid (x + 256 * n = leN (((xs.drop p).take X).drop i)) := by
            show _ = _
            have hg2 : ((xs.drop p).take X)[i]? = some x := by rw [List.getElem?_take, if_pos (by omega), List.getElem?_drop]; exact hget
            obtain ⟨hlt, hge⟩ := List.getElem?_eq_some_iff.1 hg2
            rw [List.drop_eq_getElem_cons hlt, hge]
            simp only [leN]
            rw [← E.out]
          clear hB hget hx hc E hn
          have hpi : (p : Int) + i < L := by omega
          go_wp2
          go_round
          case rel => exact ⟨_, i, congrArg (Value.int .u64) HG.out, rfl, by omega, HB.out, HE⟩
          case measure => simp [RowKit.intOf]
        · obtain rfl : j = 0 := by omega
          have HV : Hid (n = leN ((xs.drop p).take X)) := by have := E.out; rwa [List.drop_zero] at this
          clear E hc h
          have y0 := B2.c0
          have y1 := B2.c1
          have y2 := B2.c2
          have y3 := B2.c3
          have yf0 := B2.f 0
          have yf1 := B2.f 1
          have yf2 := B2.f 2
          have yf3 := B2.f 3
          go_wp2
          refine bodyPost_ret (v := .tuple #[.agg #[.bool false, .slice (some ⟨rb, off, none⟩) L cap, .int .i64 ((p : Int) + X), .int .i64 0], .int .u64 (n : Int)]) (by rw [results_cell_tmp rfl]; go_simp) rfl ⟨?_, ?_⟩
          · rw [HR'.out, ← HV.out]; simp [stepAt]
          · exact (h01.on (Fr.set (S := [w.heap.size]) _ _ _ (by simp)) (by simp)).on (Fr.sets4 _ _ _ _ _ _) (by intro x hx; simp at hx; omega)
set_option maxHeartbeats 2000000 in
set_option maxRecDepth 100000 in
theorem xFixed_dead (g : Bool) (ao : Option Addr) (L cap : Nat) (p c : Int) (wd : Int) (w : World) (hd : g = true ∨ c ≠ 0) : Calls Tryz.prog 89 #[(.agg #[.bool g, .slice ao L cap, .int .i64 p, .int .i64 c]), .int .i64 wd] w fun e w' => e = .returned (.tuple #[(.agg #[.bool g, .slice ao L cap, .int .i64 p, .int .i64 c]), .int .u64 0]) ∧ Fr [] w w' := by
  have HD : Hid (g = true ∨ c ≠ 0) := hd
  clear hd
  go_enter Tryz.func89, Tryz.ntmps89
  go_wp2_with fail
  refine (xDead_dead g ao L cap p c _ HD.out).mono ?_
  rintro e w1 ⟨rfl, hF1⟩
  have B1 : Bx w1 w.heap.size g (.slice ao L cap) p c := ⟨hF1.keep ((Below.heap_alloc _ _ _ (by simp)).trans (heap_alloc_new w _)) (by simp)⟩
  have B2 : Bx w1 (w.heap.size + 1) false (.slice none 0 0) 0 0 := ⟨hF1.keep (by simpa using heap_alloc_new (w.alloc (.cells #[.bool g, .slice ao L cap, .int .i64 p, .int .i64 c] 102)) (.cells #[.bool false, .slice none 0 0, .int .i64 0, .int .i64 0] 102)) (by simp)⟩
  have x0 := B1.c0
  have x1 := B1.c1
  have x2 := B1.c2
  have x3 := B1.c3
  have xf0 := B1.f 0
  have xf1 := B1.f 1
  have xf2 := B1.f 2
  have xf3 := B1.f 3
  have y0 := B2.c0
  have y1 := B2.c1
  have y2 := B2.c2
  have y3 := B2.c3
  have yf0 := B2.f 0
  have yf1 := B2.f 1
  have yf2 := B2.f 2
  have yf3 := B2.f 3
  go_wp2
  refine bodyPost_ret (v := .tuple #[(.agg #[.bool g, .slice ao L cap, .int .i64 p, .int .i64 c]), .int .u64 0]) (by rw [results_cell_tmp rfl]; go_simp) rfl ⟨rfl, ?_⟩
  exact (((Fr.alloc [] w _).then (Fr.alloc [] _ _)).then hF1).on (Fr.sets4 _ _ _ _ _ _) (by intro x hx; simp at hx; omega)
set_option maxHeartbeats 2000000 in
set_option maxRecDepth 100000 in
theorem xText_dead (g : Bool) (ao : Option Addr) (L cap : Nat) (p c : Int) (ms : Int) (w : World) (hd : g = true ∨ c ≠ 0) : Calls Tryz.prog 88 #[(.agg #[.bool g, .slice ao L cap, .int .i64 p, .int .i64 c]), .int .i64 ms] w fun e w' => e = .returned (.tuple #[(.agg #[.bool g, .slice ao L cap, .int .i64 p, .int .i64 c]), .string ⟨#[]⟩]) ∧ Fr [] w w' := by
  have HD : Hid (g = true ∨ c ≠ 0) := hd
  clear hd
  go_enter Tryz.func88, Tryz.ntmps88
  go_wp2_with fail
  refine (xDead_dead g ao L cap p c _ HD.out).mono ?_
  rintro e w1 ⟨rfl, hF1⟩
  have B1 : Bx w1 w.heap.size g (.slice ao L cap) p c := ⟨hF1.keep ((Below.heap_alloc _ _ _ (by simp)).trans (heap_alloc_new w _)) (by simp)⟩
  have B2 : Bx w1 (w.heap.size + 1) false (.slice none 0 0) 0 0 := ⟨hF1.keep (by simpa using heap_alloc_new (w.alloc (.cells #[.bool g, .slice ao L cap, .int .i64 p, .int .i64 c] 102)) (.cells #[.bool false, .slice none 0 0, .int .i64 0, .int .i64 0] 102)) (by simp)⟩
  have x0 := B1.c0
  have x1 := B1.c1
  have x2 := B1.c2
  have x3 := B1.c3
  have xf0 := B1.f 0
  have xf1 := B1.f 1
  have xf2 := B1.f 2
  have xf3 := B1.f 3
  have y0 := B2.c0
  have y1 := B2.c1
  have y2 := B2.c2
  have y3 := B2.c3
  have yf0 := B2.f 0
  have yf1 := B2.f 1
  have yf2 := B2.f 2
  have yf3 := B2.f 3
  go_wp2
  refine bodyPost_ret (v := .tuple #[(.agg #[.bool g, .slice ao L cap, .int .i64 p, .int .i64 c]), .string ⟨#[]⟩]) (by rw [results_cell_tmp rfl]; go_simp) rfl ⟨rfl, ?_⟩
  exact (((Fr.alloc [] w _).then (Fr.alloc [] _ _)).then hF1).on (Fr.sets4 _ _ _ _ _ _) (by intro x hx; simp at hx; omega)
set_option maxHeartbeats 8000000 in
set_option maxRecDepth 100000 in
theorem xText_live (ao : Option Addr) (L cap p : Nat) (xs : List Nat) (ms : Int) (hm0 : -9223372036854775808 ≤ ms) (hm1 : ms ≤ 9223372036854775807) (hcap : L ≤ cap) (w : World) (h : Rs w ao xs) (hb : ∀ x ∈ xs, x < 256) (hL : L = xs.length) (hp : p ≤ L) :
    Calls Tryz.prog 88 #[(.agg #[.bool false, .slice ao L cap, .int .i64 (p : Int), .int .i64 0]), .int .i64 ms] w fun e w' => e = .returned (.tuple #[(.agg #[.bool false, .slice ao L cap, .int .i64 ((stepAt (textF ms (xs.drop p)).2 p : Nat) : Int), .int .i64 ((textF ms (xs.drop p)).2.2 : Int)]), .string (textF ms (xs.drop p)).1]) ∧ Fr [] w w' := by
  have hLl := h.len
  rw [← hL] at hLl
  have HL : Hid (L = xs.length) := hL
  have hsz := shortF_size (xs.drop p) 0 0
  have HV : ∀ w1, Fr [] (two w (.slice ao L cap) p 0) w1 → AnsF 143 #[(.agg #[.bool false, .slice ao L cap, .int .i64 (p : Int), .int .i64 0])] w1 (.tuple #[(.agg #[.bool false, .slice ao L cap, .int .i64 ((stepAt (shortF 0 0 (xs.drop p)).2 p : Nat) : Int), .int .i64 ((shortF 0 0 (xs.drop p)).2.2 : Int)]), .int .u64 ((shortF 0 0 (xs.drop p)).1 : Int)]) := fun w1 hf => xVar_live ao L cap p xs _ (h.fr ((two_fr _ _ _ _).then hf)) hb hL hp
  have hbd := shortF_val (xs.drop p) 0 0 (by omega) (by omega) (fun x hx => hb x (List.mem_of_mem_drop hx))
  obtain ⟨T, hTT⟩ : ∃ T, T = textF ms (xs.drop p) := ⟨_, rfl⟩
  rw [← hTT]
  have hT2 := hTT
  unfold textF at hT2
  obtain ⟨R, hR⟩ : ∃ R, R = shortF 0 0 (xs.drop p) := ⟨_, rfl⟩
  rw [← hR] at hbd hT2 hsz
  simp only [← hR] at HV
  rw [List.length_drop, ← hL] at hT2
  have HT : Hid (T = _) := hT2
  clear hR hL hTT hT2
  obtain ⟨s1, s2, s3⟩ := R
  simp only at hbd HT HV hsz
  have HVV : Hid (∀ w1, Fr [] (two w (.slice ao L cap) p 0) w1 → AnsF 143 #[(.agg #[.bool false, .slice ao L cap, .int .i64 (p : Int), .int .i64 0])] w1 (.tuple #[(.agg #[.bool false, .slice ao L cap, .int .i64 ((stepAt (s2, s3) p : Nat) : Int), .int .i64 (s3 : Int)]), .int .u64 (s1 : Int)])) := HV
  clear HV
  have hsl : s3 = 0 → 0 < L - p ∧ 0 < s2 ∧ s2 ≤ L - p := by
    intro h3
    have := hsz h3
    rw [List.length_drop, ← HL.out] at this
    omega
  have HSL : Hid (s3 = 0 → 0 < L - p ∧ 0 < s2 ∧ s2 ≤ L - p) := hsl
  clear hsl hsz
  go_enter Tryz.func88, Tryz.ntmps88
  go_wp2_with fail
  refine (xDead_no ao L cap (p : Int) _).mono ?_
  rintro e w1 ⟨rfl, hF1⟩
  have B1 : Bx w1 w.heap.size false (.slice ao L cap) p 0 := ⟨hF1.keep ((Below.heap_alloc _ _ _ (by simp)).trans (heap_alloc_new w _)) (by simp)⟩
  have B2 : Bx w1 (w.heap.size + 1) false (.slice none 0 0) 0 0 := ⟨hF1.keep (by simpa using heap_alloc_new (w.alloc (.cells #[.bool false, .slice ao L cap, .int .i64 p, .int .i64 0] 102)) (.cells #[.bool false, .slice none 0 0, .int .i64 0, .int .i64 0] 102)) (by simp)⟩
  have x0 := B1.c0
  have x1 := B1.c1
  have x2 := B1.c2
  have x3 := B1.c3
  have xf0 := B1.f 0
  have xf1 := B1.f 1
  have xf2 := B1.f 2
  have xf3 := B1.f 3
  have h01 : Fr [] w w1 := ((Fr.alloc [] w _).then (Fr.alloc [] _ _)).then hF1
  by_cases hms : ms < 0
  · have HR' : Hid (T = (⟨#[]⟩, 0, 1)) := by have := HT.out; rw [if_pos hms] at this; exact this
    clear HT
    go_wp2_with fail
    refine (xWrong_any false ao L cap (p : Int) 0 1 _).mono ?_
    rintro e w4 ⟨rfl, hF4⟩
    have B2' := B2.keep hF4 (by simp)
    have y0 := B2'.c0
    have y1 := B2'.c1
    have y2 := B2'.c2
    have y3 := B2'.c3
    have yf0 := B2'.f 0
    have yf1 := B2'.f 1
    have yf2 := B2'.f 2
    have yf3 := B2'.f 3
    go_wp2
    refine bodyPost_ret (v := .tuple #[.agg #[.bool false, .slice ao L cap, .int .i64 (p : Int), .int .i64 1], .string ⟨#[]⟩]) (by rw [results_cell_tmp rfl]; go_simp) rfl ⟨?_, ?_⟩
    · rw [HR'.out]; simp [stepAt]
    · exact (h01.then hF4).on (Fr.sets4 _ _ _ _ _ _) (by intro x hx; simp at hx; omega)
  · have hms' : 0 ≤ ms := by omega
    go_wp2_with fail
    refine Calls.mono (HVV.out _ hF1).calls ?_
    rintro e w2 ⟨rfl, hF2⟩
    clear HVV hF1
    obtain ⟨q, hq⟩ : ∃ q, q = stepAt (s2, s3) p := ⟨_, rfl⟩
    rw [← hq]
    have HQ : Hid (q = stepAt (s2, s3) p) := hq
    clear hq
    by_cases hs3 : s3 = 0
    · subst hs3
      have hsl := HSL.out rfl
      have HQ' : Hid (q = p + s2) := HQ.out
      clear HQ HSL
      have hq1 : p + s2 ≤ q := by have := HQ'.out; omega
      have hq2 : q ≤ p + s2 := by have := HQ'.out; omega
      go_wp2_with fail
      refine (xDead_no ao L cap (q : Int) _).mono ?_
      rintro e w3 ⟨rfl, hF3⟩
      have hF13 : Fr [] w1 w3 := (hF2.then (Fr.alloc [] w2 (.cells #[.bool false, .slice ao L cap, .int .i64 q, .int .i64 0] 102))).then hF3
      have h03 : Fr [] w w3 := h01.then hF13
      have B1c := B1.keep hF13 (by simp)
      have B2c := B2.keep hF13 (by simp)
      have B3c : Bx w3 w2.heap.size false (.slice ao L cap) q 0 := ⟨hF3.keep (heap_alloc_new w2 _) (by simp)⟩
      have hw12 : w.heap.size + 1 < w2.heap.size := (B2.keep hF2 (by simp)).lt
      clear x0 x1 x2 x3 xf0 xf1 xf2 xf3 hF2 hF3 B1 B2
      have x0 := B1c.c0
      have x1 := B1c.c1
      have x2 := B1c.c2
      have x3 := B1c.c3
      have xf0 := B1c.f 0
      have xf1 := B1c.f 1
      have xf2 := B1c.f 2
      have xf3 := B1c.f 3
      have z0 := B3c.c0
      have z1 := B3c.c1
      have z2 := B3c.c2
      have z3 := B3c.c3
      have zf0 := B3c.f 0
      have zf1 := B3c.f 1
      have zf2 := B3c.f 2
      have zf3 := B3c.f 3
      by_cases hlim : ms < (s1 : Int)
      · have HR' : Hid (T = (⟨#[]⟩, 0, 3)) := by have := HT.out; rw [if_neg (by omega), if_neg (by simp), if_pos hlim] at this; exact this
        clear HT hms
        go_wp2_with fail
        refine (xWrong_any false ao L cap (p : Int) 0 3 _).mono ?_
        rintro e w4 ⟨rfl, hF4⟩
        have B2' := B2c.keep hF4 (by simp)
        have y0 := B2'.c0
        have y1 := B2'.c1
        have y2 := B2'.c2
        have y3 := B2'.c3
        have yf0 := B2'.f 0
        have yf1 := B2'.f 1
        have yf2 := B2'.f 2
        have yf3 := B2'.f 3
        go_wp2
        refine bodyPost_ret (v := .tuple #[.agg #[.bool false, .slice ao L cap, .int .i64 (p : Int), .int .i64 3], .string ⟨#[]⟩]) (by rw [results_cell_tmp rfl]; go_simp) rfl ⟨?_, ?_⟩
        · rw [HR'.out]; simp [stepAt]
        · exact (h03.then hF4).on (Fr.sets4 _ _ _ _ _ _) (by intro x hx; simp at hx; omega)
      · by_cases hsh : L - p - s2 < s1
        · have HR' : Hid (T = (⟨#[]⟩, 0, 5)) := by have := HT.out; rw [if_neg (by omega), if_neg (by simp), if_neg hlim, if_pos hsh] at this; exact this
          have hlim' : (s1 : Int) ≤ ms := by omega
          have hsh' : (L : Int) - q < s1 := by omega
          have hql : (q : Int) ≤ L := by omega
          clear HT hms hlim
          go_wp2_with fail
          refine (xWrong_any false ao L cap (p : Int) 0 5 _).mono ?_
          rintro e w4 ⟨rfl, hF4⟩
          have B2' := B2c.keep hF4 (by simp)
          have y0 := B2'.c0
          have y1 := B2'.c1
          have y2 := B2'.c2
          have y3 := B2'.c3
          have yf0 := B2'.f 0
          have yf1 := B2'.f 1
          have yf2 := B2'.f 2
          have yf3 := B2'.f 3
          go_wp2
          refine bodyPost_ret (v := .tuple #[.agg #[.bool false, .slice ao L cap, .int .i64 (p : Int), .int .i64 5], .string ⟨#[]⟩]) (by rw [results_cell_tmp rfl]; go_simp) rfl ⟨?_, ?_⟩
          · rw [HR'.out]; simp [stepAt]
          · exact (h03.then hF4).on (Fr.sets4 _ _ _ _ _ _) (by intro x hx; simp at hx; omega)
        · have HR' : Hid (T = (toBA (((xs.drop p).drop s2).take s1), s2 + s1, 0)) := by have := HT.out; rw [if_neg (by omega), if_neg (by simp), if_neg hlim, if_neg hsh] at this; exact this
          have hlim' : (s1 : Int) ≤ ms := by omega
          have hsh' : (s1 : Int) ≤ (L : Int) - q := by omega
          have hql : (q : Int) + s1 ≤ L := by omega
          clear HT hms hlim
          obtain ⟨rb, off, e, hc⟩ := h.lies (by rw [← HL.out]; omega)
          subst e
          have hcc : ∀ j, j < L → w3.cell? ⟨rb, off + j, none⟩ = some (.int .u8 ((xs.getD j 0 : Nat) : Int)) := by
            intro j hj
            have h1 := hc j (by rw [← HL.out]; exact hj)
            exact (World.cell?_of_block (h03.block rb (World.block_lt_of_cell? w _ h1) (by simp))).trans h1
          clear hc h
          by_cases hcs : cap = q
          · subst hcs
            obtain rfl : s1 = 0 := by omega
            have heq : Sem.run Tryz.prog (convert 26 9 (.slice (some ⟨rb, off, none⟩) 0 0)) w3 = .ok (.string (toBA [])) w3 := conv_eq w3 rb off 0 0 [] rfl (by omega)
            rw [List.take_zero] at HR'
            obtain ⟨tb, htb⟩ : ∃ tb, tb = toBA [] := ⟨_, rfl⟩
            rw [← htb] at heq HR'
            clear htb hcc
            have y0 := B2c.c0
            have y1 := B2c.c1
            have y2 := B2c.c2
            have y3 := B2c.c3
            have yf0 := B2c.f 0
            have yf1 := B2c.f 1
            have yf2 := B2c.f 2
            have yf3 := B2c.f 3
            go_wp2
            refine bodyPost_ret (v := .tuple #[.agg #[.bool false, .slice (some ⟨rb, off, none⟩) L cap, .int .i64 (cap : Int), .int .i64 0], .string tb]) (by rw [results_cell_tmp rfl]; go_simp) rfl ⟨?_, ?_⟩
            · rw [HR'.out]; simp [stepAt, HQ'.out]
            · exact (h03.on (Fr.set (S := [w2.heap.size]) _ _ _ (by simp)) (by intro x hx; simp at hx; omega)).on (Fr.sets4 _ _ _ _ _ _) (by intro x hx; simp at hx; omega)
          · have heq : Sem.run Tryz.prog (convert 26 9 (.slice (some ⟨rb, off + q, none⟩) s1 (cap - q))) w3 = .ok (.string (toBA (((xs.drop p).drop s2).take s1))) w3 := conv_eq w3 rb (off + q) s1 _ _ (by rw [List.length_take, List.length_drop, List.length_drop, ← HL.out]; omega) (by
              intro j hj
              have := hcc (q + j) (by omega)
              rw [Nat.add_assoc]
              refine this.trans ?_
              simp [List.getD, hj, List.getElem?_drop, HQ'.out, Nat.add_assoc])
            obtain ⟨tb, htb⟩ : ∃ tb, tb = toBA (((xs.drop p).drop s2).take s1) := ⟨_, rfl⟩
            rw [← htb] at heq HR'
            clear htb hcc
            have y0 := B2c.c0
            have y1 := B2c.c1
            have y2 := B2c.c2
            have y3 := B2c.c3
            have yf0 := B2c.f 0
            have yf1 := B2c.f 1
            have yf2 := B2c.f 2
            have yf3 := B2c.f 3
            go_wp2
            refine bodyPost_ret (v := .tuple #[.agg #[.bool false, .slice (some ⟨rb, off, none⟩) L cap, .int .i64 ((q : Int) + s1), .int .i64 0], .string tb]) (by rw [results_cell_tmp rfl]; go_simp) rfl ⟨?_, ?_⟩
            · rw [HR'.out]; simp [stepAt, HQ'.out]; omega
            · exact (h03.on (Fr.set (S := [w2.heap.size]) _ _ _ (by simp)) (by intro x hx; simp at hx; omega)).on (Fr.sets4 _ _ _ _ _ _) (by intro x hx; simp at hx; omega)
    · have hs3b : (s3 : Int) ≠ 0 := by omega
      have HS3 : Hid ((s3 : Int) ≠ 0) := hs3b
      have HQ' : Hid (q = p) := by have := HQ.out; simp only [stepAt] at this; rw [if_neg hs3] at this; exact this
      have HR' : Hid (T = (⟨#[]⟩, 0, s3)) := by have := HT.out; rw [if_neg (by omega), if_pos hs3] at this; exact this
      have HS3n : Hid (s3 ≠ 0) := hs3
      clear HT hms hs3b hs3 HQ HSL
      go_wp2_with fail
      refine (xDead_yes ao L cap (q : Int) (s3 : Int) _ HS3.out).mono ?_
      rintro e w3 ⟨rfl, hF3⟩
      have hF13 : Fr [] w1 w3 := (hF2.then (Fr.alloc [] w2 (.cells #[.bool false, .slice ao L cap, .int .i64 q, .int .i64 s3] 102))).then hF3
      have h03 : Fr [] w w3 := h01.then hF13
      have B1c := B1.keep hF13 (by simp)
      have B2c := B2.keep hF13 (by simp)
      have B3c : Bx w3 w2.heap.size false (.slice ao L cap) q s3 := ⟨hF3.keep (heap_alloc_new w2 _) (by simp)⟩
      have hw12 : w.heap.size + 1 < w2.heap.size := (B2.keep hF2 (by simp)).lt
      clear x0 x1 x2 x3 xf0 xf1 xf2 xf3 hF2 hF3 B1 B2
      have x0 := B1c.c0
      have x1 := B1c.c1
      have x2 := B1c.c2
      have x3 := B1c.c3
      have xf0 := B1c.f 0
      have xf1 := B1c.f 1
      have xf2 := B1c.f 2
      have xf3 := B1c.f 3
      have z0 := B3c.c0
      have z1 := B3c.c1
      have z2 := B3c.c2
      have z3 := B3c.c3
      have zf0 := B3c.f 0
      have zf1 := B3c.f 1
      have zf2 := B3c.f 2
      have zf3 := B3c.f 3
      go_wp2_with fail
      refine (xWrong_any false ao L cap (p : Int) 0 (s3 : Int) _).mono ?_
      rintro e w4 ⟨rfl, hF4⟩
      have B2' := B2c.keep hF4 (by simp)
      have y0 := B2'.c0
      have y1 := B2'.c1
      have y2 := B2'.c2
      have y3 := B2'.c3
      have yf0 := B2'.f 0
      have yf1 := B2'.f 1
      have yf2 := B2'.f 2
      have yf3 := B2'.f 3
      go_wp2
      refine bodyPost_ret (v := .tuple #[.agg #[.bool false, .slice ao L cap, .int .i64 (p : Int), .int .i64 (s3 : Int)], .string ⟨#[]⟩]) (by rw [results_cell_tmp rfl]; go_simp) rfl ⟨?_, ?_⟩
      · rw [HR'.out]; simp [stepAt]
      · exact (h03.then hF4).on (Fr.sets4 _ _ _ _ _ _) (by intro x hx; simp at hx; omega)
end Go.Proofs.YtaefninikmaiiaaGreatDoor
/- What the reference's 'one' answers: the next write. Conditions: where its bytes lie, fewer than 2^41. -/
namespace Go.Proofs.YtaefninikmaiiaaGreatDoor
open Go.ChangeShapes Go.WideShapes Go.ChangeAt Go.RowKit Go.Lib
set_option linter.unusedVariables false

theorem results_cct {fn : Func} {p q u : Tmp} {t1 t2 : TypeId} (h : fn.results = #[.cell p t1, .cell q t2, .tmp u]) (tmps : Array Value) (P : Program) (w : World) :
    (results fn tmps).run P w = ((asAddr (tmps.getD p undef)).run P w).andThen fun a w1 => ((loadVar t1 a).run P w1).andThen fun v w2 => ((asAddr (tmps.getD q undef)).run P w2).andThen fun b w3 => ((loadVar t2 b).run P w3).andThen fun x w4 => .ok (.tuple #[v, x, tmps.getD u undef]) w4 := by
  simp only [results, h]
  simp [Sem.run_bind, Result.andThen]
theorem Bx.set {w : World} {b : Nat} {g : Bool} {s : Value} {p c : Int} (h : Bx w b g s p c) (g' : Bool) (s' : Value) (p' c' : Int) :
    Bx ((((w.setCell ⟨b, 0, none⟩ (.bool g')).setCell ⟨b, 1, none⟩ s').setCell ⟨b, 2, none⟩ (.int .i64 p')).setCell ⟨b, 3, none⟩ (.int .i64 c')) b g' s' p' c' := by
  refine ⟨?_⟩
  rw [row_put _ (row_put _ (row_put _ (row_put _ h.box)))]
  rfl
/-- What 'one' holds: the reader, and the boxes of its answers. -/
structure O3 (w W : World) (b : Nat) (s : Value) (p c : Int) : Prop where
  r : Bx W b false s p c
  z : Bx W (b + 1) false (.slice none 0 0) 0 0
  x : B3 W (b + 1 + 1) (.string ⟨#[]⟩) (.string ⟨#[]⟩) (.bool false)
  fr : Fr [] w W
  lo : w.heap.size ≤ b
theorem O3.keep {w W W' : World} {b : Nat} {s : Value} {p c : Int} (h : O3 w W b s p c) (hf : Fr [] W W') : O3 w W' b s p c :=
  ⟨h.r.keep hf (by simp), h.z.keep hf (by simp), h.x.keep hf (by simp), h.fr.then hf, h.lo⟩
theorem O3.set {w W : World} {b : Nat} {s : Value} {p c : Int} (h : O3 w W b s p c) (s' : Value) (p' c' : Int) :
    O3 w ((((W.setCell ⟨b, 0, none⟩ (.bool false)).setCell ⟨b, 1, none⟩ s').setCell ⟨b, 2, none⟩ (.int .i64 p')).setCell ⟨b, 3, none⟩ (.int .i64 c')) b s' p' c' := by
  have hf := Fr.sets4 W b (.bool false) s' (.int .i64 p') (.int .i64 c')
  exact ⟨h.r.set false s' p' c', h.z.keep hf (by simp), h.x.keep hf (by simp; omega), h.fr.on hf (by intro x hx; simp at hx; have := h.lo; omega), h.lo⟩
theorem O3.end_ {w W : World} {b : Nat} {s : Value} {p c : Int} (h : O3 w W b s p c) (a0 a1 a2 a3 u v x : Value) :
    Fr [] w ((((((((W.setCell ⟨b + 1, 0, none⟩ a0).setCell ⟨b + 1, 1, none⟩ a1).setCell ⟨b + 1, 2, none⟩ a2).setCell ⟨b + 1, 3, none⟩ a3).setCell ⟨b + 1 + 1, 0, none⟩ u).setCell ⟨b + 1 + 1, 1, none⟩ v).setCell ⟨b + 1 + 1, 2, none⟩ x)) := by
  have h1 := Fr.sets4 W (b + 1) a0 a1 a2 a3
  have h2 := Fr.at3 ((((W.setCell ⟨b + 1, 0, none⟩ a0).setCell ⟨b + 1, 1, none⟩ a1).setCell ⟨b + 1, 2, none⟩ a2).setCell ⟨b + 1, 3, none⟩ a3) (b + 1 + 1) 0 1 2 u v x
  have hl := h.lo
  exact (h.fr.on h1 (by intro x hx; simp at hx; omega)).on h2 (by intro x hx; simp at hx; omega)
theorem drop_step (xs : List Nat) (p k : Nat) : (xs.drop p).drop k = xs.drop (p + k) := by rw [List.drop_drop]
/-- The reader's struct as a value. -/
def rdV (ao : Option Addr) (L cap : Nat) (p c : Int) : Value := .agg #[.bool false, .slice ao L cap, .int .i64 p, .int .i64 c]


theorem decW_e1 {ys : List Nat} {key : ByteArray} {k e : Nat} (h : textF 64 ys = (key, k, e)) (he : e ≠ 0) : decW ys = .error e := by
  unfold decW; rw [tk_err h he]
theorem decW_e2 {ys : List Nat} {key : ByteArray} {k : Nat} (h : textF 64 ys = (key, k, 0)) (hk : key.size = 0) : decW ys = .error 1 := by
  unfold decW; simp [tk, h, refK, hk]
theorem decW_s {ys : List Nat} {key : ByteArray} {k : Nat} (h : textF 64 ys = (key, k, 0)) (hk : ¬ key.size = 0) : decW ys = decD key (ys.drop k) := by
  unfold decW; rw [tk_ok h (by simp [refK, hk])]
theorem decD_e3 {key : ByteArray} {ys : List Nat} {d k e : Nat} (h : fixF 1 ys = (d, k, e)) (he : e ≠ 0) : decD key ys = .error e := by
  unfold decD; rw [tk_err h he]
theorem decD_e4 {key : ByteArray} {ys : List Nat} {d k : Nat} (h : fixF 1 ys = (d, k, 0)) (hd : 1 < d) : decD key ys = .error 4 := by
  unfold decD; simp [tk, h, refD, show ¬ (d = 0 ∨ d = 1) by omega]
theorem decD_1 {key : ByteArray} {ys : List Nat} {k : Nat} (h : fixF 1 ys = (1, k, 0)) : decD key ys = .ok (⟨key, noS, true⟩, ys.drop k) := by
  unfold decD; rw [tk_ok h (by simp [refD])]; simp
theorem decD_0 {key : ByteArray} {ys : List Nat} {k : Nat} (h : fixF 1 ys = (0, k, 0)) : decD key ys = decV key (ys.drop k) := by
  unfold decD; rw [tk_ok h (by simp [refD])]; simp
theorem decV_e {key v : ByteArray} {ys : List Nat} {k e : Nat} (h : textF 1024 ys = (v, k, e)) (he : e ≠ 0) : decV key ys = .error e := by
  unfold decV; rw [tk_err h he]
theorem decV_ok {key v : ByteArray} {ys : List Nat} {k : Nat} (h : textF 1024 ys = (v, k, 0)) : decV key ys = .ok (⟨key, v, false⟩, ys.drop k) := by
  unfold decV; rw [tk_ok h rfl]
/-- What 'one' answers of the bytes ahead. -/
def OneAns (ao : Option Addr) (L cap : Nat) (xs ys : List Nat) (e : Ending) : Prop :=
  match decW ys with
  | .error c => ∃ (p' c' : Int) (k v : ByteArray) (d : Bool), e = .returned (.tuple #[.agg #[.bool false, .slice ao L cap, .int .i64 p', .int .i64 c'], .agg #[.string k, .string v, .bool d], .int .i64 (c : Int)])
  | .ok (x, zs) => ∃ p' : Nat, p' ≤ L ∧ zs = xs.drop p' ∧ e = .returned (.tuple #[.agg #[.bool false, .slice ao L cap, .int .i64 (p' : Int), .int .i64 0], .agg #[.string x.key, .string x.val, .bool x.drop], .int .i64 0])
theorem OneAns.err {ao : Option Addr} {L cap c : Nat} {xs ys : List Nat} {p' c' : Int} {k v : ByteArray} {d : Bool} (h : decW ys = .error c) : OneAns ao L cap xs ys (.returned (.tuple #[.agg #[.bool false, .slice ao L cap, .int .i64 p', .int .i64 c'], .agg #[.string k, .string v, .bool d], .int .i64 (c : Int)])) := by
  unfold OneAns; rw [h]; exact ⟨_, _, _, _, _, rfl⟩
theorem OneAns.ok {ao : Option Addr} {L cap p' : Nat} {xs ys zs : List Nat} {k v : ByteArray} {d : Bool} (h : decW ys = .ok (⟨k, v, d⟩, zs)) (hp : p' ≤ L) (hz : zs = xs.drop p') : OneAns ao L cap xs ys (.returned (.tuple #[.agg #[.bool false, .slice ao L cap, .int .i64 (p' : Int), .int .i64 0], .agg #[.string k, .string v, .bool d], .int .i64 0])) := by
  unfold OneAns; rw [h]; exact ⟨_, hp, hz, rfl⟩

set_option maxHeartbeats 8000000 in
set_option maxRecDepth 100000 in
theorem xOne_any (ao : Option Addr) (L cap p : Nat) (xs : List Nat) (w : World) (h : Rs w ao xs) (hb : ∀ x ∈ xs, x < 256) (hL : L = xs.length) (hcap : L ≤ cap) (hp : p ≤ L) :
    Calls Tryz.prog 144 #[.agg #[.bool false, .slice ao L cap, .int .i64 (p : Int), .int .i64 0]] w fun e w' => OneAns ao L cap xs (xs.drop p) e ∧ Fr [] w w' := by
  have hLl := h.len
  rw [← hL] at hLl
  have HL : Hid (L = xs.length) := hL
  have hlow : Hid (∀ x ∈ xs.drop p, x < 256) := fun x hx => hb x (List.mem_of_mem_drop hx)
  clear hL
  obtain ⟨w0, HW0⟩ : ∃ w0, Hid (((w.alloc (.cells #[.bool false, .slice ao L cap, .int .i64 (p : Int), .int .i64 0] 102)).alloc (.cells #[.bool false, .slice none 0 0, .int .i64 0, .int .i64 0] 102)).alloc (.cells #[.string ⟨#[]⟩, .string ⟨#[]⟩, .bool false] 124) = w0) := ⟨_, rfl⟩
  have hO0 : O3 w w0 w.heap.size (.slice ao L cap) (p : Int) 0 := by
    refine ⟨⟨?_⟩, ⟨?_⟩, ⟨?_⟩, ?_, Nat.le_refl _⟩
    · rw [← HW0.out]; exact ((Fr.alloc [] _ _).then (Fr.alloc [] _ _)).keep (heap_alloc_new w _) (by simp)
    · rw [← HW0.out]
      have := (Fr.alloc [] _ (.cells #[.string ⟨#[]⟩, .string ⟨#[]⟩, .bool false] 124)).keep (heap_alloc_new (w.alloc (.cells #[.bool false, .slice ao L cap, .int .i64 (p : Int), .int .i64 0] 102)) (.cells #[.bool false, .slice none 0 0, .int .i64 0, .int .i64 0] 102)) (by simp)
      simpa using this
    · rw [← HW0.out]
      have := heap_alloc_new ((w.alloc (.cells #[.bool false, .slice ao L cap, .int .i64 (p : Int), .int .i64 0] 102)).alloc (.cells #[.bool false, .slice none 0 0, .int .i64 0, .int .i64 0] 102)) (.cells #[.string ⟨#[]⟩, .string ⟨#[]⟩, .bool false] 124)
      simpa using this
    · rw [← HW0.out]; exact ((Fr.alloc [] w _).then (Fr.alloc [] _ _)).then (Fr.alloc [] _ _)
  have hR0 : Rs w0 ao xs := h.fr hO0.fr
  have hT := xText_live ao L cap p xs 64 (by decide) (by decide) hcap w0 hR0 hb HL.out hp
  obtain ⟨⟨key, k1, e1⟩, hf1⟩ : ∃ r, textF 64 (xs.drop p) = r := ⟨_, rfl⟩
  have HF1 : Hid (textF 64 (xs.drop p) = (key, k1, e1)) := hf1
  rw [hf1] at hT
  simp only at hT
  obtain ⟨sp, hsp⟩ : ∃ sp, stepAt (k1, e1) p = sp := ⟨_, rfl⟩
  rw [hsp] at hT
  have HSP : Hid (stepAt (k1, e1) p = sp) := hsp
  have hpos1 : e1 = 0 → 0 < k1 ∧ p + k1 ≤ L := by
    intro he
    have := text_pos 64 (xs.drop p) (by rw [show ((64 : Nat) : Int) = 64 from rfl, hf1]; exact he)
    rw [show ((64 : Nat) : Int) = 64 from rfl, hf1, List.length_drop, ← HL.out] at this
    simp only at this
    omega
  clear hf1 hsp
  go_enter Tryz.func144, Tryz.ntmps144
  go_wp2_with fail
  rw [HW0.out]
  refine hT.mono ?_
  rintro e w1 ⟨rfl, hFa⟩
  have hO1 := hO0.keep hFa
  by_cases he1 : e1 = 0
  · subst he1
    have hk1 := hpos1 rfl
    have HSPE : Hid (sp = p + k1) := by show _ = _; rw [← HSP.out]; simp [stepAt]
    have hspl : sp ≤ L := by have := HSPE.out; omega
    have hO2 := hO1.set (.slice ao L cap) (sp : Int) 0
    obtain ⟨w2, HW2⟩ : ∃ w2, Hid (((((w1.setCell ⟨w.heap.size, 0, none⟩ (.bool false)).setCell ⟨w.heap.size, 1, none⟩ (.slice ao L cap)).setCell ⟨w.heap.size, 2, none⟩ (.int .i64 (sp : Int))).setCell ⟨w.heap.size, 3, none⟩ (.int .i64 0)) = w2) := ⟨_, rfl⟩
    rw [HW2.out] at hO2
    have r0 := hO1.r.c0
    have r1 := hO1.r.c1
    have r2 := hO1.r.c2
    have r3 := hO1.r.c3
    have s0 := hO1.r.f 0
    have s1 := hO1.r.f 1
    have s2 := hO1.r.f 2
    have s3 := hO1.r.f 3
    by_cases hks : key.size = 0
    · have hkb : ((key.size : Int) == 0) = true := by rw [hks]; rfl
      have HA : Hid (decW (xs.drop p) = .error 1) := decW_e2 HF1.out hks
      clear hks
      go_upto_region 5 with fail
      clear r0 r1 r2 r3 s0 s1 s2 s3
      rw [HW2.out]
      have r0 := hO2.r.c0
      have r1 := hO2.r.c1
      have r2 := hO2.r.c2
      have r3 := hO2.r.c3
      have s0 := hO2.r.f 0
      have s1 := hO2.r.f 1
      have s2 := hO2.r.f 2
      have s3 := hO2.r.f 3
      have z0 := hO2.z.c0
      have z1 := hO2.z.c1
      have z2 := hO2.z.c2
      have z3 := hO2.z.c3
      have f0 := hO2.z.f 0
      have f1 := hO2.z.f 1
      have f2 := hO2.z.f 2
      have f3 := hO2.z.f 3
      have x0 := hO2.x.c0
      have x1 := hO2.x.c1
      have x2 := hO2.x.c2
      have y0 := hO2.x.f0
      have y1 := hO2.x.f1
      have y2 := hO2.x.f2
      have HE : Hid (Fr [] w _) := hO2.end_ (.bool false) (.slice ao L cap) (.int .i64 (sp : Int)) (.int .i64 0) (.string ⟨#[]⟩) (.string ⟨#[]⟩) (.bool false)
      go_wp2
      refine bodyPost_ret (v := .tuple #[.agg #[.bool false, .slice ao L cap, .int .i64 (sp : Int), .int .i64 0], .agg #[.string ⟨#[]⟩, .string ⟨#[]⟩, .bool false], .int .i64 1]) (by rw [results_cct rfl]; go_simp) rfl ⟨OneAns.err (c := 1) HA.out, HE.out⟩
    · have hkb : ((key.size : Int) == 0) = false := by rw [beq_eq_false_iff_ne]; omega
      have HS : Hid (decW (xs.drop p) = decD key (xs.drop sp)) := by show _ = _; rw [decW_s HF1.out hks, drop_step, ← HSPE.out]
      clear hks
      have hR2 : Rs w2 ao xs := h.fr hO2.fr
      have hT2 := xFixed_live ao L cap sp xs 1 w2 hR2 hb HL.out hspl
      obtain ⟨⟨d, k2, e2⟩, hf2⟩ : ∃ r, fixF 1 (xs.drop sp) = r := ⟨_, rfl⟩
      have HF2 : Hid (fixF 1 (xs.drop sp) = (d, k2, e2)) := hf2
      have hpos2 : e2 = 0 → 0 < k2 ∧ sp + k2 ≤ L := by
        intro he
        have := fix_pos (xs.drop sp) (by rw [hf2]; exact he)
        rw [hf2, List.length_drop, ← HL.out] at this
        simp only at this
        omega
      have hdv : d < 2 ^ 64 := by
        have := fix_val (xs.drop sp) (fun x hx => hb x (List.mem_of_mem_drop hx))
        rw [hf2] at this
        exact this
      rw [hf2] at hT2
      simp only at hT2
      obtain ⟨sq, hsq⟩ : ∃ sq, stepAt (k2, e2) sp = sq := ⟨_, rfl⟩
      rw [hsq] at hT2
      have HSQ : Hid (stepAt (k2, e2) sp = sq) := hsq
      clear hf2 hsq
      go_upto_region 6 with fail
      clear r0 r1 r2 r3 s0 s1 s2 s3
      rw [HW2.out]
      have r0 := hO2.r.c0
      have r1 := hO2.r.c1
      have r2 := hO2.r.c2
      have r3 := hO2.r.c3
      have s0 := hO2.r.f 0
      have s1 := hO2.r.f 1
      have s2 := hO2.r.f 2
      have s3 := hO2.r.f 3
      go_wp2_with fail
      refine hT2.mono ?_
      rintro e w3 ⟨rfl, hFb⟩
      have hO3 := hO2.keep hFb
      clear r0 r1 r2 r3 s0 s1 s2 s3
      have r0 := hO3.r.c0
      have r1 := hO3.r.c1
      have r2 := hO3.r.c2
      have r3 := hO3.r.c3
      have s0 := hO3.r.f 0
      have s1 := hO3.r.f 1
      have s2 := hO3.r.f 2
      have s3 := hO3.r.f 3
      have hO4 := hO3.set (.slice ao L cap) (sq : Int) (e2 : Int)
      by_cases he2 : e2 = 0
      · subst he2
        have hk2 := hpos2 rfl
        have HSQE : Hid (sq = sp + k2) := by show _ = _; rw [← HSQ.out]; simp [stepAt]
        have hsql : sq ≤ L := by have := HSQE.out; omega
        obtain ⟨w4, HW4⟩ : ∃ w4, Hid (((((w3.setCell ⟨w.heap.size, 0, none⟩ (.bool false)).setCell ⟨w.heap.size, 1, none⟩ (.slice ao L cap)).setCell ⟨w.heap.size, 2, none⟩ (.int .i64 (sq : Int))).setCell ⟨w.heap.size, 3, none⟩ (.int .i64 0)) = w4) := ⟨_, rfl⟩
        have hO4' : O3 w w4 w.heap.size (.slice ao L cap) (sq : Int) 0 := by rw [← HW4.out]; exact hO4
        by_cases hd1 : 1 < d
        · have hdb : (1 : Int) < d := by omega
          have HA : Hid (decW (xs.drop p) = .error 4) := by show _ = _; rw [HS.out, decD_e4 HF2.out hd1]
          go_upto_region 10 with fail
          clear r0 r1 r2 r3 s0 s1 s2 s3
          rw [HW4.out]
          have r0 := hO4'.r.c0
          have r1 := hO4'.r.c1
          have r2 := hO4'.r.c2
          have r3 := hO4'.r.c3
          have s0 := hO4'.r.f 0
          have s1 := hO4'.r.f 1
          have s2 := hO4'.r.f 2
          have s3 := hO4'.r.f 3
          have z0 := hO4'.z.c0
          have z1 := hO4'.z.c1
          have z2 := hO4'.z.c2
          have z3 := hO4'.z.c3
          have f0 := hO4'.z.f 0
          have f1 := hO4'.z.f 1
          have f2 := hO4'.z.f 2
          have f3 := hO4'.z.f 3
          have x0 := hO4'.x.c0
          have x1 := hO4'.x.c1
          have x2 := hO4'.x.c2
          have y0 := hO4'.x.f0
          have y1 := hO4'.x.f1
          have y2 := hO4'.x.f2
          have HE : Hid (Fr [] w _) := hO4'.end_ (.bool false) (.slice ao L cap) (.int .i64 (sq : Int)) (.int .i64 0) (.string ⟨#[]⟩) (.string ⟨#[]⟩) (.bool false)
          go_wp2
          refine bodyPost_ret (v := .tuple #[.agg #[.bool false, .slice ao L cap, .int .i64 (sq : Int), .int .i64 0], .agg #[.string ⟨#[]⟩, .string ⟨#[]⟩, .bool false], .int .i64 4]) (by rw [results_cct rfl]; go_simp) rfl ⟨OneAns.err (c := 4) HA.out, HE.out⟩
        · rcases (show d = 0 ∨ d = 1 by omega) with hd0 | hd0
          · subst hd0
            have HS2 : Hid (decW (xs.drop p) = decV key (xs.drop sq)) := by show _ = _; rw [HS.out, decD_0 HF2.out, drop_step, ← HSQE.out]
            have hR4 : Rs w4 ao xs := h.fr hO4'.fr
            have hT4 := xText_live ao L cap sq xs 1024 (by decide) (by decide) hcap w4 hR4 hb HL.out hsql
            obtain ⟨⟨val, k3, e3⟩, hf3⟩ : ∃ r, textF 1024 (xs.drop sq) = r := ⟨_, rfl⟩
            have HF3 : Hid (textF 1024 (xs.drop sq) = (val, k3, e3)) := hf3
            have hpos3 : e3 = 0 → sq + k3 ≤ L := by
              intro he
              have := text_pos 1024 (xs.drop sq) (by rw [show ((1024 : Nat) : Int) = 1024 from rfl, hf3]; exact he)
              rw [show ((1024 : Nat) : Int) = 1024 from rfl, hf3, List.length_drop, ← HL.out] at this
              simp only at this
              omega
            rw [hf3] at hT4
            simp only at hT4
            obtain ⟨sr, hsr⟩ : ∃ sr, stepAt (k3, e3) sq = sr := ⟨_, rfl⟩
            rw [hsr] at hT4
            have HSR : Hid (stepAt (k3, e3) sq = sr) := hsr
            clear hf3 hsr
            go_upto_region 13 with fail
            clear r0 r1 r2 r3 s0 s1 s2 s3
            rw [HW4.out]
            have r0 := hO4'.r.c0
            have r1 := hO4'.r.c1
            have r2 := hO4'.r.c2
            have r3 := hO4'.r.c3
            have s0 := hO4'.r.f 0
            have s1 := hO4'.r.f 1
            have s2 := hO4'.r.f 2
            have s3 := hO4'.r.f 3
            go_wp2_with fail
            refine hT4.mono ?_
            rintro e w5 ⟨rfl, hFc⟩
            have hO5 := hO4'.keep hFc
            clear r0 r1 r2 r3 s0 s1 s2 s3
            have r0 := hO5.r.c0
            have r1 := hO5.r.c1
            have r2 := hO5.r.c2
            have r3 := hO5.r.c3
            have s0 := hO5.r.f 0
            have s1 := hO5.r.f 1
            have s2 := hO5.r.f 2
            have s3 := hO5.r.f 3
            have hO6 := hO5.set (.slice ao L cap) (sr : Int) (e3 : Int)
            obtain ⟨w6, HW6⟩ : ∃ w6, Hid (((((w5.setCell ⟨w.heap.size, 0, none⟩ (.bool false)).setCell ⟨w.heap.size, 1, none⟩ (.slice ao L cap)).setCell ⟨w.heap.size, 2, none⟩ (.int .i64 (sr : Int))).setCell ⟨w.heap.size, 3, none⟩ (.int .i64 (e3 : Int))) = w6) := ⟨_, rfl⟩
            rw [HW6.out] at hO6
            have HA : Hid (OneAns ao L cap xs (xs.drop p) (.returned (.tuple #[.agg #[.bool false, .slice ao L cap, .int .i64 (sr : Int), .int .i64 (e3 : Int)], .agg #[.string key, .string val, .bool false], .int .i64 (e3 : Int)]))) := by
              by_cases he3 : e3 = 0
              · subst he3
                have hsre : sr = sq + k3 := by rw [← HSR.out]; simp [stepAt]
                subst hsre
                refine OneAns.ok ?_ (hpos3 rfl) rfl
                rw [HS2.out, decV_ok HF3.out, drop_step]
              · refine OneAns.err ?_
                rw [HS2.out, decV_e HF3.out he3]
            go_upto_region 14 with fail
            clear r0 r1 r2 r3 s0 s1 s2 s3
            rw [HW6.out]
            have r0 := hO6.r.c0
            have r1 := hO6.r.c1
            have r2 := hO6.r.c2
            have r3 := hO6.r.c3
            have s0 := hO6.r.f 0
            have s1 := hO6.r.f 1
            have s2 := hO6.r.f 2
            have s3 := hO6.r.f 3
            have z0 := hO6.z.c0
            have z1 := hO6.z.c1
            have z2 := hO6.z.c2
            have z3 := hO6.z.c3
            have f0 := hO6.z.f 0
            have f1 := hO6.z.f 1
            have f2 := hO6.z.f 2
            have f3 := hO6.z.f 3
            have x0 := hO6.x.c0
            have x1 := hO6.x.c1
            have x2 := hO6.x.c2
            have y0 := hO6.x.f0
            have y1 := hO6.x.f1
            have y2 := hO6.x.f2
            go_region
            have HE : Hid (Fr [] w _) := hO6.end_ (.bool false) (.slice ao L cap) (.int .i64 (sr : Int)) (.int .i64 (e3 : Int)) (.string key) (.string val) (.bool false)
            go_wp2
            refine bodyPost_ret (v := .tuple #[.agg #[.bool false, .slice ao L cap, .int .i64 (sr : Int), .int .i64 (e3 : Int)], .agg #[.string key, .string val, .bool false], .int .i64 (e3 : Int)]) (by rw [results_cct rfl]; go_simp) rfl ⟨HA.out, HE.out.then (Fr.drew [] _)⟩
          · subst hd0
            have HA : Hid (decW (xs.drop p) = .ok (⟨key, ⟨#[]⟩, true⟩, xs.drop sq)) := by show _ = _; rw [HS.out, decD_1 HF2.out, drop_step, ← HSQE.out]; rfl
            go_upto_region 12 with fail
            clear r0 r1 r2 r3 s0 s1 s2 s3
            rw [HW4.out]
            have r0 := hO4'.r.c0
            have r1 := hO4'.r.c1
            have r2 := hO4'.r.c2
            have r3 := hO4'.r.c3
            have s0 := hO4'.r.f 0
            have s1 := hO4'.r.f 1
            have s2 := hO4'.r.f 2
            have s3 := hO4'.r.f 3
            have z0 := hO4'.z.c0
            have z1 := hO4'.z.c1
            have z2 := hO4'.z.c2
            have z3 := hO4'.z.c3
            have f0 := hO4'.z.f 0
            have f1 := hO4'.z.f 1
            have f2 := hO4'.z.f 2
            have f3 := hO4'.z.f 3
            have x0 := hO4'.x.c0
            have x1 := hO4'.x.c1
            have x2 := hO4'.x.c2
            have y0 := hO4'.x.f0
            have y1 := hO4'.x.f1
            have y2 := hO4'.x.f2
            have HE : Hid (Fr [] w _) := hO4'.end_ (.bool false) (.slice ao L cap) (.int .i64 (sq : Int)) (.int .i64 0) (.string key) (.string ⟨#[]⟩) (.bool true)
            go_wp2
            refine bodyPost_ret (v := .tuple #[.agg #[.bool false, .slice ao L cap, .int .i64 (sq : Int), .int .i64 0], .agg #[.string key, .string ⟨#[]⟩, .bool true], .int .i64 0]) (by rw [results_cct rfl]; go_simp) rfl ⟨OneAns.ok HA.out hsql rfl, HE.out⟩
      · have hcb : ((e2 : Int) != 0) = true := by rw [bne_iff_ne]; omega
        have HA : Hid (decW (xs.drop p) = .error e2) := by show _ = _; rw [HS.out, decD_e3 HF2.out he2]
        obtain ⟨w4, HW4⟩ : ∃ w4, Hid (((((w3.setCell ⟨w.heap.size, 0, none⟩ (.bool false)).setCell ⟨w.heap.size, 1, none⟩ (.slice ao L cap)).setCell ⟨w.heap.size, 2, none⟩ (.int .i64 (sq : Int))).setCell ⟨w.heap.size, 3, none⟩ (.int .i64 (e2 : Int))) = w4) := ⟨_, rfl⟩
        rw [HW4.out] at hO4
        go_upto_region 8 with fail
        clear r0 r1 r2 r3 s0 s1 s2 s3
        rw [HW4.out]
        have r0 := hO4.r.c0
        have r1 := hO4.r.c1
        have r2 := hO4.r.c2
        have r3 := hO4.r.c3
        have s0 := hO4.r.f 0
        have s1 := hO4.r.f 1
        have s2 := hO4.r.f 2
        have s3 := hO4.r.f 3
        have z0 := hO4.z.c0
        have z1 := hO4.z.c1
        have z2 := hO4.z.c2
        have z3 := hO4.z.c3
        have f0 := hO4.z.f 0
        have f1 := hO4.z.f 1
        have f2 := hO4.z.f 2
        have f3 := hO4.z.f 3
        have x0 := hO4.x.c0
        have x1 := hO4.x.c1
        have x2 := hO4.x.c2
        have y0 := hO4.x.f0
        have y1 := hO4.x.f1
        have y2 := hO4.x.f2
        go_region
        have HE : Hid (Fr [] w _) := hO4.end_ (.bool false) (.slice ao L cap) (.int .i64 (sq : Int)) (.int .i64 (e2 : Int)) (.string ⟨#[]⟩) (.string ⟨#[]⟩) (.bool false)
        go_wp2
        refine bodyPost_ret (v := .tuple #[.agg #[.bool false, .slice ao L cap, .int .i64 (sq : Int), .int .i64 (e2 : Int)], .agg #[.string ⟨#[]⟩, .string ⟨#[]⟩, .bool false], .int .i64 (e2 : Int)]) (by rw [results_cct rfl]; go_simp) rfl ⟨OneAns.err HA.out, HE.out.then (Fr.drew [] _)⟩
  · have hcb : ((e1 : Int) != 0) = true := by rw [bne_iff_ne]; omega
    have HA : Hid (decW (xs.drop p) = .error e1) := decW_e1 HF1.out he1
    have hO2 := hO1.set (.slice ao L cap) (sp : Int) (e1 : Int)
    obtain ⟨w2, HW2⟩ : ∃ w2, Hid (((((w1.setCell ⟨w.heap.size, 0, none⟩ (.bool false)).setCell ⟨w.heap.size, 1, none⟩ (.slice ao L cap)).setCell ⟨w.heap.size, 2, none⟩ (.int .i64 (sp : Int))).setCell ⟨w.heap.size, 3, none⟩ (.int .i64 (e1 : Int))) = w2) := ⟨_, rfl⟩
    rw [HW2.out] at hO2
    have r0 := hO1.r.c0
    have r1 := hO1.r.c1
    have r2 := hO1.r.c2
    have r3 := hO1.r.c3
    have s0 := hO1.r.f 0
    have s1 := hO1.r.f 1
    have s2 := hO1.r.f 2
    have s3 := hO1.r.f 3
    go_upto_region 3 with fail
    clear r0 r1 r2 r3 s0 s1 s2 s3
    rw [HW2.out]
    have r0 := hO2.r.c0
    have r1 := hO2.r.c1
    have r2 := hO2.r.c2
    have r3 := hO2.r.c3
    have s0 := hO2.r.f 0
    have s1 := hO2.r.f 1
    have s2 := hO2.r.f 2
    have s3 := hO2.r.f 3
    have z0 := hO2.z.c0
    have z1 := hO2.z.c1
    have z2 := hO2.z.c2
    have z3 := hO2.z.c3
    have f0 := hO2.z.f 0
    have f1 := hO2.z.f 1
    have f2 := hO2.z.f 2
    have f3 := hO2.z.f 3
    have x0 := hO2.x.c0
    have x1 := hO2.x.c1
    have x2 := hO2.x.c2
    have y0 := hO2.x.f0
    have y1 := hO2.x.f1
    have y2 := hO2.x.f2
    go_region
    have HE : Hid (Fr [] w _) := hO2.end_ (.bool false) (.slice ao L cap) (.int .i64 (sp : Int)) (.int .i64 (e1 : Int)) (.string ⟨#[]⟩) (.string ⟨#[]⟩) (.bool false)
    go_wp2
    refine bodyPost_ret (v := .tuple #[.agg #[.bool false, .slice ao L cap, .int .i64 (sp : Int), .int .i64 (e1 : Int)], .agg #[.string ⟨#[]⟩, .string ⟨#[]⟩, .bool false], .int .i64 (e1 : Int)]) (by rw [results_cct rfl]; go_simp) rfl ⟨OneAns.err HA.out, HE.out.then (Fr.drew [] _)⟩
end Go.Proofs.YtaefninikmaiiaaGreatDoor

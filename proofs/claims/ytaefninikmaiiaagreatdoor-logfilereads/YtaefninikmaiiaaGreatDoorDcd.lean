/- A transaction read off bytes: the contract of Decode. Conditions: fewer than 2^41 bytes. -/
import Derived.Test.YtaefninikmaiiaaGreatDoorTw
namespace Go.Proofs.YtaefninikmaiiaaGreatDoor
open Go.ChangeShapes Go.WideShapes Go.ChangeAt Go.RowKit Go.Lib
set_option linter.unusedVariables false

theorem Tryz.undWs : Tryz.prog.underlying 61 = some (.slice 124) := by kernel_rfl
theorem Tryz.bytesWt : ((Tryz.prog.info? 124).map (fun i => decide (i.bytes ≤ 64))) = some true := by kernel_rfl

def glue (ds : List Wt) : Except Nat (List Wt × List Nat) → Except Nat (List Wt × List Nat)
  | .error e => .error e
  | .ok (ws, r) => .ok (ds ++ ws, r)
theorem glue_nil (x : Except Nat (List Wt × List Nat)) : glue [] x = x := by
  cases x with
  | error e => rfl
  | ok p => rfl
theorem glue_ok {ds : List Wt} {k : Nat} {ys zs : List Nat} {x : Wt} (h : decW ys = .ok (x, zs)) : glue ds (decWs (k + 1) ys) = glue (ds ++ [x]) (decWs k zs) := by
  rw [decWs, h]
  simp only
  cases decWs k zs with
  | error e => rfl
  | ok p => simp [glue]
theorem glue_err {ds : List Wt} {k c : Nat} {ys : List Nat} (h : decW ys = .error c) : glue ds (decWs (k + 1) ys) = .error c := by
  rw [decWs, h]
  rfl
theorem glue_end (ds : List Wt) (ys : List Nat) : glue ds (decWs 0 ys) = .ok (ds, ys) := by simp [decWs, glue]

theorem set3 (A R : List Value) (a b c x y z : Value) (j : Nat) (hA : A.length = j) : (((A ++ a :: b :: c :: R).set j x).set (j + 1) y).set (j + 2) z = A ++ x :: y :: z :: R := by
  subst hA
  rw [List.set_append_right _ _ (Nat.le_refl _), List.set_append_right _ _ (by omega), List.set_append_right _ _ (by omega)]
  simp
theorem row_put {w : World} {b j : Nat} {cs : Array Value} {t : TypeId} (x : Value) (h : w.heap[b]? = some (.cells cs t (0, 0))) : (w.setCell ⟨b, j, none⟩ x).heap[b]? = some (.cells (cs.setIfInBounds j x) t (0, 0)) := by
  have hlt := lt_of_block h
  have h' : w.heap[b] = .cells cs t (0, 0) := by simpa [Array.getElem?_eq_getElem hlt] using h
  show (w.heap.modify b _)[b]? = _
  rw [Array.getElem?_eq_getElem (by simpa using hlt), Array.getElem_modify_self, h']
  rfl
/-- A row of writes in a block of its own: those that are there, and others behind. -/
structure Ww (w : World) (k : Nat) (ds : List Wt) (R : List Value) : Prop where
  box : w.heap[k]? = some (.cells (wtsC ds ++ R).toArray 124 (0, 0))
theorem Ww.keep {S : List Nat} {w w' : World} {k : Nat} {ds : List Wt} {R : List Value} (h : Ww w k ds R) (hf : Fr S w w') (hn : k ∉ S) : Ww w' k ds R := ⟨hf.keep h.box hn⟩
theorem Ww.lt {w : World} {k : Nat} {ds : List Wt} {R : List Value} (h : Ww w k ds R) : k < w.heap.size := lt_of_block h.box
theorem Ww.cell {w : World} {k : Nat} {ds : List Wt} {a b c : Value} {R : List Value} (h : Ww w k ds (a :: b :: c :: R)) :
    w.cell? ⟨k, ds.length * 3, none⟩ = some a ∧ w.cell? ⟨k, ds.length * 3 + 1, none⟩ = some b ∧ w.cell? ⟨k, ds.length * 3 + 2, none⟩ = some c := by
  refine ⟨?_, ?_, ?_⟩ <;> (rw [cell_of_row _ _ _ _ _ _ h.box]; simp only [List.getElem?_toArray]; rw [List.getElem?_append_right (by rw [wtsC_length]; omega), wtsC_length])
  · simp
  · rw [show ds.length * 3 + 1 - ds.length * 3 = 1 by omega]; rfl
  · rw [show ds.length * 3 + 2 - ds.length * 3 = 2 by omega]; rfl
theorem Ww.free {w : World} {k : Nat} {ds : List Wt} {R : List Value} (h : Ww w k ds R) (j : Nat) : w.frozen? ⟨k, j, none⟩ = false := by simp [World.frozen?, h.box]
theorem Ww.put {w : World} {k : Nat} {ds : List Wt} {a b c : Value} {R : List Value} (h : Ww w k ds (a :: b :: c :: R)) (x : Wt) :
    Ww (((w.setCell ⟨k, ds.length * 3, none⟩ (.string x.key)).setCell ⟨k, ds.length * 3 + 1, none⟩ (.string x.val)).setCell ⟨k, ds.length * 3 + 2, none⟩ (.bool x.drop)) k (ds ++ [x]) R := by
  refine ⟨?_⟩
  rw [row_put _ (row_put _ (row_put _ h.box))]
  congr 2
  apply Array.toList_inj.1
  simp only [Array.toList_setIfInBounds]
  rw [set3 (wtsC ds) R a b c _ _ _ _ (wtsC_length ds), wtsC_append]
  simp [wtsC, wtC]
theorem Fr.at3 (w : World) (k a b c : Nat) (x y z : Value) : Fr [k] w (((w.setCell ⟨k, a, none⟩ x).setCell ⟨k, b, none⟩ y).setCell ⟨k, c, none⟩ z) :=
  ((Fr.set w ⟨k, a, none⟩ x (by simp)).then (Fr.set _ ⟨k, b, none⟩ y (by simp))).then (Fr.set _ ⟨k, c, none⟩ z (by simp))
theorem Fr.set2 {w w1 : World} {b : Nat} (h : Fr [] w w1) (hb : w.heap.size ≤ b) (u v : Value) : Fr [] w ((w1.setCell ⟨b, 0, none⟩ u).setCell ⟨b, 1, none⟩ v) :=
  h.on ((Fr.set w1 ⟨b, 0, none⟩ u (by simp)).then (Fr.set _ ⟨b, 1, none⟩ v (by simp) : Fr [b] _ _)) (by intro x hx; simp at hx; omega)
/-- A transaction's struct in a block of its own. -/
structure B2 (w : World) (b : Nat) (u v : Value) : Prop where
  box : w.heap[b]? = some (.cells #[u, v] 63 (0, 0))
theorem B2.lt {w : World} {b : Nat} {u v : Value} (h : B2 w b u v) : b < w.heap.size := lt_of_block h.box
theorem B2.c0 {w : World} {b : Nat} {u v : Value} (h : B2 w b u v) : w.cell? ⟨b, 0, none⟩ = some u := by simp [World.cell?, h.box]
theorem B2.c1 {w : World} {b : Nat} {u v : Value} (h : B2 w b u v) : w.cell? ⟨b, 1, none⟩ = some v := by simp [World.cell?, h.box]
theorem B2.f0 {w : World} {b : Nat} {u v : Value} (h : B2 w b u v) : w.frozen? ⟨b, 0, none⟩ = false := by simp [World.frozen?, h.box]
theorem B2.f1 {w : World} {b : Nat} {u v : Value} (h : B2 w b u v) : w.frozen? ⟨b, 1, none⟩ = false := by simp [World.frozen?, h.box]
theorem B2.keep {w w' : World} {b : Nat} {u v : Value} (h : B2 w b u v) (hf : Fr [] w w') : B2 w' b u v := ⟨hf.keep h.box (by simp)⟩
/-- A reader that was made since w0, in a world that left w0's blocks alone. -/
structure RB (w0 w : World) (g r : Nat) (ys : List Nat) (ao : Option Addr) (cap : Nat) : Prop where
  rd : Rd w g r ys 0 ao cap
  fr : Fr [] w0 w
  gg : w0.heap.size ≤ g
  rr : w0.heap.size ≤ r
theorem RB.next {w0 w w' : World} {g r : Nat} {ys zs : List Nat} {ao ao' : Option Addr} {cap cap' : Nat} (h : RB w0 w g r ys ao cap) (hR : Rd w' g r zs 0 ao' cap') (hF : Fr [g] w w') : RB w0 w' g r zs ao' cap' :=
  ⟨hR, h.fr.on hF (by intro x hx; simp at hx; have := h.gg; omega), h.gg, h.rr⟩
theorem RB.end_ {w0 w w' : World} {g r : Nat} {ys : List Nat} {ao : Option Addr} {cap : Nat} (h : RB w0 w g r ys ao cap) (hF : Fr [g] w w') : Fr [] w0 w' :=
  h.fr.on hF (by intro x hx; simp at hx; have := h.gg; omega)
theorem RB.quiet {w0 w w' : World} {g r : Nat} {ys : List Nat} {ao : Option Addr} {cap : Nat} (h : RB w0 w g r ys ao cap) (hF : Fr [] w w') : RB w0 w' g r ys ao cap :=
  ⟨h.rd.keep hF (by simp) (by simp), h.fr.then hF, h.gg, h.rr⟩
theorem made_row {w' : World} {b C : Nat} {ys : List Value} (h : w'.ownsRow 0 124 3 (.slice (some ⟨b, 0, none⟩) C C) C ys) : ∃ R : List Value, R.length = C * 3 ∧ Ww w' b [] R := by
  have hl := h.1
  rcases h.2 with ⟨hh, _⟩ | ⟨g', cap', cur, hh, hb, hg, hnc, hcm, hcs, ht⟩
  · cases hh
  · cases hh
    exact ⟨cur.toList, by simpa using hcs, ⟨by simpa [wtsC] using hg⟩⟩
theorem more3 {R : List Value} {m : Nat} (h : R.length = (m + 1) * 3) : ∃ a b c S, R = a :: b :: c :: S ∧ S.length = m * 3 := by
  match R, h with
  | a :: b :: c :: S, h => exact ⟨a, b, c, S, rfl, by simp at h; omega⟩
  | [], h => simp at h
  | [_], h => simp at h; omega
  | [_, _], h => simp at h; omega
theorem endOf_0 : endOf 0 0 = 0 := rfl
theorem endOf_4 (n : Nat) (h : 0 < n) : endOf 0 n = 4 := by simp [endOf]; omega
theorem refC_le {n : Nat} (h : refC n = 0) : n ≤ 32 := by unfold refC at h; split at h <;> omega
theorem refN_le {n : Nat} (h : refN n = 0) : 1 ≤ n ∧ n ≤ 65536 := by unfold refN at h; split at h <;> omega
theorem tk_ref {α : Type} {f : List Nat → α × Nat × Nat} {ref : α → Nat} {xs r : List Nat} {v : α} (h : tk f ref xs = .ok (v, r)) : ref v = 0 := (tk_inv h).2.2.1

theorem BArg.src' {w w0 : World} {ao : Option Addr} {L cap : Nat} {xs : List Nat} (h : BArg w ao L cap xs) (hf : Fr [] w w0) : 0 < L → ∃ a, ao = some a ∧ ∀ j u, (bts xs)[j]? = some u → w0.cell? (a.add j) = some u := (h.keep hf).src
theorem info_parts2 {P : Program} {t : TypeId} {z : Value} {n : Nat} (h : (P.info? t).map (fun i => (i.zero, i.size)) = some (some z, n)) : ∃ i, P.info? t = some i ∧ i.zero = some z ∧ i.size = n := by
  cases hi : P.info? t with
  | none => rw [hi] at h; cases h
  | some i =>
    rw [hi] at h
    simp only [Option.map_some, Option.some.injEq, Prod.mk.injEq] at h
    exact ⟨i, rfl, h.1, h.2⟩

set_option maxHeartbeats 8000000 in
set_option maxRecDepth 100000 in
theorem decode_err (ao : Option Addr) (L cap c : Nat) (xs : List Nat) (w : World) (hA : BArg w ao L cap xs) (hL : L = xs.length) (hlen : xs.length < 2^41) (hd : decT xs = .error c) :
    Calls Tryz.prog 168 #[.slice ao L cap] w fun e w' => e = .returned (.tuple #[.agg #[.int .i64 0, .slice none 0 0], .int .i64 (c : Int)]) ∧ Fr [] w w' := by
  have HD : Hid (_ = _) := hd
  have HL : Hid (L = xs.length) := hL
  clear hd hL
  obtain ⟨iW, hiW, hzW, hsW⟩ := info_parts2 Tryz.infoWt
  have hbW : iW.bytes ≤ 64 := by have := Tryz.bytesWt; rw [hiW] at this; simpa using this
  obtain ⟨w0, HW0⟩ : ∃ w0, Hid (w.alloc (.cells #[.int .i64 0, .slice none 0 0] 63) = w0) := ⟨_, rfl⟩
  have hF0 : Fr [] w w0 := by rw [← HW0.out]; exact Fr.alloc [] w _
  have hT0 : B2 w0 w.heap.size (.int .i64 0) (.slice none 0 0) := ⟨by rw [← HW0.out]; exact heap_alloc_new w _⟩
  have hs0 : w0.heap.size = w.heap.size + 1 := by rw [← HW0.out]; simp
  go_enter Tryz.func168, Tryz.ntmps168
  go_wp2_with fail
  rw [HW0.out]
  refine (newReader_any ao L cap xs _ HL.out (fun h0 => (hA.src' hF0 h0)) hA.low hlen).mono ?_
  rintro e w1 ⟨g, rfl, hg, hR1, hF1⟩
  have hB1 : RB w0 w1 g w0.heap.size xs (some ⟨w0.heap.size, 0, none⟩) xs.length := ⟨hR1, hF1, by omega, Nat.le_refl _⟩
  obtain ⟨r, hr⟩ : ∃ r, r = w0.heap.size := ⟨_, rfl⟩
  obtain ⟨ao1, hao1⟩ : ∃ a, a = some (⟨w0.heap.size, 0, none⟩ : Addr) := ⟨_, rfl⟩
  obtain ⟨cap1, hcap1⟩ : ∃ a, a = xs.length := ⟨_, rfl⟩
  have hB1' : RB w0 w1 g r xs ao1 cap1 := by rw [hr, hao1, hcap1]; exact hB1
  have HR : Hid (r = w0.heap.size) := hr
  clear hB1 hR1 hao1 hcap1 hr hF1
  go_wp2_with fail
  rcases takeN_any g r xs ao1 cap1 w1 hB1'.rd with ⟨c1, hc1, h1, hE⟩ | ⟨n, ys, h1, hE⟩
  · have hcc : c1 = c := by have := HD.out; unfold decT at this; rw [h1] at this; cases this; rfl
    subst hcc
    have hcb : ((c1 : Int) != 0) = true := by rw [bne_iff_ne]; omega
    clear hc1 HD
    refine hE.calls.mono ?_
    rintro e w2 ⟨rfl, hF2⟩
    have hF := hB1'.end_ hF2
    clear hE
    have hT := hT0.keep hF
    obtain ⟨x0, x1, y0, y1⟩ : _ ∧ _ ∧ _ ∧ _ := ⟨hT.c0, hT.c1, hT.f0, hT.f1⟩
    have hFF := hF0.then hF
    clear hT
    go_wp2
    refine bodyPost_ret (v := .tuple #[.agg #[.int .i64 0, .slice none 0 0], .int .i64 (c1 : Int)]) (by rw [results_cell_tmp rfl]; go_simp) rfl ⟨rfl, ?_⟩
    exact hFF.set2 (Nat.le_refl _) _ _
  · refine hE.calls.mono ?_
    rintro e w2 ⟨rfl, ao2, cap2, hR2, hF2⟩
    have hB2' := hB1'.next hR2 hF2
    clear hE hR2 hF2
    go_wp2_with fail
    rcases takeC_any g r ys ao2 cap2 w2 hB2'.rd with ⟨c1, hc1, h2, hE⟩ | ⟨C, zs, h2, hE⟩
    · have hcc : c1 = c := by have := HD.out; unfold decT at this; rw [h1] at this; simp only at this; unfold decC at this; rw [h2] at this; cases this; rfl
      subst hcc
      have hcb : ((c1 : Int) != 0) = true := by rw [bne_iff_ne]; omega
      clear hc1 HD
      refine hE.calls.mono ?_
      rintro e w3 ⟨rfl, hF3⟩
      have hF := hB2'.end_ hF3
      clear hE
      have hT := hT0.keep hF
      obtain ⟨x0, x1, y0, y1⟩ : _ ∧ _ ∧ _ ∧ _ := ⟨hT.c0, hT.c1, hT.f0, hT.f1⟩
      have hFF := hF0.then hF
      clear hT
      go_wp2
      refine bodyPost_ret (v := .tuple #[.agg #[.int .i64 0, .slice none 0 0], .int .i64 (c1 : Int)]) (by rw [results_cell_tmp rfl]; go_simp) rfl ⟨rfl, ?_⟩
      exact hFF.set2 (Nat.le_refl _) _ _
    · refine hE.calls.mono ?_
      rintro e w3 ⟨rfl, ao3, cap3, hR3, hF3⟩
      have hB3' := hB2'.next hR3 hF3
      clear hE hR3 hF3
      have hC32 := refC_le (tk_ref h2)
      have hN1 := refN_le (tk_ref h1)
      go_wp2_with (at_make; refine wpList_make_full _ rfl (.tmp 35) (.tmp 35) 61 rfl 0 124 iW _ 3 Tryz.undWs hiW hzW hsW .u64 .u64 C C C rfl rfl rfl rfl ?b2 ?b3 ?b4 ?_)
      case b2 => have : iW.bytes * C ≤ 64 * 32 := Nat.mul_le_mul hbW hC32; omega
      case b3 => unfold maxLen; omega
      case b4 => exact Nat.zero_le _
      intro w4 hown hgrow
      obtain ⟨R0, hR0, hW0⟩ := made_row hown
      have hF4 : Fr [] w3 w4 := Fr.grown (S := []) hgrow (by simp)
      have hB4 := hB3'.quiet hF4
      obtain ⟨k, hk⟩ : ∃ k, k = w3.heap.size := ⟨_, rfl⟩
      have hkg : k ≠ g := by have := hB3'.rd.lt; omega
      have hkr : k ≠ r := by have := hB3'.rd.sl.blk; omega
      have hk0 : w0.heap.size ≤ k := by have := hB3'.fr.size; omega
      rw [← hk] at hW0 ⊢
      clear hown hgrow hF4 hk
      go_wp2_with fail
      go_loopw [39] (fun ii wr => ∃ (i : Nat) (ds : List Wt) (vs : List Nat) (ao' : Option Addr) (cap' : Nat) (R : List Value), ii = .int .i64 i ∧ i ≤ C ∧ Hid (ds.length = i) ∧ Hid (R.length = (C - i) * 3) ∧ Hid (decWs C zs = glue ds (decWs (C - i) vs)) ∧ RB w0 wr g r vs ao' cap' ∧ Ww wr k ds R) (fun ii _ => C - (intOf ii).toNat)
      case atStart => exact ⟨0, [], zs, ao3, cap3, R0, rfl, Nat.zero_le _, rfl, hR0, by show _ = _; rw [glue_nil]; rfl, hB4, hW0⟩
      case round =>
        obtain ⟨i, ds, vs, ao', cap', R, rfl, hiC, HI, HRl, HG, hBr, hWr⟩ := hrel
        by_cases hi : i < C
        · obtain ⟨m, hm⟩ : ∃ m, C - i = m + 1 := ⟨C - i - 1, by omega⟩
          obtain ⟨a, b, cc, S, rfl, hS⟩ := more3 (hm ▸ HRl.out)
          have hlt : (i : Int) < C := by omega
          cases hdw : decW vs with
          | error c1 =>
            have hcc : c1 = c := by
              have := HD.out; unfold decT at this; rw [h1] at this; simp only at this; unfold decC at this; rw [h2] at this; simp only at this; rw [HG.out, hm, glue_err hdw] at this; cases this; rfl
            subst hcc
            have hc1 : c1 ≠ 0 := by
              intro h0
              subst h0
              unfold decW decD decV at hdw
              repeat' split at hdw
              all_goals first | (cases hdw; rename_i hh; exact tk_code hh rfl) | (cases hdw)
            have hcb : ((c1 : Int) != 0) = true := by rw [bne_iff_ne]; omega
            clear HD hc1
            go_wp2_with fail
            refine (takeWrite_err g r c1 vs ao' cap' _ hBr.rd hdw).calls.mono ?_
            rintro e w5 ⟨rfl, hF5⟩
            have hWr1 := hWr.keep hF5 (by simp; exact hkg)
            obtain ⟨q0, q1, q2⟩ := hWr1.cell
            have p0 := hWr1.free (ds.length * 3)
            have p1 := hWr1.free (ds.length * 3 + 1)
            have p2 := hWr1.free (ds.length * 3 + 2)
            rw [HI.out] at q0 q1 q2 p0 p1 p2
            have hFe := hBr.end_ hF5
            have hF6 : Fr [] w0 (((w5.setCell ⟨k, i * 3, none⟩ (.string ⟨#[]⟩)).setCell ⟨k, i * 3 + 1, none⟩ (.string ⟨#[]⟩)).setCell ⟨k, i * 3 + 2, none⟩ (.bool false)) := hFe.on (Fr.at3 w5 k _ _ _ _ _ _) (by intro x hx; simp at hx; omega)
            have hT := hT0.keep hF6
            obtain ⟨x0, x1, y0, y1⟩ : _ ∧ _ ∧ _ ∧ _ := ⟨hT.c0, hT.c1, hT.f0, hT.f1⟩
            have hFF := hF0.then hF6
            clear hT hWr hWr1
            go_wp2
            refine bodyPost_ret (v := .tuple #[.agg #[.int .i64 0, .slice none 0 0], .int .i64 (c1 : Int)]) (by rw [results_cell_tmp rfl]; go_simp) rfl ⟨rfl, ?_⟩
            exact hFF.set2 (Nat.le_refl _) _ _
          | ok x =>
            obtain ⟨⟨key, val, drop⟩, us⟩ := x
            have HG2 : Hid (decWs C zs = glue (ds ++ [⟨key, val, drop⟩]) (decWs (C - (i + 1)) us)) := by
              show _ = _
              rw [HG.out, hm, glue_ok hdw, show C - (i + 1) = m by omega]
            go_wp2_with fail
            refine (takeWrite_ok g r key val drop vs us ao' cap' _ hBr.rd hBr.rd.sl.blk hdw).calls.mono ?_
            rintro e w5 ⟨rfl, ao5, cap5, hR5, hF5⟩
            have hB5 := hBr.next hR5 hF5
            have hWr1 := hWr.keep hF5 (by simp; exact hkg)
            obtain ⟨q0, q1, q2⟩ := hWr1.cell
            have p0 := hWr1.free (ds.length * 3)
            have p1 := hWr1.free (ds.length * 3 + 1)
            have p2 := hWr1.free (ds.length * 3 + 2)
            rw [HI.out] at q0 q1 q2 p0 p1 p2
            have hW6 := hWr1.put ⟨key, val, drop⟩
            rw [HI.out] at hW6
            have hF6 := Fr.at3 w5 k (i * 3) (i * 3 + 1) (i * 3 + 2) (.string key) (.string val) (.bool drop)
            have HW6 : Hid (Ww _ k _ S) := hW6
            have HB6 : Hid (RB w0 (((w5.setCell ⟨k, i * 3, none⟩ (.string key)).setCell ⟨k, i * 3 + 1, none⟩ (.string val)).setCell ⟨k, i * 3 + 2, none⟩ (.bool drop)) g r us ao5 cap5) :=
              ⟨hB5.rd.keep hF6 (by simp; exact fun h => hkg h.symm) (by simp; exact fun h => hkr h.symm), hB5.fr.on hF6 (by intro x hx; simp at hx; omega), hB5.gg, hB5.rr⟩
            clear hWr hWr1 hW6 hF6 hB5 hBr hR5 hF5
            go_wp2
            go_roundw
            case rel => exact ⟨i + 1, _, us, ao5, cap5, S, by simp, by omega, by show _ = _; simp [HI.out], by show _ = _; rw [hS]; congr 1; omega, HG2, HB6.out, HW6.out⟩
            case measure => simp [intOf]; omega
        · have hiC' : C - i = 0 := by omega
          have hno : ¬ vs.length = 0 ∧ c = 4 := by
            have := HD.out; unfold decT at this; rw [h1] at this; simp only at this; unfold decC at this; rw [h2] at this; simp only at this; rw [HG.out, hiC', glue_end] at this; simp only [decE] at this
            split at this
            · cases this
            · rename_i h'; cases this; exact ⟨h', rfl⟩
          obtain ⟨hvl, rfl⟩ := hno
          have hE4 := end_any g r vs 0 ao' cap' _ hBr.rd
          rw [endOf_4 _ (by omega)] at hE4
          clear HD
          go_wp2_with fail
          refine hE4.mono ?_
          rintro e w5 ⟨rfl, rfl⟩
          have hF := hBr.fr
          have hT := hT0.keep hF
          obtain ⟨x0, x1, y0, y1⟩ : _ ∧ _ ∧ _ ∧ _ := ⟨hT.c0, hT.c1, hT.f0, hT.f1⟩
          have hFF := hF0.then hF
          clear hT
          go_wp2
          refine bodyPost_ret (v := .tuple #[.agg #[.int .i64 0, .slice none 0 0], .int .i64 (4 : Int)]) (by rw [results_cell_tmp rfl]; go_simp) rfl ⟨rfl, ?_⟩
          exact hFF.set2 (Nat.le_refl _) _ _

set_option maxHeartbeats 8000000 in
set_option maxRecDepth 100000 in
theorem decode_ok (ao : Option Addr) (L cap n : Nat) (ws : List Wt) (xs : List Nat) (w : World) (hA : BArg w ao L cap xs) (hL : L = xs.length) (hlen : xs.length < 2^41) (hd : decT xs = .ok (n, ws)) :
    Calls Tryz.prog 168 #[.slice ao L cap] w fun e w' => ∃ k C, e = .returned (.tuple #[.agg #[.int .i64 (n : Int), .slice (some ⟨k, 0, none⟩) C C], .int .i64 0]) ∧ w.heap.size ≤ k ∧ C = ws.length ∧ w'.heap[k]? = some (.cells (wtsC ws).toArray 124 (0, 0)) ∧ Fr [] w w' := by
  have HD : Hid (_ = _) := hd
  have HL : Hid (L = xs.length) := hL
  clear hd hL
  obtain ⟨iW, hiW, hzW, hsW⟩ := info_parts2 Tryz.infoWt
  have hbW : iW.bytes ≤ 64 := by have := Tryz.bytesWt; rw [hiW] at this; simpa using this
  obtain ⟨w0, HW0⟩ : ∃ w0, Hid (w.alloc (.cells #[.int .i64 0, .slice none 0 0] 63) = w0) := ⟨_, rfl⟩
  have hF0 : Fr [] w w0 := by rw [← HW0.out]; exact Fr.alloc [] w _
  have hT0 : B2 w0 w.heap.size (.int .i64 0) (.slice none 0 0) := ⟨by rw [← HW0.out]; exact heap_alloc_new w _⟩
  have hs0 : w0.heap.size = w.heap.size + 1 := by rw [← HW0.out]; simp
  go_enter Tryz.func168, Tryz.ntmps168
  go_wp2_with fail
  rw [HW0.out]
  refine (newReader_any ao L cap xs _ HL.out (fun h0 => (hA.src' hF0 h0)) hA.low hlen).mono ?_
  rintro e w1 ⟨g, rfl, hg, hR1, hF1⟩
  have hB1 : RB w0 w1 g w0.heap.size xs (some ⟨w0.heap.size, 0, none⟩) xs.length := ⟨hR1, hF1, by omega, Nat.le_refl _⟩
  obtain ⟨r, hr⟩ : ∃ r, r = w0.heap.size := ⟨_, rfl⟩
  obtain ⟨ao1, hao1⟩ : ∃ a, a = some (⟨w0.heap.size, 0, none⟩ : Addr) := ⟨_, rfl⟩
  obtain ⟨cap1, hcap1⟩ : ∃ a, a = xs.length := ⟨_, rfl⟩
  have hB1' : RB w0 w1 g r xs ao1 cap1 := by rw [hr, hao1, hcap1]; exact hB1
  have HR : Hid (r = w0.heap.size) := hr
  clear hB1 hR1 hao1 hcap1 hr hF1
  go_wp2_with fail
  rcases takeN_any g r xs ao1 cap1 w1 hB1'.rd with ⟨c1, hc1, h1, hE⟩ | ⟨n0, ys, h1, hE⟩
  · exfalso
    have := HD.out; unfold decT at this; rw [h1] at this; cases this
  · refine hE.calls.mono ?_
    rintro e w2 ⟨rfl, ao2, cap2, hR2, hF2⟩
    have hB2' := hB1'.next hR2 hF2
    clear hE hR2 hF2
    go_wp2_with fail
    rcases takeC_any g r ys ao2 cap2 w2 hB2'.rd with ⟨c1, hc1, h2, hE⟩ | ⟨C, zs, h2, hE⟩
    · exfalso
      have := HD.out; unfold decT at this; rw [h1] at this; simp only at this; unfold decC at this; rw [h2] at this; cases this
    · refine hE.calls.mono ?_
      rintro e w3 ⟨rfl, ao3, cap3, hR3, hF3⟩
      have hB3' := hB2'.next hR3 hF3
      clear hE hR3 hF3
      have hC32 := refC_le (tk_ref h2)
      have hN1 := refN_le (tk_ref h1)
      go_wp2_with (at_make; refine wpList_make_full _ rfl (.tmp 35) (.tmp 35) 61 rfl 0 124 iW _ 3 Tryz.undWs hiW hzW hsW .u64 .u64 C C C rfl rfl rfl rfl ?b2 ?b3 ?b4 ?_)
      case b2 => have : iW.bytes * C ≤ 64 * 32 := Nat.mul_le_mul hbW hC32; omega
      case b3 => unfold maxLen; omega
      case b4 => exact Nat.zero_le _
      intro w4 hown hgrow
      obtain ⟨R0, hR0, hW0⟩ := made_row hown
      have hF4 : Fr [] w3 w4 := Fr.grown (S := []) hgrow (by simp)
      have hB4 := hB3'.quiet hF4
      obtain ⟨k, hk⟩ : ∃ k, k = w3.heap.size := ⟨_, rfl⟩
      have hkg : k ≠ g := by have := hB3'.rd.lt; omega
      have hkr : k ≠ r := by have := hB3'.rd.sl.blk; omega
      have hk0 : w0.heap.size ≤ k := by have := hB3'.fr.size; omega
      rw [← hk] at hW0 ⊢
      clear hown hgrow hF4 hk
      go_wp2_with fail
      go_loopw [39] (fun ii wr => ∃ (i : Nat) (ds : List Wt) (vs : List Nat) (ao' : Option Addr) (cap' : Nat) (R : List Value), ii = .int .i64 i ∧ i ≤ C ∧ Hid (ds.length = i) ∧ Hid (R.length = (C - i) * 3) ∧ Hid (decWs C zs = glue ds (decWs (C - i) vs)) ∧ RB w0 wr g r vs ao' cap' ∧ Ww wr k ds R) (fun ii _ => C - (intOf ii).toNat)
      case atStart => exact ⟨0, [], zs, ao3, cap3, R0, rfl, Nat.zero_le _, rfl, hR0, by show _ = _; rw [glue_nil]; rfl, hB4, hW0⟩
      case round =>
        obtain ⟨i, ds, vs, ao', cap', R, rfl, hiC, HI, HRl, HG, hBr, hWr⟩ := hrel
        by_cases hi : i < C
        · obtain ⟨m, hm⟩ : ∃ m, C - i = m + 1 := ⟨C - i - 1, by omega⟩
          obtain ⟨a, b, cc, S, rfl, hS⟩ := more3 (hm ▸ HRl.out)
          have hlt : (i : Int) < C := by omega
          cases hdw : decW vs with
          | error c1 =>
            exfalso
            have := HD.out; unfold decT at this; rw [h1] at this; simp only at this; unfold decC at this; rw [h2] at this; simp only at this; rw [HG.out, hm, glue_err hdw] at this; cases this
          | ok x =>
            obtain ⟨⟨key, val, drop⟩, us⟩ := x
            have HG2 : Hid (decWs C zs = glue (ds ++ [⟨key, val, drop⟩]) (decWs (C - (i + 1)) us)) := by
              show _ = _
              rw [HG.out, hm, glue_ok hdw, show C - (i + 1) = m by omega]
            go_wp2_with fail
            refine (takeWrite_ok g r key val drop vs us ao' cap' _ hBr.rd hBr.rd.sl.blk hdw).calls.mono ?_
            rintro e w5 ⟨rfl, ao5, cap5, hR5, hF5⟩
            have hB5 := hBr.next hR5 hF5
            have hWr1 := hWr.keep hF5 (by simp; exact hkg)
            obtain ⟨q0, q1, q2⟩ := hWr1.cell
            have p0 := hWr1.free (ds.length * 3)
            have p1 := hWr1.free (ds.length * 3 + 1)
            have p2 := hWr1.free (ds.length * 3 + 2)
            rw [HI.out] at q0 q1 q2 p0 p1 p2
            have hW6 := hWr1.put ⟨key, val, drop⟩
            rw [HI.out] at hW6
            have hF6 := Fr.at3 w5 k (i * 3) (i * 3 + 1) (i * 3 + 2) (.string key) (.string val) (.bool drop)
            have HW6 : Hid (Ww _ k _ S) := hW6
            have HB6 : Hid (RB w0 (((w5.setCell ⟨k, i * 3, none⟩ (.string key)).setCell ⟨k, i * 3 + 1, none⟩ (.string val)).setCell ⟨k, i * 3 + 2, none⟩ (.bool drop)) g r us ao5 cap5) :=
              ⟨hB5.rd.keep hF6 (by simp; exact fun h => hkg h.symm) (by simp; exact fun h => hkr h.symm), hB5.fr.on hF6 (by intro x hx; simp at hx; omega), hB5.gg, hB5.rr⟩
            clear hWr hWr1 hW6 hF6 hB5 hBr hR5 hF5
            go_wp2
            go_roundw
            case rel => exact ⟨i + 1, _, us, ao5, cap5, S, by simp, by omega, by show _ = _; simp [HI.out], by show _ = _; rw [hS]; congr 1; omega, HG2, HB6.out, HW6.out⟩
            case measure => simp [intOf]; omega
        · have hiC' : C - i = 0 := by omega
          have HQ : Hid (vs.length = 0 ∧ n0 = n ∧ ds = ws ∧ C = ws.length) := by
            have hl : ds.length = C := by rw [HI.out]; omega
            have := HD.out; unfold decT at this; rw [h1] at this; simp only at this; unfold decC at this; rw [h2] at this; simp only at this; rw [HG.out, hiC', glue_end] at this; simp only [decE] at this
            split at this
            · rename_i h'
              cases this
              exact ⟨h', rfl, rfl, hl.symm⟩
            · cases this
          have hE4 := end_any g r vs 0 ao' cap' _ hBr.rd
          rw [HQ.out.1, endOf_0] at hE4
          have hwn : wrap64 (n0 : Int) = n0 := by unfold wrap64; omega
          have hR0 : R = [] := List.eq_nil_of_length_eq_zero (by rw [HRl.out, hiC'])
          subst hR0
          have hT := hT0.keep hBr.fr
          obtain ⟨x0, x1, y0, y1⟩ : _ ∧ _ ∧ _ ∧ _ := ⟨hT.c0, hT.c1, hT.f0, hT.f1⟩
          have hFF := (hF0.then hBr.fr).set2 (Nat.le_refl _) (.int .i64 (n0 : Int)) (.slice (some ⟨k, 0, none⟩) C C)
          have hbk : k ∉ [w.heap.size] := by simp; omega
          have hrow := (hWr.keep ((Fr.set wr ⟨w.heap.size, 0, none⟩ (.int .i64 (n0 : Int)) (by simp)).then (Fr.set _ ⟨w.heap.size, 1, none⟩ (.slice (some ⟨k, 0, none⟩) C C) (by simp)) : Fr [w.heap.size] _ _) hbk).box
          rw [List.append_nil, HQ.out.2.2.1] at hrow
          have HF : Hid (_ ∧ _) := ⟨hrow, hFF⟩
          clear HD hT hrow hFF hWr
          go_wp2_with fail
          refine hE4.mono ?_
          rintro e w5 ⟨rfl, rfl⟩
          clear hE4
          go_wp2
          refine bodyPost_ret (v := .tuple #[.agg #[.int .i64 (n0 : Int), .slice (some ⟨k, 0, none⟩) C C], .int .i64 0]) (by rw [results_cell_tmp rfl]; go_simp) rfl ⟨k, C, ?_, by omega, HQ.out.2.2.2, HF.out.1, HF.out.2⟩
          rw [HQ.out.2.1]
end Go.Proofs.YtaefninikmaiiaaGreatDoor

/- What the Book does with its one list of writes: told of it, and written over. Conditions: the list lies in a block of its own; fewer than 2^21 writes; its number is 1. -/
import Derived.Test.YtcgfadmhjfncoaaGreatDoorBkW
namespace Go.Proofs.YtcgfadmhjfncoaaGreatDoor
open Go.ChangeShapes Go.WideShapes Go.ChangeAt Go.RowKit Go.Lib
set_option linter.unusedVariables false
set_option linter.unusedSimpArgs false

theorem Tryz.infoHW : (Tryz.prog.info? 89).map (fun i => (i.zero, i.size, i.bytes)) = some (some (.agg #[.slice none 0 0, .slice none 0 0, .int .i64 0]), 3, 56) := by kernel_rfl
theorem Tryz.undHWs : Tryz.prog.underlying 40 = some (.slice 89) := by kernel_rfl
theorem set3 (A R : List Value) (a b c x y z : Value) (j : Nat) (hA : A.length = j) : (((A ++ a :: b :: c :: R).set j x).set (j + 1) y).set (j + 2) z = A ++ x :: y :: z :: R := by
  subst hA
  rw [List.set_append_right _ _ (Nat.le_refl _), List.set_append_right _ _ (by omega), List.set_append_right _ _ (by omega)]
  simp
theorem more3 {R : List Value} {m : Nat} (h : R.length = (m + 1) * 3) : ∃ a b c S, R = a :: b :: c :: S ∧ S.length = m * 3 := by
  match R, h with
  | a :: b :: c :: S, h => exact ⟨a, b, c, S, rfl, by simp at h; omega⟩
  | [], h => simp at h
  | [_], h => simp at h; omega
  | [_, _], h => simp at h; omega
def newBk : Array Value := #[.int .i64 0, .slice none 0 0, .slice none 0 0, .slice none 0 0, .slice none 0 0, .slice none 0 0, .slice none 0 0, .slice none 0 0, .slice none 0 0, .slice none 0 0, .slice none 0 0, .slice none 0 0]

set_option maxHeartbeats 4000000 in
set_option maxRecDepth 100000 in
theorem keepWrite_any (bk : Nat) (ao : Option Addr) (L cap : Nat) (w : World) (hbox0 : w.heap[bk]? = some (.cells newBk 49 (0, 0))) :
    Calls Tryz.prog 69 #[.pointer (some ⟨bk, 0, none⟩), .slice ao L cap] w fun e w' => e = .returned (.tuple #[]) ∧ ∃ g cap', Bk 1 (.slice (some ⟨g, 0, none⟩) 1 cap') w' bk (.slice none 0 0) [] ∧ w'.ownsRow 0 89 3 (.slice (some ⟨g, 0, none⟩) 1 cap') 1 [.slice ao L cap, .slice none 0 0, .int .i64 1] ∧ w.heap.size ≤ g ∧ Fr [bk] w w' := by
  obtain ⟨i0, hi, hz0, hz1, hz2⟩ := info_parts Tryz.infoHW
  have c0 : w.cell? ⟨bk, 0, none⟩ = some (.int .i64 0) := by rw [cell_of_row _ _ _ _ _ _ hbox0]; rfl
  have f0 : w.frozen? ⟨bk, 0, none⟩ = false := by simp [World.frozen?, hbox0]
  go_enter Tryz.func69, Tryz.ntmps69
  go_wp2_with fail
  obtain ⟨w1, hw1⟩ : ∃ w1, w1 = w.setCell ⟨bk, 0, none⟩ (.int .i64 1) := ⟨_, rfl⟩
  rw [← hw1]
  have hF1 : Fr [bk] w w1 := by rw [hw1]; exact Fr.set _ _ _ (by simp)
  have hbox : w1.heap[bk]? = some (.cells #[.int .i64 1, .slice none 0 0, .slice none 0 0, .slice none 0 0, .slice none 0 0, .slice none 0 0, .slice none 0 0, .slice none 0 0, .slice none 0 0, .slice none 0 0, .slice none 0 0, .slice none 0 0] 49 (0, 0)) := by
    rw [hw1, row_setCell _ hbox0]
    rfl
  have d0 : w1.cell? ⟨bk, 0, none⟩ = some (.int .i64 1) := by rw [cell_of_row _ _ _ _ _ _ hbox]; rfl
  have d1 : w1.cell? ⟨bk, 4, none⟩ = some (.slice none 0 0) := by rw [cell_of_row _ _ _ _ _ _ hbox]; rfl
  have e1 : w1.frozen? ⟨bk, 4, none⟩ = false := by simp [World.frozen?, hbox]
  clear hw1 c0 f0
  have hFa : Fr [] w1 (w1.alloc (Obj.cells #[.slice ao L cap, .slice none 0 0, .int .i64 1] 89)).drew := (Fr.alloc [] w1 _).then (Fr.drew [] _)
  have HOa : Hid ((w1.alloc (Obj.cells #[.slice ao L cap, .slice none 0 0, .int .i64 1] 89)).drew.ownsRow 0 89 3 (.slice none 0 0) 0 []) := World.ownsRow_nil _ _ _ _
  have HNw : Hid (∀ (j : Nat) u, [Value.slice ao L cap, .slice none 0 0, .int .i64 1][j]? = some u → (w1.alloc (Obj.cells #[.slice ao L cap, .slice none 0 0, .int .i64 1] 89)).drew.cell? ((⟨w1.heap.size, 0, none⟩ : Addr).add j) = some u) := by
    intro j u hj
    have hn : (w1.alloc (Obj.cells #[.slice ao L cap, .slice none 0 0, .int .i64 1] 89)).drew.heap[w1.heap.size]? = some (Obj.cells #[.slice ao L cap, .slice none 0 0, .int .i64 1] 89) := heap_alloc_new w1 _
    rw [show (⟨w1.heap.size, 0, none⟩ : Addr).add j = ⟨w1.heap.size, j, none⟩ from by simp [Addr.add]; omega, cell_of_row _ _ _ _ _ _ hn]
    simpa using hj
  have hboxa := (Fr.alloc [] w1 (Obj.cells #[.slice ao L cap, .slice none 0 0, .int .i64 1] 89)).keep hbox (by simp)
  have d0a : (w1.alloc (Obj.cells #[.slice ao L cap, .slice none 0 0, .int .i64 1] 89)).cell? ⟨bk, 0, none⟩ = some (.int .i64 1) := by rw [cell_of_row _ _ _ _ _ _ hboxa]; rfl
  have d1a : (w1.alloc (Obj.cells #[.slice ao L cap, .slice none 0 0, .int .i64 1] 89)).cell? ⟨bk, 4, none⟩ = some (.slice none 0 0) := by rw [cell_of_row _ _ _ _ _ _ hboxa]; rfl
  clear hboxa
  have HOne : Hid (∀ u ∈ [Value.slice ao L cap, .slice none 0 0, .int .i64 1], u.oneCell' = true) := by
    intro u hu
    simp at hu
    rcases hu with rfl | rfl | rfl <;> rfl
  have HK : Hid (∀ (g cap' : Nat) (w' : World), w'.ownsRow 0 89 3 (.slice (some ⟨g, 0, none⟩) (0 + 1) cap') (0 + 1) ([] ++ [Value.slice ao L cap, .slice none 0 0, .int .i64 1]) → Went (w1.alloc (Obj.cells #[.slice ao L cap, .slice none 0 0, .int .i64 1] 89)).drew (.slice none 0 0) g w' →
      w'.cell? ⟨bk, 4, none⟩ = some (.slice none 0 0) ∧ w'.frozen? ⟨bk, 4, none⟩ = false ∧ Hid (Bk 1 (.slice (some ⟨g, 0, none⟩) 1 cap') (w'.setCell ⟨bk, 4, none⟩ (.slice (some ⟨g, 0, none⟩) 1 cap')) bk (.slice none 0 0) [] ∧ (w'.setCell ⟨bk, 4, none⟩ (.slice (some ⟨g, 0, none⟩) 1 cap')).ownsRow 0 89 3 (.slice (some ⟨g, 0, none⟩) 1 cap') 1 [.slice ao L cap, .slice none 0 0, .int .i64 1] ∧ w.heap.size ≤ g ∧ Fr [bk] w (w'.setCell ⟨bk, 4, none⟩ (.slice (some ⟨g, 0, none⟩) 1 cap')))) := by
    intro g cap' w' hO hW
    have hFw : Fr [] _ w' := hW.fr
    have hF1w : Fr [] w1 w' := hFa.then hFw
    have hbox' := hF1w.keep hbox (by simp)
    have hs1 := hF1.size
    have hs2 := hFa.size
    refine ⟨by rw [cell_of_row _ _ _ _ _ _ hbox']; rfl, by simp [World.frozen?, hbox'], ?_, ?_, ?_, ?_⟩
    · refine ⟨?_, World.ownsRow_nil _ _ _ _, by simp⟩
      rw [row_setCell _ hbox']
      rfl
    · have hne : (Value.slice (some ⟨g, 0, none⟩) 1 cap').ownBlock ≠ some bk := by
        intro e
        obtain ⟨cs, hc⟩ := own_type hO bk e
        rw [hbox'] at hc
        simp at hc
      exact ownsRow_setCell_other hO hne _
    · rcases hW with ⟨h1, _⟩ | ⟨h1, _⟩
      · simp [Value.ownBlock] at h1
      · omega
    · exact (hF1.trans hF1w (fun x hx _ => hx) (by simp)).then (Fr.set w' ⟨bk, 4, none⟩ _ (by simp))
  go_region_law (refine step_app _ rfl (.tmp 15) (.tmp 22) 40 rfl 89 i0 _ 3 56 Tryz.undHWs hi hz0 hz1 hz2 rfl (by omega) (.slice none 0 0) 0 [] (by simp [Act.eval]) HOa.out ⟨w1.heap.size, 0, none⟩ 1 [.slice ao L cap, .slice none 0 0, .int .i64 1] (by simp [Act.eval]) rfl HNw.out HOne.out (by omega) (by simp only [maxLen]; omega) ?_; intro g cap' w' hO2 hW2; obtain ⟨q1, q2, q3⟩ := HK.out g cap' w' hO2 hW2)
  all_goals (go_wp2_with fail; go_end0; exact ⟨rfl, _, _, q3.out⟩)
set_option maxHeartbeats 1000000 in
theorem bkTxn_any (bk : Nat) (n : Int) (ao : Option Addr) (L cap : Nat) (w : World) (hbox0 : w.heap[bk]? = some (.cells newBk 49 (0, 0))) :
    Calls Tryz.prog 14 #[.pointer (some ⟨bk, 0, none⟩), .agg #[.int .i64 n, .slice ao L cap]] w fun e w' => e = .returned (.tuple #[]) ∧ ∃ g cap', Bk 1 (.slice (some ⟨g, 0, none⟩) 1 cap') w' bk (.slice none 0 0) [] ∧ w'.ownsRow 0 89 3 (.slice (some ⟨g, 0, none⟩) 1 cap') 1 [.slice ao L cap, .slice none 0 0, .int .i64 1] ∧ w.heap.size ≤ g ∧ Fr [bk] w w' := by
  have hF0 : Fr [] w (w.alloc (.cells #[.int .i64 n, .slice ao L cap] 24)) := Fr.alloc [] _ _
  have hb1 := hF0.keep hbox0 (by simp)
  have hW : Calls Tryz.prog 29 #[.pointer (some ⟨bk, 0, none⟩), .slice ao L cap] (w.alloc (.cells #[.int .i64 n, .slice ao L cap] 24)) fun e w' => e = .returned (.tuple #[]) ∧ ∃ g cap', Bk 1 (.slice (some ⟨g, 0, none⟩) 1 cap') w' bk (.slice none 0 0) [] ∧ w'.ownsRow 0 89 3 (.slice (some ⟨g, 0, none⟩) 1 cap') 1 [.slice ao L cap, .slice none 0 0, .int .i64 1] ∧ w.heap.size ≤ g ∧ Fr [bk] w w' := by
    go_enter Tryz.func29, Tryz.ntmps29
    go_wp2_with fail
    refine (keepWrite_any bk ao L cap _ hb1).mono ?_
    rintro e w' ⟨rfl, g, cap', h1, h2, h3, h4⟩
    have R : Hid (∃ g cap', Bk 1 (.slice (some ⟨g, 0, none⟩) 1 cap') w' bk (.slice none 0 0) [] ∧ w'.ownsRow 0 89 3 (.slice (some ⟨g, 0, none⟩) 1 cap') 1 [.slice ao L cap, .slice none 0 0, .int .i64 1] ∧ w.heap.size ≤ g ∧ Fr [bk] w w') := ⟨g, cap', h1, h2, by have := hF0.size; omega, (hF0.wide').then h4⟩
    clear h1 h2 h3 h4
    go_wp2_with fail
    go_end0
    exact ⟨rfl, R.out⟩
  go_enter Tryz.func14, Tryz.ntmps14
  go_wp2_with fail
  refine hW.mono ?_
  rintro e w' ⟨rfl, rest⟩
  have R : Hid _ := rest
  clear rest hW
  go_wp2_with fail
  go_end0
  exact ⟨rfl, R.out⟩

theorem fillW_step (k n : Nat) (R : List Value) (hk : k < n) (hR : R.length = (n - k) * 3) : ∃ S, S.length = (n - (k + 1)) * 3 ∧ (((wtsC (List.replicate k mkW) ++ R).set (k * 3) (.string ⟨#[35, 49]⟩)).set (k * 3 + 1) (.string ⟨#[]⟩)).set (k * 3 + 2) (.bool false) = wtsC (List.replicate (k + 1) mkW) ++ S ∧ ∃ a b c, R = a :: b :: c :: S := by
  obtain ⟨q, hq⟩ : ∃ q, n - k = q + 1 := ⟨n - k - 1, by omega⟩
  obtain ⟨a, b, c, S, rfl, hS⟩ := more3 (hq ▸ hR)
  refine ⟨S, by rw [hS]; congr 1; omega, ?_, a, b, c, rfl⟩
  rw [set3 _ _ _ _ _ _ _ _ _ (by rw [wtsC_length, List.length_replicate]), List.replicate_succ', wtsC_append, List.append_assoc]
  rfl

set_option maxHeartbeats 4000000 in
set_option maxRecDepth 100000 in
theorem fillWrite_any (bk : Nat) (rb rc : Nat) (rv : Value) (hs : List HB) (t n lcap : Nat) (vs : List Value) (w : World) (h : Bk 1 (.slice (some ⟨rb, 0, none⟩) 1 rc) w bk rv hs) (hrow : w.ownsRow 0 89 3 (.slice (some ⟨rb, 0, none⟩) 1 rc) 1 [.slice (some ⟨t, 0, none⟩) n lcap, .slice none 0 0, .int .i64 1]) (hl : w.ownsRow 0 63 3 (.slice (some ⟨t, 0, none⟩) n lcap) n vs) (hn : n < 2^21) :
    Calls Tryz.prog 34 #[.pointer (some ⟨bk, 0, none⟩)] w fun e w' => e = .returned (.tuple #[]) ∧ w'.ownsRow 0 63 3 (.slice (some ⟨t, 0, none⟩) n lcap) n (wtsC (List.replicate n mkW)) ∧ Fr [t] w w' := by
  have hrcap : 1 ≤ rc := by
    rcases hrow.2 with ⟨hh, _⟩ | ⟨_, _, _, hh, _, _, hnc, _⟩
    · cases hh
    · cases hh; exact hnc
  have c4 := h.c4
  have e0 : w.cell? ⟨rb, 0, none⟩ = some (.slice (some ⟨t, 0, none⟩) n lcap) := by rw [hrow.cellAt 0 (by omega)]; rfl
  have e1 : w.cell? ⟨rb, 1, none⟩ = some (.slice none 0 0) := by rw [hrow.cellAt 1 (by omega)]; rfl
  have e2 : w.cell? ⟨rb, 2, none⟩ = some (.int .i64 1) := by rw [hrow.cellAt 2 (by omega)]; rfl
  have htb : t ≠ bk := by
    intro e
    obtain ⟨cs, hc⟩ := own_type hl t rfl
    rw [e, h.box] at hc
    simp at hc
  have htr : t ≠ rb := by
    intro e
    obtain ⟨cs, hc⟩ := own_type hl t rfl
    obtain ⟨cs', hc'⟩ := own_type hrow rb rfl
    rw [e, hc'] at hc
    simp at hc
  have htl := (hl.lt t rfl).2
  have hbl := lt_of_block h.box
  have hrl := (hrow.lt rb rfl).2
  have HB0 : Hid (w.heap[bk]? = _) := h.box
  clear h
  go_enter Tryz.func34, Tryz.ntmps34
  go_wp2_with fail
  go_loopw [2] (fun ii wr => (ii = .int .i64 0 ∧ Hid (wr = w)) ∨ (ii = .int .i64 1 ∧ Hid (wr.ownsRow 0 63 3 (.slice (some ⟨t, 0, none⟩) n lcap) n (wtsC (List.replicate n mkW)) ∧ Fr [t] w wr))) (fun ii _ => 1 - (intOf ii).toNat)
  case atStart => exact Or.inl ⟨rfl, rfl⟩
  case round =>
    rcases hrel with ⟨rfl, HW⟩ | ⟨rfl, HW⟩
    · have hww := HW.out.symm
      clear HW
      subst hww
      go_wp2_with fail
      obtain ⟨hv, hhv⟩ : ∃ hv, hv = w.heap.size := ⟨_, rfl⟩
      obtain ⟨w1, hw1⟩ : ∃ w1, w1 = w.alloc (Obj.cells #[.slice (some ⟨t, 0, none⟩) n lcap, .slice none 0 0, .int .i64 1] 89) := ⟨_, rfl⟩
      rw [← hw1, ← hhv]
      have hF1 : Fr [] w w1 := by rw [hw1]; exact Fr.alloc [] _ _
      have hvb : w1.heap[hv]? = some (.cells #[.slice (some ⟨t, 0, none⟩) n lcap, .slice none 0 0, .int .i64 1] 89 (0, 0)) := by rw [hw1, hhv]; exact heap_alloc_new w _
      have hvt : hv ≠ t := by omega
      have hvt' : t ≠ hv := fun e => hvt e.symm
      have hO1 := owns_keep hl hF1 (by simp)
      have hvl := hl.1
      have HI0 : Hid (w1.ownsRow 0 63 3 (.slice (some ⟨t, 0, none⟩) n lcap) n (wtsC (List.replicate 0 mkW) ++ vs)) := hO1
      clear hw1 hhv c4 e0 e1 e2 hl hrow hO1
      go_loopw [4] (fun kk wr' => ∃ (k : Nat) (R : List Value), kk = .int .i64 k ∧ k ≤ n ∧ Hid (R.length = (n - k) * 3) ∧ Hid (wr'.ownsRow 0 63 3 (.slice (some ⟨t, 0, none⟩) n lcap) n (wtsC (List.replicate k mkW) ++ R)) ∧ Hid (Fr [t] w1 wr')) (fun kk _ => n - (intOf kk).toNat)
      case atStart => exact ⟨0, vs, rfl, Nat.zero_le _, hvl, HI0, Fr.refl _ _⟩
      case round =>
        clear HI0
        obtain ⟨k, R, rfl, hkn, HR, HO, HF2⟩ := hrel
        have hvb2 := HF2.out.keep hvb (by simp; exact hvt)
        by_cases hk : k < n
        · have hlt : (k : Int) < n := by omega
          obtain ⟨S, hS, hset, a, b, c, hRe⟩ := fillW_step k n R hk HR.out
          have HC : Hid (∀ W, Fr [] wr W → W.cell? ⟨hv, 0, none⟩ = some (.slice (some ⟨t, 0, none⟩) n lcap) ∧ W.cell? ⟨hv, 2, none⟩ = some (.int .i64 1) ∧ W.cell? ⟨t, k * 3, none⟩ = some a ∧ W.cell? ⟨t, k * 3 + 1, none⟩ = some b ∧ W.cell? ⟨t, k * 3 + 2, none⟩ = some c ∧ W.frozen? ⟨t, k * 3, none⟩ = false ∧ W.frozen? ⟨t, k * 3 + 1, none⟩ = false ∧ W.frozen? ⟨t, k * 3 + 2, none⟩ = false) := by
            intro W hf
            have hb := hf.keep hvb2 (by simp)
            have hO := owns_keep HO.out hf (by simp)
            have hlen : (wtsC (List.replicate k mkW) ++ R).length = n * 3 := hO.1
            have hc : ∀ j u, (a :: b :: c :: S)[j]? = some u → W.cell? ⟨t, k * 3 + j, none⟩ = some u := by
              intro j u hj
              have hjl : k * 3 + j < n * 3 := by
                have := (List.getElem?_eq_some_iff.1 hj).1
                have h2 := HR.out
                rw [hRe] at h2
                omega
              rw [hO.cellAt (k * 3 + j) hjl, List.getElem?_append_right (by rw [wtsC_length, List.length_replicate]; omega), wtsC_length, List.length_replicate, hRe, show k * 3 + j - k * 3 = j by omega]
              exact hj
            exact ⟨by rw [cell_of_row _ _ _ _ _ _ hb]; rfl, by rw [cell_of_row _ _ _ _ _ _ hb]; rfl, hc 0 a rfl, hc 1 b rfl, hc 2 c rfl, own_free hO _, own_free hO _, own_free hO _⟩
          have HP : Hid (∀ W, Fr [] wr W → Hid ((((W.setCell ⟨t, k * 3, none⟩ (.string ⟨#[35, 49]⟩)).setCell ⟨t, k * 3 + 1, none⟩ (.string ⟨#[]⟩)).setCell ⟨t, k * 3 + 2, none⟩ (.bool false)).ownsRow 0 63 3 (.slice (some ⟨t, 0, none⟩) n lcap) n (wtsC (List.replicate (k + 1) mkW) ++ S)) ∧ Hid (Fr [t] w1 (((W.setCell ⟨t, k * 3, none⟩ (.string ⟨#[35, 49]⟩)).setCell ⟨t, k * 3 + 1, none⟩ (.string ⟨#[]⟩)).setCell ⟨t, k * 3 + 2, none⟩ (.bool false)))) := by
            intro W hf
            have hO := owns_keep HO.out hf (by simp)
            have h3 := own_put (own_put (own_put hO (k * 3) (.string ⟨#[35, 49]⟩)) (k * 3 + 1) (.string ⟨#[]⟩)) (k * 3 + 2) (.bool false)
            rw [hset] at h3
            refine ⟨h3, ?_⟩
            exact (HF2.out.trans hf (fun x hx _ => hx) (by simp)).then (((Fr.set W ⟨t, k * 3, none⟩ _ (by simp)).then (Fr.set _ ⟨t, k * 3 + 1, none⟩ _ (by simp))).then (Fr.set _ ⟨t, k * 3 + 2, none⟩ _ (by simp)))
          obtain ⟨a0, a1, a2, a3, a4, a5, a6, a7⟩ := HC.out _ (Fr.refl [] wr)
          obtain ⟨b0, b1, b2, b3, b4, b5, b6, b7⟩ := HC.out _ (Fr.drew [] wr)
          have hMk := markWrite_1 wr.drew
          clear hvb hvb2 hset hRe
          go_wp2_with fail
          first
            | go_loud (go_region_held3 (fun W => W.cell? ⟨hv, 0, none⟩ = some (.slice (some ⟨t, 0, none⟩) n lcap) ∧ W.cell? ⟨hv, 2, none⟩ = some (.int .i64 1)) (go_keep)
                (first
                | (go_at_call 73; with_reducible refine hMk.mono ?_; rintro e w3 ⟨rfl, hF3⟩; obtain ⟨j0, j1, j2, j3, j4, j5, j6, j7⟩ := HC.out _ ((Fr.drew [] wr).then hF3))))
            | fail
          obtain ⟨p1, p2⟩ := HP.out _ ((Fr.drew [] wr).then hF3)
          clear hF3 hMk HP HC
          go_wp2_with fail
          go_roundw
          case rel => exact ⟨k + 1, S, by simp, by omega, hS, p1, p2⟩
          case measure => simp [intOf]; omega
        · have hle : (n : Int) ≤ k := by omega
          have v0 : wr.cell? ⟨hv, 0, none⟩ = some (.slice (some ⟨t, 0, none⟩) n lcap) := by rw [cell_of_row _ _ _ _ _ _ hvb2]; rfl
          have HD : Hid (wr.ownsRow 0 63 3 (.slice (some ⟨t, 0, none⟩) n lcap) n (wtsC (List.replicate n mkW)) ∧ Fr [t] w wr) := by
            have hkn' : k = n := by omega
            have hR0 : R = [] := List.eq_nil_of_length_eq_zero (by rw [HR.out, hkn']; omega)
            have := HO.out
            rw [hR0, List.append_nil, hkn'] at this
            exact ⟨this, (hF1.wide').then HF2.out⟩
          clear hvb hvb2 HO
          go_wp2_with fail
          go_roundw
          case rel => exact Or.inr ⟨by simp, HD⟩
          case measure => simp [intOf]
    · have hb1 := HW.out.2.keep HB0.out (by simp; exact fun h => htb h.symm)
      have c4' : wr.cell? ⟨bk, 4, none⟩ = some (.slice (some ⟨rb, 0, none⟩) 1 rc) := by rw [cell_of_row _ _ _ _ _ _ hb1]; rfl
      clear hb1
      go_wp2_with fail
      go_end0
      exact ⟨rfl, HW.out.1, HW.out.2⟩
end Go.Proofs.YtcgfadmhjfncoaaGreatDoor

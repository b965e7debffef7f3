/- Contracts of a ring's unrolled, widen, Put, Take. Conditions as each names them. -/
import Derived.Test.YtakbodlicfmkjaaGreatJp20
namespace Go.Proofs.YtakbodlicfmkjaaGreat.GI
open Go.ChangeShapes Go.WideShapes Go.ChangeAt Go.RowKit Go.Lib
set_option linter.unusedVariables false
set_option linter.unusedSimpArgs false

theorem Tryz.undEls : Tryz.prog.underlying 25 = some (.slice 3) := by kernel_rfl
theorem Tryz.infoElF : (Tryz.prog.info? 3).map (fun i => (i.zero, i.size, i.bytes)) = some (some (.int .i64 0), 1, 8) := by kernel_rfl
theorem Tryz.sizeEl : (Tryz.prog.info? 3).map (fun i => i.size) = some 1 := by kernel_rfl
theorem infoEl_parts : ∃ i, Tryz.prog.info? 3 = some i ∧ i.zero = some (.int .i64 0) ∧ i.size = 1 ∧ i.bytes = 8 := by
  have h := Tryz.infoElF
  cases hi : Tryz.prog.info? 3 with
  | none => rw [hi] at h; cases h
  | some i =>
    rw [hi] at h
    simp only [Option.map_some, Option.some.injEq, Prod.mk.injEq] at h
    exact ⟨i, rfl, h.1, h.2.1, h.2.2⟩
theorem madeEl (n : Nat) : (madeCells (.int .i64 0 : Value).cells n).toList = vals (List.replicate n 0) := by
  apply List.ext_getElem
  · simp [madeCells, vals, Value.cells]
  · intro i h1 h2
    simp [madeCells, vals, Value.cells, Nat.mod_one]
/-- A row of these things. -/
def ERow (w : World) (g : Nat) (xs : List Int) : Prop := w.heap[g]? = some (.cells (vals xs).toArray 3 (0, 0))
theorem ERow.keep {S : List Nat} {w w' : World} {g : Nat} {xs : List Int} (h : ERow w g xs) (hf : Fr S w w') (hn : g ∉ S) : ERow w' g xs := hf.keep h hn
section
variable {g C N F K : Nat} {pb : Option Nat} {ps xs : List Int} {cl : Bool}
theorem unr_one {n D : Nat} (hl : ps.length = N) (hF : F < N) (hD : D = min (N - F) n) :
    splice (splice (vals (List.replicate n 0)) 0 (vals ((ps.drop F).take n))) D (vals ((ps.take F).take (n - D))) = vals (unr F n ps) := by
  have e1 : ((ps.drop F).take n).length = D := by simp; omega
  have e2 : splice (vals (List.replicate n 0)) 0 (vals ((ps.drop F).take n)) = vals ((ps.drop F).take n ++ List.replicate (n - D) 0) := by
    unfold splice
    rw [vals_length, e1, vals_append, List.take_zero, List.nil_append, vals_drop, Nat.zero_add, List.drop_replicate]
  rw [e2]
  unfold splice unr
  rw [vals_take, vals_drop, ← vals_append, ← vals_append, vals_length, List.take_append_of_le_length (by omega), List.take_of_length_le (by omega), List.take_append, List.append_assoc]
  congr 2
  have e3 : (ps.drop F).length = N - F := by simp; omega
  rw [e3]
  by_cases hn : n ≤ N - F
  · obtain rfl : D = n := by omega
    rw [Nat.sub_self, show D - (N - F) = 0 by omega, show D - ps.length = 0 by omega]
    simp
  · obtain rfl : D = N - F := by omega
    congr 1
    rw [List.drop_append, e1, List.drop_replicate]
    have : ((ps.take F).take (n - (N - F))).length = min F (n - (N - F)) := by simp; omega
    rw [this, List.drop_of_length_le (by omega), List.nil_append]
    congr 1
    omega
set_option maxHeartbeats 4000000 in
set_option maxRecDepth 100000 in
theorem gunr_any (w : World) (n : Nat) (h : RgM w g pb C N F K ps xs cl) (hn : 1 ≤ n ∧ n ≤ 65536) :
    Calls Tryz.prog 300 #[.pointer (some ⟨g, 0, none⟩), .int .i64 (n : Int)] w fun e w' => ∃ k, e = .returned (.slice (some ⟨k, 0, none⟩) n n) ∧ w.heap.size ≤ k ∧ ERow w' k (unr F n ps) ∧ Fr [] w w' := by
  obtain ⟨hn1, hn2⟩ := hn
  obtain ⟨i0, hi0, hz0, hz1, hz2⟩ := infoEl_parts
  have HM : Hid (RgM w g pb C N F K ps xs cl) := h
  have hgl := h.lt
  have hNC : N ≤ 65536 := by have := h.cap; omega
  by_cases hN : 0 < N
  · have hF := h.pl.f1 hN
    obtain ⟨b, rfl⟩ := h.some_ hN
    have HK : Hid (∀ W, Fr [] w W → RgM W g (some b) C N F K ps xs cl) := fun W hf => h.keep hf (by simp) (by simp)
    have hbl := h.plt rfl
    obtain ⟨D, hD⟩ : ∃ D, D = min (N - F) n := ⟨_, rfl⟩
    have HU : Hid (_ = _) := unr_one (n := n) h.pl.len hF hD
    obtain ⟨X1, hX1⟩ : ∃ X1, X1 = vals ((ps.drop F).take n) := ⟨_, rfl⟩
    obtain ⟨X2, hX2⟩ : ∃ X2, X2 = vals ((ps.take F).take (n - D)) := ⟨_, rfl⟩
    obtain ⟨Z0, hZ0⟩ : ∃ Z0, Z0 = vals (List.replicate n 0) := ⟨_, rfl⟩
    rw [← hX1, ← hX2, ← hZ0] at HU
    have hl1 : X1.length = D := by rw [hX1, vals_length]; simp; have := h.pl.len; omega
    have hl2 : X2.length = min F (n - D) := by rw [hX2, vals_length]; simp; have := h.pl.len; omega
    have hl0 : Z0.length = n := by rw [hZ0, vals_length]; simp
    have HL : Hid (X1.length = D ∧ X2.length = min F (n - D) ∧ Z0.length = n ∧ D = min (N - F) n) := ⟨hl1, hl2, hl0, hD⟩
    have o1 : Hid (∀ v ∈ X1, v.oneCell' = true) := by rw [hX1]; exact vals_one _
    have o2 : Hid (∀ v ∈ X2, v.oneCell' = true) := by rw [hX2]; exact vals_one _
    have H1 : Hid (∀ W, Fr [] w W → ∀ j v, X1[j]? = some v → W.cell? ((⟨b, F, none⟩ : Addr).add j) = some v) := by
      intro W hf j v hj
      rw [hX1, ← vals_take, ← vals_drop, List.getElem?_take] at hj
      split at hj
      · rw [Addr.add_lit, cell_of_row _ _ _ _ _ _ ((HK.out W hf).row b rfl), List.getElem?_toArray]
        rw [List.getElem?_drop] at hj
        exact hj
      · cases hj
    have H2 : Hid (∀ W, Fr [] w W → ∀ j v, X2[j]? = some v → W.cell? ((⟨b, 0, none⟩ : Addr).add j) = some v) := by
      intro W hf j v hj
      rw [hX2, ← vals_take, ← vals_take, List.take_take, List.getElem?_take] at hj
      split at hj
      · rw [Addr.add_lit, cell_of_row _ _ _ _ _ _ ((HK.out W hf).row b rfl), List.getElem?_toArray, Nat.zero_add]
        exact hj
      · cases hj
    have hDn : D ≤ n := by omega
    clear hl1 hl2 hl0 hX1 hX2 hD
    have HZ0 : Hid (Z0 = vals (List.replicate n 0)) := hZ0
    clear hZ0 h
    go_enter Tryz.func300, Tryz.ntmps300
    go_wp2_with (at_make; refine wpList_make_full _ rfl (.tmp 7) (.tmp 7) 25 rfl 0 3 i0 _ 1 Tryz.undEls hi0 hz0 hz1 .i64 .i64 (n : Int) (n : Int) n rfl rfl rfl rfl ?b2 ?b3 ?b4 ?_)
    case b2 => rw [hz2]; omega
    case b3 => unfold maxLen; omega
    case b4 => exact Nat.zero_le _
    intro w1 hown hgrow
    obtain ⟨k, hk⟩ : ∃ k, k = w.heap.size := ⟨_, rfl⟩
    have hr1 : w1.heap[k]? = some (.cells Z0.toArray 3 (0, 0)) := by
      have hm : (madeCells #[(.int .i64 0 : Value)] n).toList = Z0 := by rw [HZ0.out]; exact madeEl n
      simp only [hm, ← hk] at hown
      rcases hown.2 with ⟨hv, _⟩ | ⟨g', cap', cur, hv, _, hb, _, _, hcs, ht⟩
      · cases hv
      · cases hv
        have : cur = Z0.toArray := by
          apply Array.ext'
          rw [← ht, List.take_of_length_le]
          rw [Array.length_toList, hcs]
          exact Nat.le_refl _
        rw [← this]
        exact hb
    have hF1 : Fr [] w w1 := Fr.grown (S := []) hgrow (by simp)
    have hM1 := HK.out w1 hF1
    have c1 := hM1.c1
    have c2 := hM1.c2
    simp only [Option.map_some] at c1
    rw [← hk]
    have hkw : w.heap.size ≤ k := by omega
    have hF' : F ≤ N := by omega
    have hNF : ¬ N = F := by omega
    clear hown hgrow hk
    go_wp2_with fail
    have hbel : ∀ q, Below w.heap.size w (w1.drewN q) := fun q => (hF1.then (Fr.drewN [] w1 q)).below (Nat.le_refl _) (by simp)
    have HB : Hid (∀ W, Below w.heap.size w W → Fr [] w W ∧ W.cell? ⟨g, 1, none⟩ = some (.slice (some ⟨b, 0, none⟩) N N) ∧ W.cell? ⟨g, 2, none⟩ = some (.int .i64 (F : Int))) := fun W hb => by
      have hf : Fr [] w W := ⟨hb.os, hb.tape, hb.output, hb.size, fun k hk _ => hb.block k hk⟩
      exact ⟨hf, (HK.out W hf).c1, (HK.out W hf).c2⟩
    go_region_held3 (fun W => W.cell? ⟨g, 1, none⟩ = some (.slice (some ⟨b, 0, none⟩) N N) ∧ W.cell? ⟨g, 2, none⟩ = some (.int .i64 (F : Int))) (go_keep)
      ((refine step_copy_splice (by rfl) (.tmp 9) (.tmp 18) 25 25 (by rfl) 3 Tryz.undEls Tryz.sizeEl (some ⟨k, 0, none⟩) (some ⟨b, F, none⟩) n n (N - F) (N - F) (by rfl) (by rfl) k 0 Z0 3 hr1 X1 (by have := HL.out; show _ = min _ _; omega) (fun _ => ⟨rfl, _, rfl, H1.out _ (hF1.then (Fr.drewN [] w1 _))⟩) (by have := HL.out; omega) o1.out w.heap.size w (hbel _) hkw ?_; intro w2 HR2 hb2; obtain ⟨hF2, d1, d2⟩ := HB.out w2 hb2))
    rw [show X1.length = D from HL.out.1]
    clear c1 c2 hM1 hr1 hbel hb2
    have hbel : ∀ q, Below w.heap.size w (w2.drewN q) := fun q => (hF2.then (Fr.drewN [] w2 q)).below (Nat.le_refl _) (by simp)
    have HR2' := HR2.out
    have HLs : Hid ((splice Z0 0 X1).length = n) := by
      show _ = _
      have := HL.out
      rw [length_splice _ _ _ (by omega)]
      omega
    by_cases hDe : n = D
    · have hx2 : X2 = [] := List.eq_nil_of_length_eq_zero (by have := HL.out; omega)
      have HR3 : Hid (splice (splice Z0 0 X1) 0 [] = vals (unr F n ps)) := by
        show _ = _
        rw [← HU.out, hx2]
        have e : ∀ (L : List Value) D, splice L D [] = L := by intro L D; simp [splice]
        rw [e, e]
      clear hx2
      go_wp2_with fail
      go_region_held3 (fun W => W.cell? ⟨g, 1, none⟩ = some (.slice (some ⟨b, 0, none⟩) N N) ∧ W.cell? ⟨g, 2, none⟩ = some (.int .i64 (F : Int))) (go_keep)
        ((refine step_copy_splice (by rfl) (.tmp 22) (.tmp 31) 25 25 (by rfl) 3 Tryz.undEls Tryz.sizeEl _ _ _ _ _ _ (by rfl) (by rfl) k 0 _ 3 HR2' [] (by show _ = min _ _; simp) (fun h => absurd h (by simp)) (by simp) (by simp) w.heap.size w (hbel _) hkw ?_; intro w3 HR4 hb3; obtain ⟨hF3, e1, e2⟩ := HB.out w3 hb3))
      go_wp2
      go_ret
      refine ⟨k, rfl, hkw, ?_, hF3⟩
      unfold ERow
      rw [← HR3.out]
      exact HR4.out
    · go_wp2_with fail
      go_region_held3 (fun W => W.cell? ⟨g, 1, none⟩ = some (.slice (some ⟨b, 0, none⟩) N N) ∧ W.cell? ⟨g, 2, none⟩ = some (.int .i64 (F : Int))) (go_keep)
        ((refine step_copy_splice (by rfl) (.tmp 22) (.tmp 31) 25 25 (by rfl) 3 Tryz.undEls Tryz.sizeEl (some ⟨k, D, none⟩) (some ⟨b, 0, none⟩) (n - D) (n - D) F N (by rfl) (by rfl) k D _ 3 HR2' X2 (by have := HL.out; show _ = min _ _; omega) (fun _ => ⟨rfl, _, rfl, H2.out _ (hF2.then (Fr.drewN [] w2 _))⟩) (by rw [HLs.out]; have := HL.out; omega) o2.out w.heap.size w (hbel _) hkw ?_; intro w3 HR4 hb3; obtain ⟨hF3, e1, e2⟩ := HB.out w3 hb3))
      go_wp2
      go_ret
      refine ⟨k, rfl, hkw, ?_, hF3⟩
      unfold ERow
      rw [← HU.out]
      exact HR4.out
  · obtain rfl : N = 0 := by omega
    obtain rfl := h.none_.2 rfl
    obtain rfl := h.pl.f0 rfl
    have hps : ps = [] := List.eq_nil_of_length_eq_zero h.pl.len
    have HK : Hid (∀ W, Below w.heap.size w W → Fr [] w W ∧ W.cell? ⟨g, 1, none⟩ = some (.slice none 0 0) ∧ W.cell? ⟨g, 2, none⟩ = some (.int .i64 0)) := fun W hb => by
      have hf : Fr [] w W := ⟨hb.os, hb.tape, hb.output, hb.size, fun k hk _ => hb.block k hk⟩
      have := h.keep hf (by simp) (by simp)
      exact ⟨hf, this.c1, this.c2⟩
    have HU : Hid (vals (List.replicate n 0) = vals (unr 0 n ps)) := by
      show _ = _
      rw [hps]
      simp [unr]
    clear hps h
    go_enter Tryz.func300, Tryz.ntmps300
    go_wp2_with (at_make; refine wpList_make_full _ rfl (.tmp 7) (.tmp 7) 25 rfl 0 3 i0 _ 1 Tryz.undEls hi0 hz0 hz1 .i64 .i64 (n : Int) (n : Int) n rfl rfl rfl rfl ?b2 ?b3 ?b4 ?_)
    case b2 => rw [hz2]; omega
    case b3 => unfold maxLen; omega
    case b4 => exact Nat.zero_le _
    intro w1 hown hgrow
    obtain ⟨k, hk⟩ : ∃ k, k = w.heap.size := ⟨_, rfl⟩
    have hr1 : w1.heap[k]? = some (.cells (vals (unr 0 n ps)).toArray 3 (0, 0)) := by
      have hm : (madeCells #[(.int .i64 0 : Value)] n).toList = vals (unr 0 n ps) := by rw [← HU.out]; exact madeEl n
      simp only [hm, ← hk] at hown
      rcases hown.2 with ⟨hv, _⟩ | ⟨g', cap', cur, hv, _, hb, _, _, hcs, ht⟩
      · cases hv
      · cases hv
        have : cur = (vals (unr 0 n ps)).toArray := by
          apply Array.ext'
          rw [← ht, List.take_of_length_le]
          rw [Array.length_toList, hcs]
          exact Nat.le_refl _
        rw [← this]
        exact hb
    obtain ⟨X, hX⟩ : ∃ X, X = vals (unr 0 n ps) := ⟨_, rfl⟩
    rw [← hX] at hr1
    have HX : Hid (X = vals (unr 0 n ps)) := hX
    have hXl : Hid (X.length = n) := by show _ = _; rw [hX, vals_length, unr_length]
    have hF1 : Fr [] w w1 := Fr.grown (S := []) hgrow (by simp)
    have hb1 : Below w.heap.size w w1 := hF1.below (Nat.le_refl _) (by simp)
    obtain ⟨_, c1, c2⟩ := HK.out w1 hb1
    rw [← hk]
    have hkw : w.heap.size ≤ k := by omega
    clear hown hgrow hk hX
    have hbel : ∀ q, Below w.heap.size w (w1.drewN q) := fun q => (hF1.then (Fr.drewN [] w1 q)).below (Nat.le_refl _) (by simp)
    go_wp2_with fail
    go_region_held3 (fun W => W.cell? ⟨g, 1, none⟩ = some (.slice none 0 0) ∧ W.cell? ⟨g, 2, none⟩ = some (.int .i64 0)) (go_keep)
      ((refine step_copy_splice (by rfl) (.tmp 9) (.tmp 18) 25 25 (by rfl) 3 Tryz.undEls Tryz.sizeEl _ _ _ _ _ _ (by rfl) (by rfl) k 0 X 3 hr1 [] (by show _ = min _ _; simp) (fun h => absurd h (by simp)) (by simp) (by simp) w.heap.size w (hbel _) hkw ?_; intro w2 HR2 hb2; obtain ⟨hF2, d1, d2⟩ := HK.out w2 hb2))
    have e : splice X 0 [] = X := by simp [splice]
    rw [e] at HR2
    have hr2 := HR2.out
    clear HR2 e hbel
    have hbel : ∀ q, Below w.heap.size w (w2.drewN q) := fun q => (hF2.then (Fr.drewN [] w2 q)).below (Nat.le_refl _) (by simp)
    have hn0 : ¬ n = 0 := by omega
    go_wp2_with fail
    go_region_held3 (fun W => W.cell? ⟨g, 1, none⟩ = some (.slice none 0 0) ∧ W.cell? ⟨g, 2, none⟩ = some (.int .i64 0)) (go_keep)
      ((refine step_copy_splice (by rfl) (.tmp 22) (.tmp 31) 25 25 (by rfl) 3 Tryz.undEls Tryz.sizeEl _ _ _ _ _ _ (by rfl) (by rfl) k 0 X 3 hr2 [] (by show _ = min _ _; simp) (fun h => absurd h (by simp)) (by simp) (by simp) w.heap.size w (hbel _) hkw ?_; intro w3 HR3 hb3; obtain ⟨hF3, e1, e2⟩ := HK.out w3 hb3))
    go_wp2
    go_ret
    refine ⟨k, rfl, hkw, ?_, hF3⟩
    unfold ERow
    rw [← HX.out]
    have e : splice X 0 [] = X := by simp [splice]
    rw [← e]
    exact HR3.out
set_option maxHeartbeats 4000000 in
set_option maxRecDepth 100000 in
theorem gwiden_any (w : World) (h : RgM w g pb C N F K ps xs cl) (hNC : N < C) :
    Calls Tryz.prog 290 #[.pointer (some ⟨g, 0, none⟩)] w fun e w' => (∃ v, e = .returned v) ∧ ∃ k M, w.heap.size ≤ k ∧ N < M ∧ RgM w' g (some k) C M 0 K (unr F M ps) xs cl ∧ Fr [g] w w' := by
  obtain ⟨hC1, hC2, _⟩ := h.cap
  have HM : Hid (RgM w g pb C N F K ps xs cl) := h
  have c0 := h.c0
  have c1 := h.c1
  obtain ⟨q, hq⟩ : ∃ q, q = pb.map fun b => (⟨b, 0, none⟩ : Addr) := ⟨_, rfl⟩
  rw [← hq] at c1
  have HW : Hid (∀ k M (v : Value) W, N < M → M ≤ C → v = .slice (some ⟨k, 0, none⟩) M M → w.heap.size ≤ k → ERow W k (unr F M ps) → Fr [] w W → RgM ((W.setCell ⟨g, 1, none⟩ v).setCell ⟨g, 2, none⟩ (.int .i64 0)) g (some k) C M 0 K (unr F M ps) xs cl ∧ Fr [g] w ((W.setCell ⟨g, 1, none⟩ v).setCell ⟨g, 2, none⟩ (.int .i64 0)) ∧ W.cell? ⟨g, 1, none⟩ = some (.slice q N N) ∧ W.frozen? ⟨g, 1, none⟩ = false ∧ (W.setCell ⟨g, 1, none⟩ v).cell? ⟨g, 2, none⟩ = some (.int .i64 (F : Int)) ∧ (W.setCell ⟨g, 1, none⟩ v).frozen? ⟨g, 2, none⟩ = false) := by
    intro k M v W hNM hMC hv hk hE hf
    subst hv
    have hW := h.keep hf (by simp) (by simp)
    have hgk : k ≠ g := by have := h.lt; omega
    have hb1 := vrow_setCell (j := 1) (.slice (some ⟨k, 0, none⟩) M M) hW.box
    have hb2 := vrow_setCell (j := 2) (.int .i64 0) hb1
    have hfr : Fr [g] W ((W.setCell ⟨g, 1, none⟩ (.slice (some ⟨k, 0, none⟩) M M)).setCell ⟨g, 2, none⟩ (.int .i64 0)) := (Fr.set (S := [g]) _ _ _ (by simp)).then (Fr.set (S := [g]) _ _ _ (by simp))
    refine ⟨⟨?_, h.pl.wide (by omega) (by omega), fun b e => ?_, ⟨fun e => (by cases e), fun e => (by omega)⟩, by omega, by omega, by omega⟩, (hf.mono (by simp)).then hfr, by rw [hq]; exact hW.c1, hW.fz 1, ?_, ?_⟩
    · rw [hb2]
      rfl
    · cases e
      exact hfr.keep hE (by simp; exact hgk)
    · rw [cell_of_row _ _ _ _ _ _ hb1]; rfl
    · simp [World.frozen?, hb1]
  have HU : Hid (∀ M, 1 ≤ M ∧ M ≤ 65536 → Calls _ _ _ _ _) := fun M hM => gunr_any w M h hM
  clear h hq
  by_cases hN : N = 0
  · subst hN
    have h1 : ¬ (C : Int) < 1 := by omega
    have h2 : (1 : Int) ≤ (C : Int) := by omega
    have HC := HU.out 1 (by omega)
    go_enter Tryz.func290, Tryz.ntmps290
    go_wp2_with fail
    refine HC.mono ?_
    rintro e w1 ⟨k, rfl, hk, hE, hF1⟩
    obtain ⟨hR, hG, f1, z1, f2, z2⟩ := HW.out k _ _ w1 (by omega) (by omega) rfl hk hE hF1
    have HR : Hid (_ ∧ _) := And.intro hR hG
    clear hR hG hE
    go_wp2
    go_end0
    exact ⟨⟨_, rfl⟩, k, 1, hk, by omega, HR.out.1, HR.out.2⟩
  · by_cases h2 : 2 * N ≤ C
    · have h3 : (1 : Int) < 2 * (N : Int) := by omega
      have h4 : 2 * (N : Int) ≤ (C : Int) := by omega
      have HC := HU.out (2 * N) (by omega)
      rw [show ((2 * N : Nat) : Int) = 2 * (N : Int) by omega] at HC
      go_enter Tryz.func290, Tryz.ntmps290
      go_wp2_with fail
      refine HC.mono ?_
      rintro e w1 ⟨k, rfl, hk, hE, hF1⟩
      obtain ⟨hR, hG, f1, z1, f2, z2⟩ := HW.out k _ _ w1 (by omega) (by omega) rfl hk hE hF1
      have HR : Hid (_ ∧ _) := And.intro hR hG
      clear hR hG hE
      go_wp2
      go_end0
      exact ⟨⟨_, rfl⟩, k, 2 * N, hk, by omega, HR.out.1, HR.out.2⟩
    · have h3 : (1 : Int) < 2 * (N : Int) := by omega
      have h4 : (C : Int) < 2 * (N : Int) := by omega
      have HC := HU.out C (by omega)
      go_enter Tryz.func290, Tryz.ntmps290
      go_wp2_with fail
      refine HC.mono ?_
      rintro e w1 ⟨k, rfl, hk, hE, hF1⟩
      obtain ⟨hR, hG, f1, z1, f2, z2⟩ := HW.out k _ _ w1 (by omega) (by omega) rfl hk hE hF1
      have HR : Hid (_ ∧ _) := And.intro hR hG
      clear hR hG hE
      go_wp2
      go_end0
      exact ⟨⟨_, rfl⟩, k, C, hk, by omega, HR.out.1, HR.out.2⟩
end
end Go.Proofs.YtakbodlicfmkjaaGreat.GI

/- Contracts of a ring's Put, Take. Conditions as each names them. -/
import Derived.Test.YtakbodlicfmkjaaGreatJu20
namespace Go.Proofs.YtakbodlicfmkjaaGreat.GI
open Go.ChangeShapes Go.WideShapes Go.ChangeAt Go.RowKit Go.Lib
set_option linter.unusedVariables false
set_option linter.unusedSimpArgs false
section
variable {g C N F K : Nat} {pb : Option Nat} {ps xs : List Int} {cl : Bool}
theorem gput_no (p : Option Addr) (x : Int) (w : World) (h : NoR w p) : Calls Tryz.prog 281 #[.pointer p, .int .i64 x] w fun e w' => e = .returned (.bool false) ∧ w = w' := by
  have HT : Hid (Calls _ _ _ _ _) := groom_no p w h
  clear h
  go_enter Tryz.func281, Tryz.ntmps281
  go_wp2_with fail
  refine Calls.mono HT.out ?_
  rintro e w1 ⟨rfl, rfl⟩
  go_wp2
  go_ret
  exact ⟨rfl, rfl⟩
theorem gput_full (x : Int) (w : World) (h : RgM w g pb C N F K ps xs cl) (hf : cl = true ∨ K = C) : Calls Tryz.prog 281 #[.pointer (some ⟨g, 0, none⟩), .int .i64 x] w fun e w' => e = .returned (.bool false) ∧ Fr [] w w' := by
  have HT : Hid (Calls _ _ _ _ _) := groom_any w h 0 (by rcases hf with rfl | rfl <;> simp)
  clear h hf
  rw [show ((0 : Nat) : Int) = 0 from rfl] at HT
  go_enter Tryz.func281, Tryz.ntmps281
  go_wp2_with fail
  refine Calls.mono HT.out ?_
  rintro e w1 ⟨rfl, hF⟩
  go_wp2
  go_ret
  exact ⟨rfl, hF⟩
/-- Behind the two stores of a put. -/
theorem RgM.stored {w W : World} {b P : Nat} {x : Int} (h : RgM w g (some b) C N F K ps xs cl) (hK : K < N) (hP : P = atN F K N) (hf : Fr [] w W) :
    RgM ((W.setCell ⟨b, P, none⟩ (.int .i64 x)).setCell ⟨g, 3, none⟩ (.int .i64 ((K : Int) + 1))) g (some b) C N F (K + 1) (ps.set P x) (xs ++ [x]) cl ∧ Fr [g, b] w ((W.setCell ⟨b, P, none⟩ (.int .i64 x)).setCell ⟨g, 3, none⟩ (.int .i64 ((K : Int) + 1))) ∧ (W.setCell ⟨b, P, none⟩ (.int .i64 x)).cell? ⟨g, 3, none⟩ = some (.int .i64 (K : Int)) ∧ (W.setCell ⟨b, P, none⟩ (.int .i64 x)).frozen? ⟨g, 3, none⟩ = false := by
  have hW := h.keep hf (by simp) (by simp)
  have hgb : b ≠ g := by rintro rfl; exact h.ne rfl
  have f1 : Fr [b] W (W.setCell ⟨b, P, none⟩ (.int .i64 x)) := Fr.set _ _ _ (by simp)
  have f2 : Fr [g] (W.setCell ⟨b, P, none⟩ (.int .i64 x)) ((W.setCell ⟨b, P, none⟩ (.int .i64 x)).setCell ⟨g, 3, none⟩ (.int .i64 ((K : Int) + 1))) := Fr.set _ _ _ (by simp)
  have hb1 := f1.keep hW.box (by simp; omega)
  have hr1 := vrow_setCell (j := P) (.int .i64 x) (hW.row b rfl)
  refine ⟨⟨?_, by rw [hP]; exact h.pl.put hK x, fun b' e => ?_, h.none_, h.cap⟩, (hf.mono (by simp)).then ((f1.mono (by simp)).then (f2.mono (by simp))), by rw [cell_of_row _ _ _ _ _ _ hb1]; rfl, by simp [World.frozen?, hb1]⟩
  · rw [vrow_setCell _ hb1]
    rfl
  · cases e
    rw [← vals_set]
    have := f2.keep hr1 (by simp; omega)
    rw [this]
    simp
set_option maxHeartbeats 4000000 in
set_option maxRecDepth 100000 in
theorem gput_any (x : Int) (w : World) (h : Rg w g pb C xs false) (hK : xs.length < C) : Calls Tryz.prog 281 #[.pointer (some ⟨g, 0, none⟩), .int .i64 x] w fun e w' => e = .returned (.bool true) ∧ ∃ pb', Rg w' g pb' C (xs ++ [x]) false ∧ Fr (Rg.own g pb) w w' ∧ Mv w.heap.size pb pb' := by
  obtain ⟨N, F, K, ps, h⟩ := h
  rw [h.pl.cnt] at hK
  obtain ⟨R, hR⟩ : ∃ R, R = C - K := ⟨_, rfl⟩
  have HT : Hid (Calls _ _ _ _ _) := groom_any w h R (by simpa using hR)
  have hR0 : ¬ (R : Int) = 0 := by omega
  have hR1 : ¬ R = 0 := by omega
  have HK : Hid (∀ W, Fr [] w W → RgM W g pb C N F K ps xs false) := fun W hf => h.keep hf (by simp) (by simp)
  have hKN := h.pl.fit
  have hNC := h.cap
  clear h hR
  obtain ⟨_, hC2, hNC⟩ := hNC
  have HX : Hid (∀ (x : Int) (W : World) (N F : Nat) (b : Nat) (ps : List Int), RgM W g (some b) C N F K ps xs false → K < N → Calls Tryz.prog 291 #[.pointer (some ⟨g, 0, none⟩), .int .i64 (K : Int)] W fun e w' => e = .returned (.int .i64 ((atN F K N : Nat) : Int)) ∧ Fr [] W w') := fun x W N F b ps h hK => gplace_any W K _ h (by omega) (by omega) rfl
  by_cases hKe : K = N
  · subst hKe
    go_enter Tryz.func281, Tryz.ntmps281
    go_wp2_with fail
    refine Calls.mono HT.out ?_
    rintro e w1 ⟨rfl, hF1⟩
    have h1 := HK.out w1 hF1
    have c1 := h1.c1
    have c3 := h1.c3
    have HWd : Hid (∀ W, Fr [] w1 W → Calls _ _ _ _ _) := fun W hf => gwiden_any W (h1.keep hf (by simp) (by simp)) (by omega)
    obtain ⟨q, hq⟩ : ∃ q, q = pb.map fun b => (⟨b, 0, none⟩ : Addr) := ⟨_, rfl⟩
    rw [← hq] at c1
    clear h1 hq HT
    go_wp2_with fail
    go_quiet (fail)
    go_wp2_with fail
    refine Calls.mono (HWd.out _ (Fr.drewN _ _ _)) ?_
    rintro e w2 ⟨⟨v0, rfl⟩, b, M, hb, hNM, hR2, hF2⟩
    have hG2 : Fr [g] w w2 := (hF1.mono (by simp)).then (((Fr.drewN [g] w1 _)).then hF2)
    have hbw : w.heap.size ≤ b := by have h3 : w1.heap.size ≤ b := hb; have := hF1.size; omega
    clear c1 c3 HWd hF2 hb
    have hM := hR2
    have c1 := hM.c1
    have c3 := hM.c3
    simp only [Option.map_some] at c1
    obtain ⟨P, hP⟩ : ∃ P, P = atN 0 K M := ⟨_, rfl⟩
    have hPN : P < M := by rw [hP]; exact atN_lt (hM.pl.f1 (by omega)) (by omega)
    have hbg : b ≠ g := by rintro rfl; exact hM.ne rfl
    have hgb : g ≠ b := fun e => hbg e.symm
    have HPl : Hid (∀ W, Fr [] w2 W → Calls Tryz.prog 291 #[.pointer (some ⟨g, 0, none⟩), .int .i64 (K : Int)] W fun e w' => e = .returned (.int .i64 (P : Int)) ∧ Fr [] W w') := fun W hf => by rw [hP]; exact HX.out x W _ _ b _ (hM.keep hf (by simp) (by simp)) (by omega)
    have HSt : Hid (∀ W, Fr [] w2 W → _ ∧ _ ∧ _ ∧ _) := fun W hf => hM.stored (x := x) (by omega) hP hf
    have HS : Hid (∀ W, Fr [] w2 W → W.cell? ⟨g, 1, none⟩ = some (.slice (some ⟨b, 0, none⟩) M M) ∧ W.cell? ⟨g, 3, none⟩ = some (.int .i64 (K : Int)) ∧ (W.cell? ⟨b, P, none⟩ = some (.int .i64 (_ : Int)) ∧ W.frozen? ⟨b, P, none⟩ = false)) := fun W hf => by
      have := hM.keep hf (by simp) (by simp)
      exact ⟨this.c1, this.c3, this.pc rfl hPN, this.pz rfl _⟩
    obtain ⟨_, _, c5, z5⟩ := HS.out _ (Fr.refl _ _)
    generalize List.getD _ P 0 = old at c5 HS
    clear hM hR2 hP
    go_wp2_with fail
    go_region_held3 (fun W => W.cell? ⟨g, 1, none⟩ = some (.slice (some ⟨b, 0, none⟩) M M) ∧ W.cell? ⟨g, 3, none⟩ = some (.int .i64 (K : Int))) (go_keep)
      (first
        | (with_reducible refine Calls.mono (HPl.out _ (Fr.drew _ _)) ?_; rintro e w3 ⟨rfl, hF3⟩; have hF3' := (Fr.drew [] w2).then hF3; obtain ⟨d1, d3, d5, y5⟩ := HS.out _ hF3'; obtain ⟨_, _, j3, y3⟩ := HSt.out _ hF3'))
    go_wp2
    go_ret
    have hSt := HSt.out _ hF3'
    refine ⟨rfl, some b, ⟨_, _, _, _, hSt.1⟩, ?_, Or.inr ⟨b, rfl, hbw⟩⟩
    refine hG2.trans hSt.2.1 (by intro y hy _; simp [Rg.own] at hy ⊢; exact Or.inl hy) (by intro y hy hl; simp [Rg.own] at hy ⊢; omega)
  · have hKN' : K < N := by omega
    have hKe2 : ¬ (K : Int) = (N : Int) := by omega
    go_enter Tryz.func281, Tryz.ntmps281
    go_wp2_with fail
    refine Calls.mono HT.out ?_
    rintro e w1 ⟨rfl, hF1⟩
    have hR2 := HK.out w1 hF1
    obtain ⟨b, rfl⟩ := hR2.some_ (by omega)
    have c1 := hR2.c1
    have c3 := hR2.c3
    simp only [Option.map_some] at c1
    clear HT
    go_wp2_with fail
    go_quiet (fail)
    have hF2 := hF1.then (Fr.drewN [] w1 nq)
    have hR2 := HK.out _ hF2
    obtain ⟨w2, HW2⟩ : ∃ w2, Hid (w1.drewN nq = w2) := ⟨_, rfl⟩
    rw [HW2.out] at hF2 hR2 ⊢
    clear c1 c3 HW2
    have hM := hR2
    have c1 := hM.c1
    have c3 := hM.c3
    simp only [Option.map_some] at c1
    obtain ⟨P, hP⟩ : ∃ P, P = atN F K N := ⟨_, rfl⟩
    have hPN : P < N := by rw [hP]; exact atN_lt (hM.pl.f1 (by omega)) (by omega)
    have hbg : b ≠ g := by rintro rfl; exact hM.ne rfl
    have hgb : g ≠ b := fun e => hbg e.symm
    have HPl : Hid (∀ W, Fr [] w2 W → Calls Tryz.prog 291 #[.pointer (some ⟨g, 0, none⟩), .int .i64 (K : Int)] W fun e w' => e = .returned (.int .i64 (P : Int)) ∧ Fr [] W w') := fun W hf => by rw [hP]; exact HX.out x W _ _ b _ (hM.keep hf (by simp) (by simp)) (by omega)
    have HSt : Hid (∀ W, Fr [] w2 W → _ ∧ _ ∧ _ ∧ _) := fun W hf => hM.stored (x := x) (by omega) hP hf
    have HS : Hid (∀ W, Fr [] w2 W → W.cell? ⟨g, 1, none⟩ = some (.slice (some ⟨b, 0, none⟩) N N) ∧ W.cell? ⟨g, 3, none⟩ = some (.int .i64 (K : Int)) ∧ (W.cell? ⟨b, P, none⟩ = some (.int .i64 (_ : Int)) ∧ W.frozen? ⟨b, P, none⟩ = false)) := fun W hf => by
      have := hM.keep hf (by simp) (by simp)
      exact ⟨this.c1, this.c3, this.pc rfl hPN, this.pz rfl _⟩
    obtain ⟨_, _, c5, z5⟩ := HS.out _ (Fr.refl _ _)
    generalize List.getD _ P 0 = old at c5 HS
    clear hM hR2 hP
    go_wp2_with fail
    go_region_held3 (fun W => W.cell? ⟨g, 1, none⟩ = some (.slice (some ⟨b, 0, none⟩) N N) ∧ W.cell? ⟨g, 3, none⟩ = some (.int .i64 (K : Int))) (go_keep)
      (first
        | (with_reducible refine Calls.mono (HPl.out _ (Fr.drew _ _)) ?_; rintro e w3 ⟨rfl, hF3⟩; have hF3' := (Fr.drew [] w2).then hF3; obtain ⟨d1, d3, d5, y5⟩ := HS.out _ hF3'; obtain ⟨_, _, j3, y3⟩ := HSt.out _ hF3'))
    go_wp2
    go_ret
    have hSt := HSt.out _ hF3'
    refine ⟨rfl, some b, ⟨_, _, _, _, hSt.1⟩, ?_, Mv.refl _ _⟩
    exact (hF2.mono (by simp)).then (hSt.2.1.mono (by simp [Rg.own]))

theorem gtake_no (p : Option Addr) (w : World) (h : NoR w p) : Calls Tryz.prog 338 #[.pointer p] w fun e w' => e = .returned (.tuple #[.int .i64 0, .bool false]) ∧ w = w' := by
  have HT : Hid (Calls _ _ _ _ _) := gfirst_no p w h
  clear h
  go_enter Tryz.func338, Tryz.ntmps338
  go_wp2_with fail
  refine Calls.mono HT.out ?_
  rintro e w1 ⟨rfl, rfl⟩
  go_wp2
  refine bodyPost_ret (results_tmp2 rfl _ _ _) rfl ?_
  exact ⟨rfl, rfl⟩
theorem gtake_nil (w : World) (h : Rg w g pb C [] cl) : Calls Tryz.prog 338 #[.pointer (some ⟨g, 0, none⟩)] w fun e w' => e = .returned (.tuple #[.int .i64 0, .bool false]) ∧ w = w' := by
  obtain ⟨N, F, K, ps, h⟩ := h
  obtain rfl : K = 0 := h.pl.cnt.symm
  have HT : Hid (Calls _ _ _ _ _) := gfirst_nil w h
  clear h
  go_enter Tryz.func338, Tryz.ntmps338
  go_wp2_with fail
  refine Calls.mono HT.out ?_
  rintro e w1 ⟨rfl, rfl⟩
  go_wp2
  refine bodyPost_ret (results_tmp2 rfl _ _ _) rfl ?_
  exact ⟨rfl, rfl⟩
set_option maxHeartbeats 4000000 in
set_option maxRecDepth 100000 in
theorem gtake_any (x : Int) (w : World) (h : Rg w g pb C (x :: xs) cl) : Calls Tryz.prog 338 #[.pointer (some ⟨g, 0, none⟩)] w fun e w' => e = .returned (.tuple #[.int .i64 x, .bool true]) ∧ Rg w' g pb C xs cl ∧ Fr (Rg.own g pb) w w' := by
  obtain ⟨N, F, K1, ps, h⟩ := h
  obtain ⟨K, rfl⟩ : ∃ K, K1 = K + 1 := ⟨xs.length, by have := h.pl.cnt; simpa using this.symm⟩
  have HT : Hid (Calls _ _ _ _ _) := gfirst_any w h
  have hN : 0 < N := by have := h.pl.fit; omega
  have hF := h.pl.f1 hN
  obtain ⟨b, rfl⟩ := h.some_ hN
  have hbg : b ≠ g := by rintro rfl; exact h.ne rfl
  have hgb : g ≠ b := fun e => hbg e.symm
  have hKC : K < 65536 := by have := h.pl.fit; have := h.cap; omega
  obtain ⟨P, hP⟩ : ∃ P, P = atN F 1 N := ⟨_, rfl⟩
  have HA : Hid (∀ W, Fr [] w W → W.cell? ⟨g, 1, none⟩ = some (.slice (some ⟨b, 0, none⟩) N N) ∧ W.cell? ⟨g, 2, none⟩ = some (.int .i64 (F : Int)) ∧ W.cell? ⟨b, F, none⟩ = some (.int .i64 x) ∧ W.frozen? ⟨b, F, none⟩ = false) := fun W hf => by
    have hh := h.keep hf (by simp) (by simp)
    have h5 := hh.pc rfl hF
    rw [h.pl.take.1] at h5
    exact ⟨hh.c1, hh.c2, h5, hh.pz rfl _⟩
  -- behind the store of the zero value
  have HB : Hid (∀ W, Fr [] w W → ∀ W2, Fr [] (W.setCell ⟨b, F, none⟩ (.int .i64 0)) W2 → RgM W2 g (some b) C N F (K + 1) (ps.set F 0) ((ps.set F 0).getD F 0 :: xs) cl) := fun W hf W2 hf2 => by
    have hh := h.keep hf (by simp) (by simp)
    have hf1 : Fr [b] W (W.setCell ⟨b, F, none⟩ (.int .i64 0)) := Fr.set _ _ _ (by simp)
    refine RgM.keep (S := []) (w := W.setCell ⟨b, F, none⟩ (.int .i64 0)) ⟨hf1.keep hh.box (by simp; exact hgb), ?_, fun b' e => ?_, h.none_, h.cap⟩ hf2 (by simp) (by simp)
    · refine ⟨by rw [List.length_set]; exact h.pl.len, by have := h.pl.cnt; simpa using this, h.pl.fit, h.pl.f0, h.pl.f1, fun i hi => ?_⟩
      have h2 := h.pl.fit
      cases i with
      | zero =>
        have e0 : atN F 0 N = F := by unfold atN; rw [if_pos (by omega)]; rfl
        rw [e0]
        rfl
      | succ i =>
        have h3 := h.pl.at_ (i + 1) hi
        rw [getD_set _ _ _ _ (by rw [h.pl.len]; exact hF), if_neg (by unfold atN; split <;> omega), h3]
        rfl
    · cases e
      rw [vrow_setCell _ (hh.row b rfl), ← vals_set]
      simp
  -- behind all
  have HC : Hid (∀ W3, RgM W3 g (some b) C N F (K + 1) (ps.set F 0) ((ps.set F 0).getD F 0 :: xs) cl → RgM ((W3.setCell ⟨g, 2, none⟩ (.int .i64 (P : Int))).setCell ⟨g, 3, none⟩ (.int .i64 (K : Int))) g (some b) C N P K (ps.set F 0) xs cl ∧ Fr [g] W3 ((W3.setCell ⟨g, 2, none⟩ (.int .i64 (P : Int))).setCell ⟨g, 3, none⟩ (.int .i64 (K : Int))) ∧ W3.cell? ⟨g, 2, none⟩ = some (.int .i64 (F : Int)) ∧ W3.frozen? ⟨g, 2, none⟩ = false ∧ (W3.setCell ⟨g, 2, none⟩ (.int .i64 (P : Int))).cell? ⟨g, 3, none⟩ = some (.int .i64 ((K : Int) + 1)) ∧ (W3.setCell ⟨g, 2, none⟩ (.int .i64 (P : Int))).frozen? ⟨g, 3, none⟩ = false) := fun W3 h3 => by
    have hb1 := vrow_setCell (j := 2) (.int .i64 (P : Int)) h3.box
    have hb2 := vrow_setCell (j := 3) (.int .i64 (K : Int)) hb1
    have hfr : Fr [g] W3 ((W3.setCell ⟨g, 2, none⟩ (.int .i64 (P : Int))).setCell ⟨g, 3, none⟩ (.int .i64 (K : Int))) := (Fr.set (S := [g]) _ _ _ (by simp)).then (Fr.set (S := [g]) _ _ _ (by simp))
    refine ⟨⟨by rw [hb2]; rfl, by rw [hP]; exact h.pl.take.2, fun b' e => ?_, h.none_, h.cap⟩, hfr, h3.c2, h3.fz 2, by rw [cell_of_row _ _ _ _ _ _ hb1]; rfl, by simp [World.frozen?, hb1]⟩
    cases e
    exact hfr.keep (h3.row b rfl) (by simp; exact hbg)
  have HPl : Hid (∀ W, RgM W g (some b) C N F (K + 1) (ps.set F 0) ((ps.set F 0).getD F 0 :: xs) cl → Calls Tryz.prog 291 #[.pointer (some ⟨g, 0, none⟩), .int .i64 1] W fun e w' => e = .returned (.int .i64 (P : Int)) ∧ Fr [] W w') := fun W hW => by
    have := gplace_any W 1 P hW hN (by omega) hP
    exact this
  clear h hP
  go_enter Tryz.func338, Tryz.ntmps338
  go_wp2_with fail
  refine Calls.mono HT.out ?_
  rintro e w1 ⟨rfl, hF1⟩
  obtain ⟨c1, c2, c5, z5⟩ := HA.out w1 hF1
  obtain ⟨_, _, c5d, z5d⟩ := HA.out w1.drew (hF1.then (Fr.drew [] w1))
  clear HT
  go_wp2_with fail
  go_region_held3 (fun W => W.cell? ⟨g, 1, none⟩ = some (.slice (some ⟨b, 0, none⟩) N N) ∧ W.cell? ⟨g, 2, none⟩ = some (.int .i64 (F : Int))) (go_keep) (fail)
  have hR2 := HB.out w1 hF1 _ (Fr.drew [] (w1.setCell ⟨b, F, none⟩ (.int .i64 0)))
  have hF2 : Fr [b] w (w1.setCell ⟨b, F, none⟩ (.int .i64 0)).drew := (hF1.mono (by simp)).then ((Fr.set (S := [b]) _ _ _ (by simp)).then (Fr.drew _ _))
  obtain ⟨w2, HW2⟩ : ∃ w2, Hid ((w1.setCell ⟨b, F, none⟩ (.int .i64 0)).drew = w2) := ⟨_, rfl⟩
  rw [HW2.out] at hR2 hF2 ⊢
  have HPc : Hid (Calls _ _ _ _ _) := HPl.out w2 hR2
  have HR2 : Hid (RgM w2 g (some b) C N F (K + 1) (ps.set F 0) ((ps.set F 0).getD F 0 :: xs) cl) := hR2
  clear hR2 c1 c2 c5 z5 c5d z5d HW2
  go_wp2_with fail
  refine Calls.mono HPc.out ?_
  rintro e w3 ⟨rfl, hF3⟩
  obtain ⟨hR4, hG4, d2, y2, d3, y3⟩ := HC.out w3 (HR2.out.keep hF3 (by simp) (by simp))
  have HR4 : Hid (_ ∧ _) := And.intro hR4 hG4
  clear hR4 hG4
  have hk1 : (K : Int) + 1 - 1 = (K : Int) := by omega
  go_wp2
  refine bodyPost_ret (results_tmp2 rfl _ _ _) rfl ?_
  refine ⟨rfl, ⟨_, _, _, _, HR4.out.1⟩, ?_⟩
  exact (hF2.mono (by simp [Rg.own])).then ((hF3.mono (by simp)).then (HR4.out.2.mono (by simp [Rg.own])))
end
end Go.Proofs.YtakbodlicfmkjaaGreat.GI

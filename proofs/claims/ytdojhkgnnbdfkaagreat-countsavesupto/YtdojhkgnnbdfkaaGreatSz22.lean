/- How many steps a checkpoint takes: the document's Save. Conditions: the checkpoint's size is at most 1048576. -/
import Derived.Test.YtdojhkgnnbdfkaaGreatSx22
import Derived.BigQuiet
namespace Go.Proofs.YtdojhkgnnbdfkaaGreat
open BigFrame Go.ChangeShapes Go.WideShapes Go.ChangeAt Go.RowKit Go.Lib Go.Maps
set_option linter.unusedVariables false
set_option linter.unusedSimpArgs false

set_option maxHeartbeats 4000000 in
set_option maxRecDepth 100000 in
theorem xnsave_any {w : World} {m : Int} {bo : Option Addr} {Lb : Nat} {ho : Option Addr} {Lh : Nat} {bs : List Int} {hs : List Hd} {ps : List Kv} {c : Nat} {ys : List Nat} (l s x q : Int) (cb ch : Nat) (h : SvA w m bo Lb ho Lh bs hs ps c ys) {ok : Bool} {g i : Nat} {mN : Int} {bN : List Int} {pN : List Kv} (hN : Nw [] [] ok g i mN bN pN) :
    Calls Tryz.prog 6 #[.agg #[.int .i64 l, .int .i64 s, .int .i64 x, .int .i64 q], .agg #[.int .i64 m, .slice bo Lb cb, .slice ho Lh ch]] w fun e w' => ∃ r z : Int, e = .returned (.tuple #[.int .i64 r, .int .i64 z]) ∧ SaR (Cf.err ⟨l, s, x, q⟩) s c (newE 16777216 g c ys.length) (nB (20 + ys.length) + 1) r z ∧ Fr [] w w' := by
  have H1 := fun w => ocheck_cells l s x q w
  have HC2 : Hid (∀ W, Fr [] w W → Calls Tryz.prog 16 #[.agg #[.int .i64 m, .slice bo Lb cb, .slice ho Lh ch]] W fun e w' => e = .returned (.int .i64 (c : Int)) ∧ Fr [] W w') := fun W hf => ywcheck_any m bo ho Lb cb Lh ch c bs hs W (h.keep hf).I h.lb (h.keep hf).H h.lh (h.T.ck h.p)
  have HD : Hid (∀ W, Fr [] w W → Calls Tryz.prog 17 #[.int .i64 16777216] W fun e w' => ∃ g S, e = .returned (.tuple #[.pointer (some ⟨g, 0, none⟩), .int .i64 0]) ∧ LR w w' g S (Sk.new 16777216) ∧ (∀ k ∈ S, W.heap.size ≤ k) ∧ Fr [] W w') := fun W hf => lr_new 16777216 w W hf (by omega)
  have HW : Hid (∀ W d S, LR w W d S (Sk.new 16777216) → Fr [] w W → Calls Tryz.prog 18 #[.pointer (some ⟨d, 0, none⟩), .agg #[.int .i64 m, .slice bo Lb cb, .slice ho Lh ch]] W fun e w' => (newE 16777216 g c ys.length ≠ 0 ∧ e = .returned (.tuple #[.pointer none, .int .i64 (newE 16777216 g c ys.length)]) ∧ Fr [] W w') ∨ (newE 16777216 g c ys.length = 0 ∧ ∃ tb, e = .returned (.tuple #[.pointer (some ⟨tb, 0, none⟩), .int .i64 0]) ∧ (∀ V, Fr [] w' V → Calls Tryz.prog 19 #[.pointer (some ⟨tb, 0, none⟩)] V fun e v' => e = .returned (.int .i64 ((nB (20 + ys.length) + 1 : Nat) : Int)) ∧ Fr [] V v') ∧ Fr [] W w')) := fun W d S hL hf => (znew_any hL hN m bo ho Lb cb Lh ch c bs hs ps ys (h.keep hf).I h.lb (h.keep hf).H h.lh h.p h.T h.z).mono (by
    rintro e w' (h1 | ⟨h1, tb, ab, ac, h2, h3, _, _, h4⟩)
    · exact Or.inl h1
    · exact Or.inr ⟨h1, tb, h2, fun V hV => zleft_any (h3.keep hV (by simp) (by simp)) (by rw [ckB_length]; rfl), h4⟩)
  have HE1 : Hid (Cf.err ⟨l, s, x, q⟩ = 0 ∨ Cf.err ⟨l, s, x, q⟩ = 7) := Cf.err_ways _
  have HS : Hid (Cf.err ⟨l, s, x, q⟩ = 0 → 1 ≤ s ∧ s ≤ 16) := fun h => Cf.err_zero h
  have HCw : Hid (c = 0 ∨ c = 1) := h.ways
  have HNf : Hid (newE 16777216 g c ys.length = 0 → nB (20 + ys.length) + 1 ≤ 262145) := fun h => newE_few h
  obtain ⟨P, HP⟩ : ∃ P : Int → Int → Prop, Hid (∀ r z, SaR (Cf.err ⟨l, s, x, q⟩) s c (newE 16777216 g c ys.length) (nB (20 + ys.length) + 1) r z = P r z) := ⟨_, fun _ _ => rfl⟩
  simp only [HP.out]
  generalize Cf.err ⟨l, s, x, q⟩ = E1 at H1 HE1 HS HP
  generalize newE 16777216 g c ys.length = E2 at HW HNf HP
  generalize nB (20 + ys.length) + 1 = N at HW HNf HP
  obtain ⟨w1, HW1⟩ : ∃ w1, Hid ((w.alloc (.cells #[.int .i64 l, .int .i64 s, .int .i64 x, .int .i64 q] 23)).alloc (.cells #[.int .i64 m, .slice bo Lb cb, .slice ho Lh ch] 27) = w1) := ⟨_, rfl⟩
  have HB : Hid (∀ W, Fr [] w1 W → _) := fun W hf => sv_box22 (w := w) (l := l) (s := s) (x := x) (q := q) (m := m) (bo := bo) (ho := ho) (Lb := Lb) (cb := cb) (Lh := Lh) (ch := ch) (W := W) (by rw [HW1.out]; exact hf)
  have HF0 : Hid (Fr [] w w1) := by rw [← HW1.out]; exact (Fr.alloc _ _ _).then (Fr.alloc _ _ _)
  obtain ⟨B, HBw⟩ : ∃ B, Hid (w.heap.size = B) := ⟨_, rfl⟩
  rw [HBw.out] at HB
  obtain ⟨a0, a1, a2, a3, c0, c1, c2⟩ := HB.out _ (Fr.refl _ _)
  clear h hN
  go_enter Tryz.func6, Tryz.ntmps6
  go_upto_region 1 with fail
  rw [HW1.out, HBw.out]
  clear HW1 HBw
  go_wp2_with fail
  with_reducible refine Calls.mono (H1 _) ?_
  rintro e w2 ⟨rfl, hF2⟩
  have HG2 : Hid (Fr [] w1 w2) := hF2
  clear a0 a1 a2 a3 c0 c1 c2 H1 hF2
  obtain ⟨a0, a1, a2, a3, c0, c1, c2⟩ := HB.out _ HG2.out
  rcases HE1.out with rfl | rfl
  · have n1 : ((0 : Int) != 0) = false := rfl
    obtain ⟨s0, s1⟩ := HS.out rfl
    go_wp2_with fail
    with_reducible refine Calls.mono (HC2.out _ (HF0.out.then HG2.out)) ?_
    rintro e w3 ⟨rfl, hF3⟩
    have HG3 : Hid (Fr [] w1 w3) := HG2.out.then hF3
    clear a0 a1 a2 a3 c0 c1 c2 hF3 HC2
    obtain ⟨a0, a1, a2, a3, c0, c1, c2⟩ := HB.out _ HG3.out
    by_cases hc : c = 0
    · have n2 : ((c : Int) != 0) = false := by simp [hc]
      have HC0 : Hid (c = 0) := hc
      clear hc
      go_wp2_with fail
      with_reducible refine Calls.mono (HD.out _ (HF0.out.then HG3.out)) ?_
      rintro e w4 ⟨d, S, rfl, hLR, _, hF4⟩
      have HLR : Hid (LR w w4 d S (Sk.new 16777216)) := hLR
      have HG4 : Hid (Fr [] w1 w4) := HG3.out.then hF4
      clear a0 a1 a2 a3 c0 c1 c2 hF4 HD hLR
      obtain ⟨a0, a1, a2, a3, c0, c1, c2⟩ := HB.out _ HG4.out
      go_wp2_with fail
      with_reducible refine Calls.mono (HW.out _ d S HLR.out (HF0.out.then HG4.out)) ?_
      rintro e w5 (⟨hE, rfl, hF5⟩ | ⟨hE, tb, rfl, hZ, hF5⟩)
      · have n3 : (E2 != 0) = true := by simp [hE]
        have HE : Hid (E2 ≠ 0) := hE
        have HG5 : Hid (Fr [] w1 w5) := HG4.out.then hF5
        clear hE hF5 HW a0 a1 a2 a3 c0 c1 c2
        go_wp2_with fail
        go_ret2
        exact ⟨_, _, rfl, by rw [← HP.out]; have := HE.out; have := HC0.out; unfold SaR; omega, HF0.out.then HG5.out⟩
      · have hfew := HNf.out hE
        have HE : Hid (E2 = 0) := hE
        have HG5 : Hid (Fr [] w1 w5) := HG4.out.then hF5
        have HZ : Hid (∀ V, Fr [] w5 V → Calls Tryz.prog 19 #[.pointer (some ⟨tb, 0, none⟩)] V fun e v' => e = .returned (.int .i64 (N : Int)) ∧ Fr [] V v') := hZ
        clear hE hF5 HW a0 a1 a2 a3 c0 c1 c2 hZ
        have f1 : ∀ y : Wd13 w5, y.W.cell? ⟨B, 1, none⟩ = some (.int .i64 s) := fun y => (HB.out _ (HG5.out.then y.h)).2.1
        go_wp2_with fail
        refine wp_region_wd13 (w1 := w5) (by kernel_rfl) (by kernel_rfl) (Fr.refl _ _) ?_
        repeat (go_big_quiet_step (first
          | (go_at_call 19; with_reducible refine Calls.mono (HZ.out _ (Wd13.h _)) ?_; exact fun e w3 hh => ⟨hh.1, ⟨_, Fr.then (Wd13.h _) hh.2⟩, rfl⟩)))
        refine wpQuiet_nil ?_
        rintro _ ⟨y, rfl⟩
        go_wp2_with fail
        go_ret2
        exact ⟨_, _, rfl, by rw [← HP.out]; have := HE.out; have := HC0.out; unfold SaR; omega, (HF0.out.then HG5.out).then y.h⟩
    · have n2 : ((c : Int) != 0) = true := by simp; omega
      have HC0 : Hid (c = 1) := by have := HCw.out; show _ = _; omega
      have hce : (c : Int) = 1 := by have := HC0.out; omega
      clear hc
      go_wp2_with fail
      go_ret2
      exact ⟨_, _, rfl, by rw [← HP.out]; have := HC0.out; unfold SaR; omega, HF0.out.then HG3.out⟩
  · have n1 : ((7 : Int) != 0) = true := rfl
    go_wp2_with fail
    go_ret2
    exact ⟨_, _, rfl, by rw [← HP.out]; unfold SaR; omega, HF0.out.then HG2.out⟩
end Go.Proofs.YtdojhkgnnbdfkaaGreat

/- What Name answers, the program's and the document's. Conditions: the array of names lies as its variable lays it; a task of 64 bits. -/
import Derived.Test.YtaaghcimfcjehaaGreatDoorNm13
namespace Go.Proofs.YtaaghcimfcjehaaGreatDoor
open Go.ChangeShapes Go.WideShapes Go.ChangeAt Go.RowKit Go.Lib
set_option linter.unusedVariables false
set_option linter.unusedSimpArgs false

/-- What Name answers: a name, a number, an error. -/
def NaT (l s x q t : Int) (nm : ByteArray) (k e : Int) : Prop :=
  (¬ Cf.may ⟨l, s, x, q⟩ ∧ nm = ⟨#[]⟩ ∧ k = 0 ∧ e = 7) ∨ (Cf.may ⟨l, s, x, q⟩ ∧ l + s + 2 ≤ t ∧ nm = ⟨#[]⟩ ∧ k = 0 ∧ e = 1) ∨ (Cf.may ⟨l, s, x, q⟩ ∧ t < l + s + 2 ∧ e = 0 ∧ ∃ K, KT l s t K k ∧ nm = nmAt K)
theorem NaT.ex (l s x q t : Int) : ∃ nm k e, NaT l s x q t nm k e := by
  by_cases h : Cf.may ⟨l, s, x, q⟩
  · by_cases h2 : l + s + 2 ≤ t
    · exact ⟨_, _, _, Or.inr (Or.inl ⟨h, h2, rfl, rfl, rfl⟩)⟩
    · obtain ⟨K, k, hk⟩ := KT.ex l s t (by omega)
      exact ⟨_, k, 0, Or.inr (Or.inr ⟨h, by omega, rfl, K, hk, rfl⟩)⟩
  · exact ⟨_, _, _, Or.inl ⟨h, rfl, rfl, rfl⟩⟩
theorem KT.le {l s t : Int} {K : Nat} {k : Int} (h : KT l s t K k) : K < 5 := by
  rcases h with ⟨_, h, _⟩ | ⟨_, h, _⟩ | ⟨_, _, h, _⟩ | ⟨_, _, h, _⟩ | ⟨_, h, _⟩ <;> omega

set_option maxHeartbeats 4000000 in
set_option maxRecDepth 100000 in
theorem name_any (l s x q t : Int) (nm : ByteArray) (k e : Int) (w : World) (hT : Nms w) (ht : I6 t) (h : NaT l s x q t nm k e) :
    Calls Tryz.prog 125 #[.agg #[.int .i64 l, .int .i64 s, .int .i64 x, .int .i64 q], .int .i64 t] w fun e' w' => e' = .returned (.tuple #[.string nm, .int .i64 k, .int .i64 e]) ∧ Fr [] w w' := by
  have HC := fun w => tasks_any l s x q w
  rcases h with ⟨hm, rfl, rfl, rfl⟩ | ⟨hm, h2, rfl, rfl, rfl⟩ | ⟨hm, h2, rfl, K, hK, rfl⟩
  · have E : Cf.tasks ⟨l, s, x, q⟩ = (0, 7) := if_neg hm
    rw [E] at HC
    clear hm E ht hT
    go_enter Tryz.func125, Tryz.ntmps125
    go_wp2_with fail
    refine (HC _).mono ?_
    rintro e w1 ⟨rfl, hF1⟩
    have HF : Hid (Fr [] w w1) := (Fr.alloc _ _ _).then hF1
    clear hF1 HC
    go_wp2_with fail
    go_ret3
    exact ⟨rfl, HF.out⟩
  · have E : Cf.tasks ⟨l, s, x, q⟩ = (l + s + 2, 0) := if_pos hm
    rw [E] at HC
    clear hm E ht hT
    go_enter Tryz.func125, Tryz.ntmps125
    go_wp2_with fail
    refine (HC _).mono ?_
    rintro e w1 ⟨rfl, hF1⟩
    have HF : Hid (Fr [] w w1) := (Fr.alloc _ _ _).then hF1
    clear hF1 HC
    go_wp2_with fail
    go_ret3
    exact ⟨rfl, HF.out⟩
  · have E : Cf.tasks ⟨l, s, x, q⟩ = (l + s + 2, 0) := if_pos hm
    rw [E] at HC
    have HK := fun w => kind_any l s x q t K k w hm.1 hm.2.1 ht hK
    have HW := fun w => which_any l s x q t K k w hm.1 hm.2.1 ht hK
    have hK5 := hK.le
    have hK5' : (K : Int) < 5 := by omega
    have hnt : ¬ l + s + 2 ≤ t := by omega
    have HN : Hid (∀ W, Fr [] w W → W.cell? ⟨0, K, none⟩ = some (.string (nmAt K))) := fun W hf => (hT.keep hf (by simp)) K hK5
    have HM : Hid (∀ W, Fr [] (w.alloc (.cells #[.int .i64 l, .int .i64 s, .int .i64 x, .int .i64 q] 23)) W → CfM W w.heap.size l s x q) := fun W hf => (CfM.new w l s x q 23).keep hf
    generalize nmAt K = nm at HN
    clear hm E ht hT hK h2
    go_enter Tryz.func125, Tryz.ntmps125
    go_wp2_with fail
    refine (HC _).mono ?_
    rintro e w1 ⟨rfl, hF1⟩
    have HF : Hid (Fr [] (w.alloc (.cells #[.int .i64 l, .int .i64 s, .int .i64 x, .int .i64 q] 23)) w1) := hF1
    clear hF1 HC
    obtain ⟨_, a0, a1, a2, a3⟩ := HM.out w1 HF.out
    go_wp2_with fail
    refine (HK _).mono ?_
    rintro e w2 ⟨rfl, hF2⟩
    have HF2 : Hid (Fr [] (w.alloc (.cells #[.int .i64 l, .int .i64 s, .int .i64 x, .int .i64 q] 23)) w2) := HF.out.then hF2
    clear hF2 HK HF a0 a1 a2 a3
    have f0 : ∀ y : Wd13 w2, y.W.cell? ⟨w.heap.size, 0, none⟩ = some (.int .i64 l) := fun y => (HM.out _ (HF2.out.then y.h)).2.1
    have f1 : ∀ y : Wd13 w2, y.W.cell? ⟨w.heap.size, 1, none⟩ = some (.int .i64 s) := fun y => (HM.out _ (HF2.out.then y.h)).2.2.1
    have f2 : ∀ y : Wd13 w2, y.W.cell? ⟨w.heap.size, 2, none⟩ = some (.int .i64 x) := fun y => (HM.out _ (HF2.out.then y.h)).2.2.2.1
    have f3 : ∀ y : Wd13 w2, y.W.cell? ⟨w.heap.size, 3, none⟩ = some (.int .i64 q) := fun y => (HM.out _ (HF2.out.then y.h)).2.2.2.2
    have f4 : ∀ y : Wd13 w2, y.W.cell? ⟨0, K, none⟩ = some (.string nm) := fun y => HN.out _ ((Fr.alloc _ _ _).then (HF2.out.then y.h))
    go_wp2_with fail
    refine wp_region_wd13 (w1 := w2) (by kernel_rfl) (by kernel_rfl) (Fr.refl _ _) ?_
    repeat (go_big_quiet_step ((go_at_call 153; with_reducible refine (HW _).mono ?_; exact fun e w3 hh => ⟨hh.1, ⟨_, Fr.then (Wd13.h _) hh.2⟩, rfl⟩)))
    refine wpQuiet_nil ?_
    rintro _ ⟨y, rfl⟩
    go_wp2_with fail
    go_ret3
    exact ⟨rfl, (Fr.alloc _ _ _).then (HF2.out.then y.h)⟩

/- How many steps a checkpoint takes: the program's rawWrites and Save. Conditions: the checkpoint's size is at most 1048576. -/
import Derived.Test.YtdojhkgnnbdfkaaGreatZr19
import Derived.Test.YtdojhkgnnbdfkaaGreatQTx22
namespace Go.Proofs.YtdojhkgnnbdfkaaGreat
open BigFrame Go.ChangeShapes Go.WideShapes Go.ChangeAt Go.RowKit Go.Lib Go.Maps
set_option linter.unusedVariables false
set_option linter.unusedSimpArgs false

set_option maxHeartbeats 1000000 in
theorem rNew_ok (C : Nat) (w : World) (h : C ≤ 16777216) : Calls Tryz.prog 17 #[.int .i64 (C : Int)] w fun e w' => e = .returned (.tuple #[ptr w.heap.size, .int .i64 0]) ∧ Rk w' w.heap.size (.slice none 0 0) (.slice none 0 0) (Sk.new C) ∧ Fr [] w w' := by
  have h0 : (0 : Int) ≤ C := by omega
  have h1 : (C : Int) ≤ 16777216 := by omega
  go_enter Tryz.func17, Tryz.ntmps17
  go_wp2
  go_ret2
  exact ⟨rfl, ⟨heap_alloc_new w _, own_row_nil _, own_row_nil _, by intro k hk; simp [Value.ownBlock] at hk⟩, Fr.alloc _ _ _⟩
theorem lr_new (C : Nat) (w0 w : World) (hf : Fr [] w0 w) (h : C ≤ 16777216) : Calls Tryz.prog 17 #[.int .i64 (C : Int)] w fun e w' => ∃ g S, e = .returned (.tuple #[ptr g, .int .i64 0]) ∧ LR w0 w' g S (Sk.new C) ∧ (∀ k ∈ S, w.heap.size ≤ k) ∧ Fr [] w w' := by
  refine (rNew_ok C w h).mono ?_
  rintro e w' ⟨rfl, hD, hF⟩
  have hS : ∀ k ∈ dOwn w.heap.size (.slice none 0 0) (.slice none 0 0), w.heap.size ≤ k := by
    intro k hk
    rcases mem_dOwn.1 hk with rfl | hk | hk
    · exact Nat.le_refl _
    · simp [Value.ownBlock] at hk
    · simp [Value.ownBlock] at hk
  exact ⟨_, _, rfl, ⟨⟨_, _, hD, rfl⟩, fun k hk => Nat.le_trans hf.size (hS k hk), Sk.new_ok C h, hf.then hF⟩, hS, hF⟩
/-- A checkpoint that is asked about. -/
structure SvA (w : World) (m : Int) (bo : Option Addr) (Lb : Nat) (ho : Option Addr) (Lh : Nat) (bs : List Int) (hs : List Hd) (ps : List Kv) (c : Nat) (ys : List Nat) : Prop where
  I : IRs w bo bs
  lb : Lb = bs.length
  H : HRs w ho hs
  lh : Lh = hs.length
  p : hs.map Hd.kv = ps
  T : ToldD m bs ps c ys
  z : bs.length + szKs ps ≤ 1048576
theorem SvA.keep {w w' : World} {m : Int} {bo : Option Addr} {Lb : Nat} {ho : Option Addr} {Lh : Nat} {bs : List Int} {hs : List Hd} {ps : List Kv} {c : Nat} {ys : List Nat} (h : SvA w m bo Lb ho Lh bs hs ps c ys) (hf : Fr [] w w') : SvA w' m bo Lb ho Lh bs hs ps c ys := ⟨h.I.keep hf, h.lb, h.H.keep hf, h.lh, h.p, h.T, h.z⟩
theorem SvA.ways {w : World} {m : Int} {bo : Option Addr} {Lb : Nat} {ho : Option Addr} {Lh : Nat} {bs : List Int} {hs : List Hd} {ps : List Kv} {c : Nat} {ys : List Nat} (h : SvA w m bo Lb ho Lh bs hs ps c ys) : c = 0 ∨ c = 1 := by
  rcases h.T with ⟨_, q, _⟩ | ⟨_, q, _⟩
  · exact Or.inl q
  · exact Or.inr q
/-- What rawWrites answers. -/
def RwP (E : Int) (N : Nat) (r e : Int) : Prop := (E ≠ 0 ∧ r = 0 ∧ e = E) ∨ (E = 0 ∧ r = (N : Int) ∧ e = 0)
/-- What Save answers. -/
def SaR (a s : Int) (c : Nat) (E : Int) (N : Nat) (r e : Int) : Prop :=
  (a ≠ 0 ∧ r = 0 ∧ e = 7) ∨ (a = 0 ∧ c ≠ 0 ∧ r = 0 ∧ e = 1) ∨ (a = 0 ∧ c = 0 ∧ E ≠ 0 ∧ r = 0 ∧ e = E) ∨ (a = 0 ∧ c = 0 ∧ E = 0 ∧ r = 2 + 2 * s + (N : Int) ∧ e = 0)
theorem SaR.uniq {a s : Int} {c : Nat} {E : Int} {N : Nat} {r e r' e' : Int} (h : SaR a s c E N r e) (h' : SaR a s c E N r' e') : r = r' ∧ e = e' := by
  unfold SaR at h h'
  omega
theorem newE_few {g c n : Nat} (h : newE 16777216 g c n = 0) : nB (20 + n) + 1 ≤ 262145 := by
  unfold newE at h
  have : 20 + n ≤ 16777216 := by
    split at h
    · cases h
    · split at h
      · cases h
      · split at h
        · cases h
        · omega
  have := nB_few this
  omega
set_option maxHeartbeats 2000000 in
set_option maxRecDepth 100000 in
theorem nraws_any {w : World} {m : Int} {bo : Option Addr} {Lb : Nat} {ho : Option Addr} {Lh : Nat} {bs : List Int} {hs : List Hd} {ps : List Kv} {c : Nat} {ys : List Nat} (cb ch : Nat) (h : SvA w m bo Lb ho Lh bs hs ps c ys) {ok : Bool} {g i : Nat} {mN : Int} {bN : List Int} {pN : List Kv} (hN : Nw [] [] ok g i mN bN pN) :
    Calls Tryz.prog 13 #[.agg #[.int .i64 m, .slice bo Lb cb, .slice ho Lh ch]] w fun e w' => ∃ r q : Int, e = .returned (.tuple #[.int .i64 r, .int .i64 q]) ∧ RwP (newE 16777216 g c ys.length) (nB (20 + ys.length) + 1) r q ∧ Fr [] w w' := by
  obtain ⟨w1, HW1⟩ : ∃ w1, Hid (w.alloc (.cells #[.int .i64 m, .slice bo Lb cb, .slice ho Lh ch] 27) = w1) := ⟨_, rfl⟩
  obtain ⟨B, HB⟩ : ∃ B, Hid (w.heap.size = B) := ⟨_, rfl⟩
  have hF1 : Fr [] w w1 := by rw [← HW1.out]; exact Fr.alloc [] w _
  have hr1 : w1.heap[B]? = some (.cells #[.int .i64 m, .slice bo Lb cb, .slice ho Lh ch] 27 (0, 0)) := by rw [← HW1.out, ← HB.out]; exact heap_alloc_new w _
  have HC : Hid (∀ W, Fr [] w1 W → W.cell? ⟨B, 0, none⟩ = some (.int .i64 m) ∧ W.cell? ⟨B, 1, none⟩ = some (.slice bo Lb cb) ∧ W.cell? ⟨B, 2, none⟩ = some (.slice ho Lh ch)) := fun W hf => sv_cells (hf.keep hr1 (by simp))
  have HD : Hid (Calls Tryz.prog 28 #[.int .i64 16777216] w1 fun e w' => ∃ g S, e = .returned (.tuple #[.pointer (some ⟨g, 0, none⟩), .int .i64 0]) ∧ LD w1 w' g S (Sk.new 16777216) ∧ (∀ k ∈ S, w1.heap.size ≤ k) ∧ Fr [] w1 w') := ld_new 16777216 w1 w1 (Fr.refl _ _) (by omega)
  have HS : Hid (∀ W d S, LD w1 W d S (Sk.new 16777216) → Fr [] w1 W → Calls Tryz.prog 29 #[.pointer (some ⟨d, 0, none⟩), .agg #[.int .i64 m, .slice bo Lb cb, .slice ho Lh ch]] W fun e w' => SnP d 16777216 g i c ok ys W e w') := fun W d S hL hf => snew_any hL hN m bo ho Lb cb Lh ch c bs hs ps ys (h.keep (hF1.then hf)).I h.lb (h.keep (hF1.then hf)).H h.lh h.p h.T h.z
  have HF1 : Hid (Fr [] w w1) := hF1
  clear hF1 hr1 h
  go_enter Tryz.func13, Tryz.ntmps13
  go_upto_region 1 with fail
  rw [HW1.out, HB.out]
  clear HW1 HB
  go_wp2_with fail
  with_reducible refine Calls.mono HD.out ?_
  rintro e w2 ⟨d, S, rfl, hL, _, hF2⟩
  have HL : Hid (LD w1 w2 d S (Sk.new 16777216)) := hL
  have HF2 : Hid (Fr [] w1 w2) := hF2
  obtain ⟨a0, a1, a2⟩ := HC.out _ hF2
  have n0 : ((0 : Int) != 0) = false := rfl
  clear hL hF2 HD
  go_wp2_with fail
  with_reducible refine Calls.mono (HS.out _ d S HL.out HF2.out) ?_
  rintro e w3 (⟨hE, rfl, hF3⟩ | ⟨hE, sb, fb, ab, fc, ac, rfl, hM, _, _, _, hF3⟩)
  · have n1 : (newE 16777216 g c ys.length != 0) = true := by simp [hE]
    have HE : Hid (newE 16777216 g c ys.length ≠ 0) := hE
    have HF3 : Hid (Fr [] w w3) := (HF1.out.then HF2.out).then hF3
    clear hE hF3 HS a0 a1 a2
    go_wp2_with fail
    go_ret2
    exact ⟨_, _, rfl, .inl ⟨HE.out, rfl, rfl⟩, HF3.out⟩
  · have HE : Hid (newE 16777216 g c ys.length = 0) := hE
    have HF3 : Hid (Fr [] w w3) := (HF1.out.then HF2.out).then hF3
    have HM := sleft_any (n := nB (20 + ys.length) + 1) hM (by rw [ckB_length]; omega)
    have hfew := newE_few hE
    clear hE hF3 HS a0 a1 a2 hM
    obtain ⟨N, hNN⟩ : ∃ N, N = nB (20 + ys.length) + 1 := ⟨_, rfl⟩
    rw [← hNN] at HM hfew
    have HNN : Hid (N = nB (20 + ys.length) + 1) := hNN
    clear hNN
    go_wp2_with fail
    with_reducible refine Calls.mono HM ?_
    rintro e w4 ⟨rfl, rfl⟩
    go_wp2_with fail
    go_ret2
    exact ⟨_, _, rfl, .inr ⟨HE.out, by rw [HNN.out], rfl⟩, HF3.out⟩
end Go.Proofs.YtdojhkgnnbdfkaaGreat

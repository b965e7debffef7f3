/- Texts of this claim laid together, one behind the other: contracts and plain lemmas; conditions as each names them. -/
import Derived.Test.YtdojhkgnnbdfkaaGreatGp46
import Derived.Test.YtdojhkgnnbdfkaaGreatGp44
import Derived.BigQuiet
/- How many steps a transaction takes: the program's Txn and the document's; the statements' lives. No conditions. -/
namespace Go.Proofs.YtdojhkgnnbdfkaaGreat.Q
open Go.ChangeShapes Go.WideShapes Go.ChangeAt Go.RowKit Go.Lib
set_option linter.unusedVariables false
set_option linter.unusedSimpArgs false

theorem okT_ways (n : Int) (ws : List Wt) : ∃ c : Nat, (okT n ws ∧ c = 0) ∨ (¬ okT n ws ∧ c = 1) := by
  by_cases h : okT n ws
  · exact ⟨0, .inl ⟨h, rfl⟩⟩
  · exact ⟨1, .inr ⟨h, rfl⟩⟩
theorem TArg.box {w : World} {n : Int} {ao : Option Addr} {L cap : Nat} {W : World} (hf : Fr [] (w.alloc (.cells #[.int .i64 n, .slice ao L cap] 54)) W) : W.cell? ⟨w.heap.size, 0, none⟩ = some (.int .i64 n) ∧ W.cell? ⟨w.heap.size, 1, none⟩ = some (.slice ao L cap) := by
  have hr := hf.keep (heap_alloc_new w (.cells #[.int .i64 n, .slice ao L cap] 54)) (by simp)
  constructor <;> (rw [cell_of_row _ _ _ _ _ _ hr]; rfl)
set_option maxHeartbeats 4000000 in
set_option maxRecDepth 100000 in
theorem ntxn_any (n : Int) (ao : Option Addr) (L cap : Nat) (ws : List Wt) (sk : Bool) (w : World) (hT : TArg w n ao L cap ws) :
    Calls Tryz.prog 22 #[.agg #[.int .i64 n, .slice ao L cap], .bool sk] w fun e w' => ∃ r c : Int, e = .returned (.tuple #[.int .i64 r, .int .i64 c]) ∧ TnP n ws sk r c ∧ Fr [] w w' := by
  obtain ⟨c, hc⟩ := okT_ways n ws
  have HQ : Hid (∀ W, Fr [] w W → Calls Tryz.prog 41 #[.agg #[.int .i64 n, .slice ao L cap]] W fun e w' => e = .returned (.int .i64 (c : Int)) ∧ Fr [] W w') := fun W hf => check_any n ao L cap c ws W (hT.keep hf).rs hT.len hT.n0 hT.n1 hc
  have HB : Hid (∀ W, Fr [] (w.alloc (.cells #[.int .i64 n, .slice ao L cap] 54)) W → W.cell? ⟨w.heap.size, 0, none⟩ = some (.int .i64 n) ∧ W.cell? ⟨w.heap.size, 1, none⟩ = some (.slice ao L cap)) := fun W hf => TArg.box hf
  have HF0 : Hid (Fr [] w (w.alloc (.cells #[.int .i64 n, .slice ao L cap] 54))) := Fr.alloc _ _ _
  obtain ⟨w1, HW1⟩ : ∃ w1, Hid (w.alloc (.cells #[.int .i64 n, .slice ao L cap] 54) = w1) := ⟨_, rfl⟩
  rw [HW1.out] at HB HF0
  obtain ⟨B, HBw⟩ : ∃ B, Hid (w.heap.size = B) := ⟨_, rfl⟩
  rw [HBw.out] at HB
  obtain ⟨a0, a1⟩ := HB.out _ (Fr.refl _ _)
  have HOf : Hid (okT n ws → ∀ W, Fr [] w W → Calls Tryz.prog 42 #[.agg #[.int .i64 n, .slice ao L cap], .bool sk] W fun e w' => e = .returned (.int .i64 (tnC ws sk : Int)) ∧ Fr [] W w') := fun hk W hf => noftxn_any n ao L cap ws sk W (hT.keep hf) hk
  have HC : Hid (_ ∨ _) := hc
  clear hT hc
  go_enter Tryz.func22, Tryz.ntmps22
  go_upto_region 1 with fail
  rw [HW1.out, HBw.out]
  clear HW1 HBw
  go_wp2_with fail
  refine (HQ.out _ HF0.out).mono ?_
  rintro e w2 ⟨rfl, hF2⟩
  have HF2 : Hid (Fr [] w w2) := HF0.out.then hF2
  obtain ⟨a0', a1'⟩ := HB.out _ hF2
  clear a0 a1 HB
  rcases HC.out with ⟨hk, rfl⟩ | ⟨hk, rfl⟩
  · have hne : ((((0 : Nat) : Int)) != 0) = false := rfl
    have HK : Hid (okT n ws) := hk
    clear hk HC
    go_wp2_with fail
    refine (HOf.out HK.out _ HF2.out).mono ?_
    rintro e w3 ⟨rfl, hF3⟩
    go_wp2_with fail
    go_ret2
    exact ⟨_, _, rfl, .inl ⟨HK.out, rfl, rfl⟩, HF2.out.then hF3⟩
  · have hne : ((((1 : Nat) : Int)) != 0) = true := rfl
    have HK : Hid (¬ okT n ws) := hk
    clear hk HC
    go_wp2_with fail
    go_ret2
    exact ⟨_, _, rfl, .inr ⟨HK.out, rfl, rfl⟩, HF2.out⟩
/-- The writes of lives. -/
def ws22 : List Wt := [⟨⟨#[97]⟩, ⟨#[51]⟩, false⟩, ⟨⟨#[98]⟩, ⟨#[]⟩, true⟩, ⟨⟨#[97]⟩, ⟨#[]⟩, false⟩]
theorem ws22_ok : okT 3 ws22 := by
  refine ⟨by decide, by decide, by decide, fun x hx => ?_⟩
  simp only [ws22, List.mem_cons, List.not_mem_nil, or_false] at hx
  rcases hx with rfl | rfl | rfl
  · exact ⟨by decide, by decide, by decide, fun h => by cases h⟩
  · exact ⟨by decide, by decide, by decide, fun h => rfl⟩
  · exact ⟨by decide, by decide, by decide, fun h => by cases h⟩
theorem ws22_dd : (dd ws22).length = 2 := by
  have k0 : ¬ Kept ws22 0 := fun h => h 2 (by decide) (by decide) rfl
  have k1 : Kept ws22 1 := fun m h1 h2 => by
    have : m = 2 := by simp [ws22] at h2; omega
    subst this
    simp [kAt, ws22]
  have k2 : Kept ws22 2 := fun m h1 h2 => by simp [ws22] at h2; omega
  show (ddTo ws22 (2 + 1)).length = 2
  rw [ddTo_yes k2, ddTo_yes k1, ddTo_no k0]
  rfl
set_option maxHeartbeats 4000000 in
set_option maxRecDepth 100000 in
theorem lives22_any (w : World) : Calls Tryz.prog 8 #[] w fun e w' => e = .returned (.bool true) ∧ Fr [] w w' := by
  obtain ⟨w1, HW1⟩ : ∃ w1, Hid (w.alloc (.cells #[.string ⟨#[97]⟩, .string ⟨#[51]⟩, .bool false, .string ⟨#[98]⟩, .string ⟨#[]⟩, .bool true, .string ⟨#[97]⟩, .string ⟨#[]⟩, .bool false] 51) = w1) := ⟨_, rfl⟩
  obtain ⟨B, HB⟩ : ∃ B, Hid (w.heap.size = B) := ⟨_, rfl⟩
  have hF1 : Fr [] w w1 := by rw [← HW1.out]; exact Fr.alloc _ _ _
  have hr1 : w1.heap[B]? = some (.cells #[.string ⟨#[97]⟩, .string ⟨#[51]⟩, .bool false, .string ⟨#[98]⟩, .string ⟨#[]⟩, .bool true, .string ⟨#[97]⟩, .string ⟨#[]⟩, .bool false] 51 (0, 0)) := by rw [← HW1.out, ← HB.out]; exact heap_alloc_new w _
  have HB2 : Hid (∀ W, Fr [] (w1.alloc (.cells #[.int .i64 3, .slice (some ⟨B, 0, none⟩) 3 3] 54)) W → W.cell? ⟨w1.heap.size, 0, none⟩ = some (.int .i64 3) ∧ W.cell? ⟨w1.heap.size, 1, none⟩ = some (.slice (some ⟨B, 0, none⟩) 3 3)) := fun W hf => TArg.box hf
  have HT : Hid (∀ W, Fr [] w1 W → TArg W 3 (some ⟨B, 0, none⟩) 3 3 ws22) := fun W hf => ⟨WRs.of_row (ws := ws22) (rest := []) (hf.keep hr1 (by simp)) (by decide) (by decide), rfl, by decide, by decide⟩
  have HF2 : Hid (Fr [] w1 (w1.alloc (.cells #[.int .i64 3, .slice (some ⟨B, 0, none⟩) 3 3] 54))) := Fr.alloc _ _ _
  obtain ⟨w2, HW2⟩ : ∃ w2, Hid (w1.alloc (.cells #[.int .i64 3, .slice (some ⟨B, 0, none⟩) 3 3] 54) = w2) := ⟨_, rfl⟩
  obtain ⟨C, HC⟩ : ∃ C, Hid (B + 1 = C) := ⟨_, rfl⟩
  have HC1 : Hid (w1.heap.size = C) := by show _ = _; rw [← HC.out, ← HW1.out, ← HB.out]; simp
  rw [HW2.out] at HB2 HF2
  rw [HC1.out] at HB2
  have HF1 : Hid (Fr [] w w1) := hF1
  obtain ⟨a0, a1⟩ := HB2.out _ (Fr.refl _ _)
  clear hF1 hr1
  go_enter Tryz.func8, Tryz.ntmps8
  go_upto_region 2 with fail
  rw [HW1.out, HB.out, HW2.out, HC.out]
  clear HW1 HB HW2 HC
  go_wp2_with fail
  refine (ntxn_any 3 _ 3 3 ws22 false _ (HT.out _ HF2.out)).mono ?_
  rintro e w3 ⟨r, c, rfl, hP, hF3⟩
  obtain ⟨rfl, rfl⟩ := hP.uniq (.inl ⟨ws22_ok, rfl, rfl⟩)
  have e9 : ((tnC ws22 false : Nat) : Int) = 9 := by show ((5 + 2 * (dd ws22).length : Nat) : Int) = 9; rw [ws22_dd]; rfl
  rw [e9]
  clear a0 a1 hP e9
  obtain ⟨a0, a1⟩ := HB2.out _ hF3
  go_wp2_with fail
  refine (ntxn_any 3 _ 3 3 ws22 true _ (HT.out _ (HF2.out.then hF3))).mono ?_
  rintro e w4 ⟨r, c, rfl, hP, hF4⟩
  obtain ⟨rfl, rfl⟩ := hP.uniq (.inl ⟨ws22_ok, rfl, rfl⟩)
  have e2 : ((tnC ws22 true : Nat) : Int) = 2 := rfl
  rw [e2]
  clear a0 a1 hP e2
  go_wp2_with fail
  go_ret
  exact ⟨rfl, (HF1.out.then (HF2.out.then hF3)).then hF4⟩
end Go.Proofs.YtdojhkgnnbdfkaaGreat.Q
/- How many steps a checkpoint takes: the program's rawWrites and Save. Conditions: the checkpoint's size is at most 1048576. -/
namespace Go.Proofs.YtdojhkgnnbdfkaaGreat
open BigFrame Go.ChangeShapes Go.WideShapes Go.ChangeAt Go.RowKit Go.Lib Go.Maps
set_option linter.unusedVariables false
set_option linter.unusedSimpArgs false

set_option maxHeartbeats 1000000 in
theorem rNew_ok (C : Nat) (w : World) (h : C ≤ 16777216) : Calls Tryz.prog 17 #[.int .i64 (C : Int)] w fun e w' => e = .returned (.tuple #[ptr w.heap.size, .int .i64 0]) ∧ Rk w' w.heap.size (.slice none 0 0) (.slice none 0 0) (Sk.new C) ∧ Fr [] w w' := by
  have h0 : (0 : Int) ≤ C := by omega
  have h1 : (C : Int) ≤ 16777216 := by omega
  go_enter Tryz.func17, Tryz.ntmps17
  go_wp2
  go_ret2
  exact ⟨rfl, ⟨heap_alloc_new w _, own_row_nil _, own_row_nil _, by intro k hk; simp [Value.ownBlock] at hk⟩, Fr.alloc _ _ _⟩
theorem lr_new (C : Nat) (w0 w : World) (hf : Fr [] w0 w) (h : C ≤ 16777216) : Calls Tryz.prog 17 #[.int .i64 (C : Int)] w fun e w' => ∃ g S, e = .returned (.tuple #[ptr g, .int .i64 0]) ∧ LR w0 w' g S (Sk.new C) ∧ (∀ k ∈ S, w.heap.size ≤ k) ∧ Fr [] w w' := by
  refine (rNew_ok C w h).mono ?_
  rintro e w' ⟨rfl, hD, hF⟩
  have hS : ∀ k ∈ dOwn w.heap.size (.slice none 0 0) (.slice none 0 0), w.heap.size ≤ k := by
    intro k hk
    rcases mem_dOwn.1 hk with rfl | hk | hk
    · exact Nat.le_refl _
    · simp [Value.ownBlock] at hk
    · simp [Value.ownBlock] at hk
  exact ⟨_, _, rfl, ⟨⟨_, _, hD, rfl⟩, fun k hk => Nat.le_trans hf.size (hS k hk), Sk.new_ok C h, hf.then hF⟩, hS, hF⟩
/-- A checkpoint that is asked about. -/
structure SvA (w : World) (m : Int) (bo : Option Addr) (Lb : Nat) (ho : Option Addr) (Lh : Nat) (bs : List Int) (hs : List Hd) (ps : List Kv) (c : Nat) (ys : List Nat) : Prop where
  I : IRs w bo bs
  lb : Lb = bs.length
  H : HRs w ho hs
  lh : Lh = hs.length
  p : hs.map Hd.kv = ps
  T : ToldD m bs ps c ys
  z : bs.length + szKs ps ≤ 1048576
theorem SvA.keep {w w' : World} {m : Int} {bo : Option Addr} {Lb : Nat} {ho : Option Addr} {Lh : Nat} {bs : List Int} {hs : List Hd} {ps : List Kv} {c : Nat} {ys : List Nat} (h : SvA w m bo Lb ho Lh bs hs ps c ys) (hf : Fr [] w w') : SvA w' m bo Lb ho Lh bs hs ps c ys := ⟨h.I.keep hf, h.lb, h.H.keep hf, h.lh, h.p, h.T, h.z⟩
theorem SvA.ways {w : World} {m : Int} {bo : Option Addr} {Lb : Nat} {ho : Option Addr} {Lh : Nat} {bs : List Int} {hs : List Hd} {ps : List Kv} {c : Nat} {ys : List Nat} (h : SvA w m bo Lb ho Lh bs hs ps c ys) : c = 0 ∨ c = 1 := by
  rcases h.T with ⟨_, q, _⟩ | ⟨_, q, _⟩
  · exact Or.inl q
  · exact Or.inr q
/-- What rawWrites answers. -/
def RwP (E : Int) (N : Nat) (r e : Int) : Prop := (E ≠ 0 ∧ r = 0 ∧ e = E) ∨ (E = 0 ∧ r = (N : Int) ∧ e = 0)
/-- What Save answers. -/
def SaR (a s : Int) (c : Nat) (E : Int) (N : Nat) (r e : Int) : Prop :=
  (a ≠ 0 ∧ r = 0 ∧ e = 7) ∨ (a = 0 ∧ c ≠ 0 ∧ r = 0 ∧ e = 1) ∨ (a = 0 ∧ c = 0 ∧ E ≠ 0 ∧ r = 0 ∧ e = E) ∨ (a = 0 ∧ c = 0 ∧ E = 0 ∧ r = 2 + 2 * s + (N : Int) ∧ e = 0)
theorem SaR.uniq {a s : Int} {c : Nat} {E : Int} {N : Nat} {r e r' e' : Int} (h : SaR a s c E N r e) (h' : SaR a s c E N r' e') : r = r' ∧ e = e' := by
  unfold SaR at h h'
  omega
theorem newE_few {g c n : Nat} (h : newE 16777216 g c n = 0) : nB (20 + n) + 1 ≤ 262145 := by
  unfold newE at h
  have : 20 + n ≤ 16777216 := by
    split at h
    · cases h
    · split at h
      · cases h
      · split at h
        · cases h
        · omega
  have := nB_few this
  omega
set_option maxHeartbeats 2000000 in
set_option maxRecDepth 100000 in
theorem nraws_any {w : World} {m : Int} {bo : Option Addr} {Lb : Nat} {ho : Option Addr} {Lh : Nat} {bs : List Int} {hs : List Hd} {ps : List Kv} {c : Nat} {ys : List Nat} (cb ch : Nat) (h : SvA w m bo Lb ho Lh bs hs ps c ys) {ok : Bool} {g i : Nat} {mN : Int} {bN : List Int} {pN : List Kv} (hN : Nw [] [] ok g i mN bN pN) :
    Calls Tryz.prog 13 #[.agg #[.int .i64 m, .slice bo Lb cb, .slice ho Lh ch]] w fun e w' => ∃ r q : Int, e = .returned (.tuple #[.int .i64 r, .int .i64 q]) ∧ RwP (newE 16777216 g c ys.length) (nB (20 + ys.length) + 1) r q ∧ Fr [] w w' := by
  obtain ⟨w1, HW1⟩ : ∃ w1, Hid (w.alloc (.cells #[.int .i64 m, .slice bo Lb cb, .slice ho Lh ch] 27) = w1) := ⟨_, rfl⟩
  obtain ⟨B, HB⟩ : ∃ B, Hid (w.heap.size = B) := ⟨_, rfl⟩
  have hF1 : Fr [] w w1 := by rw [← HW1.out]; exact Fr.alloc [] w _
  have hr1 : w1.heap[B]? = some (.cells #[.int .i64 m, .slice bo Lb cb, .slice ho Lh ch] 27 (0, 0)) := by rw [← HW1.out, ← HB.out]; exact heap_alloc_new w _
  have HC : Hid (∀ W, Fr [] w1 W → W.cell? ⟨B, 0, none⟩ = some (.int .i64 m) ∧ W.cell? ⟨B, 1, none⟩ = some (.slice bo Lb cb) ∧ W.cell? ⟨B, 2, none⟩ = some (.slice ho Lh ch)) := fun W hf => sv_cells (hf.keep hr1 (by simp))
  have HD : Hid (Calls Tryz.prog 28 #[.int .i64 16777216] w1 fun e w' => ∃ g S, e = .returned (.tuple #[.pointer (some ⟨g, 0, none⟩), .int .i64 0]) ∧ LD w1 w' g S (Sk.new 16777216) ∧ (∀ k ∈ S, w1.heap.size ≤ k) ∧ Fr [] w1 w') := ld_new 16777216 w1 w1 (Fr.refl _ _) (by omega)
  have HS : Hid (∀ W d S, LD w1 W d S (Sk.new 16777216) → Fr [] w1 W → Calls Tryz.prog 29 #[.pointer (some ⟨d, 0, none⟩), .agg #[.int .i64 m, .slice bo Lb cb, .slice ho Lh ch]] W fun e w' => SnP d 16777216 g i c ok ys W e w') := fun W d S hL hf => snew_any hL hN m bo ho Lb cb Lh ch c bs hs ps ys (h.keep (hF1.then hf)).I h.lb (h.keep (hF1.then hf)).H h.lh h.p h.T h.z
  have HF1 : Hid (Fr [] w w1) := hF1
  clear hF1 hr1 h
  go_enter Tryz.func13, Tryz.ntmps13
  go_upto_region 1 with fail
  rw [HW1.out, HB.out]
  clear HW1 HB
  go_wp2_with fail
  with_reducible refine Calls.mono HD.out ?_
  rintro e w2 ⟨d, S, rfl, hL, _, hF2⟩
  have HL : Hid (LD w1 w2 d S (Sk.new 16777216)) := hL
  have HF2 : Hid (Fr [] w1 w2) := hF2
  obtain ⟨a0, a1, a2⟩ := HC.out _ hF2
  have n0 : ((0 : Int) != 0) = false := rfl
  clear hL hF2 HD
  go_wp2_with fail
  with_reducible refine Calls.mono (HS.out _ d S HL.out HF2.out) ?_
  rintro e w3 (⟨hE, rfl, hF3⟩ | ⟨hE, sb, fb, ab, fc, ac, rfl, hM, _, _, _, hF3⟩)
  · have n1 : (newE 16777216 g c ys.length != 0) = true := by simp [hE]
    have HE : Hid (newE 16777216 g c ys.length ≠ 0) := hE
    have HF3 : Hid (Fr [] w w3) := (HF1.out.then HF2.out).then hF3
    clear hE hF3 HS a0 a1 a2
    go_wp2_with fail
    go_ret2
    exact ⟨_, _, rfl, .inl ⟨HE.out, rfl, rfl⟩, HF3.out⟩
  · have HE : Hid (newE 16777216 g c ys.length = 0) := hE
    have HF3 : Hid (Fr [] w w3) := (HF1.out.then HF2.out).then hF3
    have HM := sleft_any (n := nB (20 + ys.length) + 1) hM (by rw [ckB_length]; omega)
    have hfew := newE_few hE
    clear hE hF3 HS a0 a1 a2 hM
    obtain ⟨N, hNN⟩ : ∃ N, N = nB (20 + ys.length) + 1 := ⟨_, rfl⟩
    rw [← hNN] at HM hfew
    have HNN : Hid (N = nB (20 + ys.length) + 1) := hNN
    clear hNN
    go_wp2_with fail
    with_reducible refine Calls.mono HM ?_
    rintro e w4 ⟨rfl, rfl⟩
    go_wp2_with fail
    go_ret2
    exact ⟨_, _, rfl, .inr ⟨HE.out, by rw [HNN.out], rfl⟩, HF3.out⟩
end Go.Proofs.YtdojhkgnnbdfkaaGreat
/- How many steps a checkpoint takes: the program's Save and the document's. Conditions: the checkpoint's size is at most 1048576. -/
namespace Go.Proofs.YtdojhkgnnbdfkaaGreat
open BigFrame Go.ChangeShapes Go.WideShapes Go.ChangeAt Go.RowKit Go.Lib Go.Maps
set_option linter.unusedVariables false
set_option linter.unusedSimpArgs false

theorem Cf.err_zero {c : Cf} (h : Cf.err c = 0) : 1 ≤ c.s ∧ c.s ≤ 16 := by
  unfold Cf.err at h
  split at h
  · rename_i hm
    exact ⟨hm.2.1.1, hm.2.1.2⟩
  · cases h
theorem Cf.err_ways (c : Cf) : Cf.err c = 0 ∨ Cf.err c = 7 := by
  unfold Cf.err
  split <;> simp
/-- A sum of three numbers that were just laid. -/
theorem ntotal_three (a b c : Int) (w W : World) (ha : 0 ≤ a ∧ a ≤ 1048576) (hb : 0 ≤ b ∧ b ≤ 1048576) (hc : 0 ≤ c ∧ c ≤ 1048576) (hf : Fr [] (w.alloc (.cells #[.int .i64 a, .int .i64 b, .int .i64 c] 3)) W) :
    Calls Tryz.prog 14 #[.slice (some ⟨w.heap.size, 0, none⟩) 3 3] W fun e w' => e = .returned (.int .i64 (a + b + c)) ∧ Fr [] W w' := by
  have hr := hf.keep (heap_alloc_new w (.cells #[.int .i64 a, .int .i64 b, .int .i64 c] 3)) (by simp)
  refine (Q.ntotal_any (some ⟨w.heap.size, 0, none⟩) 3 3 [a, b, c] W ⟨fun _ => ⟨_, 0, rfl, lt_of_block hr, fun i hi => ?_⟩, by simp⟩ rfl ?_ (by omega)).mono ?_
  · have : i = 0 ∨ i = 1 ∨ i = 2 := by simp at hi; omega
    rcases this with rfl | rfl | rfl <;> (rw [cell_of_row _ _ _ _ _ _ hr]; rfl)
  · intro x hx
    simp at hx
    rcases hx with rfl | rfl | rfl <;> omega
  · rintro e w3 ⟨rfl, h3⟩
    refine ⟨?_, h3⟩
    have : Q.sumI [a, b, c] = a + b + c := by simp [Q.sumI]; omega
    rw [this]
theorem sv_box22 {w : World} {l s x q m : Int} {bo ho : Option Addr} {Lb cb Lh ch : Nat} {W : World} (hf : Fr [] ((w.alloc (.cells #[.int .i64 l, .int .i64 s, .int .i64 x, .int .i64 q] 23)).alloc (.cells #[.int .i64 m, .slice bo Lb cb, .slice ho Lh ch] 27)) W) :
    W.cell? ⟨w.heap.size, 0, none⟩ = some (.int .i64 l) ∧ W.cell? ⟨w.heap.size, 1, none⟩ = some (.int .i64 s) ∧ W.cell? ⟨w.heap.size, 2, none⟩ = some (.int .i64 x) ∧ W.cell? ⟨w.heap.size, 3, none⟩ = some (.int .i64 q) ∧
    W.cell? ⟨w.heap.size + 1, 0, none⟩ = some (.int .i64 m) ∧ W.cell? ⟨w.heap.size + 1, 1, none⟩ = some (.slice bo Lb cb) ∧ W.cell? ⟨w.heap.size + 1, 2, none⟩ = some (.slice ho Lh ch) := by
  have hr := ((Fr.alloc [] (w.alloc (.cells #[.int .i64 l, .int .i64 s, .int .i64 x, .int .i64 q] 23)) (.cells #[.int .i64 m, .slice bo Lb cb, .slice ho Lh ch] 27)).then hf).keep (heap_alloc_new w (.cells #[.int .i64 l, .int .i64 s, .int .i64 x, .int .i64 q] 23)) (by simp)
  have hr2 := hf.keep (heap_alloc_new (w.alloc (.cells #[.int .i64 l, .int .i64 s, .int .i64 x, .int .i64 q] 23)) (.cells #[.int .i64 m, .slice bo Lb cb, .slice ho Lh ch] 27)) (by simp)
  rw [show (w.alloc (.cells #[.int .i64 l, .int .i64 s, .int .i64 x, .int .i64 q] 23)).heap.size = w.heap.size + 1 from by simp] at hr2
  refine ⟨?_, ?_, ?_, ?_, ?_, ?_, ?_⟩ <;> first | (rw [cell_of_row _ _ _ _ _ _ hr]; rfl) | (rw [cell_of_row _ _ _ _ _ _ hr2]; rfl)
set_option maxHeartbeats 4000000 in
set_option maxRecDepth 100000 in
theorem nsave_any {w : World} {m : Int} {bo : Option Addr} {Lb : Nat} {ho : Option Addr} {Lh : Nat} {bs : List Int} {hs : List Hd} {ps : List Kv} {c : Nat} {ys : List Nat} (l s x q : Int) (cb ch : Nat) (h : SvA w m bo Lb ho Lh bs hs ps c ys) {ok : Bool} {g i : Nat} {mN : Int} {bN : List Int} {pN : List Kv} (hN : Nw [] [] ok g i mN bN pN) :
    Calls Tryz.prog 5 #[.agg #[.int .i64 l, .int .i64 s, .int .i64 x, .int .i64 q], .agg #[.int .i64 m, .slice bo Lb cb, .slice ho Lh ch]] w fun e w' => ∃ r z : Int, e = .returned (.tuple #[.int .i64 r, .int .i64 z]) ∧ SaR (Cf.err ⟨l, s, x, q⟩) s c (newE 16777216 g c ys.length) (nB (20 + ys.length) + 1) r z ∧ Fr [] w w' := by
  have H1 := fun w => check_cells l s x q w
  have HC2 : Hid (∀ W, Fr [] w W → Calls Tryz.prog 12 #[.agg #[.int .i64 m, .slice bo Lb cb, .slice ho Lh ch]] W fun e w' => e = .returned (.int .i64 (c : Int)) ∧ Fr [] W w') := fun W hf => dcheck_any m bo ho Lb cb Lh ch c bs hs W (h.keep hf).I h.lb (h.keep hf).H h.lh (h.T.ck h.p)
  have HW : Hid (∀ W, Fr [] w W → Calls Tryz.prog 13 #[.agg #[.int .i64 m, .slice bo Lb cb, .slice ho Lh ch]] W fun e w' => ∃ r z : Int, e = .returned (.tuple #[.int .i64 r, .int .i64 z]) ∧ RwP (newE 16777216 g c ys.length) (nB (20 + ys.length) + 1) r z ∧ Fr [] W w') := fun W hf => nraws_any cb ch (h.keep hf) hN
  have HE1 : Hid (Cf.err ⟨l, s, x, q⟩ = 0 ∨ Cf.err ⟨l, s, x, q⟩ = 7) := Cf.err_ways _
  have HS : Hid (Cf.err ⟨l, s, x, q⟩ = 0 → 1 ≤ s ∧ s ≤ 16) := fun h => Cf.err_zero h
  have HCw : Hid (c = 0 ∨ c = 1) := h.ways
  have HNf : Hid (newE 16777216 g c ys.length = 0 → nB (20 + ys.length) + 1 ≤ 262145) := fun h => newE_few h
  obtain ⟨P, HP⟩ : ∃ P : Int → Int → Prop, Hid (∀ r z, SaR (Cf.err ⟨l, s, x, q⟩) s c (newE 16777216 g c ys.length) (nB (20 + ys.length) + 1) r z = P r z) := ⟨_, fun _ _ => rfl⟩
  simp only [HP.out]
  generalize Cf.err ⟨l, s, x, q⟩ = E1 at H1 HE1 HS HP
  generalize newE 16777216 g c ys.length = E2 at HW HNf HP
  generalize nB (20 + ys.length) + 1 = N at HW HNf HP
  obtain ⟨w1, HW1⟩ : ∃ w1, Hid ((w.alloc (.cells #[.int .i64 l, .int .i64 s, .int .i64 x, .int .i64 q] 23)).alloc (.cells #[.int .i64 m, .slice bo Lb cb, .slice ho Lh ch] 27) = w1) := ⟨_, rfl⟩
  have HB : Hid (∀ W, Fr [] w1 W → _) := fun W hf => sv_box22 (w := w) (l := l) (s := s) (x := x) (q := q) (m := m) (bo := bo) (ho := ho) (Lb := Lb) (cb := cb) (Lh := Lh) (ch := ch) (W := W) (by rw [HW1.out]; exact hf)
  have HF0 : Hid (Fr [] w w1) := by rw [← HW1.out]; exact (Fr.alloc _ _ _).then (Fr.alloc _ _ _)
  obtain ⟨B, HBw⟩ : ∃ B, Hid (w.heap.size = B) := ⟨_, rfl⟩
  rw [HBw.out] at HB
  obtain ⟨a0, a1, a2, a3, c0, c1, c2⟩ := HB.out _ (Fr.refl _ _)
  clear h hN
  go_enter Tryz.func5, Tryz.ntmps5
  go_upto_region 1 with fail
  rw [HW1.out, HBw.out]
  clear HW1 HBw
  go_wp2_with fail
  with_reducible refine Calls.mono (H1 _) ?_
  rintro e w2 ⟨rfl, hF2⟩
  have HG2 : Hid (Fr [] w1 w2) := hF2
  clear a0 a1 a2 a3 c0 c1 c2 H1 hF2
  obtain ⟨a0, a1, a2, a3, c0, c1, c2⟩ := HB.out _ HG2.out
  rcases HE1.out with rfl | rfl
  · have n1 : ((0 : Int) != 0) = false := rfl
    obtain ⟨s0, s1⟩ := HS.out rfl
    go_wp2_with fail
    with_reducible refine Calls.mono (HC2.out _ (HF0.out.then HG2.out)) ?_
    rintro e w3 ⟨rfl, hF3⟩
    have HG3 : Hid (Fr [] w1 w3) := HG2.out.then hF3
    clear a0 a1 a2 a3 c0 c1 c2 hF3 HC2
    obtain ⟨a0, a1, a2, a3, c0, c1, c2⟩ := HB.out _ HG3.out
    by_cases hc : c = 0
    · have n2 : ((c : Int) != 0) = false := by simp [hc]
      have HC0 : Hid (c = 0) := hc
      clear hc
      go_wp2_with fail
      with_reducible refine Calls.mono (HW.out _ (HF0.out.then HG3.out)) ?_
      rintro e w4 ⟨r, z, rfl, hP, hF4⟩
      have HG4 : Hid (Fr [] w1 w4) := HG3.out.then hF4
      clear a0 a1 a2 a3 c0 c1 c2 hF4 HW
      obtain ⟨a0, a1, a2, a3, c0, c1, c2⟩ := HB.out _ HG4.out
      by_cases hE : E2 = 0
      · obtain ⟨rfl, rfl⟩ : r = (N : Int) ∧ z = 0 := by unfold RwP at hP; omega
        have hfew := HNf.out hE
        have HE : Hid (E2 = 0) := hE
        clear hE hP
        go_wp2_with fail
        with_reducible refine Calls.mono (ntotal_three 2 (2 * s) (N : Int) _ _ (by omega) (by omega) (by omega) (Fr.refl _ _)) ?_
        rintro e w5 ⟨rfl, hF5⟩
        go_wp2_with fail
        go_ret2
        exact ⟨_, _, rfl, by rw [← HP.out]; have := HE.out; have := HC0.out; unfold SaR; omega, ((HF0.out.then HG4.out).then (Fr.alloc _ _ _)).then hF5⟩
      · obtain ⟨rfl, rfl⟩ : r = 0 ∧ z = E2 := by unfold RwP at hP; omega
        have n3 : (z != 0) = true := by simp [hE]
        have HE : Hid (z ≠ 0) := hE
        clear hE hP
        go_wp2_with fail
        go_ret2
        exact ⟨_, _, rfl, by rw [← HP.out]; have := HE.out; have := HC0.out; unfold SaR; omega, HF0.out.then HG4.out⟩
    · have n2 : ((c : Int) != 0) = true := by simp; omega
      have HC0 : Hid (c = 1) := by have := HCw.out; show _ = _; omega
      have hce : (c : Int) = 1 := by have := HC0.out; omega
      clear hc
      go_wp2_with fail
      go_ret2
      exact ⟨_, _, rfl, by rw [← HP.out]; have := HC0.out; unfold SaR; omega, HF0.out.then HG3.out⟩
  · have n1 : ((7 : Int) != 0) = true := rfl
    go_wp2_with fail
    go_ret2
    exact ⟨_, _, rfl, by rw [← HP.out]; unfold SaR; omega, HF0.out.then HG2.out⟩
end Go.Proofs.YtdojhkgnnbdfkaaGreat
/- How many steps a checkpoint takes: the document's Save. Conditions: the checkpoint's size is at most 1048576. -/
namespace Go.Proofs.YtdojhkgnnbdfkaaGreat
open BigFrame Go.ChangeShapes Go.WideShapes Go.ChangeAt Go.RowKit Go.Lib Go.Maps
set_option linter.unusedVariables false
set_option linter.unusedSimpArgs false

set_option maxHeartbeats 4000000 in
set_option maxRecDepth 100000 in
theorem xnsave_any {w : World} {m : Int} {bo : Option Addr} {Lb : Nat} {ho : Option Addr} {Lh : Nat} {bs : List Int} {hs : List Hd} {ps : List Kv} {c : Nat} {ys : List Nat} (l s x q : Int) (cb ch : Nat) (h : SvA w m bo Lb ho Lh bs hs ps c ys) {ok : Bool} {g i : Nat} {mN : Int} {bN : List Int} {pN : List Kv} (hN : Nw [] [] ok g i mN bN pN) :
    Calls Tryz.prog 6 #[.agg #[.int .i64 l, .int .i64 s, .int .i64 x, .int .i64 q], .agg #[.int .i64 m, .slice bo Lb cb, .slice ho Lh ch]] w fun e w' => ∃ r z : Int, e = .returned (.tuple #[.int .i64 r, .int .i64 z]) ∧ SaR (Cf.err ⟨l, s, x, q⟩) s c (newE 16777216 g c ys.length) (nB (20 + ys.length) + 1) r z ∧ Fr [] w w' := by
  have H1 := fun w => ocheck_cells l s x q w
  have HC2 : Hid (∀ W, Fr [] w W → Calls Tryz.prog 16 #[.agg #[.int .i64 m, .slice bo Lb cb, .slice ho Lh ch]] W fun e w' => e = .returned (.int .i64 (c : Int)) ∧ Fr [] W w') := fun W hf => ywcheck_any m bo ho Lb cb Lh ch c bs hs W (h.keep hf).I h.lb (h.keep hf).H h.lh (h.T.ck h.p)
  have HD : Hid (∀ W, Fr [] w W → Calls Tryz.prog 17 #[.int .i64 16777216] W fun e w' => ∃ g S, e = .returned (.tuple #[.pointer (some ⟨g, 0, none⟩), .int .i64 0]) ∧ LR w w' g S (Sk.new 16777216) ∧ (∀ k ∈ S, W.heap.size ≤ k) ∧ Fr [] W w') := fun W hf => lr_new 16777216 w W hf (by omega)
  have HW : Hid (∀ W d S, LR w W d S (Sk.new 16777216) → Fr [] w W → Calls Tryz.prog 18 #[.pointer (some ⟨d, 0, none⟩), .agg #[.int .i64 m, .slice bo Lb cb, .slice ho Lh ch]] W fun e w' => (newE 16777216 g c ys.length ≠ 0 ∧ e = .returned (.tuple #[.pointer none, .int .i64 (newE 16777216 g c ys.length)]) ∧ Fr [] W w') ∨ (newE 16777216 g c ys.length = 0 ∧ ∃ tb, e = .returned (.tuple #[.pointer (some ⟨tb, 0, none⟩), .int .i64 0]) ∧ (∀ V, Fr [] w' V → Calls Tryz.prog 19 #[.pointer (some ⟨tb, 0, none⟩)] V fun e v' => e = .returned (.int .i64 ((nB (20 + ys.length) + 1 : Nat) : Int)) ∧ Fr [] V v') ∧ Fr [] W w')) := fun W d S hL hf => (znew_any hL hN m bo ho Lb cb Lh ch c bs hs ps ys (h.keep hf).I h.lb (h.keep hf).H h.lh h.p h.T h.z).mono (by
    rintro e w' (h1 | ⟨h1, tb, ab, ac, h2, h3, _, _, h4⟩)
    · exact Or.inl h1
    · exact Or.inr ⟨h1, tb, h2, fun V hV => zleft_any (h3.keep hV (by simp) (by simp)) (by rw [ckB_length]; rfl), h4⟩)
  have HE1 : Hid (Cf.err ⟨l, s, x, q⟩ = 0 ∨ Cf.err ⟨l, s, x, q⟩ = 7) := Cf.err_ways _
  have HS : Hid (Cf.err ⟨l, s, x, q⟩ = 0 → 1 ≤ s ∧ s ≤ 16) := fun h => Cf.err_zero h
  have HCw : Hid (c = 0 ∨ c = 1) := h.ways
  have HNf : Hid (newE 16777216 g c ys.length = 0 → nB (20 + ys.length) + 1 ≤ 262145) := fun h => newE_few h
  obtain ⟨P, HP⟩ : ∃ P : Int → Int → Prop, Hid (∀ r z, SaR (Cf.err ⟨l, s, x, q⟩) s c (newE 16777216 g c ys.length) (nB (20 + ys.length) + 1) r z = P r z) := ⟨_, fun _ _ => rfl⟩
  simp only [HP.out]
  generalize Cf.err ⟨l, s, x, q⟩ = E1 at H1 HE1 HS HP
  generalize newE 16777216 g c ys.length = E2 at HW HNf HP
  generalize nB (20 + ys.length) + 1 = N at HW HNf HP
  obtain ⟨w1, HW1⟩ : ∃ w1, Hid ((w.alloc (.cells #[.int .i64 l, .int .i64 s, .int .i64 x, .int .i64 q] 23)).alloc (.cells #[.int .i64 m, .slice bo Lb cb, .slice ho Lh ch] 27) = w1) := ⟨_, rfl⟩
  have HB : Hid (∀ W, Fr [] w1 W → _) := fun W hf => sv_box22 (w := w) (l := l) (s := s) (x := x) (q := q) (m := m) (bo := bo) (ho := ho) (Lb := Lb) (cb := cb) (Lh := Lh) (ch := ch) (W := W) (by rw [HW1.out]; exact hf)
  have HF0 : Hid (Fr [] w w1) := by rw [← HW1.out]; exact (Fr.alloc _ _ _).then (Fr.alloc _ _ _)
  obtain ⟨B, HBw⟩ : ∃ B, Hid (w.heap.size = B) := ⟨_, rfl⟩
  rw [HBw.out] at HB
  obtain ⟨a0, a1, a2, a3, c0, c1, c2⟩ := HB.out _ (Fr.refl _ _)
  clear h hN
  go_enter Tryz.func6, Tryz.ntmps6
  go_upto_region 1 with fail
  rw [HW1.out, HBw.out]
  clear HW1 HBw
  go_wp2_with fail
  with_reducible refine Calls.mono (H1 _) ?_
  rintro e w2 ⟨rfl, hF2⟩
  have HG2 : Hid (Fr [] w1 w2) := hF2
  clear a0 a1 a2 a3 c0 c1 c2 H1 hF2
  obtain ⟨a0, a1, a2, a3, c0, c1, c2⟩ := HB.out _ HG2.out
  rcases HE1.out with rfl | rfl
  · have n1 : ((0 : Int) != 0) = false := rfl
    obtain ⟨s0, s1⟩ := HS.out rfl
    go_wp2_with fail
    with_reducible refine Calls.mono (HC2.out _ (HF0.out.then HG2.out)) ?_
    rintro e w3 ⟨rfl, hF3⟩
    have HG3 : Hid (Fr [] w1 w3) := HG2.out.then hF3
    clear a0 a1 a2 a3 c0 c1 c2 hF3 HC2
    obtain ⟨a0, a1, a2, a3, c0, c1, c2⟩ := HB.out _ HG3.out
    by_cases hc : c = 0
    · have n2 : ((c : Int) != 0) = false := by simp [hc]
      have HC0 : Hid (c = 0) := hc
      clear hc
      go_wp2_with fail
      with_reducible refine Calls.mono (HD.out _ (HF0.out.then HG3.out)) ?_
      rintro e w4 ⟨d, S, rfl, hLR, _, hF4⟩
      have HLR : Hid (LR w w4 d S (Sk.new 16777216)) := hLR
      have HG4 : Hid (Fr [] w1 w4) := HG3.out.then hF4
      clear a0 a1 a2 a3 c0 c1 c2 hF4 HD hLR
      obtain ⟨a0, a1, a2, a3, c0, c1, c2⟩ := HB.out _ HG4.out
      go_wp2_with fail
      with_reducible refine Calls.mono (HW.out _ d S HLR.out (HF0.out.then HG4.out)) ?_
      rintro e w5 (⟨hE, rfl, hF5⟩ | ⟨hE, tb, rfl, hZ, hF5⟩)
      · have n3 : (E2 != 0) = true := by simp [hE]
        have HE : Hid (E2 ≠ 0) := hE
        have HG5 : Hid (Fr [] w1 w5) := HG4.out.then hF5
        clear hE hF5 HW a0 a1 a2 a3 c0 c1 c2
        go_wp2_with fail
        go_ret2
        exact ⟨_, _, rfl, by rw [← HP.out]; have := HE.out; have := HC0.out; unfold SaR; omega, HF0.out.then HG5.out⟩
      · have hfew := HNf.out hE
        have HE : Hid (E2 = 0) := hE
        have HG5 : Hid (Fr [] w1 w5) := HG4.out.then hF5
        have HZ : Hid (∀ V, Fr [] w5 V → Calls Tryz.prog 19 #[.pointer (some ⟨tb, 0, none⟩)] V fun e v' => e = .returned (.int .i64 (N : Int)) ∧ Fr [] V v') := hZ
        clear hE hF5 HW a0 a1 a2 a3 c0 c1 c2 hZ
        have f1 : ∀ y : Wd13 w5, y.W.cell? ⟨B, 1, none⟩ = some (.int .i64 s) := fun y => (HB.out _ (HG5.out.then y.h)).2.1
        go_wp2_with fail
        refine wp_region_wd13 (w1 := w5) (by kernel_rfl) (by kernel_rfl) (Fr.refl _ _) ?_
        repeat (go_big_quiet_step (first
          | (go_at_call 19; with_reducible refine Calls.mono (HZ.out _ (Wd13.h _)) ?_; exact fun e w3 hh => ⟨hh.1, ⟨_, Fr.then (Wd13.h _) hh.2⟩, rfl⟩)))
        refine wpQuiet_nil ?_
        rintro _ ⟨y, rfl⟩
        go_wp2_with fail
        go_ret2
        exact ⟨_, _, rfl, by rw [← HP.out]; have := HE.out; have := HC0.out; unfold SaR; omega, (HF0.out.then HG5.out).then y.h⟩
    · have n2 : ((c : Int) != 0) = true := by simp; omega
      have HC0 : Hid (c = 1) := by have := HCw.out; show _ = _; omega
      have hce : (c : Int) = 1 := by have := HC0.out; omega
      clear hc
      go_wp2_with fail
      go_ret2
      exact ⟨_, _, rfl, by rw [← HP.out]; have := HC0.out; unfold SaR; omega, HF0.out.then HG3.out⟩
  · have n1 : ((7 : Int) != 0) = true := rfl
    go_wp2_with fail
    go_ret2
    exact ⟨_, _, rfl, by rw [← HP.out]; unfold SaR; omega, HF0.out.then HG2.out⟩
end Go.Proofs.YtdojhkgnnbdfkaaGreat

/- At; the statements' own helpers on versions: SameVersions, VersionsSize. Conditions as each names them. -/
import Derived.Test.YtakbodlicfmkjaaGreatVp
import Derived.Deep.Cut
namespace Go.Proofs.YtakbodlicfmkjaaGreat.O
open Go.ChangeShapes Go.WideShapes Go.ChangeAt Go.RowKit Go.Lib
set_option linter.unusedVariables false
set_option linter.unusedSimpArgs false
theorem results_ctt {fn : Func} {p q r : Tmp} {t : TypeId} (h : fn.results = #[.cell p t, .tmp q, .tmp r]) (tmps : Array Value) (P : Program) (w : World) :
    (results fn tmps).run P w = ((asAddr (tmps.getD p undef)).run P w).andThen fun a w₁ => ((loadVar t a).run P w₁).andThen fun x w₂ => .ok (.tuple #[x, tmps.getD q undef, tmps.getD r undef]) w₂ := by
  simp only [results, h]
  simp [Sem.run_bind, Result.andThen]
theorem vrow3 {w : World} {b : Nat} {t : TypeId} {x0 x1 x2 : Value} (h : w.heap[b]? = some (.cells #[x0, x1, x2] t (0, 0))) (a0 a1 a2 : Value) : (((w.setCell ⟨b, 0, none⟩ a0).setCell ⟨b, 1, none⟩ a1).setCell ⟨b, 2, none⟩ a2).heap[b]? = some (.cells #[a0, a1, a2] t (0, 0)) := by
  have k : ∀ (W : World) (cs : Array Value) (o : Nat) (v : Value), W.heap[b]? = some (.cells cs t (0, 0)) → (W.setCell ⟨b, o, none⟩ v).heap[b]? = some (.cells (cs.setIfInBounds o v) t (0, 0)) := by
    intro W cs o v hW
    obtain ⟨hlt, hk⟩ := Array.getElem?_eq_some_iff.1 hW
    show (W.heap.modify b _)[b]? = _
    rw [Array.getElem?_eq_getElem (by rw [Array.size_modify]; exact hlt), Array.getElem_modify_self, hk]
    rfl
  have := k _ _ 2 a2 (k _ _ 1 a1 (k _ _ 0 a0 h))
  simpa using this
theorem vfrozen {w : World} {b : Nat} {cs : Array Value} {t : TypeId} (h : w.heap[b]? = some (.cells cs t (0, 0))) (j : Nat) : w.frozen? ⟨b, j, none⟩ = false := by simp [World.frozen?, h]
/-- What At tells. -/
def AtTold (vs : List Vn) (k : Int) (x : Vn) (ok : Bool) (c : Nat) : Prop := (c = 1 ∧ ¬ okV vs ∧ x = Vn.zero ∧ ok = false) ∨ (c = 0 ∧ okV vs ∧ ∃ d, UpTo vs k d ∧ x = atV vs d ∧ ok = decide (0 < d))
set_option maxHeartbeats 4000000 in
set_option maxRecDepth 100000 in
theorem at_any (ao : Option Addr) (L cap : Nat) (k : Int) (vs : List Vn) (w : World) (hV : VRs w ao vs) (hL : L = vs.length) :
    Calls Tryz.prog 321 #[.slice ao L cap, .int .i64 k] w fun e w' => ∃ x ok c, e = .returned (.tuple #[.agg #[.int .i64 x.num, .string x.val, .bool x.drop], .bool ok, .int .i64 ((c : Nat) : Int)]) ∧ AtTold vs k x ok c ∧ Fr [] w w' := by
  obtain ⟨w0, HW0⟩ : ∃ w0, Hid (w.alloc (.cells #[.int .i64 0, .string ⟨#[]⟩, .bool false] 128) = w0) := ⟨_, rfl⟩
  have hF0 : Fr [] w w0 := by rw [← HW0.out]; exact Fr.alloc [] w _
  have hb0 : w0.heap[w.heap.size]? = some (.cells #[.int .i64 0, .string ⟨#[]⟩, .bool false] 128 (0, 0)) := by rw [← HW0.out]; exact heap_alloc_new w _
  have hs0 : w.heap.size < w0.heap.size := lt_of_block hb0
  have HL : Hid (L = vs.length) := hL
  have HV : Hid (∀ W, Fr [] w W → VRs W ao vs) := fun W hf => hV.keep hf
  have hLL : L ≤ 4398046511104 := by have := hV.few; omega
  obtain ⟨c, hck⟩ := CkT.ex vs
  have HC : Hid (Calls _ _ _ _ _) := vcheck_any ao L cap c vs w0 (hV.keep hF0) hL hck
  have HB : Hid (∀ W, Fr [] w0 W → W.heap[w.heap.size]? = some (.cells #[.int .i64 0, .string ⟨#[]⟩, .bool false] 128 (0, 0))) := fun W hf => hf.keep hb0 (by simp)
  -- what lies in the box behind a store of a version
  have HS : Hid (∀ W, Fr [] w0 W → ∀ (a : Int) (b : ByteArray) (d : Bool) (W3 : World), ((W.setCell ⟨w.heap.size, 0, none⟩ (.int .i64 a)).setCell ⟨w.heap.size, 1, none⟩ (.string b)).setCell ⟨w.heap.size, 2, none⟩ (.bool d) = W3 →
      W3.cell? ⟨w.heap.size, 0, none⟩ = some (.int .i64 a) ∧ W3.cell? ⟨w.heap.size, 1, none⟩ = some (.string b) ∧ W3.cell? ⟨w.heap.size, 2, none⟩ = some (.bool d) ∧ Fr [] w W3) := by
    intro W hW a b d W3 e
    have hr := vrow3 (hW.keep hb0 (by simp)) (.int .i64 a) (.string b) (.bool d)
    rw [e] at hr
    have hFs : Fr [w.heap.size] W W3 := by rw [← e]; exact ((Fr.set _ _ _ (by simp)).then (Fr.set _ _ _ (by simp))).then (Fr.set _ _ _ (by simp))
    refine ⟨?_, ?_, ?_, (hF0.then hW).on hFs (by simp)⟩
    · rw [cell_of_row _ _ _ _ _ _ hr]; rfl
    · rw [cell_of_row _ _ _ _ _ _ hr]; rfl
    · rw [cell_of_row _ _ _ _ _ _ hr]; rfl
  clear hL hV
  rcases hck with ⟨rfl, hok⟩ | ⟨rfl, hok⟩
  · have HO : Hid (okV vs) := hok
    clear hok
    go_enter Tryz.func321, Tryz.ntmps321
    go_upto_region 1 with fail
    rw [HW0.out]
    clear hb0
    go_wp2_with fail
    refine Calls.mono HC.out ?_
    rintro e w1 ⟨rfl, hF1⟩
    have HU : Hid (Calls _ _ _ _ _) := upTo_any ao L cap k vs w1 (HV.out _ (hF0.then hF1)) HL.out HO.out.2
    clear HC
    go_wp2_with fail
    refine Calls.mono HU.out ?_
    rintro e w2 ⟨d, rfl, hd, hF2⟩
    have hG2 := hF1.then hF2
    have hb2 := HB.out _ hG2
    have z0 : w2.cell? ⟨w.heap.size, 0, none⟩ = some (.int .i64 0) := by rw [cell_of_row _ _ _ _ _ _ hb2]; rfl
    have z1 : w2.cell? ⟨w.heap.size, 1, none⟩ = some (.string ⟨#[]⟩) := by rw [cell_of_row _ _ _ _ _ _ hb2]; rfl
    have z2 : w2.cell? ⟨w.heap.size, 2, none⟩ = some (.bool false) := by rw [cell_of_row _ _ _ _ _ _ hb2]; rfl
    have y0 := vfrozen hb2 0
    have y1 := vfrozen hb2 1
    have y2 := vfrozen hb2 2
    have HD : Hid (UpTo vs k d) := hd
    have hdL : d ≤ L := by have := hd.le; have := HL.out; omega
    clear hd HU hb2
    by_cases h0 : d = 0
    · subst h0
      go_wp2
      have hS := HS.out _ hG2 0 ⟨#[]⟩ false
      obtain ⟨W3, HW3⟩ : ∃ W3, Hid (((w2.setCell ⟨w.heap.size, 0, none⟩ (.int .i64 0)).setCell ⟨w.heap.size, 1, none⟩ (.string ⟨#[]⟩)).setCell ⟨w.heap.size, 2, none⟩ (.bool false) = W3) := ⟨_, rfl⟩
      obtain ⟨q0, q1, q2, hfin⟩ := hS _ HW3.out
      rw [HW3.out]
      clear hS HS HB
      refine bodyPost_ret (v := .tuple #[.agg #[.int .i64 0, .string ⟨#[]⟩, .bool false], .bool false, .int .i64 ((0 : Nat) : Int)]) ?_ rfl ⟨Vn.zero, false, 0, rfl, Or.inr ⟨rfl, HO.out, 0, HD.out, rfl, rfl⟩, hfin⟩
      rw [results_ctt rfl]
      go_simp
    · obtain ⟨d', rfl⟩ : ∃ d', d = d' + 1 := ⟨d - 1, by omega⟩
      have hd' : (((d' + 1 : Nat) : Int) - 1) = (d' : Int) := by omega
      have hV2 := HV.out _ (hF0.then hG2)
      obtain ⟨b, off, rfl, hbl, hat⟩ := hV2.lies (by have := HL.out; omega)
      obtain ⟨c0, c1, c2⟩ := hat d' (by have := HL.out; omega)
      obtain ⟨x, hx⟩ : ∃ x, x = vs.getD d' Vn.zero := ⟨_, rfl⟩
      have HX : Hid (x = atV vs (d' + 1)) := by show _ = _; unfold atV; rw [if_neg (by omega), hx]; rfl
      rw [← hx] at c0 c1 c2
      obtain ⟨n, val, drop⟩ := x
      simp only at c0 c1 c2
      have hdL' : d' < L := by omega
      clear hx hat hV2
      go_wp2
      have hS := HS.out _ hG2 n val drop
      obtain ⟨W3, HW3⟩ : ∃ W3, Hid (((w2.setCell ⟨w.heap.size, 0, none⟩ (.int .i64 n)).setCell ⟨w.heap.size, 1, none⟩ (.string val)).setCell ⟨w.heap.size, 2, none⟩ (.bool drop) = W3) := ⟨_, rfl⟩
      obtain ⟨q0, q1, q2, hfin⟩ := hS _ HW3.out
      rw [HW3.out]
      clear hS HS HB
      refine bodyPost_ret (v := .tuple #[.agg #[.int .i64 n, .string val, .bool drop], .bool true, .int .i64 ((0 : Nat) : Int)]) ?_ rfl ⟨⟨n, val, drop⟩, true, 0, rfl, Or.inr ⟨rfl, HO.out, d' + 1, HD.out, HX.out, by simp⟩, hfin⟩
      rw [results_ctt rfl]
      go_simp
  · have HO : Hid (¬ okV vs) := hok
    clear hok
    go_enter Tryz.func321, Tryz.ntmps321
    go_upto_region 1 with fail
    rw [HW0.out]
    clear hb0
    go_wp2_with fail
    refine Calls.mono HC.out ?_
    rintro e w1 ⟨rfl, hF1⟩
    have hb2 := HB.out _ hF1
    have z0 : w1.cell? ⟨w.heap.size, 0, none⟩ = some (.int .i64 0) := by rw [cell_of_row _ _ _ _ _ _ hb2]; rfl
    have z1 : w1.cell? ⟨w.heap.size, 1, none⟩ = some (.string ⟨#[]⟩) := by rw [cell_of_row _ _ _ _ _ _ hb2]; rfl
    have z2 : w1.cell? ⟨w.heap.size, 2, none⟩ = some (.bool false) := by rw [cell_of_row _ _ _ _ _ _ hb2]; rfl
    have y0 := vfrozen hb2 0
    have y1 := vfrozen hb2 1
    have y2 := vfrozen hb2 2
    clear HC hb2
    go_wp2
    have hS := HS.out _ hF1 0 ⟨#[]⟩ false
    obtain ⟨W3, HW3⟩ : ∃ W3, Hid (((w1.setCell ⟨w.heap.size, 0, none⟩ (.int .i64 0)).setCell ⟨w.heap.size, 1, none⟩ (.string ⟨#[]⟩)).setCell ⟨w.heap.size, 2, none⟩ (.bool false) = W3) := ⟨_, rfl⟩
    obtain ⟨q0, q1, q2, hfin⟩ := hS _ HW3.out
    rw [HW3.out]
    clear hS HS HB
    refine bodyPost_ret (v := .tuple #[.agg #[.int .i64 0, .string ⟨#[]⟩, .bool false], .bool false, .int .i64 ((1 : Nat) : Int)]) ?_ rfl ⟨Vn.zero, false, 1, rfl, Or.inl ⟨rfl, HO.out, rfl, rfl⟩, hfin⟩
    rw [results_ctt rfl]
    go_simp
theorem vsame_upto (xs ys : List Vn) (hl : xs.length = ys.length) (h : ∀ j, j < xs.length → xs.getD j Vn.zero = ys.getD j Vn.zero) : xs = ys := by
  apply List.ext_getElem hl
  intro i h1 h2
  have := h i h1
  simpa [List.getD, h1, h2] using this
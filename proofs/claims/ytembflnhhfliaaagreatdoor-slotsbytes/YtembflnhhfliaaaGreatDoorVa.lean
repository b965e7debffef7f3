/- At; the statements' own helpers on versions: SameVersions, VersionsSize. Conditions as each names them. -/
import Derived.Test.YtembflnhhfliaaaGreatDoorVp
import Derived.Deep.Cut
namespace Go.Proofs.YtembflnhhfliaaaGreatDoor
open Go.ChangeShapes Go.WideShapes Go.ChangeAt Go.RowKit Go.Lib
set_option linter.unusedVariables false
set_option linter.unusedSimpArgs false
theorem results_ctt {fn : Func} {p q r : Tmp} {t : TypeId} (h : fn.results = #[.cell p t, .tmp q, .tmp r]) (tmps : Array Value) (P : Program) (w : World) :
    (results fn tmps).run P w = ((asAddr (tmps.getD p undef)).run P w).andThen fun a w₁ => ((loadVar t a).run P w₁).andThen fun x w₂ => .ok (.tuple #[x, tmps.getD q undef, tmps.getD r undef]) w₂ := by
  simp only [results, h]
  simp [Sem.run_bind, Result.andThen]
theorem vrow3 {w : World} {b : Nat} {t : TypeId} {x0 x1 x2 : Value} (h : w.heap[b]? = some (.cells #[x0, x1, x2] t (0, 0))) (a0 a1 a2 : Value) : (((w.setCell ⟨b, 0, none⟩ a0).setCell ⟨b, 1, none⟩ a1).setCell ⟨b, 2, none⟩ a2).heap[b]? = some (.cells #[a0, a1, a2] t (0, 0)) := by
  have k : ∀ (W : World) (cs : Array Value) (o : Nat) (v : Value), W.heap[b]? = some (.cells cs t (0, 0)) → (W.setCell ⟨b, o, none⟩ v).heap[b]? = some (.cells (cs.setIfInBounds o v) t (0, 0)) := by
    intro W cs o v hW
    obtain ⟨hlt, hk⟩ := Array.getElem?_eq_some_iff.1 hW
    show (W.heap.modify b _)[b]? = _
    rw [Array.getElem?_eq_getElem (by rw [Array.size_modify]; exact hlt), Array.getElem_modify_self, hk]
    rfl
  have := k _ _ 2 a2 (k _ _ 1 a1 (k _ _ 0 a0 h))
  simpa using this
theorem vfrozen {w : World} {b : Nat} {cs : Array Value} {t : TypeId} (h : w.heap[b]? = some (.cells cs t (0, 0))) (j : Nat) : w.frozen? ⟨b, j, none⟩ = false := by simp [World.frozen?, h]
/-- What At tells. -/
def AtTold (vs : List Vn) (k : Int) (x : Vn) (ok : Bool) (c : Nat) : Prop := (c = 1 ∧ ¬ okV vs ∧ x = Vn.zero ∧ ok = false) ∨ (c = 0 ∧ okV vs ∧ ∃ d, UpTo vs k d ∧ x = atV vs d ∧ ok = decide (0 < d))
theorem vsame_upto (xs ys : List Vn) (hl : xs.length = ys.length) (h : ∀ j, j < xs.length → xs.getD j Vn.zero = ys.getD j Vn.zero) : xs = ys := by
  apply List.ext_getElem hl
  intro i h1 h2
  have := h i h1
  simpa [List.getD, h1, h2] using this
set_option maxHeartbeats 4000000 in
set_option maxRecDepth 100000 in
theorem sameVs_any (ro ro' : Option Addr) (N M rc rc' : Nat) (R : Bool) (xs ys : List Vn) (w : World) (h1 : VRs w ro xs) (h2 : VRs w ro' ys) (hN : N = xs.length) (hM : M = ys.length) (hR : R = true ↔ xs = ys) :
    Calls Tryz.prog 177 #[.slice ro N rc, .slice ro' M rc'] w fun e w' => e = .returned (.bool R) ∧ Fr [] w w' := by
  have HR : Hid (R = true ↔ xs = ys) := hR
  have HN : Hid (N = xs.length) := hN
  have HM : Hid (M = ys.length) := hM
  have hNf : N ≤ 4398046511104 := by have := h1.few; omega
  have hMf : M ≤ 4398046511104 := by have := h2.few; omega
  have HE : Hid (∀ W, Fr [] w W → VRs W ro xs ∧ VRs W ro' ys) := fun W hf => ⟨h1.keep hf, h2.keep hf⟩
  have hg := Tryz.guardVn
  have hq : ∀ (x y : Vn) (W : World), (Op.equalIn 10000 136 (.agg #[.int .i64 x.num, .string x.val, .bool x.drop]) (.agg #[.int .i64 y.num, .string y.val, .bool y.drop])).run Tryz.prog W = .ok (sameV x y) W := fun x y W => vn_in W x y
  clear hN hM hR h1 h2
  by_cases hNM : N = M
  · subst hNM
    have hne : ((N : Int) != N) = false := by simp
    go_enter Tryz.func177, Tryz.ntmps177
    go_wp2_with fail
    go_loopw [5] (fun ii wr => ∃ (i : Nat), ii = .int .i64 i ∧ i ≤ N ∧ Fr [] w wr ∧ Hid (∀ j, j < i → xs.getD j Vn.zero = ys.getD j Vn.zero)) (fun ii _ => N - (intOf ii).toNat)
    case atStart => exact ⟨0, rfl, Nat.zero_le _, Fr.refl _ _, fun j hj => by omega⟩
    case round =>
      obtain ⟨i, rfl, hiN, hFr, HI⟩ := hrel
      by_cases hi : i < N
      · have hi1 : i < xs.length := by rw [← HN.out]; exact hi
        have hi2 : i < ys.length := by rw [← HM.out]; exact hi
        obtain ⟨b, o, rfl, _, hat⟩ := (HE.out _ hFr).1.lies (by omega)
        obtain ⟨c0, c1, c2⟩ := hat i hi1
        obtain ⟨b', o', rfl, _, hat'⟩ := (HE.out _ hFr).2.lies (by omega)
        obtain ⟨e0, e1, e2⟩ := hat' i hi2
        obtain ⟨x, hx⟩ : ∃ x, x = xs.getD i Vn.zero := ⟨_, rfl⟩
        obtain ⟨y, hy⟩ : ∃ y, y = ys.getD i Vn.zero := ⟨_, rfl⟩
        rw [← hx] at c0 c1 c2
        rw [← hy] at e0 e1 e2
        have hqq := hq x y
        obtain ⟨S, hS⟩ : ∃ S, sameV x y = S := ⟨_, rfl⟩
        rw [hS] at hqq
        have HS : Hid (sameV x y = S) := hS
        have HX : Hid (x = xs.getD i Vn.zero ∧ y = ys.getD i Vn.zero) := ⟨hx, hy⟩
        clear hS hx hy hat hat' hq
        obtain ⟨n1, v1, p1⟩ := x
        obtain ⟨n2, v2, p2⟩ := y
        simp only at c0 c1 c2 e0 e1 e2 hqq
        cases S with
        | true =>
          have HI2 : Hid (∀ j, j < i + 1 → xs.getD j Vn.zero = ys.getD j Vn.zero) := by
            intro j hj
            by_cases hji : j = i
            · subst hji
              rw [← HX.out.1, ← HX.out.2]
              exact (sameV_iff _ _).1 HS.out
            · exact HI.out j (by omega)
          go_wp2_with fail
          go_quiet (fail)
          go_wp2
          exact ⟨⟨i + 1, by simp, by omega, hFr.then (Fr.drewN _ _ _), HI2⟩, by simp [intOf]; omega⟩
        | false =>
          obtain rfl : R = false := by
            cases R with
            | false => rfl
            | true =>
              have e := HR.out.1 rfl
              subst e
              have h9 := (sameV_iff _ _).2 (HX.out.1.trans HX.out.2.symm)
              rw [HS.out] at h9
              cases h9
          go_wp2_with fail
          go_quiet (fail)
          go_wp2
          go_ret
          exact ⟨rfl, hFr.then (Fr.drewN _ _ _)⟩
      · obtain rfl : R = true := HR.out.2 (vsame_upto _ _ (by rw [← HN.out, HM.out]) (fun j hj => HI.out j (by rw [← HN.out] at hj; omega)))
        go_wp2
        go_ret
        exact ⟨rfl, hFr⟩
  · have hne : ((N : Int) != M) = true := by rw [bne_iff_ne]; omega
    obtain rfl : R = false := by
      cases R with
      | false => rfl
      | true =>
        have e := HR.out.1 rfl
        subst e
        exact absurd (HN.out.trans HM.out.symm) hNM
    clear hNM
    go_enter Tryz.func177, Tryz.ntmps177
    go_wp2
    go_ret
    exact ⟨rfl, Fr.refl _ _⟩
end Go.Proofs.YtembflnhhfliaaaGreatDoor

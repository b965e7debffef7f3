/- What the statements' own helpers on bytes answer: SameBytes. Conditions: fewer than 2^41 bytes. -/
import Derived.Test.YtembflnhhfliaaaGreatDoorTake
namespace Go.Proofs.YtembflnhhfliaaaGreatDoor
open Go.ChangeShapes Go.WideShapes Go.ChangeAt Go.RowKit Go.Lib

/-- The slice at ao reads as the bytes xs. -/
structure Rs (w : World) (ao : Option Addr) (xs : List Nat) : Prop where
  lies : 0 < xs.length → ∃ b off, ao = some ⟨b, off, none⟩ ∧ ∀ j, j < xs.length → w.cell? ⟨b, off + j, none⟩ = some (.int .u8 ((xs.getD j 0 : Nat) : Int))
  len : xs.length < 2^41
theorem Sl.rs {w : World} {r : Nat} {ao : Option Addr} {xs : List Nat} (h : Sl w r ao xs) : Rs w ao xs := ⟨fun h0 => ⟨r, h.lies h0⟩, h.len⟩
theorem Rs.of_row {w : World} {b : Nat} {xs : List Nat} (h : w.heap[b]? = some (.cells (bts xs).toArray 5 (0, 0))) (hl : xs.length < 2^41) : Rs w (some ⟨b, 0, none⟩) xs :=
  ⟨fun _ => ⟨b, 0, rfl, fun j hj => by rw [cell_of_row _ _ _ _ _ _ h, Nat.zero_add]; simpa using bts_get xs j hj⟩, hl⟩
theorem Rs.nil (w : World) (ao : Option Addr) : Rs w ao [] := ⟨fun h => by simp at h, by simp⟩
theorem Rs.take {w : World} {ao : Option Addr} {xs : List Nat} (h : Rs w ao xs) (k : Nat) : Rs w ao (xs.take k) := by
  refine ⟨fun h0 => ?_, by have := h.len; rw [List.length_take]; omega⟩
  rw [List.length_take] at h0
  obtain ⟨b, off, e, hc⟩ := h.lies (by omega)
  refine ⟨b, off, e, fun j hj => ?_⟩
  rw [List.length_take] at hj
  rw [hc j (by omega)]
  simp [List.getD, show j < k by omega]
theorem Rs.drewN {w : World} {ao : Option Addr} {xs : List Nat} (h : Rs w ao xs) (q : Nat) : Rs (w.drewN q) ao xs := ⟨h.lies, h.len⟩
theorem Rs.keep {S : List Nat} {w w' : World} {b off : Nat} {xs : List Nat} (h : Rs w (some ⟨b, off, none⟩) xs) (hf : Fr S w w') (hb : b ∉ S) : Rs w' (some ⟨b, off, none⟩) xs := by
  refine ⟨fun h0 => ?_, h.len⟩
  obtain ⟨b', off', e, hc⟩ := h.lies h0
  cases e
  refine ⟨b, off, rfl, fun j hj => ?_⟩
  have hlt := World.block_lt_of_cell? w _ (hc j hj)
  exact (World.cell?_of_block (hf.block b hlt hb)).trans (hc j hj)

theorem row_src {w : World} {b : Nat} {xs : List Nat} (h : w.heap[b]? = some (.cells (bts xs).toArray 5 (0, 0))) : ∀ j u, (bts xs)[j]? = some u → w.cell? ((⟨b, 0, none⟩ : Addr).add j) = some u := by
  intro j u hj
  rw [show (⟨b, 0, none⟩ : Addr).add j = ⟨b, 0 + j, none⟩ from by simp [Addr.add]; omega, cell_of_row _ _ _ _ _ _ h, Nat.zero_add]
  simpa using hj
theorem same_upto (xs ys : List Nat) (hl : xs.length = ys.length) (h : ∀ j, j < xs.length → xs.getD j 0 = ys.getD j 0) : xs = ys := by
  apply List.ext_getElem hl
  intro i h1 h2
  have := h i h1
  simpa [List.getD, h1, h2] using this

set_option maxHeartbeats 2000000 in
set_option maxRecDepth 100000 in
theorem same_any (a b : Option Addr) (L M ca cb : Nat) (xs ys : List Nat) (w : World) (ha : Rs w a xs) (hb : Rs w b ys) (hL : L = xs.length) (hM : M = ys.length) :
    Calls Tryz.prog 38 #[.slice a L ca, .slice b M cb] w fun e w' => e = .returned (.bool (decide (xs = ys))) ∧ ∃ q, w' = w.drewN q := by
  obtain ⟨R, hR⟩ : ∃ R, R = decide (xs = ys) := ⟨_, rfl⟩
  rw [← hR]
  have HR : Hid (R = decide (xs = ys)) := hR
  have HL : Hid (L = xs.length) := hL
  have HM : Hid (M = ys.length) := hM
  have hLl : L < 2^41 := by have := ha.len; omega
  have hMl : M < 2^41 := by have := hb.len; omega
  clear hR hL hM
  by_cases hLM : L = M
  · subst hLM
    have hne : ((L : Int) != L) = false := by simp
    by_cases h0 : 0 < L
    · obtain ⟨ba, oa, rfl, hca⟩ := ha.lies (by rw [← HL.out]; exact h0)
      obtain ⟨bb, ob, rfl, hcb⟩ := hb.lies (by rw [← HM.out]; exact h0)
      rw [← HL.out] at hca
      rw [← HM.out] at hcb
      go_enter Tryz.func38, Tryz.ntmps38
      go_wp2_with fail
      go_loopw [5] (fun ii wr => ∃ (i q : Nat), ii = .int .i64 i ∧ i ≤ L ∧ Hid (∀ j, j < i → xs.getD j 0 = ys.getD j 0) ∧ wr = w.drewN q) (fun ii _ => L - (intOf ii).toNat)
      case atStart => exact ⟨0, 0, rfl, Nat.zero_le _, fun j hj => by omega, rfl⟩
      case round =>
        obtain ⟨i, q, rfl, hiL, HE, rfl⟩ := hrel
        by_cases hi : i < L
        · have hx := hca i hi
          have hy := hcb i hi
          obtain ⟨x, hxx⟩ : ∃ x, x = xs.getD i 0 := ⟨_, rfl⟩
          obtain ⟨y, hyy⟩ : ∃ y, y = ys.getD i 0 := ⟨_, rfl⟩
          rw [← hxx] at hx
          rw [← hyy] at hy
          have HX : Hid (x = xs.getD i 0) := hxx
          have HY : Hid (y = ys.getD i 0) := hyy
          clear hxx hyy hca hcb
          by_cases hxy : x = y
          · subst hxy
            have hb1 : ((x : Int) != x) = false := by simp
            have HE2 : Hid (∀ j, j < i + 1 → xs.getD j 0 = ys.getD j 0) := by
              intro j hj
              by_cases hji : j = i
              · subst hji; exact HX.out.symm.trans HY.out
              · exact HE.out j (by omega)
            go_wp2_with fail
            go_quiet (fail)
            go_wp2
            go_roundw
            case rel => exact ⟨i + 1, _, by simp, by omega, HE2, rfl⟩
            case measure => simp [intOf]; omega
          · have hb1 : ((x : Int) != y) = true := by rw [bne_iff_ne]; omega
            have HR' : Hid (R = false) := by
              show R = false
              rw [HR.out, decide_eq_false_iff_not]
              intro h
              exact hxy (by rw [HX.out, HY.out, h])
            clear hxy
            go_wp2_with fail
            go_quiet (fail)
            go_wp2
            go_ret
            rw [HR'.out]
            exact ⟨rfl, q + nq, by simp⟩
        · have HR' : Hid (R = true) := by
            show R = true
            rw [HR.out, decide_eq_true_eq]
            exact same_upto xs ys (HL.out.symm.trans HM.out) (fun j hj => HE.out j (by rw [← HL.out] at hj; omega))
          go_wp2
          go_ret
          rw [HR'.out]
          exact ⟨rfl, _, rfl⟩
    · obtain rfl : L = 0 := by omega
      have HR' : Hid (R = true) := by
        show R = true
        rw [HR.out, decide_eq_true_eq, List.eq_nil_of_length_eq_zero HL.out.symm, List.eq_nil_of_length_eq_zero HM.out.symm]
      go_enter Tryz.func38, Tryz.ntmps38
      go_wp2_with fail
      refine wp_loop_rounds 1 ?_
      rw [rounds_succ]
      go_wp2
      go_ret
      rw [HR'.out]
      exact ⟨rfl, 0, rfl⟩
  · have hne : ((L : Int) != M) = true := by rw [bne_iff_ne]; omega
    have HR' : Hid (R = false) := by
      show R = false
      rw [HR.out, decide_eq_false_iff_not]
      intro h
      exact hLM (by rw [HL.out, HM.out, h])
    clear hLM
    go_enter Tryz.func38, Tryz.ntmps38
    go_wp2
    go_ret
    rw [HR'.out]
    exact ⟨rfl, 0, rfl⟩
theorem same_no (a b : Option Addr) (L M ca cb : Nat) (xs ys : List Nat) (w : World) (ha : Rs w a xs) (hb : Rs w b ys) (hL : L = xs.length) (hM : M = ys.length) (hne : xs ≠ ys) :
    Calls Tryz.prog 38 #[.slice a L ca, .slice b M cb] w fun e w' => e = .returned (.bool false) ∧ ∃ q, w' = w.drewN q := by
  refine (same_any a b L M ca cb xs ys w ha hb hL hM).mono ?_
  rintro e w' ⟨rfl, R⟩
  exact ⟨by simp [hne], R⟩
theorem same_yes (a b : Option Addr) (L M ca cb : Nat) (xs ys : List Nat) (w : World) (ha : Rs w a xs) (hb : Rs w b ys) (hL : L = xs.length) (hM : M = ys.length) (heq : xs = ys) :
    Calls Tryz.prog 38 #[.slice a L ca, .slice b M cb] w fun e w' => e = .returned (.bool true) ∧ ∃ q, w' = w.drewN q := by
  refine (same_any a b L M ca cb xs ys w ha hb hL hM).mono ?_
  rintro e w' ⟨rfl, R⟩
  exact ⟨by simp [heq], R⟩
end Go.Proofs.YtembflnhhfliaaaGreatDoor

/- Contracts of package chain's inner functions: Check, passed, sort.Search over it, upTo, stands. Conditions as each names them. -/
import Derived.Test.YtakbodlicfmkjaaGreatVx
import Derived.Deep.LoopGhost
import Derived.Deep.QuietTactic
import Derived.BigQuiet
namespace Go.Proofs.YtakbodlicfmkjaaGreat.O
open Go.ChangeShapes Go.WideShapes Go.ChangeAt Go.RowKit Go.Lib
set_option linter.unusedVariables false
set_option linter.unusedSimpArgs false

theorem _root_.Go.Proofs.YtakbodlicfmkjaaGreat.Fr.cell {w w' : World} (h : Fr [] w w') {a : Addr} {v : Value} (hc : w.cell? a = some v) : w'.cell? a = some v := by
  have hb := World.block_lt_of_cell? _ _ hc
  rw [World.cell?_of_block (h.block a.block hb (by simp))]
  exact hc
set_option maxHeartbeats 2000000 in
set_option maxRecDepth 100000 in
theorem passed_any (ao : Option Addr) (L cap : Nat) (k : Int) (i : Nat) (B : Bool) (vs : List Vn) (w : World) (hV : VRs w ao vs) (hL : L = vs.length) (hi : i < vs.length) (hB : decide (k < (vs.getD i Vn.zero).num) = B) :
    Calls Tryz.prog 333 #[.agg #[.slice ao L cap, .int .i64 k], .int .i64 (i : Int)] w fun e w' => e = .returned (.bool B) ∧ Fr [] w w' := by
  obtain ⟨b, off, rfl, hbl, hat⟩ := hV.lies (by omega)
  obtain ⟨c0, _, _⟩ := hat i hi
  obtain ⟨n, hn⟩ : ∃ n, n = (vs.getD i Vn.zero).num := ⟨_, rfl⟩
  rw [← hn] at c0 hB
  have hLL : L ≤ 4398046511104 := by have := hV.few; omega
  have hiL : i < L := by omega
  have HB : Hid (decide (k < n) = B) := hB
  clear hat hV hL hi hn hB
  obtain ⟨W, hW⟩ : ∃ W, W = w.alloc (.cells #[.slice (some ⟨b, off, none⟩) L cap, .int .i64 k] 432) := ⟨_, rfl⟩
  have hF : Fr [] w W := by rw [hW]; exact Fr.alloc _ _ _
  have d0 := hF.cell c0
  have d1 : W.cell? ⟨w.heap.size, 0, none⟩ = some (.slice (some ⟨b, off, none⟩) L cap) := by rw [hW, World.cell?_alloc_at _ _ _ _ (by simp)]; rfl
  have d2 : W.cell? ⟨w.heap.size, 1, none⟩ = some (.int .i64 k) := by rw [hW, World.cell?_alloc_at _ _ _ _ (by simp)]; rfl
  have HW : Hid (W = _) := hW
  have HF : Hid (Fr [] w W) := hF
  clear hW hF
  go_enter Tryz.func333, Tryz.ntmps333
  go_wp2_with fail
  rw [← HW.out]
  go_quiet (fail)
  all_goals (
    go_wp2
    go_ret
    rw [HB.out]
    exact ⟨rfl, HF.out.then (Fr.drewN _ _ _)⟩)
set_option maxHeartbeats 4000000 in
set_option maxRecDepth 1000000 in
theorem search_any (n : Nat) (x : Value) (p : Nat → Bool) (w : World) (hsz : n < 4611686018427387904)
    (hf : ∀ (W : World) (i : Nat), Fr [] w W → i < n → Calls Tryz.prog 333 #[x, .int .i64 (i : Int)] W fun e w' => e = .returned (.bool (p i)) ∧ Fr [] W w')
    (hmono : ∀ a b, a ≤ b → b < n → p a = true → p b = true) :
    Calls Tryz.prog 332 #[.int .i64 (n : Int), .func (.func 333) #[x] #[]] w fun e w' => ∃ c : Nat, e = .returned (.int .i64 (c : Int)) ∧ c ≤ n ∧ (∀ t, t < c → p t = false) ∧ (∀ t, c ≤ t → t < n → p t = true) ∧ Fr [] w w' := by
  have HF : Hid _ := hf
  have M : Hid _ := hmono
  clear hf hmono
  go_enter Tryz.func332, Tryz.ntmps332
  go_wp2
  go_loopg [5, 6] n (fun kx s5 s6 wr => ∃ (lo hi : Nat), s5 = .int .i64 lo ∧ s6 = .int .i64 hi ∧ lo ≤ hi ∧ hi ≤ n ∧ hi - lo ≤ kx ∧ Fr [] w wr ∧
    Hid ((∀ t, t < lo → p t = false) ∧ (∀ t, hi ≤ t → t < n → p t = true)))
  case atStart => exact ⟨0, n, rfl, rfl, Nat.zero_le _, Nat.le_refl _, by omega, Fr.refl _ _, (⟨fun t ht => absurd ht (Nat.not_lt_zero _), fun t h1 h2 => by omega⟩ : (∀ t, t < 0 → p t = false) ∧ (∀ t, n ≤ t → t < n → p t = true))⟩
  case round =>
    obtain ⟨lo, hi, rfl, rfl, hlh, hin, hg, hFr, I⟩ := hrel
    by_cases hlt : lo < hi
    · have hc := HF.out _ ((lo + hi) / 2) hFr (by omega)
      rw [show (((lo + hi) / 2 : Nat) : Int) = ((lo : Int) + (hi : Int)) / 2 by omega] at hc
      cases hp : p ((lo + hi) / 2) <;> rw [hp] at hc
      · have HP : Hid (p ((lo + hi) / 2) = false) := hp
        have HC : Hid _ := hc
        clear hp hc
        go_wp2_with (go_at_call 333; refine Calls.mono HC.out ?_; rintro e w' ⟨rfl, hF1⟩)
        go_roundg (hi - ((lo + hi) / 2 + 1))
        case measure => omega
        case rel =>
          have I2 : Hid ((∀ t, t < (lo + hi) / 2 + 1 → p t = false) ∧ (∀ t, hi ≤ t → t < n → p t = true)) := ⟨fun t ht => (by
            cases h : p t with
            | false => rfl
            | true => have := M.out t ((lo + hi) / 2) (by omega) (by omega) h; rw [HP.out] at this; cases this), I.out.2⟩
          exact ⟨(lo + hi) / 2 + 1, hi, by rw [show ((lo : Int) + (hi : Int)) / 2 + 1 = (((lo + hi) / 2 + 1 : Nat) : Int) by omega], rfl, by omega, hin, Nat.le_refl _, hFr.then hF1, I2⟩
      · have HP : Hid (p ((lo + hi) / 2) = true) := hp
        have HC : Hid _ := hc
        clear hp hc
        go_wp2_with (go_at_call 333; refine Calls.mono HC.out ?_; rintro e w' ⟨rfl, hF1⟩)
        go_roundg ((lo + hi) / 2 - lo)
        case measure => omega
        case rel =>
          have I2 : Hid ((∀ t, t < lo → p t = false) ∧ (∀ t, (lo + hi) / 2 ≤ t → t < n → p t = true)) := ⟨I.out.1, fun t ht htn => M.out ((lo + hi) / 2) t ht htn HP.out⟩
          exact ⟨lo, (lo + hi) / 2, rfl, by rw [show ((lo : Int) + (hi : Int)) / 2 = (((lo + hi) / 2 : Nat) : Int) by omega], by omega, by omega, Nat.le_refl _, hFr.then hF1, I2⟩
    · obtain rfl : hi = lo := by omega
      go_wp2
      go_ret
      exact ⟨hi, rfl, hin, I.out.1, I.out.2, hFr⟩
set_option maxHeartbeats 1000000 in
theorem upTo_any (ao : Option Addr) (L cap : Nat) (k : Int) (vs : List Vn) (w : World) (hV : VRs w ao vs) (hL : L = vs.length) (hR : Ris vs) :
    Calls Tryz.prog 327 #[.slice ao L cap, .int .i64 k] w fun e w' => ∃ c : Nat, e = .returned (.int .i64 (c : Int)) ∧ UpTo vs k c ∧ Fr [] w w' := by
  have HS : Hid (Calls _ _ _ _ _) := search_any L (.agg #[.slice ao L cap, .int .i64 k]) (fun i => decide (k < (vs.getD i Vn.zero).num)) w (by have := hV.few; omega)
    (fun W i hF hi => passed_any ao L cap k i _ vs W (hV.keep hF) hL (by omega) rfl)
    (fun a b hab hb h => by
      simp only [decide_eq_true_eq] at h ⊢
      by_cases e : a = b
      · subst e; exact h
      · have := ris_get hR (show a < b by omega) (by omega)
        omega)
  have HL : Hid (L = vs.length) := hL
  have hLL : L ≤ 4398046511104 := by have := hV.few; omega
  clear hV hL hR
  go_enter Tryz.func327, Tryz.ntmps327
  go_wp2_with fail
  refine Calls.mono HS.out ?_
  rintro e w1 ⟨c, rfl, hcL, h1, h2, hF⟩
  have HU : Hid (UpTo vs k c) := ⟨by have := HL.out; omega, fun j hj => by have := h1 j hj; simp only [decide_eq_false_iff_not] at this; omega, fun j hj hj2 => by have := h2 j hj (by have := HL.out; omega); simpa using this⟩
  clear h1 h2 HS
  go_wp2
  go_ret
  exact ⟨c, rfl, HU.out, hF⟩
set_option maxHeartbeats 1000000 in
set_option maxRecDepth 100000 in
theorem stands_any (ao : Option Addr) (L cap c : Nat) (k : Int) (B : Bool) (vs : List Vn) (w : World) (hV : VRs w ao vs) (hL : L = vs.length) (hc : c ≤ L) (hB : B = true ↔ 0 < c ∧ (vs.getD (c - 1) Vn.zero).num = k) :
    Calls Tryz.prog 330 #[.slice ao L cap, .int .i64 (c : Int), .int .i64 k] w fun e w' => e = .returned (.bool B) ∧ Fr [] w w' := by
  have hLL : L ≤ 4398046511104 := by have := hV.few; omega
  by_cases h0 : c = 0
  · subst h0
    obtain rfl : B = false := by
      cases B with
      | false => rfl
      | true => have := hB.1 rfl; omega
    clear hB hV hL
    go_enter Tryz.func330, Tryz.ntmps330
    go_wp2
    go_ret
    exact ⟨rfl, Fr.refl _ _⟩
  · obtain ⟨d, rfl⟩ : ∃ d, c = d + 1 := ⟨c - 1, by omega⟩
    obtain ⟨b, off, rfl, hbl, hat⟩ := hV.lies (by omega)
    obtain ⟨c0, _, _⟩ := hat d (by omega)
    simp only [Nat.add_sub_cancel] at hB
    obtain ⟨n, hn⟩ : ∃ n, n = (vs.getD d Vn.zero).num := ⟨_, rfl⟩
    rw [← hn] at c0 hB
    have HB : Hid ((n == k) = B) := by
      show _ = _
      cases B with
      | true => simpa using (hB.1 rfl).2
      | false =>
        rw [beq_eq_false_iff_ne]
        intro e
        have := hB.2 ⟨by omega, e⟩
        cases this
    clear hB hV hL hat hn h0
    have hdL : d < L := by omega
    go_enter Tryz.func330, Tryz.ntmps330
    go_wp2
    go_ret
    rw [HB.out]
    exact ⟨rfl, Fr.refl _ _⟩
end Go.Proofs.YtakbodlicfmkjaaGreat.O

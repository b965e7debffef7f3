/- The document's May of a mark with numbers beyond it, and its among. Conditions: numbers as they lie. -/
import Derived.Test.YtdojhkgnnbdfkaaGreatCh18
namespace Go.Proofs.YtdojhkgnnbdfkaaGreat
open Go.ChangeShapes Go.WideShapes Go.ChangeAt Go.RowKit Go.Lib Go.Maps
set_option linter.unusedVariables false
set_option linter.unusedSimpArgs false

def GokB (m : Int) (xs : List Int) : Prop := 0 ≤ m ∧ m ≤ 65536 ∧ BeyOk m xs
set_option maxHeartbeats 8000000 in
set_option maxRecDepth 100000 in
theorem omay18_any (m : Int) (ao : Option Addr) (L cap : Nat) (xs : List Int) (b : Bool) (w : World) (hX : IRs w ao xs) (hL : L = xs.length) (hb : b = true ↔ GokB m xs) :
    Calls Tryz.prog 32 #[.int .i64 m, .slice ao L cap] w fun e w' => e = .returned (.bool b) ∧ Fr [] w w' := by
  have hbf : ¬ GokB m xs → b = false := fun h => by
    cases hbb : b with
    | false => rfl
    | true => exact absurd (hb.1 hbb) h
  by_cases h0 : m < 0
  · have hb0 := hbf (fun h => by have := h.1; omega)
    subst hb0
    clear hb hbf
    go_enter Tryz.func32, Tryz.ntmps32
    go_wp2
    go_ret
    exact ⟨rfl, Fr.refl _ _⟩
  by_cases h1 : 65536 < m
  · have hb0 := hbf (fun h => by have := h.2.1; omega)
    subst hb0
    clear hb hbf
    go_enter Tryz.func32, Tryz.ntmps32
    go_wp2
    go_ret
    exact ⟨rfl, Fr.refl _ _⟩
  have HL : Hid (L = xs.length) := hL
  have hLL : L ≤ 17592186044416 := by rw [hL]; exact hX.few
  have HX : Hid (∀ W, Fr [] w W → IRs W ao xs) := fun W hf => hX.keep hf
  have HB : Hid ((b = true ↔ GokB m xs) ∧ (¬ GokB m xs → b = false)) := ⟨hb, hbf⟩
  clear hX hL hb hbf
  go_enter Tryz.func32, Tryz.ntmps32
  go_wp2_with fail
  go_loopw [5] (fun ii wr => ∃ i : Nat, ii = .int .i64 i ∧ i ≤ L ∧ Hid (GokB m (xs.take i)) ∧ Hid (Fr [] w wr)) (fun ii _ => L - (RowKit.intOf ii).toNat)
  case atStart => exact ⟨0, rfl, Nat.zero_le _, ⟨by omega, by omega, BeyOk.nil _⟩, Fr.refl _ _⟩
  case round =>
    obtain ⟨i, rfl, hi1, HG, HF⟩ := hrel
    by_cases hi : i < L
    · have hix : i < xs.length := by rw [← HL.out]; exact hi
      obtain ⟨bb, off, rfl, _, hc⟩ := (HX.out _ HF.out).lies (by omega)
      have hci := hc i hix
      have HSt : Hid (BeyOk m (xs.take (i + 1)) ↔ lastB m xs i ≤ xs.getD i 0 ∧ xs.getD i 0 ≤ 65536) := BeyOk.step HG.out.2.2 hix
      have hmem : xs.getD i 0 ∈ xs := by simp [List.getD, hix]
      have hil : (i : Int) < (L : Int) := by omega
      cases i with
      | zero =>
        obtain ⟨x, hx⟩ : ∃ x, x = xs.getD 0 0 := ⟨_, rfl⟩
        rw [← hx] at hci HSt hmem
        clear hx hc
        rw [Nat.add_zero] at hci
        by_cases h2 : x < m + 2
        · have hb0 : b = false := HB.out.2 (fun hG => by
            have := hG.2.2.low x hmem
            omega)
          subst hb0
          have d1 : decide (x < m + 2) = true := by simpa using h2
          clear hmem HSt HB
          go_wp2_with fail
          go_quiet (fail)
          go_wp2
          go_ret
          exact ⟨rfl, HF.out.then (Fr.drewN _ _ _)⟩
        have d1 : decide (x < m + 2) = false := by simpa using h2
        by_cases h3 : 65536 < x
        · have hb0 : b = false := HB.out.2 (fun hG => by
            have := hG.2.2.high x hmem
            omega)
          subst hb0
          have d2 : decide (65536 < x) = true := by simpa using h3
          clear hmem HSt HB
          go_wp2_with fail
          go_quiet (fail)
          go_wp2
          go_ret
          exact ⟨rfl, HF.out.then (Fr.drewN _ _ _)⟩
        have d2 : decide (65536 < x) = false := by simpa using h3
        have HG2 : Hid (GokB m (xs.take (0 + 1))) := by
          exact ⟨by omega, by omega, HSt.out.2 ⟨by show m + 2 ≤ x; omega, by omega⟩⟩
        clear hmem HSt
        go_wp2_with fail
        go_quiet (fail)
        have HF2 : Hid (Fr [] w (wr.drewN nq)) := HF.out.then (Fr.drewN _ _ _)
        go_wp2
        go_roundw
        case rel => exact ⟨1, by simp, by omega, HG2, HF2⟩
        case measure => simp [RowKit.intOf]; omega
      | succ i =>
        have hcp := hc i (by omega)
        have hpr : xs.Pairwise (· < ·) → xs.getD i 0 < xs.getD (i + 1) 0 := fun hr => by
          have := List.pairwise_iff_getElem.1 hr i (i + 1) (by omega) hix (by omega)
          have h3 : i < xs.length := by omega
          simpa [List.getD, h3, hix] using this
        obtain ⟨x, hx⟩ : ∃ x, x = xs.getD (i + 1) 0 := ⟨_, rfl⟩
        obtain ⟨y, hy⟩ : ∃ y, y = xs.getD i 0 := ⟨_, rfl⟩
        rw [← hx] at hci HSt hmem hpr
        have HY : Hid (y = xs.getD i 0) := hy
        rw [← hy] at hcp hpr
        clear hx hy hc
        have hiw : IntKind.i64.wrap ((i : Int)) = (i : Int) := by rw [IntKind.wrap_i64]; omega
        have d0 : decide ((0 : Int) < ((i + 1 : Nat) : Int)) = true := by simp
        by_cases h2 : x < m + 2
        · have hb0 : b = false := HB.out.2 (fun hG => by
            have := hG.2.2.low x hmem
            omega)
          subst hb0
          have d1 : decide (x < m + 2) = true := by simpa using h2
          clear hmem HSt HB hpr HY
          go_wp2_with fail
          go_quiet (fail)
          go_wp2
          go_ret
          exact ⟨rfl, HF.out.then (Fr.drewN _ _ _)⟩
        have d1 : decide (x < m + 2) = false := by simpa using h2
        by_cases h3 : 65536 < x
        · have hb0 : b = false := HB.out.2 (fun hG => by
            have := hG.2.2.high x hmem
            omega)
          subst hb0
          have d2 : decide (65536 < x) = true := by simpa using h3
          clear hmem HSt HB hpr HY
          go_wp2_with fail
          go_quiet (fail)
          go_wp2
          go_ret
          exact ⟨rfl, HF.out.then (Fr.drewN _ _ _)⟩
        have d2 : decide (65536 < x) = false := by simpa using h3
        by_cases h4 : x ≤ y
        · have hb0 : b = false := HB.out.2 (fun hG => by
            have := hpr hG.2.2.rise
            omega)
          subst hb0
          have d3 : decide (x ≤ y) = true := by simpa using h4
          clear hmem HSt HB hpr HY
          go_wp2_with fail
          go_quiet (fail)
          go_wp2
          go_ret
          exact ⟨rfl, HF.out.then (Fr.drewN _ _ _)⟩
        have d3 : decide (x ≤ y) = false := by simpa using h4
        have HG2 : Hid (GokB m (xs.take (i + 1 + 1))) := by
          exact ⟨by omega, by omega, HSt.out.2 ⟨by rw [lastB_succ]; rw [← HY.out]; omega, by omega⟩⟩
        clear hmem HSt hpr HY
        go_wp2_with fail
        go_quiet (fail)
        have HF2 : Hid (Fr [] w (wr.drewN nq)) := HF.out.then (Fr.drewN _ _ _)
        go_wp2
        go_roundw
        case rel => exact ⟨i + 1 + 1, by simp, by omega, HG2, HF2⟩
        case measure => simp [RowKit.intOf]; omega
    · have hb1 : b = true := HB.out.1.2 (by
        have := HG.out
        rwa [List.take_of_length_le (by rw [← HL.out]; omega)] at this)
      subst hb1
      go_wp2
      go_ret
      exact ⟨rfl, HF.out⟩
set_option maxHeartbeats 4000000 in
set_option maxRecDepth 100000 in
theorem ywamong_any (ao : Option Addr) (L cap : Nat) (xs : List Int) (n : Int) (T : Bool) (w : World) (hX : IRs w ao xs) (hL : L = xs.length) (hT : T = true ↔ n ∈ xs) :
    Calls Tryz.prog 34 #[.slice ao L cap, .int .i64 n] w fun e w' => e = .returned (.bool T) ∧ w = w' := by
  have HL : Hid (L = xs.length) := hL
  have hLL : L ≤ 17592186044416 := by rw [hL]; exact hX.few
  have HX : Hid (IRs w ao xs) := hX
  have HT : Hid (T = true ↔ n ∈ xs) := hT
  clear hX hL hT
  go_enter Tryz.func34, Tryz.ntmps34
  go_wp2_with fail
  go_loopw [5] (fun ii wr => ∃ i : Nat, ii = .int .i64 i ∧ i ≤ L ∧ Hid (n ∉ xs.take i) ∧ w = wr) (fun ii _ => L - (RowKit.intOf ii).toNat)
  case atStart => exact ⟨0, rfl, Nat.zero_le _, by simp [Hid], rfl⟩
  case round =>
    obtain ⟨i, rfl, hi1, HI, rfl⟩ := hrel
    by_cases hi : i < L
    · have hix : i < xs.length := by rw [← HL.out]; exact hi
      obtain ⟨bb, off, rfl, _, hc⟩ := HX.out.lies (by omega)
      have hci := hc i hix
      have hmem : xs.getD i 0 ∈ xs := by simp [List.getD, hix]
      have HS := itake_snoc xs i hix
      have hil : (i : Int) < (L : Int) := by omega
      obtain ⟨x, hx⟩ : ∃ x, x = xs.getD i 0 := ⟨_, rfl⟩
      rw [← hx] at hci hmem HS
      clear hx hc
      by_cases h2 : x = n
      · have ht : T = true := HT.out.2 (h2 ▸ hmem)
        subst ht
        subst h2
        clear HT HS hmem HI
        go_wp2
        go_ret
        exact ⟨rfl, rfl⟩
      · have HI2 : Hid (n ∉ xs.take (i + 1)) := by
          show n ∉ _
          rw [HS]
          intro h
          rcases List.mem_append.1 h with h3 | h3
          · exact HI.out h3
          · rw [List.mem_singleton] at h3; exact h2 h3.symm
        have d1 : decide (x = n) = false := by simpa using h2
        clear HS hmem HI
        go_wp2_with fail
        go_roundw
        case rel => exact ⟨i + 1, by simp, by omega, HI2, trivial⟩
        case measure => simp [RowKit.intOf]; omega
    · have ht : T = false := by
        cases hq : T with
        | false => rfl
        | true => exact absurd (HT.out.1 hq) (by have := HI.out; rwa [List.take_of_length_le (by rw [← HL.out]; omega)] at this)
      subst ht
      have hil : ¬ (i : Int) < (L : Int) := by omega
      clear HT HI
      go_wp2
      go_ret
      exact ⟨rfl, rfl⟩
end Go.Proofs.YtdojhkgnnbdfkaaGreat

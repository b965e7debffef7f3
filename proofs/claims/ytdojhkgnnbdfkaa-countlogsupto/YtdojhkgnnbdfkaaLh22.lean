/- How many steps a log takes: what the program's Log answers, whatever is asked. Conditions: the slices hold no more than fits. -/
import Derived.Test.YtdojhkgnnbdfkaaLg22
namespace Go.Proofs.Ytdojhkgnnbdfkaa
open Go.ChangeShapes Go.WideShapes Go.ChangeAt Go.RowKit Go.Lib
set_option linter.unusedVariables false
set_option linter.unusedSimpArgs false

set_option maxHeartbeats 8000000 in
set_option maxRecDepth 100000 in
theorem nlog_no (ao : Option Addr) (L cap : Nat) (ts : List Tm) (m : Int) (bo : Option Addr) (Lb cb : Nat) (bs : List Int) (w : World) (hT : TRs w ao ts) (hL : L = ts.length) (hI : IRs w bo bs) (hLb : Lb = bs.length) (hok : ¬ LgOk ts m bs) :
    Calls Try.prog 12 #[.slice ao L cap, .int .i64 m, .slice bo Lb cb] w fun e w' => e = .returned (.tuple #[.int .i64 0, .int .i64 1]) ∧ Fr [] w w' := by
  obtain ⟨cc, hcc⟩ := Bad.ex (txs ts) 1
  have HCk : Hid (∀ W, Fr [] w W → Calls Try.prog 23 #[.slice ao L cap] W fun e w' => e = .returned (.int .i64 (cc : Int)) ∧ Fr [] W w') := fun W hf => lcheck_any ao L cap cc ts W (hT.keep hf) hL hcc
  have hLf := hT.few
  rw [← hL] at hLf
  by_cases h0 : cc = 0
  · have ho1 := hcc.ok.1 h0
    have HCk0 : Hid (∀ W, Fr [] w W → Calls Try.prog 23 #[.slice ao L cap] W fun e w' => e = .returned (.int .i64 0) ∧ Fr [] W w') := fun W hf => by
      have := HCk.out W hf
      rw [h0] at this
      exact this
    have n1 : ((0 : Int) != 0) = false := rfl
    by_cases h1 : m < 0
    · clear HCk hT hI hcc hok ho1 hL hLb
      have n2 : decide (m < 0) = true := by simp [h1]
      go_enter Try.func12, Try.ntmps12
      go_wp2_with fail
      with_reducible refine Calls.mono (HCk0.out _ (Fr.refl _ _)) ?_
      rintro e w1 ⟨rfl, hF1⟩
      go_wp2_with fail
      go_ret2
      exact ⟨rfl, hF1⟩
    · have n2 : decide (m < 0) = false := by simp [h1]
      by_cases h2 : (L : Int) < m
      · clear HCk hT hI hcc hok ho1 hL hLb
        have n3 : decide ((L : Int) < m) = true := by simp [h2]
        go_enter Try.func12, Try.ntmps12
        go_wp2_with fail
        with_reducible refine Calls.mono (HCk0.out _ (Fr.refl _ _)) ?_
        rintro e w1 ⟨rfl, hF1⟩
        go_wp2_with fail
        go_ret2
        exact ⟨rfl, hF1⟩
      · have n3 : decide ((L : Int) < m) = false := by simp [h2]
        have HMb : Hid (∀ W, Fr [] w W → Calls Try.prog 24 #[.slice bo Lb cb, .int .i64 m, .int .i64 (L : Int)] W fun e w' => e = .returned (.bool false) ∧ Fr [] W w') := fun W hf => (nmayb_any bo Lb cb bs m L W (hI.keep hf) hLb (by omega)).mono (by
          rintro e w' ⟨⟨B, rfl, hB⟩, h3⟩
          have : B = false := by
            cases B with
            | false => rfl
            | true => exact absurd ⟨ho1, by omega, by rw [← hL]; omega, by rw [← hL]; exact hB.1 rfl⟩ hok
          subst this
          exact ⟨rfl, h3⟩)
        clear HCk hT hI hcc hok ho1 hL hLb
        go_enter Try.func12, Try.ntmps12
        go_wp2_with fail
        with_reducible refine Calls.mono (HCk0.out _ (Fr.refl _ _)) ?_
        rintro e w1 ⟨rfl, hF1⟩
        go_wp2_with fail
        with_reducible refine Calls.mono (HMb.out _ hF1) ?_
        rintro e w2 ⟨rfl, hF2⟩
        go_wp2_with fail
        go_ret2
        exact ⟨rfl, hF1.then hF2⟩
  · have n1 : ((cc : Int) != 0) = true := by simp; omega
    clear hT hI hcc hok hL hLb
    go_enter Try.func12, Try.ntmps12
    go_wp2_with fail
    with_reducible refine Calls.mono (HCk.out _ (Fr.refl _ _)) ?_
    rintro e w1 ⟨rfl, hF1⟩
    go_wp2_with fail
    go_ret2
    exact ⟨rfl, hF1⟩
theorem nlog_any (ao : Option Addr) (L cap : Nat) (ts : List Tm) (m : Int) (bo : Option Addr) (Lb cb : Nat) (bs : List Int) (w : World) (hT : TRs w ao ts) (hL : L = ts.length) (hcap : L ≤ cap) (hI : IRs w bo bs) (hLb : Lb = bs.length) (hcb : Lb ≤ cb) :
    Calls Try.prog 12 #[.slice ao L cap, .int .i64 m, .slice bo Lb cb] w fun e w' => ∃ r c : Int, e = .returned (.tuple #[.int .i64 r, .int .i64 c]) ∧ LgP ts m bs r c ∧ Fr [] w w' := by
  by_cases hok : LgOk ts m bs
  · obtain ⟨M, rfl⟩ : ∃ M : Nat, m = (M : Int) := ⟨m.toNat, by have := hok.2.1; omega⟩
    refine (nlog_ok ao L cap ts M bo Lb cb bs w hT hL hcap hI hLb hcb hok).mono ?_
    rintro e w' ⟨rfl, hf⟩
    exact ⟨_, _, rfl, .inl ⟨hok, by simp, rfl⟩, hf⟩
  · refine (nlog_no ao L cap ts m bo Lb cb bs w hT hL hI hLb hok).mono ?_
    rintro e w' ⟨rfl, hf⟩
    exact ⟨_, _, rfl, .inr ⟨hok, rfl, rfl⟩, hf⟩
end Go.Proofs.Ytdojhkgnnbdfkaa

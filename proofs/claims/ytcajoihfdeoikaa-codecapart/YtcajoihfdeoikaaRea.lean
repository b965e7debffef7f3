/- What the codec's reader takes: contracts of Var, Int, Fixed, Text. Conditions: the reader's bytes are fewer than 2^41. -/
import Derived.Test.YtcajoihfdeoikaaSame
namespace Go.Proofs.Ytcajoihfdeoikaa
open Go.ChangeShapes Go.WideShapes Go.ChangeAt Go.RowKit Go.Lib

set_option maxHeartbeats 1000000 in
theorem rVar_any (g r : Nat) (xs : List Nat) (er : Nat) (ao : Option Addr) (cap : Nat) (w : World) (h : Rd w g r xs er ao cap) :
    Calls Try.prog 28 #[.pointer (some ⟨g, 0, none⟩)] w fun e w' => e = .returned (.int .u64 ((rdBy (shortF 0 0) 0 xs er).1 : Nat)) ∧ ∃ ao' cap', Rd w' g r (rdBy (shortF 0 0) 0 xs er).2.1 (rdBy (shortF 0 0) 0 xs er).2.2 ao' cap' ∧ Fr [g] w w' := by
  have hA : Ans 46 #[.slice ao xs.length cap] w (.tuple #[.int .u64 ((shortF 0 0 xs).1 : Nat), .int .i64 ((shortF 0 0 xs).2.1 : Nat), .int .i64 ((shortF 0 0 xs).2.2 : Nat)]) := by
    refine (cVar_any r ao _ cap xs w h.sl rfl).mono ?_
    rintro e w' ⟨rfl, rfl⟩
    exact ⟨rfl, 0, rfl⟩
  obtain ⟨f, hf⟩ : ∃ f, f = shortF 0 0 := ⟨_, rfl⟩
  rw [← hf] at hA ⊢
  have hsz : (f xs).2.2 = 0 → 0 < xs.length ∧ (f xs).2.1 ≤ xs.length := by
    intro h0
    rw [hf] at h0 ⊢
    have := shortF_size xs 0 0 h0
    omega
  clear hf
  go_enter Try.func28, Try.ntmps28
  go_wp2_with fail
  refine (takeVar_rd f g r xs er ao cap w h hsz (fun _ => hA)).mono ?_
  rintro e w' ⟨rfl, R⟩
  go_wp2
  go_ret
  exact ⟨rfl, R⟩

theorem zag_any (x : Int) (w : World) (h0 : 0 ≤ x) (h1 : x ≤ 18446744073709551615) :
    Calls Try.prog 43 #[.int .u64 x] w fun e w' => e = .returned (.int .i64 (zag x)) ∧ w = w' := by
  go_enter Try.func43, Try.ntmps43
  go_wp2
  go_ret
  exact ⟨congrArg (fun z => Ending.returned (.int .i64 z)) (zag_code x h0 h1), rfl⟩
end Go.Proofs.Ytcajoihfdeoikaa

/- What Shard answers, the program's and the document's. Conditions: a key of fewer than 2^63 bytes. -/
import Derived.Test.YtdojhkgnnbdfkaaGreatCf13
namespace Go.Proofs.YtdojhkgnnbdfkaaGreat
open Go.ChangeShapes Go.WideShapes Go.ChangeAt Go.RowKit Go.Lib
set_option linter.unusedVariables false
set_option linter.unusedSimpArgs false

/-- The shard of a key that may be. -/
def shN13 (s : Int) (key : ByteArray) : Int := ((hashOf (strNs key) : Nat) : Int) % s
/-- What Shard answers. -/
def Cf.shard (c : Cf) (key : ByteArray) : Int × Int := if ¬ c.may then (0, 7) else if ¬ (1 ≤ key.size ∧ key.size ≤ 64) then (0, 1) else (shN13 c.s key, 0)

set_option maxHeartbeats 1000000 in
theorem key_any (s : ByteArray) (w : World) :
    Calls Tryz.prog 56 #[.string s] w fun e w' => e = .returned (.bool (decide (1 ≤ s.size ∧ s.size ≤ 64))) ∧ w = w' := by
  by_cases h : 1 ≤ s.size
  · have h' : (1 : Int) ≤ s.size := by omega
    by_cases h2 : s.size ≤ 64
    · have h2' : (s.size : Int) ≤ 64 := by omega
      go_enter Tryz.func56, Tryz.ntmps56
      go_wp2
      go_ret
      exact ⟨by rw [decide_eq_true (p := 1 ≤ s.size ∧ s.size ≤ 64) ⟨h, h2⟩]; rfl, rfl⟩
    · have h2' : ¬ (s.size : Int) ≤ 64 := by omega
      go_enter Tryz.func56, Tryz.ntmps56
      go_wp2
      go_ret
      exact ⟨rfl, rfl⟩
  · have h' : ¬ (1 : Int) ≤ s.size := by omega
    go_enter Tryz.func56, Tryz.ntmps56
    go_wp2
    go_ret
    exact ⟨rfl, rfl⟩

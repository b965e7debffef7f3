/- The document's Key, Val, Write, Number. Conditions as each names them. -/
import Derived.Test.YtdojhkgnnbdfkaaGreatHs9
import Derived.Test.YtdojhkgnnbdfkaaGreatUc8
namespace Go.Proofs.YtdojhkgnnbdfkaaGreat
open BigFrame Go.ChangeShapes Go.WideShapes Go.ChangeAt Go.RowKit Go.Lib
set_option linter.unusedVariables false
set_option linter.unusedSimpArgs false

/-- A write: key, value, drop. -/
structure Wt where
  key : ByteArray
  val : ByteArray
  drop : Bool
/-- May a write be? -/
def okW (x : Wt) : Prop := 1 ≤ x.key.size ∧ x.key.size ≤ 64 ∧ x.val.size ≤ 1024 ∧ (x.drop = true → x.val = noS)
theorem xKey_any (s : ByteArray) (B : Bool) (w : World) (hs : s.size ≤ 140737488355328) (hB : B = true ↔ 1 ≤ s.size ∧ s.size ≤ 64) : Calls Tryz.prog 56 #[.string s] w fun e w' => e = .returned (.bool B) ∧ w = w' := by
  have HB : Hid (B = true ↔ 1 ≤ s.size ∧ s.size ≤ 64) := hB
  clear hB
  by_cases h1 : 1 ≤ s.size
  · have h1' : (1 : Int) ≤ s.size := by omega
    by_cases h2 : s.size ≤ 64
    · have h2' : (s.size : Int) ≤ 64 := by omega
      have HR : Hid (B = true) := HB.out.2 ⟨h1, h2⟩
      go_enter Tryz.func56, Tryz.ntmps56
      go_wp2
      go_ret
      rw [HR.out]
      simp [h2']
    · have h2' : decide ((s.size : Int) ≤ 64) = false := by simp; omega
      have HR : Hid (B = false) := by show B = false; simpa using fun h : B = true => h2 (HB.out.1 h).2
      clear h2
      go_enter Tryz.func56, Tryz.ntmps56
      go_wp2
      go_ret
      rw [HR.out]
      simp [h2']
  · have h1' : decide ((1 : Int) ≤ s.size) = false := by simp; omega
    have h1'' : (s.size : Int) < 1 := by omega
    have HR : Hid (B = false) := by show B = false; simpa using fun h : B = true => h1 (HB.out.1 h).1
    clear h1
    go_enter Tryz.func56, Tryz.ntmps56
    go_wp2
    go_ret
    rw [HR.out]
    simp
/-- It tells whether the write may be. -/
def TellsY (e : Ending) (x : Wt) : Prop := ∃ B : Bool, e = .returned (.bool B) ∧ (B = true ↔ okW x)
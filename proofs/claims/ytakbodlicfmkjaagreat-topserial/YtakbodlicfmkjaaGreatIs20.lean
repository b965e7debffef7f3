/- Is it a source? Conditions as each names them. -/
import Derived.Test.YtakbodlicfmkjaaGreatTp20
import Derived.Test.YtakbodlicfmkjaaGreatGet6
namespace Go.Proofs.YtakbodlicfmkjaaGreat
open Go.ChangeShapes Go.WideShapes Go.ChangeAt Go.RowKit Go.Lib
set_option linter.unusedVariables false
set_option linter.unusedSimpArgs false
section
variable {w0 w : World} {g lb L : Nat} {ts : List Tm} {v : Value} {qs : List Nat}
theorem isSource_any (h : F.Src w0 w g lb L ts v qs) : Calls Tryz.prog 28 #[.pointer (some ⟨g, 0, none⟩)] w fun e w' => e = .returned (.bool true) ∧ Fr [] w w' := by
  have HG : Hid (Calls _ _ _ _ _) := F.get_no h 0 (Or.inl (by omega)) (by omega)
  clear h
  go_enter Tryz.func28, Tryz.ntmps28
  go_wp2_with fail
  refine Calls.mono HG.out ?_
  rintro e w1 ⟨rfl, hf⟩
  have HF : Hid (Fr [] w w1) := hf
  clear hf
  go_wp2
  go_ret
  exact ⟨rfl, HF.out.then (Fr.alloc _ _ _)⟩
end
end Go.Proofs.YtakbodlicfmkjaaGreat

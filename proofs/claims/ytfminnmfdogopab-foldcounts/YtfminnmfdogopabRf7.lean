/- The document's Store, Get, Stretch and Scan. Conditions as each names them. -/
import Derived.Test.YtfminnmfdogopabFld7
import Derived.Test.YtfminnmfdogopabRefC
namespace Go.Proofs.Ytfminnmfdogopab
open Go.ChangeShapes Go.WideShapes Go.ChangeAt Go.RowKit Go.Lib Go.Maps Go.Sort
set_option linter.unusedVariables false
set_option linter.unusedSimpArgs false

theorem inS_all2 (s : ByteArray) : inS ⟨#[]⟩ ⟨#[]⟩ s = true := by
  have hE0 : (⟨#[]⟩ : ByteArray).toList = [] := (tl_nil _).2 rfl
  unfold inS
  rw [hE0]
  cases s.toList <;> simp [Op.bytesLess]
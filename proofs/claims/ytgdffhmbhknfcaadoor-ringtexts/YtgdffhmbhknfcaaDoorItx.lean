/- A number as a text: strconv.Itoa. Conditions: the table of powers of ten reads as the library lays it. -/
import Derived.Test.YtgdffhmbhknfcaaDoorIt10
import Derived.Test.YtgdffhmbhknfcaaDoorQc10
import Derived.Shelf.Strconv.Itoa3
import Derived.Shelf.Lay
import Derived.Lib.ItoaLen
namespace Go.Proofs
open Go.Shelf
shelf_lay LaysM.n171 Nm 171 at Tryd as Tryd.laysItoa
end Go.Proofs
namespace Go.Proofs.YtgdffhmbhknfcaaDoor.Bq
open BigFrame Go.ChangeShapes Go.WideShapes Go.ChangeAt Go.RowKit Go.Lib Go.Shelf
set_option linter.unusedVariables false
/-- The table of powers of ten reads as the library lays it. -/
def Tab (w : World) : Prop := Lib.TabIs Tryd.prog w "internal/strconv.uint64pow10" .u64 Lib.pow10Tab
noncomputable def gTab : Nat := (Tryd.prog.globalNamed "internal/strconv.uint64pow10").getD 0
theorem gTab_is : Tryd.prog.globalNamed "internal/strconv.uint64pow10" = some gTab := by kernel_rfl
theorem Tab.lt {w : World} (h : Tab w) : gTab < w.heap.size := by
  have h' : w.var? Tryd.prog "internal/strconv.uint64pow10" = some (Lib.pow10Tab.map fun z => Value.int .u64 z).toArray := h
  unfold World.var? at h'
  rw [gTab_is] at h'
  simp only [Option.bind_some] at h'
  by_cases hg : gTab < w.heap.size
  · exact hg
  · rw [Array.getElem?_eq_none (by omega)] at h'
    simp at h'
theorem Tab.keep {S : List Nat} {w w' : World} (h : Tab w) (hf : Fr S w w') (hn : gTab ∉ S) : Tab w' := by
  have hlt := h.lt
  have h' : w.var? Tryd.prog "internal/strconv.uint64pow10" = some (Lib.pow10Tab.map fun z => Value.int .u64 z).toArray := h
  show w'.var? Tryd.prog "internal/strconv.uint64pow10" = _
  rw [← h']
  unfold World.var?
  rw [gTab_is]
  simp only [Option.bind_some]
  rw [hf.block gTab hlt hn]
end Go.Proofs.YtgdffhmbhknfcaaDoor.Bq
namespace Go.Proofs.YtgdffhmbhknfcaaDoor
open BigFrame Go.ChangeShapes Go.WideShapes Go.ChangeAt Go.RowKit Go.Lib Go.Shelf
/-- A number as a text. -/
def it (n : Int) : ByteArray := ⟨(Lib.itoa n).toArray⟩
def okI (n : Int) : Prop := -9223372036854775808 ≤ n ∧ n ≤ 9223372036854775807
theorem itoa_all (n : Int) (hn : okI n) (w : World) (ht : Bq.Tab w) : Calls Tryd.prog 8 #[.int .i64 n] w fun e w' => e = .returned (.string (it n)) ∧ Fr [] w w' := by
  obtain ⟨h1, h2⟩ := hn
  refine (Any.strconv_Itoa Tryd.laysItoa n (by omega) (by omega) w ht).mono ?_
  rintro e w' ⟨rfl, k, os, rfl⟩
  refine ⟨rfl, rfl, rfl, rfl, by simp [Sort.grow], fun i hi _ => ?_⟩
  exact Array.getElem?_append_left hi
end Go.Proofs.YtgdffhmbhknfcaaDoor

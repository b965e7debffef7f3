/- Contracts and lemmas. -/
import Derived.Laws.Rows
namespace Go.Proofs.YtojjdnjfaelnfaaGreatDoor
theorem crw{w:World}{g j:Nat}{cs:Array Value}{t:TypeId}{fr:Nat×Nat}(h:w.heap[g]? = some (.cells cs t fr)):w.cell? ⟨g,j,none⟩=cs[j]?:=cell_of_row w g j cs t fr h
end Go.Proofs.YtojjdnjfaelnfaaGreatDoor

/- What the statements' helpers TwinBytes and LeftBytes answer. Conditions: fewer than 2^41 bytes. -/
import Derived.Test.YtdojhkgnnbdfkaaGreatDe18
import Derived.Test.YtdojhkgnnbdfkaaGreatSame
import Derived.Test.YtdojhkgnnbdfkaaGreatArg
import Derived.Test.YtdojhkgnnbdfkaaGreatWant2
namespace Go.Proofs.YtdojhkgnnbdfkaaGreat
open Go.ChangeShapes Go.WideShapes Go.ChangeAt Go.RowKit Go.Lib

theorem own_full {w : World} {g n : Nat} {xs : List Value} (h : w.ownsRow 0 5 1 (.slice (some ⟨g, 0, none⟩) n n) n xs) : w.heap[g]? = some (.cells xs.toArray 5 (0, 0)) := by
  have hl := h.1
  rcases h.2 with ⟨hh, _⟩ | ⟨g', cap', cur, hh, _, hg, _, _, hcs, ht⟩
  · cases hh
  · cases hh
    rw [hg]
    congr 2
    rw [← Array.toList_inj]
    simp only
    rw [← ht, List.take_of_length_le (by simp [hcs])]

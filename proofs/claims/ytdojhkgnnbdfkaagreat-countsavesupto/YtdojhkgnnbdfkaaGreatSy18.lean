/- How great versions, keys, what a checkpoint says are together, by the statements' own measure: exact up to their bound. Conditions as each names them. -/
import Derived.Test.YtdojhkgnnbdfkaaGreatSv18
import Derived.Deep.RegionHeld3
namespace Go.Proofs.YtdojhkgnnbdfkaaGreat
open Go.ChangeShapes Go.WideShapes Go.ChangeAt Go.RowKit Go.Lib Go.Maps
set_option linter.unusedVariables false
set_option linter.unusedSimpArgs false

theorem szXs_alt (vs : List Vn) : szXs vs = vs.length + (vs.map (fun v => v.val.size)).sum := by
  induction vs with
  | nil => rfl
  | cons v r ih =>
    simp only [szXs, List.map_cons, List.sum_cons, List.length_cons] at ih ⊢
    rw [ih]
    unfold szX
    omega
theorem szKs_alt (ps : List Kv) : szKs ps = ps.length + (ps.map (fun p => p.1.size + szXs p.2)).sum := by
  induction ps with
  | nil => rfl
  | cons v r ih =>
    simp only [szKs, List.map_cons, List.sum_cons, List.length_cons] at ih ⊢
    rw [ih]
    unfold szK
    omega
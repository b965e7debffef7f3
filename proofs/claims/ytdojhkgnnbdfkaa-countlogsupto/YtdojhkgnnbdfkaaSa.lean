/- The statements' own helpers: SameWrites, SameTxn, WritesSize, TxnSize, Beyond of two; a transaction that came in. Conditions as each names them. -/
import Derived.Test.YtdojhkgnnbdfkaaEq
namespace Go.Proofs.Ytdojhkgnnbdfkaa
open Go.ChangeShapes Go.WideShapes Go.ChangeAt Go.RowKit Go.Lib
set_option linter.unusedVariables false

theorem wsame_upto (xs ys : List Wt) (hl : xs.length = ys.length) (h : ∀ j, j < xs.length → xs.getD j Wt.zero = ys.getD j Wt.zero) : xs = ys := by
  apply List.ext_getElem hl
  intro i h1 h2
  have := h i h1
  simpa [List.getD, h1, h2] using this

/-! ### How great a transaction is -/
def wsum : List Wt → Nat
  | [] => 0
  | x :: r => x.key.size + x.val.size + wsum r
theorem wsum_snoc (l : List Wt) (x : Wt) : wsum (l ++ [x]) = wsum l + x.key.size + x.val.size := by
  induction l with
  | nil => simp [wsum]
  | cons a r ih => simp only [List.cons_append, wsum, ih]; omega
/-- The statements' size of some writes: at least 1048577 if they are more. -/
def Wide (N : Nat) (ws : List Wt) : Prop := ws.length ≤ N ∧ N ≤ 2^50 ∧ (N ≤ 1048576 → ∀ x ∈ ws, x.key.size ≤ 1048576 ∧ x.val.size ≤ 1048576)

/- The map of those that wait, as a kind of maps. No conditions. -/
import Derived.Test.YtakbodlicfmkjaaGreatMg11
namespace Go.Proofs.YtakbodlicfmkjaaGreat
open Go.ChangeShapes Go.WideShapes Go.ChangeAt Go.RowKit Go.Lib Go.Maps
set_option linter.unusedVariables false
set_option linter.unusedSimpArgs false

theorem Tryz.undTMapI : Tryz.prog.underlying 67 = some (.map 3 59) := by kernel_rfl
abbrev Tx3 := Option (Int × Nat × Nat)
def tx3V : Tx3 → Value
  | none => .agg #[.int .i64 0, .slice none 0 0]
  | some (n, k, L) => .agg #[.int .i64 n, .slice (some ⟨k, 0, none⟩) L L]
def tx3D : Tx3 → DataW Unit
  | none => .agg []
  | some (n, k, L) => .agg [.lit (.int .i64 n), .lit (.int .i64 k), .lit (.int .i64 L)]
def tx3E (v : Value) : Option (DataW Unit × List MemPlace) :=
  match v with
  | .agg ⟨[.int .i64 n, .slice (some ⟨k, 0, none⟩) L C]⟩ => if C = L then some (tx3D (some (n, k, L)), []) else none
  | .agg ⟨[.int .i64 0, .slice none 0 0]⟩ => some (tx3D none, [])
  | _ => none
theorem tx3_inv {v : Value} {y : DataW Unit × List MemPlace} (h : tx3E v = some y) : ∃ a, v = tx3V a ∧ y = (tx3D a, []) := by
  unfold tx3E at h
  split at h
  · rename_i n k L C
    split at h
    · rename_i e
      subst e
      simp only [Option.some.injEq] at h
      exact ⟨some (n, k, C), rfl, h.symm⟩
    · cases h
  · simp only [Option.some.injEq] at h
    exact ⟨none, rfl, h.symm⟩
  · cases h
theorem tx3D_inj {a b : Tx3} (h : tx3D a = tx3D b) : a = b := by
  rcases a with _ | ⟨n, k, L⟩ <;> rcases b with _ | ⟨n', k', L'⟩
  · rfl
  · simp [tx3D] at h
  · simp [tx3D] at h
  · simp [tx3D] at h
    obtain ⟨h1, h2, h3⟩ := h
    have e2 : k = k' := by omega
    have e3 : L = L' := by omega
    rw [h1, e2, e3]
/-- Transactions by their numbers. -/
def kTx : Kn Tryz.prog Int Tx3 where
  k := 3
  t := 67
  e := 59
  kv := .int .i64
  kl := .int .i64
  ok := i64
  ev := tx3V
  ed := tx3D
  R := tx3E
  z0 := none
  und := Tryz.undTMapI
  keyed := int_keyed Tryz.undI11
  key := fun x hx => keyOf_int_mk Tryz.undI11 hx.wf
  kvinj := fun x y h => by cases h; rfl
  em := fun a => by
    rcases a with _ | ⟨n, k, L⟩
    · rfl
    · simp [tx3V, tx3E]
  inv := fun v y h => tx3_inv h
  edinj := fun a b h => tx3D_inj h
  zero := fun w => by kernel_rfl
end Go.Proofs.YtakbodlicfmkjaaGreat

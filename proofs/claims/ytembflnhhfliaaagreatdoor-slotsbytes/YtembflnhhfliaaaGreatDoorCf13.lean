/- A configuration as a plain thing, and what Check, Shard and Tasks answer of it, the program's and the document's. Conditions: numbers of 64 bits; a key of fewer than 2^63 bytes. -/
import Derived.Test.YtembflnhhfliaaaGreatDoorHash
namespace Go.Proofs.YtembflnhhfliaaaGreatDoor
open Go.ChangeShapes Go.WideShapes Go.ChangeAt Go.RowKit Go.Lib
set_option linter.unusedVariables false
set_option linter.unusedSimpArgs false

/-- A number of 64 bits. -/
def I6 (n : Int) : Prop := -9223372036854775808 ≤ n ∧ n ≤ 9223372036854775807
structure Cf where
  l : Int
  s : Int
  w : Int
  q : Int
def Cf.ok (c : Cf) : Prop := I6 c.l ∧ I6 c.s ∧ I6 c.w ∧ I6 c.q
def Cf.v (c : Cf) : Value := .agg #[.int .i64 c.l, .int .i64 c.s, .int .i64 c.w, .int .i64 c.q]
/-- May it be? -/
def Cf.may (c : Cf) : Prop := (1 ≤ c.l ∧ c.l ≤ 16) ∧ (1 ≤ c.s ∧ c.s ≤ 16) ∧ (1 ≤ c.w ∧ c.w ≤ 64) ∧ (1 ≤ c.q ∧ c.q ≤ 16)
instance (c : Cf) : Decidable c.may := by unfold Cf.may; infer_instance
/-- What Check answers. -/
def Cf.err (c : Cf) : Int := if c.may then 0 else 7

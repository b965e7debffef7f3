/- What the Book's own tests of a mark answer: true. Conditions: numbers below 2^22. -/
import Derived.Test.YtfhfjplhfjlpaaaDoorBq3
import Derived.BigQuiet
namespace Go.Proofs.YtfhfjplhfjlpaaaDoor.Bq
open BigFrame Go.ChangeShapes Go.WideShapes Go.ChangeAt Go.RowKit Go.Lib
set_option linter.unusedVariables false

/-- A world that keeps all that w1 held. -/
structure Wd (w1 : World) where
  W : World
  h : Fr [] w1 W
instance (w1 : World) : Nonempty (Wd w1) := ⟨⟨w1, Fr.refl _ _⟩⟩
theorem wp_region_wd {P : Program} {w1 wr : World} {id : Nat} {Q : Exit → Act → World → Prop} {a : Act} {l : List Oper} (hm : P.follows .mixedOrders = true) (hB : Region.lexB .any l.toArray = true) (hf : Fr [] w1 wr)
    (h : wpQuiet P l.toArray (fun w' => ∃ x : Wd w1, w' = x.W) (fun a' => ∀ w', (∃ x : Wd w1, w' = x.W) → Q .normal a' w') l a) : (Code.region id l.toArray true).wp P Q a wr :=
  wp_region_quiet (C := fun w' => ∃ x : Wd w1, w' = x.W) hm hB ⟨⟨_, hf.then (Fr.drew [] wr)⟩, rfl⟩ (by simpa using h)
set_option maxHeartbeats 1000000 in
theorem isByte_at (n B : Nat) (w : World) (hn : n < 4194304) (hB : mByte n = B) : Calls Tryd.prog 73 #[.int .u8 (B : Int), .int .i64 (n : Int)] w fun e w' => e = .returned (.bool true) ∧ Fr [] w w' := by
  have h1 : (1 + (n : Int) % 255) % 256 = ((1 + n % 255 : Nat) : Int) := by omega
  subst hB
  unfold mByte
  go_enter Tryd.func73, Tryd.ntmps73
  go_wp2
  go_ret
  exact ⟨rfl, Fr.refl _ _⟩
set_option maxHeartbeats 1000000 in
theorem isInt_at (n : Nat) (B : Int) (w : World) (hn : n < 4194304) (hB : mInt n = B) : Calls Tryd.prog 74 #[.int .i64 B, .int .i64 (n : Int)] w fun e w' => e = .returned (.bool true) ∧ Fr [] w w' := by
  subst hB
  unfold mInt
  go_enter Tryd.func74, Tryd.ntmps74
  go_wp2
  go_ret
  exact ⟨by simp, Fr.refl _ _⟩
set_option maxHeartbeats 1000000 in
theorem isTxn_at (n : Nat) (B : Int) (w : World) (hn : n < 4194304) (hB : mInt n = B) : Calls Tryd.prog 79 #[.agg #[.int .i64 B, .slice none 0 0], .int .i64 (n : Int)] w fun e w' => e = .returned (.bool true) ∧ Fr [] w w' := by
  subst hB
  unfold mInt
  go_enter Tryd.func79, Tryd.ntmps79
  go_wp2
  go_ret
  exact ⟨by simp, Fr.alloc _ _ _⟩
end Go.Proofs.YtfhfjplhfjlpaaaDoor.Bq

/- A region of dispatch: the gate's mark, what the feed lets go, its box. Conditions as each names them. -/
import Derived.Test.YtakbodlicfmkjaaGreatDr20
import Derived.Test.YtakbodlicfmkjaaGreatDi20
namespace Go.Proofs.YtakbodlicfmkjaaGreat.Kf
open Go.ChangeShapes Go.WideShapes Go.ChangeAt Go.RowKit Go.Lib
set_option linter.unusedVariables false
set_option linter.unusedSimpArgs false

def n0 : Oper := { dst := some 9, op := Op.move (Operand.tmp 0), type := 215, pos := "task.go:53", after := #[], guard := none }
def n1 : Oper := { dst := some 10, op := Op.nilCheck (Operand.tmp 9), type := 0, pos := "task.go:53", after := #[{ on := 0, ground := Ground.data }], guard := none }
def n2 : Oper := { dst := some 11, op := Op.fieldAddr 220 (Operand.tmp 10) 0, type := 0, pos := "task.go:53", after := #[{ on := 1, ground := Ground.data }], guard := none }
def n3 : Oper := { dst := some 12, op := Op.fieldAddr 217 (Operand.tmp 11) 0, type := 0, pos := "task.go:53", after := #[{ on := 2, ground := Ground.data }], guard := none }
def n4 : Oper := { dst := some 13, op := Op.load 78 (Operand.tmp 12), type := 78, pos := "task.go:53", after := #[{ on := 3, ground := Ground.data }], guard := none }
def n5 : Oper := { dst := some 14, op := Op.nilCheck (Operand.tmp 13), type := 0, pos := "task.go:53", after := #[{ on := 4, ground := Ground.data }], guard := none }
def n6 : Oper := { dst := some 15, op := Op.fieldAddr 77 (Operand.tmp 14) 2, type := 0, pos := "task.go:53", after := #[{ on := 5, ground := Ground.data }], guard := none }
def n7 : Oper := { dst := some 16, op := Op.load 65 (Operand.tmp 15), type := 65, pos := "task.go:53", after := #[{ on := 6, ground := Ground.data }], guard := none }
def n8 : Oper := { dst := some 17, op := Op.move (Operand.tmp 0), type := 215, pos := "task.go:53", after := #[], guard := none }
def n9 : Oper := { dst := some 18, op := Op.nilCheck (Operand.tmp 17), type := 0, pos := "task.go:53", after := #[{ on := 8, ground := Ground.data }], guard := none }
def n10 : Oper := { dst := some 19, op := Op.fieldAddr 220 (Operand.tmp 18) 0, type := 0, pos := "task.go:53", after := #[{ on := 9, ground := Ground.data }], guard := none }
def n11 : Oper := { dst := some 20, op := Op.fieldAddr 217 (Operand.tmp 19) 0, type := 0, pos := "task.go:53", after := #[{ on := 10, ground := Ground.data }], guard := none }
def n12 : Oper := { dst := some 21, op := Op.load 78 (Operand.tmp 20), type := 78, pos := "task.go:53", after := #[{ on := 11, ground := Ground.data }], guard := none }
def n13 : Oper := { dst := some 22, op := Op.nilCheck (Operand.tmp 21), type := 0, pos := "task.go:53", after := #[{ on := 12, ground := Ground.data }], guard := none }
def n14 : Oper := { dst := some 23, op := Op.fieldAddr 77 (Operand.tmp 22) 9, type := 0, pos := "task.go:53", after := #[{ on := 13, ground := Ground.data }], guard := none }
def n15 : Oper := { dst := some 24, op := Op.load 72 (Operand.tmp 23), type := 72, pos := "task.go:53", after := #[{ on := 14, ground := Ground.data }], guard := none }
def n16 : Oper := { dst := some 25, op := Op.call { callee := Callee.value (Operand.func 23), args := #[Operand.tmp 24], argTypes := #[72] }, type := 3, pos := "task.go:53", after := #[{ on := 15, ground := Ground.data }], guard := none }
def n17 : Oper := { dst := some 26, op := Op.call { callee := Callee.value (Operand.func 256), args := #[Operand.tmp 16, Operand.tmp 25], argTypes := #[65, 3] }, type := 137, pos := "task.go:53", after := #[{ on := 7, ground := Ground.data }, { on := 16, ground := Ground.data }, { on := 16, ground := Ground.chain }], guard := none }
def n18 : Oper := { dst := some 8, op := Op.move (Operand.tmp 26), type := 137, pos := "task.go:53", after := #[{ on := 17, ground := Ground.data }], guard := none }
def n19 : Oper := { dst := some 27, op := Op.extract (Operand.tmp 8) 0, type := 59, pos := "task.go:53", after := #[{ on := 18, ground := Ground.data }], guard := none }
def n20 : Oper := { dst := some 28, op := Op.extract (Operand.tmp 8) 1, type := 36, pos := "task.go:53", after := #[{ on := 18, ground := Ground.data }, { on := 22, ground := Ground.gcOnly Departure.lateStores }], guard := none }
def n21 : Oper := { dst := some 4, op := Op.alloc 59, type := 0, pos := "task.go:53", after := #[], guard := none }
def n22 : Oper := { dst := none, op := Op.store 59 (Operand.tmp 4) (Operand.tmp 27), type := 0, pos := "task.go:53", after := #[{ on := 21, ground := Ground.data }, { on := 19, ground := Ground.data }, { on := 17, ground := Ground.chain }, { on := 0, ground := Ground.phase }, { on := 1, ground := Ground.phase }, { on := 2, ground := Ground.phase }, { on := 3, ground := Ground.phase }, { on := 4, ground := Ground.phase }, { on := 5, ground := Ground.phase }, { on := 6, ground := Ground.phase }, { on := 7, ground := Ground.phase }, { on := 8, ground := Ground.phase }, { on := 9, ground := Ground.phase }, { on := 10, ground := Ground.phase }, { on := 11, ground := Ground.phase }, { on := 12, ground := Ground.phase }, { on := 13, ground := Ground.phase }, { on := 14, ground := Ground.phase }, { on := 15, ground := Ground.phase }, { on := 16, ground := Ground.phase }, { on := 17, ground := Ground.phase }, { on := 18, ground := Ground.phase }, { on := 19, ground := Ground.phase }, { on := 20, ground := Ground.textOnly Departure.lateStores }, { on := 21, ground := Ground.phase }], guard := none }
def n23 : Oper := { dst := some 5, op := Op.assign (Operand.tmp 28), type := 36, pos := "task.go:53", after := #[{ on := 20, ground := Ground.data }, { on := 22, ground := Ground.chain }, { on := 0, ground := Ground.phase }, { on := 1, ground := Ground.phase }, { on := 2, ground := Ground.phase }, { on := 3, ground := Ground.phase }, { on := 4, ground := Ground.phase }, { on := 5, ground := Ground.phase }, { on := 6, ground := Ground.phase }, { on := 7, ground := Ground.phase }, { on := 8, ground := Ground.phase }, { on := 9, ground := Ground.phase }, { on := 10, ground := Ground.phase }, { on := 11, ground := Ground.phase }, { on := 12, ground := Ground.phase }, { on := 13, ground := Ground.phase }, { on := 14, ground := Ground.phase }, { on := 15, ground := Ground.phase }, { on := 16, ground := Ground.phase }, { on := 17, ground := Ground.phase }, { on := 18, ground := Ground.phase }, { on := 19, ground := Ground.phase }, { on := 20, ground := Ground.phase }, { on := 21, ground := Ground.phase }, { on := 22, ground := Ground.phase }], guard := none }
def ops : Array Oper := #[n0, n1, n2, n3, n4, n5, n6, n7, n8, n9, n10, n11, n12, n13, n14, n15, n16, n17, n18, n19, n20, n21, n22, n23]
def dl : List (Option Nat) := [some 9, some 10, some 11, some 12, some 13, some 14, some 15, some 16, some 17, some 18, some 19, some 20, some 21, some 22, some 23, some 24, some 25, some 26, some 8, some 27, some 28, some 4, none, some 5]
theorem dst : ∀ i, dstOf ops i = (dl[i]?).bind id
  | 0 => rfl
  | 1 => rfl
  | 2 => rfl
  | 3 => rfl
  | 4 => rfl
  | 5 => rfl
  | 6 => rfl
  | 7 => rfl
  | 8 => rfl
  | 9 => rfl
  | 10 => rfl
  | 11 => rfl
  | 12 => rfl
  | 13 => rfl
  | 14 => rfl
  | 15 => rfl
  | 16 => rfl
  | 17 => rfl
  | 18 => rfl
  | 19 => rfl
  | 20 => rfl
  | 21 => rfl
  | 22 => rfl
  | 23 => rfl
  | n + 24 => by simp [dstOf, ops, dl]
theorem o7 : ∀ (i : Nat) (o : Oper), ops[i]? = some o → (i = 0 ∧ o = n0) ∨ (i = 1 ∧ o = n1) ∨ (i = 2 ∧ o = n2) ∨ (i = 3 ∧ o = n3) ∨ (i = 4 ∧ o = n4) ∨ (i = 5 ∧ o = n5) ∨ (i = 6 ∧ o = n6) ∨ (i = 7 ∧ o = n7) ∨ (i = 8 ∧ o = n8) ∨ (i = 9 ∧ o = n9) ∨ (i = 10 ∧ o = n10) ∨ (i = 11 ∧ o = n11) ∨ (i = 12 ∧ o = n12) ∨ (i = 13 ∧ o = n13) ∨ (i = 14 ∧ o = n14) ∨ (i = 15 ∧ o = n15) ∨ (i = 16 ∧ o = n16) ∨ (i = 17 ∧ o = n17) ∨ (i = 18 ∧ o = n18) ∨ (i = 19 ∧ o = n19) ∨ (i = 20 ∧ o = n20) ∨ (i = 21 ∧ o = n21) ∨ (i = 22 ∧ o = n22) ∨ (i = 23 ∧ o = n23)
  | 0, o, h => by have h2 : some n0 = some o := h; cases h2; simp
  | 1, o, h => by have h2 : some n1 = some o := h; cases h2; simp
  | 2, o, h => by have h2 : some n2 = some o := h; cases h2; simp
  | 3, o, h => by have h2 : some n3 = some o := h; cases h2; simp
  | 4, o, h => by have h2 : some n4 = some o := h; cases h2; simp
  | 5, o, h => by have h2 : some n5 = some o := h; cases h2; simp
  | 6, o, h => by have h2 : some n6 = some o := h; cases h2; simp
  | 7, o, h => by have h2 : some n7 = some o := h; cases h2; simp
  | 8, o, h => by have h2 : some n8 = some o := h; cases h2; simp
  | 9, o, h => by have h2 : some n9 = some o := h; cases h2; simp
  | 10, o, h => by have h2 : some n10 = some o := h; cases h2; simp
  | 11, o, h => by have h2 : some n11 = some o := h; cases h2; simp
  | 12, o, h => by have h2 : some n12 = some o := h; cases h2; simp
  | 13, o, h => by have h2 : some n13 = some o := h; cases h2; simp
  | 14, o, h => by have h2 : some n14 = some o := h; cases h2; simp
  | 15, o, h => by have h2 : some n15 = some o := h; cases h2; simp
  | 16, o, h => by have h2 : some n16 = some o := h; cases h2; simp
  | 17, o, h => by have h2 : some n17 = some o := h; cases h2; simp
  | 18, o, h => by have h2 : some n18 = some o := h; cases h2; simp
  | 19, o, h => by have h2 : some n19 = some o := h; cases h2; simp
  | 20, o, h => by have h2 : some n20 = some o := h; cases h2; simp
  | 21, o, h => by have h2 : some n21 = some o := h; cases h2; simp
  | 22, o, h => by have h2 : some n22 = some o := h; cases h2; simp
  | 23, o, h => by have h2 : some n23 = some o := h; cases h2; simp
  | n + 24, o, h => by simp [ops] at h
theorem hN : ∀ i j d, dstOf ops i = some d → dstOf ops j = some d → i = j := by
  intro i j d h1 h2
  rw [dst] at h1 h2
  have hi : i < 24 := by
    cases h : dl[i]? with
    | none => rw [h] at h1; cases h1
    | some x => exact (List.getElem?_eq_some_iff.1 h).1
  have hj : j < 24 := by
    cases h : dl[j]? with
    | none => rw [h] at h2; cases h2
    | some x => exact (List.getElem?_eq_some_iff.1 h).1
  have key : ∀ i, i < 24 → ∀ j, j < 24 → ((dl[i]?).bind id).isSome = true → (dl[i]?).bind id = (dl[j]?).bind id → i = j := by decide
  exact key i hi j hj (by rw [h1]; rfl) (h1.trans h2.symm)
theorem hlex : ∀ (i : Nat) (o : Oper), ops[i]? = some o → ∀ e ∈ o.after, Region.binds .any e = true → e.on < i := by
  intro i o h e he hb
  have key : ∀ (k : Nat) (p : Oper), (p.after.all fun e => !Region.binds .any e || decide (e.on < k)) = true → ∀ e ∈ p.after, Region.binds .any e = true → e.on < k := by
    intro k p hp e he hb
    rw [Array.all_eq_true_iff_forall_mem] at hp
    have := hp e he
    simpa [hb] using this
  rcases o7 i o h with ⟨rfl, rfl⟩ | ⟨rfl, rfl⟩ | ⟨rfl, rfl⟩ | ⟨rfl, rfl⟩ | ⟨rfl, rfl⟩ | ⟨rfl, rfl⟩ | ⟨rfl, rfl⟩ | ⟨rfl, rfl⟩ | ⟨rfl, rfl⟩ | ⟨rfl, rfl⟩ | ⟨rfl, rfl⟩ | ⟨rfl, rfl⟩ | ⟨rfl, rfl⟩ | ⟨rfl, rfl⟩ | ⟨rfl, rfl⟩ | ⟨rfl, rfl⟩ | ⟨rfl, rfl⟩ | ⟨rfl, rfl⟩ | ⟨rfl, rfl⟩ | ⟨rfl, rfl⟩ | ⟨rfl, rfl⟩ | ⟨rfl, rfl⟩ | ⟨rfl, rfl⟩ | ⟨rfl, rfl⟩
  · exact key 0 n0 (by simp [n0, Region.binds]) e he hb
  · exact key 1 n1 (by simp [n1, Region.binds]) e he hb
  · exact key 2 n2 (by simp [n2, Region.binds]) e he hb
  · exact key 3 n3 (by simp [n3, Region.binds]) e he hb
  · exact key 4 n4 (by simp [n4, Region.binds]) e he hb
  · exact key 5 n5 (by simp [n5, Region.binds]) e he hb
  · exact key 6 n6 (by simp [n6, Region.binds]) e he hb
  · exact key 7 n7 (by simp [n7, Region.binds]) e he hb
  · exact key 8 n8 (by simp [n8, Region.binds]) e he hb
  · exact key 9 n9 (by simp [n9, Region.binds]) e he hb
  · exact key 10 n10 (by simp [n10, Region.binds]) e he hb
  · exact key 11 n11 (by simp [n11, Region.binds]) e he hb
  · exact key 12 n12 (by simp [n12, Region.binds]) e he hb
  · exact key 13 n13 (by simp [n13, Region.binds]) e he hb
  · exact key 14 n14 (by simp [n14, Region.binds]) e he hb
  · exact key 15 n15 (by simp [n15, Region.binds]) e he hb
  · exact key 16 n16 (by simp [n16, Region.binds]) e he hb
  · exact key 17 n17 (by simp [n17, Region.binds]) e he hb
  · exact key 18 n18 (by simp [n18, Region.binds]) e he hb
  · exact key 19 n19 (by simp [n19, Region.binds]) e he hb
  · exact key 20 n20 (by simp [n20, Region.binds]) e he hb
  · exact key 21 n21 (by simp [n21, Region.binds]) e he hb
  · exact key 22 n22 (by simp [n22, Region.binds]) e he hb
  · exact key 23 n23 (by simp [n23, Region.binds]) e he hb
theorem hg {a0 : Act} (hz : a0.tmps.size = 66) : ∀ (i : Nat) (o : Oper), ops[i]? = some o → o.guard = none ∧ ∀ d, o.dst = some d → d < a0.tmps.size := by
  intro i o h
  rw [hz]
  rcases o7 i o h with ⟨rfl, rfl⟩ | ⟨rfl, rfl⟩ | ⟨rfl, rfl⟩ | ⟨rfl, rfl⟩ | ⟨rfl, rfl⟩ | ⟨rfl, rfl⟩ | ⟨rfl, rfl⟩ | ⟨rfl, rfl⟩ | ⟨rfl, rfl⟩ | ⟨rfl, rfl⟩ | ⟨rfl, rfl⟩ | ⟨rfl, rfl⟩ | ⟨rfl, rfl⟩ | ⟨rfl, rfl⟩ | ⟨rfl, rfl⟩ | ⟨rfl, rfl⟩ | ⟨rfl, rfl⟩ | ⟨rfl, rfl⟩ | ⟨rfl, rfl⟩ | ⟨rfl, rfl⟩ | ⟨rfl, rfl⟩ | ⟨rfl, rfl⟩ | ⟨rfl, rfl⟩ | ⟨rfl, rfl⟩
  · exact ⟨rfl, fun d hd => by cases hd; decide⟩
  · exact ⟨rfl, fun d hd => by cases hd; decide⟩
  · exact ⟨rfl, fun d hd => by cases hd; decide⟩
  · exact ⟨rfl, fun d hd => by cases hd; decide⟩
  · exact ⟨rfl, fun d hd => by cases hd; decide⟩
  · exact ⟨rfl, fun d hd => by cases hd; decide⟩
  · exact ⟨rfl, fun d hd => by cases hd; decide⟩
  · exact ⟨rfl, fun d hd => by cases hd; decide⟩
  · exact ⟨rfl, fun d hd => by cases hd; decide⟩
  · exact ⟨rfl, fun d hd => by cases hd; decide⟩
  · exact ⟨rfl, fun d hd => by cases hd; decide⟩
  · exact ⟨rfl, fun d hd => by cases hd; decide⟩
  · exact ⟨rfl, fun d hd => by cases hd; decide⟩
  · exact ⟨rfl, fun d hd => by cases hd; decide⟩
  · exact ⟨rfl, fun d hd => by cases hd; decide⟩
  · exact ⟨rfl, fun d hd => by cases hd; decide⟩
  · exact ⟨rfl, fun d hd => by cases hd; decide⟩
  · exact ⟨rfl, fun d hd => by cases hd; decide⟩
  · exact ⟨rfl, fun d hd => by cases hd; decide⟩
  · exact ⟨rfl, fun d hd => by cases hd; decide⟩
  · exact ⟨rfl, fun d hd => by cases hd; decide⟩
  · exact ⟨rfl, fun d hd => by cases hd; decide⟩
  · exact ⟨rfl, fun d hd => by cases hd⟩
  · exact ⟨rfl, fun d hd => by cases hd; decide⟩
theorem clD (L : Nat → Bool) (hcl : ∀ j k, L j = true → dep ops j k = true → L k = true) (h : L 17 = true) : ∀ i, i < 17 → L i = true := by
  have h16 : L 16 = true := hcl 17 16 h (by simp [dep, ops, n17, Region.binds])
  have h15 : L 15 = true := hcl 16 15 h16 (by simp [dep, ops, n16, Region.binds])
  have h14 : L 14 = true := hcl 15 14 h15 (by simp [dep, ops, n15, Region.binds])
  have h13 : L 13 = true := hcl 14 13 h14 (by simp [dep, ops, n14, Region.binds])
  have h12 : L 12 = true := hcl 13 12 h13 (by simp [dep, ops, n13, Region.binds])
  have h11 : L 11 = true := hcl 12 11 h12 (by simp [dep, ops, n12, Region.binds])
  have h10 : L 10 = true := hcl 11 10 h11 (by simp [dep, ops, n11, Region.binds])
  have h9 : L 9 = true := hcl 10 9 h10 (by simp [dep, ops, n10, Region.binds])
  have h8 : L 8 = true := hcl 9 8 h9 (by simp [dep, ops, n9, Region.binds])
  have h7 : L 7 = true := hcl 17 7 h (by simp [dep, ops, n17, Region.binds])
  have h6 : L 6 = true := hcl 7 6 h7 (by simp [dep, ops, n7, Region.binds])
  have h5 : L 5 = true := hcl 6 5 h6 (by simp [dep, ops, n6, Region.binds])
  have h4 : L 4 = true := hcl 5 4 h5 (by simp [dep, ops, n5, Region.binds])
  have h3 : L 3 = true := hcl 4 3 h4 (by simp [dep, ops, n4, Region.binds])
  have h2 : L 2 = true := hcl 3 2 h3 (by simp [dep, ops, n3, Region.binds])
  have h1 : L 1 = true := hcl 2 1 h2 (by simp [dep, ops, n2, Region.binds])
  have h0 : L 0 = true := hcl 1 0 h1 (by simp [dep, ops, n1, Region.binds])
  intro i hi
  match i, hi with
  | 0, _ => exact h0
  | 1, _ => exact h1
  | 2, _ => exact h2
  | 3, _ => exact h3
  | 4, _ => exact h4
  | 5, _ => exact h5
  | 6, _ => exact h6
  | 7, _ => exact h7
  | 8, _ => exact h8
  | 9, _ => exact h9
  | 10, _ => exact h10
  | 11, _ => exact h11
  | 12, _ => exact h12
  | 13, _ => exact h13
  | 14, _ => exact h14
  | 15, _ => exact h15
  | 16, _ => exact h16
  | i + 17, hi => omega
/-- What each operation yields. -/
def val (kd mb fb gb B K : Nat) (ma n : Int) (x : Nat) : Nat → Value
  | 0 => .pointer (some ⟨kd, 0, none⟩)
  | 1 => .pointer (some ⟨kd, 0, none⟩)
  | 2 => .pointer (some ⟨kd, 0, none⟩)
  | 3 => .pointer (some ⟨kd, 0, none⟩)
  | 4 => .pointer (some ⟨mb, 0, none⟩)
  | 5 => .pointer (some ⟨mb, 0, none⟩)
  | 6 => .pointer (some ⟨mb, 5, none⟩)
  | 7 => .pointer (some ⟨fb, 0, none⟩)
  | 8 => .pointer (some ⟨kd, 0, none⟩)
  | 9 => .pointer (some ⟨kd, 0, none⟩)
  | 10 => .pointer (some ⟨kd, 0, none⟩)
  | 11 => .pointer (some ⟨kd, 0, none⟩)
  | 12 => .pointer (some ⟨mb, 0, none⟩)
  | 13 => .pointer (some ⟨mb, 0, none⟩)
  | 14 => .pointer (some ⟨mb, 12, none⟩)
  | 15 => .pointer (some ⟨gb, 0, none⟩)
  | 16 => .int .i64 ma
  | 17 => .tuple #[.agg #[.int .i64 n, .slice (some ⟨B, 0, none⟩) K K], .int .i64 0]
  | 18 => .tuple #[.agg #[.int .i64 n, .slice (some ⟨B, 0, none⟩) K K], .int .i64 0]
  | 19 => .agg #[.int .i64 n, .slice (some ⟨B, 0, none⟩) K K]
  | 20 => .int .i64 0
  | 21 => .pointer (some ⟨x, 0, none⟩)
  | 22 => undef
  | 23 => .int .i64 0
  | _ => undef
def pairs (kd mb fb gb B K : Nat) (ma n : Int) (x : Nat) : List (Nat × Value) :=
  [(9, .pointer (some ⟨kd, 0, none⟩)), (10, .pointer (some ⟨kd, 0, none⟩)), (11, .pointer (some ⟨kd, 0, none⟩)), (12, .pointer (some ⟨kd, 0, none⟩)), (13, .pointer (some ⟨mb, 0, none⟩)), (14, .pointer (some ⟨mb, 0, none⟩)), (15, .pointer (some ⟨mb, 5, none⟩)), (16, .pointer (some ⟨fb, 0, none⟩)), (17, .pointer (some ⟨kd, 0, none⟩)), (18, .pointer (some ⟨kd, 0, none⟩)), (19, .pointer (some ⟨kd, 0, none⟩)), (20, .pointer (some ⟨kd, 0, none⟩)), (21, .pointer (some ⟨mb, 0, none⟩)), (22, .pointer (some ⟨mb, 0, none⟩)), (23, .pointer (some ⟨mb, 12, none⟩)), (24, .pointer (some ⟨gb, 0, none⟩)), (25, .int .i64 ma), (26, .tuple #[.agg #[.int .i64 n, .slice (some ⟨B, 0, none⟩) K K], .int .i64 0]), (8, .tuple #[.agg #[.int .i64 n, .slice (some ⟨B, 0, none⟩) K K], .int .i64 0]), (27, .agg #[.int .i64 n, .slice (some ⟨B, 0, none⟩) K K]), (28, .int .i64 0), (4, .pointer (some ⟨x, 0, none⟩)), (5, .int .i64 0)]
theorem hD (kd mb fb gb B K : Nat) (ma n : Int) (x : Nat) : ((pairs kd mb fb gb B K ma n x).map (·.1)).Nodup ∧ (∀ p ∈ pairs kd mb fb gb B K ma n x, ∃ i, dstOf ops i = some p.1 ∧ p.2 = val kd mb fb gb B K ma n x i) ∧ ∀ i d, dstOf ops i = some d → (d, val kd mb fb gb B K ma n x i) ∈ pairs kd mb fb gb B K ma n x := by
  refine ⟨?_, fun p hp => ?_, fun i d hd => ?_⟩
  · show ([9, 10, 11, 12, 13, 14, 15, 16, 17, 18, 19, 20, 21, 22, 23, 24, 25, 26, 8, 27, 28, 4, 5] : List Nat).Nodup
    decide
  · simp only [pairs, List.mem_cons, List.not_mem_nil, or_false] at hp
    rcases hp with rfl | rfl | rfl | rfl | rfl | rfl | rfl | rfl | rfl | rfl | rfl | rfl | rfl | rfl | rfl | rfl | rfl | rfl | rfl | rfl | rfl | rfl | rfl
    · exact ⟨0, rfl, rfl⟩
    · exact ⟨1, rfl, rfl⟩
    · exact ⟨2, rfl, rfl⟩
    · exact ⟨3, rfl, rfl⟩
    · exact ⟨4, rfl, rfl⟩
    · exact ⟨5, rfl, rfl⟩
    · exact ⟨6, rfl, rfl⟩
    · exact ⟨7, rfl, rfl⟩
    · exact ⟨8, rfl, rfl⟩
    · exact ⟨9, rfl, rfl⟩
    · exact ⟨10, rfl, rfl⟩
    · exact ⟨11, rfl, rfl⟩
    · exact ⟨12, rfl, rfl⟩
    · exact ⟨13, rfl, rfl⟩
    · exact ⟨14, rfl, rfl⟩
    · exact ⟨15, rfl, rfl⟩
    · exact ⟨16, rfl, rfl⟩
    · exact ⟨17, rfl, rfl⟩
    · exact ⟨18, rfl, rfl⟩
    · exact ⟨19, rfl, rfl⟩
    · exact ⟨20, rfl, rfl⟩
    · exact ⟨21, rfl, rfl⟩
    · exact ⟨23, rfl, rfl⟩
  · have hi : ∃ o, ops[i]? = some o := by
      unfold dstOf at hd
      cases ho : ops[i]? with
      | none => rw [ho] at hd; cases hd
      | some o => exact ⟨o, rfl⟩
    obtain ⟨o, ho⟩ := hi
    rcases o7 i o ho with ⟨rfl, rfl⟩ | ⟨rfl, rfl⟩ | ⟨rfl, rfl⟩ | ⟨rfl, rfl⟩ | ⟨rfl, rfl⟩ | ⟨rfl, rfl⟩ | ⟨rfl, rfl⟩ | ⟨rfl, rfl⟩ | ⟨rfl, rfl⟩ | ⟨rfl, rfl⟩ | ⟨rfl, rfl⟩ | ⟨rfl, rfl⟩ | ⟨rfl, rfl⟩ | ⟨rfl, rfl⟩ | ⟨rfl, rfl⟩ | ⟨rfl, rfl⟩ | ⟨rfl, rfl⟩ | ⟨rfl, rfl⟩ | ⟨rfl, rfl⟩ | ⟨rfl, rfl⟩ | ⟨rfl, rfl⟩ | ⟨rfl, rfl⟩ | ⟨rfl, rfl⟩ | ⟨rfl, rfl⟩
    · have e : d = 9 := by have : some 9 = some d := hd; cases this; rfl
      subst e
      simp [pairs, val]
    · have e : d = 10 := by have : some 10 = some d := hd; cases this; rfl
      subst e
      simp [pairs, val]
    · have e : d = 11 := by have : some 11 = some d := hd; cases this; rfl
      subst e
      simp [pairs, val]
    · have e : d = 12 := by have : some 12 = some d := hd; cases this; rfl
      subst e
      simp [pairs, val]
    · have e : d = 13 := by have : some 13 = some d := hd; cases this; rfl
      subst e
      simp [pairs, val]
    · have e : d = 14 := by have : some 14 = some d := hd; cases this; rfl
      subst e
      simp [pairs, val]
    · have e : d = 15 := by have : some 15 = some d := hd; cases this; rfl
      subst e
      simp [pairs, val]
    · have e : d = 16 := by have : some 16 = some d := hd; cases this; rfl
      subst e
      simp [pairs, val]
    · have e : d = 17 := by have : some 17 = some d := hd; cases this; rfl
      subst e
      simp [pairs, val]
    · have e : d = 18 := by have : some 18 = some d := hd; cases this; rfl
      subst e
      simp [pairs, val]
    · have e : d = 19 := by have : some 19 = some d := hd; cases this; rfl
      subst e
      simp [pairs, val]
    · have e : d = 20 := by have : some 20 = some d := hd; cases this; rfl
      subst e
      simp [pairs, val]
    · have e : d = 21 := by have : some 21 = some d := hd; cases this; rfl
      subst e
      simp [pairs, val]
    · have e : d = 22 := by have : some 22 = some d := hd; cases this; rfl
      subst e
      simp [pairs, val]
    · have e : d = 23 := by have : some 23 = some d := hd; cases this; rfl
      subst e
      simp [pairs, val]
    · have e : d = 24 := by have : some 24 = some d := hd; cases this; rfl
      subst e
      simp [pairs, val]
    · have e : d = 25 := by have : some 25 = some d := hd; cases this; rfl
      subst e
      simp [pairs, val]
    · have e : d = 26 := by have : some 26 = some d := hd; cases this; rfl
      subst e
      simp [pairs, val]
    · have e : d = 8 := by have : some 8 = some d := hd; cases this; rfl
      subst e
      simp [pairs, val]
    · have e : d = 27 := by have : some 27 = some d := hd; cases this; rfl
      subst e
      simp [pairs, val]
    · have e : d = 28 := by have : some 28 = some d := hd; cases this; rfl
      subst e
      simp [pairs, val]
    · have e : d = 4 := by have : some 4 = some d := hd; cases this; rfl
      subst e
      simp [pairs, val]
    · cases hd
    · have e : d = 5 := by have : some 5 = some d := hd; cases this; rfl
      subst e
      simp [pairs, val]
section
variable (ρ : Operand → Value) (w : World) {kd mb fb gb B K x : Nat} {ma n : Int}
theorem r0 (h0 : ρ (.tmp 0) = .pointer (some ⟨kd, 0, none⟩)) : (execOp ρ n0).run Tryz.prog w = .ok (.value (.pointer (some ⟨kd, 0, none⟩))) w := by
  unfold n0
  go_simp
theorem r1 (h9 : ρ (.tmp 9) = .pointer (some ⟨kd, 0, none⟩)) : (execOp ρ n1).run Tryz.prog w = .ok (.value (.pointer (some ⟨kd, 0, none⟩))) w := by
  unfold n1
  go_simp
theorem r2 (h10 : ρ (.tmp 10) = .pointer (some ⟨kd, 0, none⟩)) : (execOp ρ n2).run Tryz.prog w = .ok (.value (.pointer (some ⟨kd, 0, none⟩))) w := by
  unfold n2
  go_simp
theorem r3 (h11 : ρ (.tmp 11) = .pointer (some ⟨kd, 0, none⟩)) : (execOp ρ n3).run Tryz.prog w = .ok (.value (.pointer (some ⟨kd, 0, none⟩))) w := by
  unfold n3
  go_simp
theorem r4 (h12 : ρ (.tmp 12) = .pointer (some ⟨kd, 0, none⟩)) (c0 : w.cell? ⟨kd, 0, none⟩ = some (.pointer (some ⟨mb, 0, none⟩))) : (execOp ρ n4).run Tryz.prog w = .ok (.value (.pointer (some ⟨mb, 0, none⟩))) w := by
  unfold n4
  go_simp
theorem r5 (h13 : ρ (.tmp 13) = .pointer (some ⟨mb, 0, none⟩)) : (execOp ρ n5).run Tryz.prog w = .ok (.value (.pointer (some ⟨mb, 0, none⟩))) w := by
  unfold n5
  go_simp
theorem r6 (h14 : ρ (.tmp 14) = .pointer (some ⟨mb, 0, none⟩)) : (execOp ρ n6).run Tryz.prog w = .ok (.value (.pointer (some ⟨mb, 5, none⟩))) w := by
  unfold n6
  go_simp
theorem r7 (h15 : ρ (.tmp 15) = .pointer (some ⟨mb, 5, none⟩)) (c0 : w.cell? ⟨mb, 5, none⟩ = some (.pointer (some ⟨fb, 0, none⟩))) : (execOp ρ n7).run Tryz.prog w = .ok (.value (.pointer (some ⟨fb, 0, none⟩))) w := by
  unfold n7
  go_simp
theorem r8 (h0 : ρ (.tmp 0) = .pointer (some ⟨kd, 0, none⟩)) : (execOp ρ n8).run Tryz.prog w = .ok (.value (.pointer (some ⟨kd, 0, none⟩))) w := by
  unfold n8
  go_simp
theorem r9 (h17 : ρ (.tmp 17) = .pointer (some ⟨kd, 0, none⟩)) : (execOp ρ n9).run Tryz.prog w = .ok (.value (.pointer (some ⟨kd, 0, none⟩))) w := by
  unfold n9
  go_simp
theorem r10 (h18 : ρ (.tmp 18) = .pointer (some ⟨kd, 0, none⟩)) : (execOp ρ n10).run Tryz.prog w = .ok (.value (.pointer (some ⟨kd, 0, none⟩))) w := by
  unfold n10
  go_simp
theorem r11 (h19 : ρ (.tmp 19) = .pointer (some ⟨kd, 0, none⟩)) : (execOp ρ n11).run Tryz.prog w = .ok (.value (.pointer (some ⟨kd, 0, none⟩))) w := by
  unfold n11
  go_simp
theorem r12 (h20 : ρ (.tmp 20) = .pointer (some ⟨kd, 0, none⟩)) (c0 : w.cell? ⟨kd, 0, none⟩ = some (.pointer (some ⟨mb, 0, none⟩))) : (execOp ρ n12).run Tryz.prog w = .ok (.value (.pointer (some ⟨mb, 0, none⟩))) w := by
  unfold n12
  go_simp
theorem r13 (h21 : ρ (.tmp 21) = .pointer (some ⟨mb, 0, none⟩)) : (execOp ρ n13).run Tryz.prog w = .ok (.value (.pointer (some ⟨mb, 0, none⟩))) w := by
  unfold n13
  go_simp
theorem r14 (h22 : ρ (.tmp 22) = .pointer (some ⟨mb, 0, none⟩)) : (execOp ρ n14).run Tryz.prog w = .ok (.value (.pointer (some ⟨mb, 12, none⟩))) w := by
  unfold n14
  go_simp
theorem r15 (h23 : ρ (.tmp 23) = .pointer (some ⟨mb, 12, none⟩)) (c0 : w.cell? ⟨mb, 12, none⟩ = some (.pointer (some ⟨gb, 0, none⟩))) : (execOp ρ n15).run Tryz.prog w = .ok (.value (.pointer (some ⟨gb, 0, none⟩))) w := by
  unfold n15
  go_simp
theorem r18 (h26 : ρ (.tmp 26) = .tuple #[.agg #[.int .i64 n, .slice (some ⟨B, 0, none⟩) K K], .int .i64 0]) : (execOp ρ n18).run Tryz.prog w = .ok (.value (.tuple #[.agg #[.int .i64 n, .slice (some ⟨B, 0, none⟩) K K], .int .i64 0])) w := by
  unfold n18
  go_simp
theorem r19 (h8 : ρ (.tmp 8) = .tuple #[.agg #[.int .i64 n, .slice (some ⟨B, 0, none⟩) K K], .int .i64 0]) : (execOp ρ n19).run Tryz.prog w = .ok (.value (.agg #[.int .i64 n, .slice (some ⟨B, 0, none⟩) K K])) w := by
  unfold n19
  go_simp
theorem r20 (h8 : ρ (.tmp 8) = .tuple #[.agg #[.int .i64 n, .slice (some ⟨B, 0, none⟩) K K], .int .i64 0]) : (execOp ρ n20).run Tryz.prog w = .ok (.value (.int .i64 0)) w := by
  unfold n20
  go_simp
theorem r23 (h28 : ρ (.tmp 28) = .int .i64 0) : (execOp ρ n23).run Tryz.prog w = .ok (.value (.int .i64 0)) w := by
  unfold n23
  go_simp
theorem rM (hf : ρ (.func 23) = .func (.func 23) #[] #[]) (h : ρ (.tmp 24) = .pointer (some ⟨gb, 0, none⟩)) : (execOp ρ n16).run Tryz.prog w = .ok (.enter 23 #[.pointer (some ⟨gb, 0, none⟩)]) w := by
  unfold n16
  go_simp
theorem rD (hf : ρ (.func 256) = .func (.func 256) #[] #[]) (h : ρ (.tmp 16) = .pointer (some ⟨fb, 0, none⟩)) (h2 : ρ (.tmp 25) = .int .i64 ma) : (execOp ρ n17).run Tryz.prog w = .ok (.enter 256 #[.pointer (some ⟨fb, 0, none⟩), .int .i64 ma]) w := by
  unfold n17
  go_simp
theorem rA : (execOp ρ n21).run Tryz.prog w = .ok (.value (.pointer (some ⟨w.heap.size, 0, none⟩))) (w.alloc (.cells #[.int .i64 0, .slice none 0 0] 59)) := by
  unfold n21
  go_simp
theorem rS (h1 : ρ (.tmp 4) = .pointer (some ⟨x, 0, none⟩)) (h2 : ρ (.tmp 27) = .agg #[.int .i64 n, .slice (some ⟨B, 0, none⟩) K K]) (hb : w.heap[x]? = some (.cells #[.int .i64 0, .slice none 0 0] 59 (0, 0))) : (execOp ρ n22).run Tryz.prog w = .ok .skip ((w.setCell ⟨x, 0, none⟩ (.int .i64 n)).setCell ⟨x, 1, none⟩ (.slice (some ⟨B, 0, none⟩) K K)) := by
  have c0 : w.cell? ⟨x, 0, none⟩ = some (.int .i64 0) := by rw [cell_of_row _ _ _ _ _ _ hb]; rfl
  have c1 : w.cell? ⟨x, 1, none⟩ = some (.slice none 0 0) := by rw [cell_of_row _ _ _ _ _ _ hb]; rfl
  have f0 : ∀ j, w.frozen? ⟨x, j, none⟩ = false := fun j => by simp [World.frozen?, hb]
  unfold n22
  go_simp
end
/-- What the world is once some are done. -/
def Wd (w1 : World) (B K : Nat) (n : Int) (J0 J1 : World → Prop) (x : Nat) (L : Nat → Bool) (w : World) : Prop :=
  (L 22 = false ∧ w1.heap.size ≤ w.heap.size ∧ (L 17 = false → J0 w) ∧ (L 17 = true → J1 w) ∧ (L 21 = true → w1.heap.size ≤ x ∧ w.heap[x]? = some (.cells #[.int .i64 0, .slice none 0 0] 59 (0, 0)))) ∨
  (L 22 = true ∧ ∃ w', J1 w' ∧ w1.heap.size ≤ x ∧ w'.heap[x]? = some (.cells #[.int .i64 0, .slice none 0 0] 59 (0, 0)) ∧ w = (w'.setCell ⟨x, 0, none⟩ (.int .i64 n)).setCell ⟨x, 1, none⟩ (.slice (some ⟨B, 0, none⟩) K K))
theorem Wd.read {w1 w : World} {B K x i : Nat} {n : Int} {J0 J1 : World → Prop} {L : Nat → Bool} (h : Wd w1 B K n J0 J1 x L w) (h1 : i ≠ 17) (h2 : i ≠ 21) (h3 : i ≠ 22) : Wd w1 B K n J0 J1 x (updB L i) w := by
  unfold Wd
  rw [updB_ne L (Ne.symm h1), updB_ne L (Ne.symm h2), updB_ne L (Ne.symm h3)]
  exact h
set_option maxHeartbeats 2000000 in
set_option maxRecDepth 100000 in
theorem reg {Q : Exit → Act → World → Prop} {a0 : Act} {w1 : World} {id : Nat} {kd mb fb gb B K : Nat} {ma n : Int} {J0 J1 : World → Prop} (hz : a0.tmps.size = 66) (t0 : env a0 0 = .pointer (some ⟨kd, 0, none⟩))
    (q0 : ∀ w w', J0 w → Fr [] w w' → J0 w') (q1 : ∀ w w', J1 w → Fr [] w w' → J1 w') (h0 : J0 w1)
    (hc : ∀ w, J0 w → w.cell? ⟨kd, 0, none⟩ = some (.pointer (some ⟨mb, 0, none⟩)) ∧ w.cell? ⟨mb, 5, none⟩ = some (.pointer (some ⟨fb, 0, none⟩)) ∧ w.cell? ⟨mb, 12, none⟩ = some (.pointer (some ⟨gb, 0, none⟩)))
    (hM : ∀ w, J0 w → Calls Tryz.prog 23 #[.pointer (some ⟨gb, 0, none⟩)] w fun e w' => e = .returned (.int .i64 ma) ∧ Fr [] w w')
    (hDi : ∀ w, J0 w → Calls Tryz.prog 256 #[.pointer (some ⟨fb, 0, none⟩), .int .i64 ma] w fun e w' => e = .returned (.tuple #[.agg #[.int .i64 n, .slice (some ⟨B, 0, none⟩) K K], .int .i64 0]) ∧ J1 w' ∧ w.heap.size ≤ w'.heap.size ∧ ∀ x o, w1.heap.size ≤ x → w.heap[x]? = some o → w'.heap[x]? = some o)
    (hend : ∀ x w', J1 w' → w1.heap.size ≤ x → w'.heap[x]? = some (.cells #[.int .i64 0, .slice none 0 0] 59 (0, 0)) → Q .normal (puts a0 (pairs kd mb fb gb B K ma n x)) ((w'.setCell ⟨x, 0, none⟩ (.int .i64 n)).setCell ⟨x, 1, none⟩ (.slice (some ⟨B, 0, none⟩) K K))) :
    (Code.region id ops true).wp Tryz.prog Q a0 w1 := by
  refine wp_region_hst (val := val kd mb fb gb B K ma n) (W := Wd w1 B K n J0 J1) (pairs kd mb fb gb B K ma n) 0 (by kernel_rfl) hN (hg hz) ?_ hlex (hD kd mb fb gb B K ma n) (Or.inl ⟨rfl, (Fr.drew [] w1).size, fun _ => q0 _ _ h0 (Fr.drew [] w1), fun h => (by cases h), fun h => (by cases h)⟩) ?_
  · intro ii o ho x L a w hLi hdl hcl hdv hsame hza hW
    have hno : ∀ t, some t ∉ dl → env a t = env a0 t := fun t ht => hsame t (fun j hj => by
      rw [dst] at hj
      cases h : dl[j]? with
      | none => rw [h] at hj; cases hj
      | some y => rw [h] at hj; exact ht (List.mem_of_getElem? (by rw [h]; exact congrArg some hj)))
    have s0 : env a 0 = .pointer (some ⟨kd, 0, none⟩) := (hno 0 (by decide)).trans t0
    rcases o7 ii o ho with ⟨rfl, rfl⟩ | ⟨rfl, rfl⟩ | ⟨rfl, rfl⟩ | ⟨rfl, rfl⟩ | ⟨rfl, rfl⟩ | ⟨rfl, rfl⟩ | ⟨rfl, rfl⟩ | ⟨rfl, rfl⟩ | ⟨rfl, rfl⟩ | ⟨rfl, rfl⟩ | ⟨rfl, rfl⟩ | ⟨rfl, rfl⟩ | ⟨rfl, rfl⟩ | ⟨rfl, rfl⟩ | ⟨rfl, rfl⟩ | ⟨rfl, rfl⟩ | ⟨rfl, rfl⟩ | ⟨rfl, rfl⟩ | ⟨rfl, rfl⟩ | ⟨rfl, rfl⟩ | ⟨rfl, rfl⟩ | ⟨rfl, rfl⟩ | ⟨rfl, rfl⟩ | ⟨rfl, rfl⟩
    · exact quiet_hst (r0 _ _ s0) (hW.read (by decide) (by decide) (by decide))
    · exact quiet_hst (r1 _ _ (hdv 0 9 (by simp [dep, ops, n1, Region.binds]) rfl)) (hW.read (by decide) (by decide) (by decide))
    · exact quiet_hst (r2 _ _ (hdv 1 10 (by simp [dep, ops, n2, Region.binds]) rfl)) (hW.read (by decide) (by decide) (by decide))
    · exact quiet_hst (r3 _ _ (hdv 2 11 (by simp [dep, ops, n3, Region.binds]) rfl)) (hW.read (by decide) (by decide) (by decide))
    · have hDn : L 17 = false := by
        cases h : L 17 with
        | false => rfl
        | true => have := clD L hcl h 4 (by decide); rw [hLi] at this; cases this
      have hS : L 22 = false := by
        cases h : L 22 with
        | false => rfl
        | true => have := hcl 22 4 h (by simp [dep, ops, n22, Region.binds]); rw [hLi] at this; cases this
      obtain ⟨_, hsz, hJ0, hJ1, hAx⟩ : L 22 = false ∧ w1.heap.size ≤ w.heap.size ∧ (L 17 = false → J0 w) ∧ (L 17 = true → J1 w) ∧ (L 21 = true → w1.heap.size ≤ x ∧ w.heap[x]? = some (.cells #[.int .i64 0, .slice none 0 0] 59 (0, 0))) := by
        rcases hW with h | h
        · exact h
        · rw [hS] at h; cases h.1
      exact quiet_hst (r4 _ _ (hdv 3 12 (by simp [dep, ops, n4, Region.binds]) rfl) (hc w (hJ0 hDn)).1) (hW.read (by decide) (by decide) (by decide))
    · exact quiet_hst (r5 _ _ (hdv 4 13 (by simp [dep, ops, n5, Region.binds]) rfl)) (hW.read (by decide) (by decide) (by decide))
    · exact quiet_hst (r6 _ _ (hdv 5 14 (by simp [dep, ops, n6, Region.binds]) rfl)) (hW.read (by decide) (by decide) (by decide))
    · have hDn : L 17 = false := by
        cases h : L 17 with
        | false => rfl
        | true => have := clD L hcl h 7 (by decide); rw [hLi] at this; cases this
      have hS : L 22 = false := by
        cases h : L 22 with
        | false => rfl
        | true => have := hcl 22 7 h (by simp [dep, ops, n22, Region.binds]); rw [hLi] at this; cases this
      obtain ⟨_, hsz, hJ0, hJ1, hAx⟩ : L 22 = false ∧ w1.heap.size ≤ w.heap.size ∧ (L 17 = false → J0 w) ∧ (L 17 = true → J1 w) ∧ (L 21 = true → w1.heap.size ≤ x ∧ w.heap[x]? = some (.cells #[.int .i64 0, .slice none 0 0] 59 (0, 0))) := by
        rcases hW with h | h
        · exact h
        · rw [hS] at h; cases h.1
      exact quiet_hst (r7 _ _ (hdv 6 15 (by simp [dep, ops, n7, Region.binds]) rfl) (hc w (hJ0 hDn)).2.1) (hW.read (by decide) (by decide) (by decide))
    · exact quiet_hst (r8 _ _ s0) (hW.read (by decide) (by decide) (by decide))
    · exact quiet_hst (r9 _ _ (hdv 8 17 (by simp [dep, ops, n9, Region.binds]) rfl)) (hW.read (by decide) (by decide) (by decide))
    · exact quiet_hst (r10 _ _ (hdv 9 18 (by simp [dep, ops, n10, Region.binds]) rfl)) (hW.read (by decide) (by decide) (by decide))
    · exact quiet_hst (r11 _ _ (hdv 10 19 (by simp [dep, ops, n11, Region.binds]) rfl)) (hW.read (by decide) (by decide) (by decide))
    · have hDn : L 17 = false := by
        cases h : L 17 with
        | false => rfl
        | true => have := clD L hcl h 12 (by decide); rw [hLi] at this; cases this
      have hS : L 22 = false := by
        cases h : L 22 with
        | false => rfl
        | true => have := hcl 22 12 h (by simp [dep, ops, n22, Region.binds]); rw [hLi] at this; cases this
      obtain ⟨_, hsz, hJ0, hJ1, hAx⟩ : L 22 = false ∧ w1.heap.size ≤ w.heap.size ∧ (L 17 = false → J0 w) ∧ (L 17 = true → J1 w) ∧ (L 21 = true → w1.heap.size ≤ x ∧ w.heap[x]? = some (.cells #[.int .i64 0, .slice none 0 0] 59 (0, 0))) := by
        rcases hW with h | h
        · exact h
        · rw [hS] at h; cases h.1
      exact quiet_hst (r12 _ _ (hdv 11 20 (by simp [dep, ops, n12, Region.binds]) rfl) (hc w (hJ0 hDn)).1) (hW.read (by decide) (by decide) (by decide))
    · exact quiet_hst (r13 _ _ (hdv 12 21 (by simp [dep, ops, n13, Region.binds]) rfl)) (hW.read (by decide) (by decide) (by decide))
    · exact quiet_hst (r14 _ _ (hdv 13 22 (by simp [dep, ops, n14, Region.binds]) rfl)) (hW.read (by decide) (by decide) (by decide))
    · have hDn : L 17 = false := by
        cases h : L 17 with
        | false => rfl
        | true => have := clD L hcl h 15 (by decide); rw [hLi] at this; cases this
      have hS : L 22 = false := by
        cases h : L 22 with
        | false => rfl
        | true => have := hcl 22 15 h (by simp [dep, ops, n22, Region.binds]); rw [hLi] at this; cases this
      obtain ⟨_, hsz, hJ0, hJ1, hAx⟩ : L 22 = false ∧ w1.heap.size ≤ w.heap.size ∧ (L 17 = false → J0 w) ∧ (L 17 = true → J1 w) ∧ (L 21 = true → w1.heap.size ≤ x ∧ w.heap[x]? = some (.cells #[.int .i64 0, .slice none 0 0] 59 (0, 0))) := by
        rcases hW with h | h
        · exact h
        · rw [hS] at h; cases h.1
      exact quiet_hst (r15 _ _ (hdv 14 23 (by simp [dep, ops, n15, Region.binds]) rfl) (hc w (hJ0 hDn)).2.2) (hW.read (by decide) (by decide) (by decide))
    · have hDn : L 17 = false := by
        cases h : L 17 with
        | false => rfl
        | true => have := clD L hcl h 16 (by decide); rw [hLi] at this; cases this
      have hS : L 22 = false := by
        cases h : L 22 with
        | false => rfl
        | true => have := hcl 22 16 h (by simp [dep, ops, n22, Region.binds]); rw [hLi] at this; cases this
      obtain ⟨_, hsz, hJ0, hJ1, hAx⟩ : L 22 = false ∧ w1.heap.size ≤ w.heap.size ∧ (L 17 = false → J0 w) ∧ (L 17 = true → J1 w) ∧ (L 21 = true → w1.heap.size ≤ x ∧ w.heap[x]? = some (.cells #[.int .i64 0, .slice none 0 0] 59 (0, 0))) := by
        rcases hW with h | h
        · exact h
        · rw [hS] at h; cases h.1
      unfold Oper.wp
      rw [rM a.eval w rfl (hdv 15 24 (by simp [dep, ops, n16, Region.binds]) rfl), Oper.upon_enter]
      refine (hM w (hJ0 hDn)).mono ?_
      rintro e w' ⟨rfl, hf⟩
      refine ⟨x, rfl, fun _ _ => rfl, ?_⟩
      unfold Wd
      rw [updB_ne L (show 17 ≠ 16 by decide), updB_ne L (show 21 ≠ 16 by decide), updB_ne L (show 22 ≠ 16 by decide)]
      exact Or.inl ⟨hS, Nat.le_trans hsz hf.size, fun h => q0 _ _ (hJ0 h) hf, fun h => q1 _ _ (hJ1 h) hf, fun h => ⟨(hAx h).1, hf.keep (hAx h).2 (by simp)⟩⟩
    · have hS : L 22 = false := by
        cases h : L 22 with
        | false => rfl
        | true => have := hcl 22 17 h (by simp [dep, ops, n22, Region.binds]); rw [hLi] at this; cases this
      obtain ⟨_, hsz, hJ0, hJ1, hAx⟩ : L 22 = false ∧ w1.heap.size ≤ w.heap.size ∧ (L 17 = false → J0 w) ∧ (L 17 = true → J1 w) ∧ (L 21 = true → w1.heap.size ≤ x ∧ w.heap[x]? = some (.cells #[.int .i64 0, .slice none 0 0] 59 (0, 0))) := by
        rcases hW with h | h
        · exact h
        · rw [hS] at h; cases h.1
      unfold Oper.wp
      rw [rD a.eval w rfl (hdv 7 16 (by simp [dep, ops, n17, Region.binds]) rfl) (hdv 16 25 (by simp [dep, ops, n17, Region.binds]) rfl), Oper.upon_enter]
      refine (hDi w (hJ0 hLi)).mono ?_
      rintro e w' ⟨rfl, k1, k2, k3⟩
      refine ⟨x, rfl, fun _ _ => rfl, ?_⟩
      unfold Wd
      rw [updB_same, updB_ne L (show 21 ≠ 17 by decide), updB_ne L (show 22 ≠ 17 by decide)]
      exact Or.inl ⟨hS, Nat.le_trans hsz k2, fun h => (by cases h), fun _ => k1, fun h => ⟨(hAx h).1, k3 x _ (hAx h).1 (hAx h).2⟩⟩
    · exact quiet_hst (r18 _ _ (hdv 17 26 (by simp [dep, ops, n18, Region.binds]) rfl)) (hW.read (by decide) (by decide) (by decide))
    · exact quiet_hst (r19 _ _ (hdv 18 8 (by simp [dep, ops, n19, Region.binds]) rfl)) (hW.read (by decide) (by decide) (by decide))
    · exact quiet_hst (r20 _ _ (hdv 18 8 (by simp [dep, ops, n20, Region.binds]) rfl)) (hW.read (by decide) (by decide) (by decide))
    · have hS : L 22 = false := by
        cases h : L 22 with
        | false => rfl
        | true => have := hcl 22 21 h (by simp [dep, ops, n22, Region.binds]); rw [hLi] at this; cases this
      obtain ⟨_, hsz, hJ0, hJ1, hAx⟩ : L 22 = false ∧ w1.heap.size ≤ w.heap.size ∧ (L 17 = false → J0 w) ∧ (L 17 = true → J1 w) ∧ (L 21 = true → w1.heap.size ≤ x ∧ w.heap[x]? = some (.cells #[.int .i64 0, .slice none 0 0] 59 (0, 0))) := by
        rcases hW with h | h
        · exact h
        · rw [hS] at h; cases h.1
      have hf : Fr [] w (w.alloc (.cells #[.int .i64 0, .slice none 0 0] 59)) := Fr.alloc _ _ _
      unfold Oper.wp
      rw [rA a.eval w]
      refine ⟨w.heap.size, rfl, fun j hj => ?_, ?_⟩
      · by_cases e : j = 21
        · subst e; rw [hLi] at hj; cases hj
        · unfold val
          split <;> first | rfl | omega
      · unfold Wd
        rw [updB_same, updB_ne L (show 17 ≠ 21 by decide), updB_ne L (show 22 ≠ 21 by decide)]
        exact Or.inl ⟨hS, Nat.le_trans hsz hf.size, fun h => q0 _ _ (hJ0 h) hf, fun h => q1 _ _ (hJ1 h) hf, fun _ => ⟨hsz, heap_alloc_new _ _⟩⟩
    · have hS : L 22 = false := hLi
      obtain ⟨_, hsz, hJ0, hJ1, hAx⟩ : L 22 = false ∧ w1.heap.size ≤ w.heap.size ∧ (L 17 = false → J0 w) ∧ (L 17 = true → J1 w) ∧ (L 21 = true → w1.heap.size ≤ x ∧ w.heap[x]? = some (.cells #[.int .i64 0, .slice none 0 0] 59 (0, 0))) := by
        rcases hW with h | h
        · exact h
        · rw [hS] at h; cases h.1
      have hA := hAx (hdl 21 (by simp [dep, ops, n22, Region.binds]))
      have hDd : L 17 = true := hdl 17 (by simp [dep, ops, n22, Region.binds])
      unfold Oper.wp
      rw [rS a.eval w (hdv 21 4 (by simp [dep, ops, n22, Region.binds]) rfl) (hdv 19 27 (by simp [dep, ops, n22, Region.binds]) rfl) hA.2]
      refine ⟨x, rfl, fun j hj => rfl, ?_⟩
      unfold Wd
      rw [updB_same]
      exact Or.inr ⟨rfl, w, hJ1 hDd, hA.1, hA.2, rfl⟩
    · exact quiet_hst (r23 _ _ (hdv 20 28 (by simp [dep, ops, n23, Region.binds]) rfl)) (hW.read (by decide) (by decide) (by decide))
  · intro x L w hL hW
    rcases hW with ⟨h, _⟩ | ⟨_, w', a1, a2, a3, rfl⟩
    · rw [hL 22 (by decide)] at h; cases h
    · exact hend x w' a1 a2 a3
end Go.Proofs.YtakbodlicfmkjaaGreat.Kf

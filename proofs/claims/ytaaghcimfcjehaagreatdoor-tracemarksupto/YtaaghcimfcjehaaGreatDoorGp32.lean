/- Texts of this claim laid together, one behind the other: contracts and plain lemmas; conditions as each names them. -/
import Derived.Test.YtaaghcimfcjehaaGreatDoorGp31
import Derived.Great.Frames
import Derived.Laws.MakeOwn
/- The region of newStory that makes the story: it draws its order. Conditions as each names them. -/
namespace Go.Proofs.YtaaghcimfcjehaaGreatDoor
open Go.ChangeShapes Go.WideShapes Go.ChangeAt Go.RowKit Go.Lib Go.Maps
set_option linter.unusedVariables false
set_option linter.unusedSimpArgs false

def n0 : Oper := { dst := some 36, op := Op.load 23 (Operand.tmp 3), type := 23, pos := "story.go:52", after := #[], guard := none }
def n1 : Oper := { dst := some 37, op := Op.move (Operand.tmp 1), type := 24, pos := "story.go:52", after := #[], guard := none }
def n2 : Oper := { dst := some 38, op := Op.move (Operand.tmp 10), type := 103, pos := "story.go:52", after := #[], guard := none }
def n3 : Oper := { dst := some 39, op := Op.call { callee := Callee.value (Operand.func 76), args := #[], argTypes := #[] }, type := 107, pos := "story.go:56", after := #[], guard := none }
def n4 : Oper := { dst := some 40, op := Op.fieldAddr 28 (Operand.tmp 5) 0, type := 0, pos := "story.go:52", after := #[], guard := none }
def n5 : Oper := { dst := some 41, op := Op.load 3 (Operand.tmp 40), type := 3, pos := "story.go:52", after := #[{ on := 4, ground := Ground.data }], guard := none }
def n6 : Oper := { dst := some 42, op := Op.fieldAddr 23 (Operand.tmp 3) 0, type := 0, pos := "story.go:52", after := #[], guard := none }
def n7 : Oper := { dst := some 43, op := Op.load 3 (Operand.tmp 42), type := 3, pos := "story.go:52", after := #[{ on := 6, ground := Ground.data }], guard := none }
def n8 : Oper := { dst := some 44, op := Op.makeSlice 109 (Operand.tmp 43) (Operand.tmp 43), type := 109, pos := "story.go:52", after := #[{ on := 7, ground := Ground.data }, { on := 7, ground := Ground.data }], guard := none }
def n9 : Oper := { dst := some 45, op := Op.fieldAddr 23 (Operand.tmp 3) 1, type := 0, pos := "story.go:52", after := #[], guard := none }
def n10 : Oper := { dst := some 46, op := Op.load 3 (Operand.tmp 45), type := 3, pos := "story.go:52", after := #[{ on := 9, ground := Ground.data }], guard := none }
def n11 : Oper := { dst := some 47, op := Op.makeSlice 110 (Operand.tmp 46) (Operand.tmp 46), type := 110, pos := "story.go:52", after := #[{ on := 10, ground := Ground.data }, { on := 10, ground := Ground.data }], guard := none }
def n12 : Oper := { dst := some 48, op := Op.makeMap 111 none, type := 111, pos := "story.go:52", after := #[], guard := none }
def n13 : Oper := { dst := some 49, op := Op.makeMap 112 none, type := 112, pos := "story.go:52", after := #[], guard := none }
def n14 : Oper := { dst := some 50, op := Op.build 114 #[(0, Operand.tmp 36), (1, Operand.tmp 37), (2, Operand.tmp 38), (3, Operand.tmp 39), (4, Operand.tmp 41), (8, Operand.tmp 44), (9, Operand.tmp 47), (10, Operand.tmp 48), (11, Operand.tmp 49)], type := 114, pos := "story.go:52", after := #[{ on := 0, ground := Ground.data }, { on := 1, ground := Ground.data }, { on := 2, ground := Ground.data }, { on := 3, ground := Ground.data }, { on := 5, ground := Ground.data }, { on := 8, ground := Ground.data }, { on := 11, ground := Ground.data }, { on := 12, ground := Ground.data }, { on := 13, ground := Ground.data }], guard := none }
def n15 : Oper := { dst := some 51, op := Op.box 114 (Operand.tmp 50), type := 71, pos := "story.go:52", after := #[{ on := 14, ground := Ground.data }], guard := none }
def n16 : Oper := { dst := some 6, op := Op.assign (Operand.tmp 51), type := 71, pos := "story.go:52", after := #[{ on := 15, ground := Ground.data }, { on := 3, ground := Ground.chain }, { on := 0, ground := Ground.phase }, { on := 1, ground := Ground.phase }, { on := 2, ground := Ground.phase }, { on := 3, ground := Ground.phase }, { on := 4, ground := Ground.phase }, { on := 5, ground := Ground.phase }, { on := 6, ground := Ground.phase }, { on := 7, ground := Ground.phase }, { on := 8, ground := Ground.phase }, { on := 9, ground := Ground.phase }, { on := 10, ground := Ground.phase }, { on := 11, ground := Ground.phase }, { on := 12, ground := Ground.phase }, { on := 13, ground := Ground.phase }, { on := 14, ground := Ground.phase }, { on := 15, ground := Ground.phase }], guard := none }
def n17 : Oper := { dst := some 7, op := Op.assign (Operand.const (Value.bool true)), type := 4, pos := "story.go:52", after := #[{ on := 16, ground := Ground.chain }, { on := 0, ground := Ground.phase }, { on := 1, ground := Ground.phase }, { on := 2, ground := Ground.phase }, { on := 3, ground := Ground.phase }, { on := 4, ground := Ground.phase }, { on := 5, ground := Ground.phase }, { on := 6, ground := Ground.phase }, { on := 7, ground := Ground.phase }, { on := 8, ground := Ground.phase }, { on := 9, ground := Ground.phase }, { on := 10, ground := Ground.phase }, { on := 11, ground := Ground.phase }, { on := 12, ground := Ground.phase }, { on := 13, ground := Ground.phase }, { on := 14, ground := Ground.phase }, { on := 15, ground := Ground.phase }, { on := 16, ground := Ground.phase }], guard := none }
def ops7 : Array Oper := #[n0, n1, n2, n3, n4, n5, n6, n7, n8, n9, n10, n11, n12, n13, n14, n15, n16, n17]
def dl7 : List Nat := [36, 37, 38, 39, 40, 41, 42, 43, 44, 45, 46, 47, 48, 49, 50, 51, 6, 7]
theorem dst7 : ∀ i, dstOf ops7 i = dl7[i]?
  | 0 => rfl
  | 1 => rfl
  | 2 => rfl
  | 3 => rfl
  | 4 => rfl
  | 5 => rfl
  | 6 => rfl
  | 7 => rfl
  | 8 => rfl
  | 9 => rfl
  | 10 => rfl
  | 11 => rfl
  | 12 => rfl
  | 13 => rfl
  | 14 => rfl
  | 15 => rfl
  | 16 => rfl
  | 17 => rfl
  | n + 18 => by simp [dstOf, ops7, dl7]
theorem o7 : ∀ (i : Nat) (o : Oper), ops7[i]? = some o → (i = 0 ∧ o = n0) ∨ (i = 1 ∧ o = n1) ∨ (i = 2 ∧ o = n2) ∨ (i = 3 ∧ o = n3) ∨ (i = 4 ∧ o = n4) ∨ (i = 5 ∧ o = n5) ∨ (i = 6 ∧ o = n6) ∨ (i = 7 ∧ o = n7) ∨ (i = 8 ∧ o = n8) ∨ (i = 9 ∧ o = n9) ∨ (i = 10 ∧ o = n10) ∨ (i = 11 ∧ o = n11) ∨ (i = 12 ∧ o = n12) ∨ (i = 13 ∧ o = n13) ∨ (i = 14 ∧ o = n14) ∨ (i = 15 ∧ o = n15) ∨ (i = 16 ∧ o = n16) ∨ (i = 17 ∧ o = n17)
  | 0, o, h => by have h2 : some n0 = some o := h; cases h2; simp
  | 1, o, h => by have h2 : some n1 = some o := h; cases h2; simp
  | 2, o, h => by have h2 : some n2 = some o := h; cases h2; simp
  | 3, o, h => by have h2 : some n3 = some o := h; cases h2; simp
  | 4, o, h => by have h2 : some n4 = some o := h; cases h2; simp
  | 5, o, h => by have h2 : some n5 = some o := h; cases h2; simp
  | 6, o, h => by have h2 : some n6 = some o := h; cases h2; simp
  | 7, o, h => by have h2 : some n7 = some o := h; cases h2; simp
  | 8, o, h => by have h2 : some n8 = some o := h; cases h2; simp
  | 9, o, h => by have h2 : some n9 = some o := h; cases h2; simp
  | 10, o, h => by have h2 : some n10 = some o := h; cases h2; simp
  | 11, o, h => by have h2 : some n11 = some o := h; cases h2; simp
  | 12, o, h => by have h2 : some n12 = some o := h; cases h2; simp
  | 13, o, h => by have h2 : some n13 = some o := h; cases h2; simp
  | 14, o, h => by have h2 : some n14 = some o := h; cases h2; simp
  | 15, o, h => by have h2 : some n15 = some o := h; cases h2; simp
  | 16, o, h => by have h2 : some n16 = some o := h; cases h2; simp
  | 17, o, h => by have h2 : some n17 = some o := h; cases h2; simp
  | n + 18, o, h => by simp [ops7] at h
theorem hN7 : ∀ i j d, dstOf ops7 i = some d → dstOf ops7 j = some d → i = j := by
  intro i j d h1 h2
  rw [dst7] at h1 h2
  have hi := (List.getElem?_eq_some_iff.1 h1).1
  have hj := (List.getElem?_eq_some_iff.1 h2).1
  have key : ∀ i, i < 18 → ∀ j, j < 18 → dl7[i]? = dl7[j]? → i = j := by decide
  exact key i hi j hj (h1.trans h2.symm)
theorem hlex7 : ∀ (i : Nat) (o : Oper), ops7[i]? = some o → ∀ e ∈ o.after, Region.binds .any e = true → e.on < i := by
  intro i o h e he hb
  have key : ∀ (k : Nat) (p : Oper), (p.after.all fun e => !Region.binds .any e || decide (e.on < k)) = true → ∀ e ∈ p.after, Region.binds .any e = true → e.on < k := by
    intro k p hp e he hb
    rw [Array.all_eq_true_iff_forall_mem] at hp
    have := hp e he
    simpa [hb] using this
  rcases o7 i o h with ⟨rfl, rfl⟩ | ⟨rfl, rfl⟩ | ⟨rfl, rfl⟩ | ⟨rfl, rfl⟩ | ⟨rfl, rfl⟩ | ⟨rfl, rfl⟩ | ⟨rfl, rfl⟩ | ⟨rfl, rfl⟩ | ⟨rfl, rfl⟩ | ⟨rfl, rfl⟩ | ⟨rfl, rfl⟩ | ⟨rfl, rfl⟩ | ⟨rfl, rfl⟩ | ⟨rfl, rfl⟩ | ⟨rfl, rfl⟩ | ⟨rfl, rfl⟩ | ⟨rfl, rfl⟩ | ⟨rfl, rfl⟩
  · exact key 0 n0 (by simp [n0, Region.binds]) e he hb
  · exact key 1 n1 (by simp [n1, Region.binds]) e he hb
  · exact key 2 n2 (by simp [n2, Region.binds]) e he hb
  · exact key 3 n3 (by simp [n3, Region.binds]) e he hb
  · exact key 4 n4 (by simp [n4, Region.binds]) e he hb
  · exact key 5 n5 (by simp [n5, Region.binds]) e he hb
  · exact key 6 n6 (by simp [n6, Region.binds]) e he hb
  · exact key 7 n7 (by simp [n7, Region.binds]) e he hb
  · exact key 8 n8 (by simp [n8, Region.binds]) e he hb
  · exact key 9 n9 (by simp [n9, Region.binds]) e he hb
  · exact key 10 n10 (by simp [n10, Region.binds]) e he hb
  · exact key 11 n11 (by simp [n11, Region.binds]) e he hb
  · exact key 12 n12 (by simp [n12, Region.binds]) e he hb
  · exact key 13 n13 (by simp [n13, Region.binds]) e he hb
  · exact key 14 n14 (by simp [n14, Region.binds]) e he hb
  · exact key 15 n15 (by simp [n15, Region.binds]) e he hb
  · exact key 16 n16 (by simp [n16, Region.binds]) e he hb
  · exact key 17 n17 (by simp [n17, Region.binds]) e he hb
theorem hg7 {a0 : Act} (hz : a0.tmps.size = 52) : ∀ (i : Nat) (o : Oper), ops7[i]? = some o → o.guard = none ∧ ∃ d, o.dst = some d ∧ d < a0.tmps.size := by
  intro i o h
  rw [hz]
  rcases o7 i o h with ⟨rfl, rfl⟩ | ⟨rfl, rfl⟩ | ⟨rfl, rfl⟩ | ⟨rfl, rfl⟩ | ⟨rfl, rfl⟩ | ⟨rfl, rfl⟩ | ⟨rfl, rfl⟩ | ⟨rfl, rfl⟩ | ⟨rfl, rfl⟩ | ⟨rfl, rfl⟩ | ⟨rfl, rfl⟩ | ⟨rfl, rfl⟩ | ⟨rfl, rfl⟩ | ⟨rfl, rfl⟩ | ⟨rfl, rfl⟩ | ⟨rfl, rfl⟩ | ⟨rfl, rfl⟩ | ⟨rfl, rfl⟩
  · exact ⟨rfl, 36, rfl, by decide⟩
  · exact ⟨rfl, 37, rfl, by decide⟩
  · exact ⟨rfl, 38, rfl, by decide⟩
  · exact ⟨rfl, 39, rfl, by decide⟩
  · exact ⟨rfl, 40, rfl, by decide⟩
  · exact ⟨rfl, 41, rfl, by decide⟩
  · exact ⟨rfl, 42, rfl, by decide⟩
  · exact ⟨rfl, 43, rfl, by decide⟩
  · exact ⟨rfl, 44, rfl, by decide⟩
  · exact ⟨rfl, 45, rfl, by decide⟩
  · exact ⟨rfl, 46, rfl, by decide⟩
  · exact ⟨rfl, 47, rfl, by decide⟩
  · exact ⟨rfl, 48, rfl, by decide⟩
  · exact ⟨rfl, 49, rfl, by decide⟩
  · exact ⟨rfl, 50, rfl, by decide⟩
  · exact ⟨rfl, 51, rfl, by decide⟩
  · exact ⟨rfl, 6, rfl, by decide⟩
  · exact ⟨rfl, 7, rfl, by decide⟩
/-- The cells of a row of so many zero lanes; of zero rows. -/
def zLn (n : Nat) : Array Value := madeCells #[.int .i64 0, .slice none 0 0] n
def zQu (n : Nat) : Array Value := madeCells #[.slice none 0 0] n
/-- What stays so of each operation's value. -/
def Ph (c : Cf) (lo : Option Addr) (M mc g : Nat) (m : Int) (b3 b5 : Nat) : Nat → (Nat → Value) → List Nat → World → Prop
  | 0, ρ, B, w => B = [] ∧ ρ 36 = .agg #[.int .i64 c.l, .int .i64 c.s, .int .i64 c.w, .int .i64 c.q]
  | 1, ρ, B, w => B = [] ∧ ρ 37 = .slice lo M mc
  | 2, ρ, B, w => B = [] ∧ ρ 38 = .pointer (some ⟨g, 0, none⟩)
  | 3, ρ, B, w => ∃ tb, ρ 39 = .pointer (some ⟨tb, 0, none⟩) ∧ Tb w tb B 0 Dt.none
  | 4, ρ, B, w => B = [] ∧ ρ 40 = .pointer (some ⟨b5, 0, none⟩)
  | 5, ρ, B, w => B = [] ∧ ρ 41 = .int .i64 m
  | 6, ρ, B, w => B = [] ∧ ρ 42 = .pointer (some ⟨b3, 0, none⟩)
  | 7, ρ, B, w => B = [] ∧ ρ 43 = .int .i64 c.l
  | 8, ρ, B, w => ∃ lb, ρ 44 = .slice (some ⟨lb, 0, none⟩) c.l.toNat c.l.toNat ∧ B = [lb] ∧ w.heap[lb]? = some (.cells (zLn (c.l.toNat * 2)) 237 (0, 0))
  | 9, ρ, B, w => B = [] ∧ ρ 45 = .pointer (some ⟨b3, 1, none⟩)
  | 10, ρ, B, w => B = [] ∧ ρ 46 = .int .i64 c.s
  | 11, ρ, B, w => ∃ qq, ρ 47 = .slice (some ⟨qq, 0, none⟩) c.s.toNat c.s.toNat ∧ B = [qq] ∧ w.heap[qq]? = some (.cells (zQu (c.s.toNat * 1)) 25 (0, 0))
  | 12, ρ, B, w => ∃ ob, ρ 48 = .map (some ob) ∧ B = [ob] ∧ MapG kOut w ob 0 (fun _ => none)
  | 13, ρ, B, w => ∃ cb, ρ 49 = .map (some cb) ∧ B = [cb] ∧ MapG kCal w cb 0 (fun _ => none)
  | 14, ρ, B, w => B = [] ∧ ρ 50 = .agg #[.int .i64 c.l, .int .i64 c.s, .int .i64 c.w, .int .i64 c.q, ρ 37, ρ 38, ρ 39, ρ 41, .bool false, .slice none 0 0, .slice none 0 0, ρ 44, ρ 47, ρ 48, ρ 49]
  | 15, ρ, B, w => ∃ sb cells, ρ 50 = .agg cells ∧ ρ 51 = .pointer (some ⟨sb, 0, none⟩) ∧ B = [sb] ∧ w.heap[sb]? = some (.cells cells 114 (0, 0))
  | 16, ρ, B, w => B = [] ∧ ρ 6 = ρ 51
  | 17, ρ, B, w => B = [] ∧ ρ 7 = .bool true
  | _, ρ, B, w => True
theorem hPh7 (c : Cf) (lo : Option Addr) (M mc g : Nat) (m : Int) (b3 b5 : Nat) : ∀ i ρ ρ' B w w', Fr [] w w' → (∀ t, (dstOf ops7 i = some t ∨ ∃ j, dep ops7 i j = true ∧ dstOf ops7 j = some t) → ρ' t = ρ t) → Ph c lo M mc g m b3 b5 i ρ B w → Ph c lo M mc g m b3 b5 i ρ' B w'
  | 0, ρ, ρ', B, w, w', hf, hρ, h => by have e36 := hρ 36 (Or.inl rfl); simp only [Ph] at h ⊢; rw [e36]; exact h
  | 1, ρ, ρ', B, w, w', hf, hρ, h => by have e37 := hρ 37 (Or.inl rfl); simp only [Ph] at h ⊢; rw [e37]; exact h
  | 2, ρ, ρ', B, w, w', hf, hρ, h => by have e38 := hρ 38 (Or.inl rfl); simp only [Ph] at h ⊢; rw [e38]; exact h
  | 3, ρ, ρ', B, w, w', hf, hρ, h => by have e39 := hρ 39 (Or.inl rfl); simp only [Ph] at h ⊢; rw [e39]; obtain ⟨tb, h1, h2⟩ := h; exact ⟨tb, h1, h2.keep hf (by simp)⟩
  | 4, ρ, ρ', B, w, w', hf, hρ, h => by have e40 := hρ 40 (Or.inl rfl); simp only [Ph] at h ⊢; rw [e40]; exact h
  | 5, ρ, ρ', B, w, w', hf, hρ, h => by have e41 := hρ 41 (Or.inl rfl); simp only [Ph] at h ⊢; rw [e41]; exact h
  | 6, ρ, ρ', B, w, w', hf, hρ, h => by have e42 := hρ 42 (Or.inl rfl); simp only [Ph] at h ⊢; rw [e42]; exact h
  | 7, ρ, ρ', B, w, w', hf, hρ, h => by have e43 := hρ 43 (Or.inl rfl); simp only [Ph] at h ⊢; rw [e43]; exact h
  | 8, ρ, ρ', B, w, w', hf, hρ, h => by have e44 := hρ 44 (Or.inl rfl); simp only [Ph] at h ⊢; rw [e44]; obtain ⟨b, h1, h2, h3⟩ := h; exact ⟨b, h1, h2, hf.keep h3 (by simp)⟩
  | 9, ρ, ρ', B, w, w', hf, hρ, h => by have e45 := hρ 45 (Or.inl rfl); simp only [Ph] at h ⊢; rw [e45]; exact h
  | 10, ρ, ρ', B, w, w', hf, hρ, h => by have e46 := hρ 46 (Or.inl rfl); simp only [Ph] at h ⊢; rw [e46]; exact h
  | 11, ρ, ρ', B, w, w', hf, hρ, h => by have e47 := hρ 47 (Or.inl rfl); simp only [Ph] at h ⊢; rw [e47]; obtain ⟨b, h1, h2, h3⟩ := h; exact ⟨b, h1, h2, hf.keep h3 (by simp)⟩
  | 12, ρ, ρ', B, w, w', hf, hρ, h => by have e48 := hρ 48 (Or.inl rfl); simp only [Ph] at h ⊢; rw [e48]; obtain ⟨b, h1, h2, h3⟩ := h; exact ⟨b, h1, h2, h3.keep hf (by simp)⟩
  | 13, ρ, ρ', B, w, w', hf, hρ, h => by have e49 := hρ 49 (Or.inl rfl); simp only [Ph] at h ⊢; rw [e49]; obtain ⟨b, h1, h2, h3⟩ := h; exact ⟨b, h1, h2, h3.keep hf (by simp)⟩
  | 14, ρ, ρ', B, w, w', hf, hρ, h => by have e37 := hρ 37 (Or.inr ⟨1, by simp [dep, ops7, n14, Region.binds], by rfl⟩); have e38 := hρ 38 (Or.inr ⟨2, by simp [dep, ops7, n14, Region.binds], by rfl⟩); have e39 := hρ 39 (Or.inr ⟨3, by simp [dep, ops7, n14, Region.binds], by rfl⟩); have e41 := hρ 41 (Or.inr ⟨5, by simp [dep, ops7, n14, Region.binds], by rfl⟩); have e44 := hρ 44 (Or.inr ⟨8, by simp [dep, ops7, n14, Region.binds], by rfl⟩); have e47 := hρ 47 (Or.inr ⟨11, by simp [dep, ops7, n14, Region.binds], by rfl⟩); have e48 := hρ 48 (Or.inr ⟨12, by simp [dep, ops7, n14, Region.binds], by rfl⟩); have e49 := hρ 49 (Or.inr ⟨13, by simp [dep, ops7, n14, Region.binds], by rfl⟩); have e50 := hρ 50 (Or.inl rfl); simp only [Ph] at h ⊢; rw [e37, e38, e39, e41, e44, e47, e48, e49, e50]; exact h
  | 15, ρ, ρ', B, w, w', hf, hρ, h => by have e50 := hρ 50 (Or.inr ⟨14, by simp [dep, ops7, n15, Region.binds], by rfl⟩); have e51 := hρ 51 (Or.inl rfl); simp only [Ph] at h ⊢; rw [e50, e51]; obtain ⟨b, cs, h1, h2, h3, h4⟩ := h; exact ⟨b, cs, h1, h2, h3, hf.keep h4 (by simp)⟩
  | 16, ρ, ρ', B, w, w', hf, hρ, h => by have e6 := hρ 6 (Or.inl rfl); have e51 := hρ 51 (Or.inr ⟨15, by simp [dep, ops7, n16, Region.binds], by rfl⟩); simp only [Ph] at h ⊢; rw [e6, e51]; exact h
  | 17, ρ, ρ', B, w, w', hf, hρ, h => by have e7 := hρ 7 (Or.inl rfl); simp only [Ph] at h ⊢; rw [e7]; exact h
  | n + 18, ρ, ρ', B, w, w', hf, hρ, h => trivial
section
variable (ρ : Operand → Value) (w : World) {c : Cf} {lo : Option Addr} {M mc g b3 b5 : Nat} {m : Int}
theorem rn0 (h : ρ (.tmp 3) = .pointer (some ⟨b3, 0, none⟩)) (c0 : w.cell? ⟨b3, 0, none⟩ = some (.int .i64 c.l)) (c1 : w.cell? ⟨b3, 1, none⟩ = some (.int .i64 c.s)) (c2 : w.cell? ⟨b3, 2, none⟩ = some (.int .i64 c.w)) (c3 : w.cell? ⟨b3, 3, none⟩ = some (.int .i64 c.q)) : (execOp ρ n0).run Tryz.prog w = .ok (.value (.agg #[.int .i64 c.l, .int .i64 c.s, .int .i64 c.w, .int .i64 c.q])) w := by
  unfold n0
  go_simp
theorem rn1 : (execOp ρ n1).run Tryz.prog w = .ok (.value (ρ (.tmp 1))) w := by
  unfold n1
  go_simp
theorem rn2 : (execOp ρ n2).run Tryz.prog w = .ok (.value (ρ (.tmp 10))) w := by
  unfold n2
  go_simp
theorem rn4 (h : ρ (.tmp 5) = .pointer (some ⟨b5, 0, none⟩)) : (execOp ρ n4).run Tryz.prog w = .ok (.value (.pointer (some ⟨b5, 0, none⟩))) w := by
  unfold n4
  go_simp
theorem rn5 (h : ρ (.tmp 40) = .pointer (some ⟨b5, 0, none⟩)) (c0 : w.cell? ⟨b5, 0, none⟩ = some (.int .i64 m)) : (execOp ρ n5).run Tryz.prog w = .ok (.value (.int .i64 m)) w := by
  unfold n5
  go_simp
theorem rn6 (h : ρ (.tmp 3) = .pointer (some ⟨b3, 0, none⟩)) : (execOp ρ n6).run Tryz.prog w = .ok (.value (.pointer (some ⟨b3, 0, none⟩))) w := by
  unfold n6
  go_simp
theorem rn7 (h : ρ (.tmp 42) = .pointer (some ⟨b3, 0, none⟩)) (c0 : w.cell? ⟨b3, 0, none⟩ = some (.int .i64 c.l)) : (execOp ρ n7).run Tryz.prog w = .ok (.value (.int .i64 c.l)) w := by
  unfold n7
  go_simp
theorem rn9 (h : ρ (.tmp 3) = .pointer (some ⟨b3, 0, none⟩)) : (execOp ρ n9).run Tryz.prog w = .ok (.value (.pointer (some ⟨b3, 1, none⟩))) w := by
  unfold n9
  go_simp
theorem rn10 (h : ρ (.tmp 45) = .pointer (some ⟨b3, 1, none⟩)) (c1 : w.cell? ⟨b3, 1, none⟩ = some (.int .i64 c.s)) : (execOp ρ n10).run Tryz.prog w = .ok (.value (.int .i64 c.s)) w := by
  unfold n10
  go_simp
theorem rn3 (h : ρ (.func 76) = .func (.func 76) #[] #[]) : (execOp ρ n3).run Tryz.prog w = .ok (.enter 76 #[]) w := by
  unfold n3
  go_simp
theorem Tryz.infoLane : (Tryz.prog.info? 237).map (fun i => (i.zero, i.size, i.bytes)) = some (some (.agg #[.int .i64 0, .slice none 0 0]), 2, 32) := by kernel_rfl
theorem Tryz.infoIs : (Tryz.prog.info? 25).map (fun i => (i.zero, i.size, i.bytes)) = some (some (.slice none 0 0), 1, 24) := by kernel_rfl
theorem mkLn (w : World) (l : Int) (h0 : 0 ≤ l) (h1 : l ≤ 16) : (Instr.makeSlice 109 (.int .i64 l) (.int .i64 l)).run Tryz.prog w = .ok (.slice (some ⟨w.heap.size, 0, none⟩) l.toNat l.toNat) (w.alloc (.cells (zLn (l.toNat * 2)) 237)) := by
  have hi := Tryz.infoLane
  cases hI : Tryz.prog.info? 237 with
  | none => rw [hI] at hi; simp at hi
  | some i =>
    rw [hI] at hi
    simp only [Option.map_some, Option.some.injEq, Prod.mk.injEq] at hi
    have := run_make (P := Tryz.prog) w 109 237 i _ (by kernel_rfl) hI hi.1 .i64 .i64 l l h0 (Int.le_refl _) (by rw [hi.2.2]; omega) (by omega)
    rw [hi.2.1] at this
    exact this
theorem mkQu (w : World) (l : Int) (h0 : 0 ≤ l) (h1 : l ≤ 16) : (Instr.makeSlice 110 (.int .i64 l) (.int .i64 l)).run Tryz.prog w = .ok (.slice (some ⟨w.heap.size, 0, none⟩) l.toNat l.toNat) (w.alloc (.cells (zQu (l.toNat * 1)) 25)) := by
  have hi := Tryz.infoIs
  cases hI : Tryz.prog.info? 25 with
  | none => rw [hI] at hi; simp at hi
  | some i =>
    rw [hI] at hi
    simp only [Option.map_some, Option.some.injEq, Prod.mk.injEq] at hi
    have := run_make (P := Tryz.prog) w 110 25 i _ (by kernel_rfl) hI hi.1 .i64 .i64 l l h0 (Int.le_refl _) (by rw [hi.2.2]; omega) (by omega)
    rw [hi.2.1] at this
    exact this
theorem rn8 (h : ρ (.tmp 43) = .int .i64 c.l) (h0 : 0 ≤ c.l) (h1 : c.l ≤ 16) : (execOp ρ n8).run Tryz.prog w = .ok (.value (.slice (some ⟨w.heap.size, 0, none⟩) c.l.toNat c.l.toNat)) (w.alloc (.cells (zLn (c.l.toNat * 2)) 237)) := by
  have hm := mkLn w c.l h0 h1
  unfold n8
  go_simp
theorem rn11 (h : ρ (.tmp 46) = .int .i64 c.s) (h0 : 0 ≤ c.s) (h1 : c.s ≤ 16) : (execOp ρ n11).run Tryz.prog w = .ok (.value (.slice (some ⟨w.heap.size, 0, none⟩) c.s.toNat c.s.toNat)) (w.alloc (.cells (zQu (c.s.toNat * 1)) 25)) := by
  have hm := mkQu w c.s h0 h1
  unfold n11
  go_simp
theorem rn12 : (execOp ρ n12).run Tryz.prog w = .ok (.value (.map (some w.heap.size))) (w.alloc (.map #[] 0)) := by
  have hm := @run_makeMap Tryz.prog
  unfold n12
  go_simp
theorem rn13 : (execOp ρ n13).run Tryz.prog w = .ok (.value (.map (some w.heap.size))) (w.alloc (.map #[] 0)) := by
  have hm := @run_makeMap Tryz.prog
  unfold n13
  go_simp
theorem rn14 {tb lb qq ob cb a1 a2 : Nat} (h36 : ρ (.tmp 36) = .agg #[.int .i64 c.l, .int .i64 c.s, .int .i64 c.w, .int .i64 c.q]) (h37 : ρ (.tmp 37) = .slice lo M mc) (h38 : ρ (.tmp 38) = .pointer (some ⟨g, 0, none⟩)) (h39 : ρ (.tmp 39) = .pointer (some ⟨tb, 0, none⟩)) (h41 : ρ (.tmp 41) = .int .i64 m) (h44 : ρ (.tmp 44) = .slice (some ⟨lb, 0, none⟩) a1 a1) (h47 : ρ (.tmp 47) = .slice (some ⟨qq, 0, none⟩) a2 a2) (h48 : ρ (.tmp 48) = .map (some ob)) (h49 : ρ (.tmp 49) = .map (some cb)) :
    (execOp ρ n14).run Tryz.prog w = .ok (.value (.agg #[.int .i64 c.l, .int .i64 c.s, .int .i64 c.w, .int .i64 c.q, .slice lo M mc, .pointer (some ⟨g, 0, none⟩), .pointer (some ⟨tb, 0, none⟩), .int .i64 m, .bool false, .slice none 0 0, .slice none 0 0, .slice (some ⟨lb, 0, none⟩) a1 a1, .slice (some ⟨qq, 0, none⟩) a2 a2, .map (some ob), .map (some cb)])) w := by
  unfold n14
  go_simp
theorem rn15 (cells : Array Value) (h : ρ (.tmp 50) = .agg cells) : (execOp ρ n15).run Tryz.prog w = .ok (.value (.pointer (some ⟨w.heap.size, 0, none⟩))) (w.alloc (.cells cells 114)) := by
  unfold n15
  go_simp
theorem rn16 : (execOp ρ n16).run Tryz.prog w = .ok (.value (ρ (.tmp 51))) w := by
  unfold n16
  go_simp
theorem rn17 (h : ρ (.const (.bool true)) = .bool true) : (execOp ρ n17).run Tryz.prog w = .ok (.value (.bool true)) w := by
  unfold n17
  go_simp
end
theorem wp_val {P : Program} {o : Oper} {a : Act} {w w' : World} {v : Value} {K : Act → World → Prop} {Q : Exit → Act → World → Prop} (hr : (execOp a.eval o).run P w = .ok (.value v) w') (h : K (a.put o.dst v) w') : o.wp P a w K Q := by
  unfold Oper.wp
  rw [hr]
  exact h
theorem env_same {a : Act} {d : Nat} {v : Value} (h : d < a.tmps.size) : env (a.put (some d) v) d = v := Act.eval_put_same a d v h
theorem env_ne {a : Act} {d j : Nat} {v : Value} (h : d ≠ j) : env (a.put (some d) v) j = env a j := Act.eval_put_ne a d j v h
set_option maxHeartbeats 2000000 in
set_option maxRecDepth 100000 in
theorem hs7 {Q : Exit → Act → World → Prop} {a0 : Act} {w0 : World} {c : Cf} {lo : Option Addr} {M mc g b3 b5 : Nat} {m : Int} (hc : c.may) (hz : a0.tmps.size = 52) (t1 : env a0 1 = .slice lo M mc) (t3 : env a0 3 = .pointer (some ⟨b3, 0, none⟩)) (t5 : env a0 5 = .pointer (some ⟨b5, 0, none⟩)) (t10 : env a0 10 = .pointer (some ⟨g, 0, none⟩))
    (hcf : CfM w0 b3 c.l c.s c.w c.q) (hm : ∀ W, Fr [] w0 W → W.cell? ⟨b5, 0, none⟩ = some (.int .i64 m)) : Mkg Tryz.prog ops7 Q a0 w0 (Ph c lo M mc g m b3 b5) := by
  intro i o ho a w hza hf hsame hdep
  have hno : ∀ t, t ∉ dl7 → env a t = env a0 t := fun t ht => hsame t (fun j hj => by rw [dst7] at hj; exact ht (List.mem_of_getElem? hj))
  have s1 : env a 1 = .slice lo M mc := (hno 1 (by decide)).trans t1
  have s3 : env a 3 = .pointer (some ⟨b3, 0, none⟩) := (hno 3 (by decide)).trans t3
  have s5 : env a 5 = .pointer (some ⟨b5, 0, none⟩) := (hno 5 (by decide)).trans t5
  have s10 : env a 10 = .pointer (some ⟨g, 0, none⟩) := (hno 10 (by decide)).trans t10
  have hsz : ∀ d, d < 52 → d < a.tmps.size := fun d hd => by rw [hza, hz]; exact hd
  obtain ⟨_, k0, k1, k2, k3⟩ := hcf.keep hf
  have hl := hc.1
  have hs := hc.2.1
  rcases o7 i o ho with ⟨rfl, rfl⟩ | ⟨rfl, rfl⟩ | ⟨rfl, rfl⟩ | ⟨rfl, rfl⟩ | ⟨rfl, rfl⟩ | ⟨rfl, rfl⟩ | ⟨rfl, rfl⟩ | ⟨rfl, rfl⟩ | ⟨rfl, rfl⟩ | ⟨rfl, rfl⟩ | ⟨rfl, rfl⟩ | ⟨rfl, rfl⟩ | ⟨rfl, rfl⟩ | ⟨rfl, rfl⟩ | ⟨rfl, rfl⟩ | ⟨rfl, rfl⟩ | ⟨rfl, rfl⟩ | ⟨rfl, rfl⟩
  · exact wp_val (rn0 _ _ s3 k0 k1 k2 k3) ⟨_, [], rfl, Fr.refl _ _, ⟨rfl, env_same (hsz 36 (by omega))⟩, by simp⟩
  · exact wp_val (rn1 _ _) ⟨_, [], rfl, Fr.refl _ _, ⟨rfl, (env_same (hsz 37 (by omega))).trans s1⟩, by simp⟩
  · exact wp_val (rn2 _ _) ⟨_, [], rfl, Fr.refl _ _, ⟨rfl, (env_same (hsz 38 (by omega))).trans s10⟩, by simp⟩
  · unfold Oper.wp
    rw [rn3 _ _ rfl]
    refine Calls.mono (tnew_any w) ?_
    rintro e w' ⟨tb, B, rfl, hT, hB, hf'⟩
    exact ⟨_, B, rfl, hf', ⟨tb, env_same (hsz 39 (by omega)), hT⟩, fun x hx => ⟨hB x hx, hT.mine x hx⟩⟩
  · exact wp_val (rn4 _ _ s5) ⟨_, [], rfl, Fr.refl _ _, ⟨rfl, env_same (hsz 40 (by omega))⟩, by simp⟩
  · obtain ⟨B, _, h4⟩ := hdep 4 (by simp [dep, ops7, n5, Region.binds])
    exact wp_val (rn5 _ _ h4 (hm w hf)) ⟨_, [], rfl, Fr.refl _ _, ⟨rfl, env_same (hsz 41 (by omega))⟩, by simp⟩
  · exact wp_val (rn6 _ _ s3) ⟨_, [], rfl, Fr.refl _ _, ⟨rfl, env_same (hsz 42 (by omega))⟩, by simp⟩
  · obtain ⟨B, _, h4⟩ := hdep 6 (by simp [dep, ops7, n7, Region.binds])
    exact wp_val (rn7 _ _ h4 k0) ⟨_, [], rfl, Fr.refl _ _, ⟨rfl, env_same (hsz 43 (by omega))⟩, by simp⟩
  · obtain ⟨B, _, h4⟩ := hdep 7 (by simp [dep, ops7, n8, Region.binds])
    exact wp_val (rn8 _ _ h4 (by omega) (by omega)) ⟨_, [w.heap.size], rfl, Fr.alloc _ _ _, ⟨_, env_same (hsz 44 (by omega)), rfl, heap_alloc_new _ _⟩, by simp⟩
  · exact wp_val (rn9 _ _ s3) ⟨_, [], rfl, Fr.refl _ _, ⟨rfl, env_same (hsz 45 (by omega))⟩, by simp⟩
  · obtain ⟨B, _, h4⟩ := hdep 9 (by simp [dep, ops7, n10, Region.binds])
    exact wp_val (rn10 _ _ h4 k1) ⟨_, [], rfl, Fr.refl _ _, ⟨rfl, env_same (hsz 46 (by omega))⟩, by simp⟩
  · obtain ⟨B, _, h4⟩ := hdep 10 (by simp [dep, ops7, n11, Region.binds])
    exact wp_val (rn11 _ _ h4 (by omega) (by omega)) ⟨_, [w.heap.size], rfl, Fr.alloc _ _ _, ⟨_, env_same (hsz 47 (by omega)), rfl, heap_alloc_new _ _⟩, by simp⟩
  · exact wp_val (rn12 _ _) ⟨_, [w.heap.size], rfl, Fr.alloc _ _ _, ⟨_, env_same (hsz 48 (by omega)), rfl, MapG.made w⟩, by simp⟩
  · exact wp_val (rn13 _ _) ⟨_, [w.heap.size], rfl, Fr.alloc _ _ _, ⟨_, env_same (hsz 49 (by omega)), rfl, MapG.made w⟩, by simp⟩
  · obtain ⟨_, _, h36⟩ := hdep 0 (by simp [dep, ops7, n14, Region.binds])
    obtain ⟨_, _, h37⟩ := hdep 1 (by simp [dep, ops7, n14, Region.binds])
    obtain ⟨_, _, h38⟩ := hdep 2 (by simp [dep, ops7, n14, Region.binds])
    obtain ⟨_, tb, h39, _⟩ := hdep 3 (by simp [dep, ops7, n14, Region.binds])
    obtain ⟨_, _, h41⟩ := hdep 5 (by simp [dep, ops7, n14, Region.binds])
    obtain ⟨_, lb, h44, _⟩ := hdep 8 (by simp [dep, ops7, n14, Region.binds])
    obtain ⟨_, qq, h47, _⟩ := hdep 11 (by simp [dep, ops7, n14, Region.binds])
    obtain ⟨_, ob, h48, _⟩ := hdep 12 (by simp [dep, ops7, n14, Region.binds])
    obtain ⟨_, cb, h49, _⟩ := hdep 13 (by simp [dep, ops7, n14, Region.binds])
    refine wp_val (rn14 _ _ h36 h37 h38 h39 h41 h44 h47 h48 h49) ⟨_, [], rfl, Fr.refl _ _, ⟨rfl, ?_⟩, by simp⟩
    show env (a.put (some 50) _) 50 = .agg #[.int .i64 c.l, .int .i64 c.s, .int .i64 c.w, .int .i64 c.q, env (a.put (some 50) _) 37, env (a.put (some 50) _) 38, env (a.put (some 50) _) 39, env (a.put (some 50) _) 41, .bool false, .slice none 0 0, .slice none 0 0, env (a.put (some 50) _) 44, env (a.put (some 50) _) 47, env (a.put (some 50) _) 48, env (a.put (some 50) _) 49]
    rw [env_same (hsz 50 (by omega)), env_ne (by decide), env_ne (by decide), env_ne (by decide), env_ne (by decide), env_ne (by decide), env_ne (by decide), env_ne (by decide), env_ne (by decide), h37, h38, h39, h41, h44, h47, h48, h49]
  · obtain ⟨_, _, h50⟩ := hdep 14 (by simp [dep, ops7, n15, Region.binds])
    refine wp_val (rn15 _ _ _ h50) ⟨_, [w.heap.size], rfl, Fr.alloc _ _ _, ⟨_, _, (env_ne (by decide)).trans h50, env_same (hsz 51 (by omega)), rfl, heap_alloc_new _ _⟩, by simp⟩
  · refine wp_val (rn16 _ _) ⟨_, [], rfl, Fr.refl _ _, ⟨rfl, ?_⟩, by simp⟩
    exact (env_same (hsz 6 (by omega))).trans (env_ne (by decide)).symm
  · exact wp_val (rn17 _ _ rfl) ⟨_, [], rfl, Fr.refl _ _, ⟨rfl, env_same (hsz 7 (by omega))⟩, by simp⟩
end Go.Proofs.YtaaghcimfcjehaaGreatDoor

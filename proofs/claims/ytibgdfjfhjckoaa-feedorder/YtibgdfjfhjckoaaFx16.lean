/- What the calls of feeds may change, and both sides of a feed by one word. Conditions as each names them. -/
import Derived.Test.YtibgdfjfhjckoaaIn16
import Derived.Test.YtibgdfjfhjckoaaSa
namespace Go.Proofs.Ytibgdfjfhjckoaa
open Go.ChangeShapes Go.WideShapes Go.ChangeAt Go.RowKit Go.Lib Go.Maps
set_option linter.unusedVariables false
set_option linter.unusedSimpArgs false

/-- Only blocks of feeds and sources that were made since b may differ. -/
def FrO (b : Nat) (w w' : World) : Prop := ∃ S, Fr S w w' ∧ ∀ k ∈ S, b ≤ k ∧ ∀ cs t f, w.heap[k]? = some (.cells cs t f) → t = 44 ∨ t = 83 ∨ t = 3 ∨ t = 72 ∨ t = 87
section
variable {b : Nat} {w w' w'' : World}
theorem FrO.of (h : Fr [] w w') : FrO b w w' := ⟨[], h, by simp⟩
theorem FrO.refl (b : Nat) (w : World) : FrO b w w := .of (Fr.refl _ _)
theorem FrO.size (h : FrO b w w') : w.heap.size ≤ w'.heap.size := by obtain ⟨S, hf, _⟩ := h; exact hf.size
theorem FrO.then (h : FrO b w w') (k : FrO b w' w'') : FrO b w w'' := by
  obtain ⟨S, hf, hS⟩ := h
  obtain ⟨T, kf, hT⟩ := k
  refine ⟨S ++ T, hf.trans kf (fun x hx _ => List.mem_append_left _ hx) (fun x hx _ => List.mem_append_right _ hx), fun x hx => ?_⟩
  by_cases hs : x ∈ S
  · exact hS x hs
  · have ht : x ∈ T := (List.mem_append.1 hx).resolve_left hs
    refine ⟨(hT x ht).1, fun cs t f e => (hT x ht).2 cs t f ?_⟩
    rw [hf.block x (lt_of_block e) hs]
    exact e
theorem FrO.keep (h : FrO b w w') {k : Nat} {cs : Array Value} {t : TypeId} {f : Nat × Nat} (hk : w.heap[k]? = some (.cells cs t f)) (h1 : t ≠ 44) (h2 : t ≠ 83) (h3 : t ≠ 3) (h4 : t ≠ 72) (h5 : t ≠ 87) : w'.heap[k]? = some (.cells cs t f) := by
  obtain ⟨S, hf, hS⟩ := h
  refine hf.keep hk (fun hx => ?_)
  rcases (hS k hx).2 _ _ _ hk with e | e | e | e | e
  · exact h1 e
  · exact h2 e
  · exact h3 e
  · exact h4 e
  · exact h5 e
theorem FrO.fr {w0 : World} (h : FrO w0.heap.size w w') (h0 : Fr [] w0 w) : Fr [] w0 w' := by
  obtain ⟨S, hf, hS⟩ := h
  exact h0.on hf (fun x hx => (hS x hx).1)
theorem FrO.fr' (h : FrO w.heap.size w w') : Fr [] w w' := h.fr (Fr.refl _ _)
end
/-- The program's feed and the document's, asked alike, answer alike. -/
structure Asks (p q : Value) (b : Nat) (I : Nat → World → Prop) : Prop where
  keep : ∀ n w w', I n w → Fr [] w w' → I n w'
  more : ∀ n w x, I n w → Calls Try.prog 15 #[p, .int .i64 x] w fun e w' => ∃ c : Int, e = .returned (.int .i64 c) ∧ FrO b w w' ∧ Hid (∀ w2, Fr [] w' w2 → Calls Try.prog 29 #[q, .int .i64 x] w2 fun e2 w3 => e2 = .returned (.int .i64 c) ∧ FrO b w2 w3 ∧ Hid (I n w3))
  can : ∀ n w x, I n w → Calls Try.prog 16 #[p, .int .i64 x] w fun e w' => ∃ c : Int, e = .returned (.int .u8 c) ∧ FrO b w w' ∧ Hid (∀ w2, Fr [] w' w2 → Calls Try.prog 30 #[q, .int .i64 x] w2 fun e2 w3 => e2 = .returned (.int .u8 c) ∧ FrO b w2 w3 ∧ Hid (I n w3))
  read : ∀ n w, I n w → n < 1000000 → Calls Try.prog 17 #[p] w fun e w' => ∃ m c : Int, e = .returned (.tuple #[.int .i64 m, .int .i64 c]) ∧ FrO b w w' ∧ Hid (∀ w2, Fr [] w' w2 → Calls Try.prog 31 #[q] w2 fun e2 w3 => e2 = .returned (.tuple #[.int .i64 m, .int .i64 c]) ∧ FrO b w2 w3 ∧ Hid (I (n + 1) w3))
  skip : ∀ n w, I n w → Calls Try.prog 18 #[p] w fun e w' => ∃ m c : Int, e = .returned (.tuple #[.int .i64 m, .int .i64 c]) ∧ FrO b w w' ∧ Hid (∀ w2, Fr [] w' w2 → Calls Try.prog 32 #[q] w2 fun e2 w3 => e2 = .returned (.tuple #[.int .i64 m, .int .i64 c]) ∧ FrO b w2 w3 ∧ Hid (I n w3))
  dis : ∀ n w x, I n w → Calls Try.prog 20 #[p, .int .i64 x] w fun e w' => ∃ (m c : Int) (o : Option Addr) (L cap : Nat) (ws : List Wt), e = .returned (.tuple #[.agg #[.int .i64 m, .slice o L cap], .int .i64 c]) ∧ FrO b w w' ∧ Hid (L = ws.length) ∧ Hid (∀ w2, Fr [] w' w2 → Calls Try.prog 33 #[q, .int .i64 x] w2 fun e2 w3 => ∃ (o2 : Option Addr) (cap2 : Nat), e2 = .returned (.tuple #[.agg #[.int .i64 m, .slice o2 L cap2], .int .i64 c]) ∧ FrO b w2 w3 ∧ Hid (WRs w3 o ws ∧ WRs w3 o2 ws) ∧ Hid (I n w3))
  close : ∀ n w, I n w → Calls Try.prog 23 #[p] w fun e w' => (∃ u, e = .returned u) ∧ FrO b w w' ∧ Hid (∀ w2, Fr [] w' w2 → Calls Try.prog 34 #[q] w2 fun e2 w3 => (∃ u, e2 = .returned u) ∧ FrO b w2 w3 ∧ Hid (I n w3))
  held : ∀ n w, I n w → Calls Try.prog 9 #[p] w fun e w' => ∃ c : Int, e = .returned (.int .i64 c) ∧ w = w' ∧ Hid (Calls Try.prog 10 #[q] w fun e2 w3 => e2 = .returned (.int .i64 c) ∧ w = w3)
  fed : ∀ n w, I n w → Calls Try.prog 11 #[p] w fun e w' => ∃ c : Int, e = .returned (.int .i64 c) ∧ w = w' ∧ Hid (Calls Try.prog 12 #[q] w fun e2 w3 => e2 = .returned (.int .i64 c) ∧ w = w3)
end Go.Proofs.Ytibgdfjfhjckoaa

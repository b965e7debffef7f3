/- What holds while the law CodecReads goes through its script: the reader and the reference's stand side by side. -/
import Derived.Test.YtcajoihfdeoikaaSides
namespace Go.Proofs.Ytcajoihfdeoikaa
open Go.ChangeShapes Go.WideShapes Go.ChangeAt Go.RowKit Go.Lib
set_option linter.unusedVariables false
/-- The reader stands at p, er went wrong; the reference's, in block bx, at px with ex; the one that is gone lies behind it; the twin in block t. -/
structure Inv (w wx : World) (gr r t L bx : Nat) (xs : List Nat) (p er px ex : Nat) : Prop where
  rd : ∃ ao cap, Rd wx gr r (xs.drop p) er ao cap
  box : Bx wx bx false (.slice (some ⟨t, 0, none⟩) L (L + 1)) px ex
  gone : Bx wx (bx + 1) true (.slice none 0 0) 0 0
  row : wx.heap[t]? = some (.cells (bts (xs ++ [77])).toArray 5 (0, 0))
  fr : Fr [] w wx
  g1 : gr < bx
  g2 : r < gr
  g3 : t < bx
  g4 : gr ≠ t
  g5 : w.heap.size ≤ gr
theorem Inv.lt {w wx : World} {gr r t L bx : Nat} {xs : List Nat} {p er px ex : Nat} (h : Inv w wx gr r t L bx xs p er px ex) : bx + 1 < wx.heap.size := h.gone.lt
/-- Whatever is written behind the boxes. -/
theorem Inv.step {w wx wy : World} {gr r t L bx : Nat} {xs : List Nat} {p er px ex : Nat} {T : List Nat} (h : Inv w wx gr r t L bx xs p er px ex) (hf : Fr T wx wy) (hT : ∀ x, x ∈ T → bx + 1 < x) : Inv w wy gr r t L bx xs p er px ex := by
  obtain ⟨ao, cap, hr⟩ := h.rd
  have h1 := h.g1
  have h2 := h.g2
  have h3 := h.g3
  have h5 := h.g5
  exact ⟨⟨ao, cap, hr.keep hf (fun hx => by have := hT _ hx; omega) (fun hx => by have := hT _ hx; omega)⟩, h.box.keep hf (fun hx => by have := hT _ hx; omega), h.gone.keep hf (fun hx => by have := hT _ hx; omega), hf.keep h.row (fun hx => by have := hT _ hx; omega), h.fr.on hf (fun x hx => by have := hT x hx; omega), h1, h2, h3, h.g4, h5⟩
/-- Behind a call of takes with the reader. -/
theorem Inv.took {w W w9 : World} {gr r t L bx : Nat} {xs : List Nat} {p er px ex p1 e1 : Nat} (h : Inv w W gr r t L bx xs p er px ex) (hR : ∃ ao cap, Rd w9 gr r (xs.drop p1) e1 ao cap) (hf : Fr [gr] W w9) : Inv w w9 gr r t L bx xs p1 e1 px ex := by
  have h1 := h.g1
  have h4 := h.g4
  have h5 := h.g5
  exact ⟨hR, h.box.keep hf (by simp; omega), h.gone.keep hf (by simp; omega), hf.keep h.row (by simp; omega), h.fr.on hf (fun x hx => by simp at hx; omega), h1, h.g2, h.g3, h4, h5⟩
theorem sets4_bx {w : World} {b : Nat} {g0 : Bool} {s0 : Value} {p0 c0 : Int} (h : Bx w b g0 s0 p0 c0) (g : Bool) (s : Value) (p c : Int) : Bx ((((w.setCell ⟨b, 0, none⟩ (.bool g)).setCell ⟨b, 1, none⟩ s).setCell ⟨b, 2, none⟩ (.int .i64 p)).setCell ⟨b, 3, none⟩ (.int .i64 c)) b g s p c := by
  refine ⟨?_⟩
  have step : ∀ (W : World) (cs : Array Value) (j : Nat) (v : Value), W.heap[b]? = some (.cells cs 32 (0, 0)) → (W.setCell ⟨b, j, none⟩ v).heap[b]? = some (.cells (cs.setIfInBounds j v) 32 (0, 0)) := by
    intro W cs j v hW
    have hlt := lt_of_block hW
    have h' : W.heap[b] = .cells cs 32 (0, 0) := by simpa [Array.getElem?_eq_getElem hlt] using hW
    show (W.heap.modify b _)[b]? = _
    rw [Array.getElem?_eq_getElem (by simpa using hlt), Array.getElem_modify_self, h']
    rfl
  rw [step _ _ 3 _ (step _ _ 2 _ (step _ _ 1 _ (step _ _ 0 _ h.box)))]
  rfl
theorem meetA {w w9 : World} {gr r t L bx : Nat} {xs : List Nat} {p1 e1 px ex : Nat} (h : Inv w w9 gr r t L bx xs p1 e1 px ex) :
    Inv w (w9.alloc (.cells #[.bool false, .slice (some ⟨t, 0, none⟩) L (L + 1), .int .i64 (p1 : Int), .int .i64 (e1 : Int)] 32)) gr r t L bx xs p1 e1 px ex ∧ Bx (w9.alloc (.cells #[.bool false, .slice (some ⟨t, 0, none⟩) L (L + 1), .int .i64 (p1 : Int), .int .i64 (e1 : Int)] 32)) w9.heap.size false (.slice (some ⟨t, 0, none⟩) L (L + 1)) p1 e1 :=
  ⟨h.step (Fr.alloc [] w9 _) (by simp), ⟨heap_alloc_new w9 _⟩⟩
theorem meetB {w w9 : World} {gr r t L bx b : Nat} {xs : List Nat} {p1 e1 px ex : Nat} {g0 : Bool} {s0 : Value} {p0 c0 : Int} (h : Inv w w9 gr r t L bx xs p1 e1 px ex) (hb : Bx w9 b g0 s0 p0 c0) (hlt : bx + 1 < b) (g : Bool) (s : Value) (p c : Int) :
    Inv w ((((w9.setCell ⟨b, 0, none⟩ (.bool g)).setCell ⟨b, 1, none⟩ s).setCell ⟨b, 2, none⟩ (.int .i64 p)).setCell ⟨b, 3, none⟩ (.int .i64 c)) gr r t L bx xs p1 e1 px ex ∧ Bx ((((w9.setCell ⟨b, 0, none⟩ (.bool g)).setCell ⟨b, 1, none⟩ s).setCell ⟨b, 2, none⟩ (.int .i64 p)).setCell ⟨b, 3, none⟩ (.int .i64 c)) b g s p c :=
  ⟨h.step (Fr.sets4 _ _ _ _ _ _) (by intro x hx; simp at hx; omega), sets4_bx hb g s p c⟩
end Go.Proofs.Ytcajoihfdeoikaa

/- A Book's birth, and who lies apart at the end. Conditions as each names them. -/
import Derived.Test.YtfhfjplhfjlpaaaDoorTxb
import Derived.Test.YtfhfjplhfjlpaaaDoorApt
namespace Go.Proofs.YtfhfjplhfjlpaaaDoor
open Go.ChangeShapes Go.WideShapes Go.ChangeAt Go.RowKit Go.Lib
set_option linter.unusedVariables false
set_option linter.unusedSimpArgs false
namespace Bq
/-- A Book that was told nothing. -/
def newBk : Array Value := #[.int .i64 0, .slice none 0 0, .slice none 0 0, .slice none 0 0, .slice none 0 0, .slice none 0 0, .slice none 0 0, .slice none 0 0, .slice none 0 0, .slice none 0 0, .slice none 0 0, .slice none 0 0]
theorem S0.none {K : Kd} {w : World} {bk : Nat} (h : w.heap[bk]? = some (.cells newBk 48 (0, 0))) (hc : newBk[K.col]? = some (.slice none 0 0)) : S0 K w bk (.slice none 0 0) [] :=
  ⟨⟨⟨newBk, h, hc⟩, World.ownsRow_nil _ _ _ _, by simp, by simp⟩, by simp, fun i j a b ha => by simp at ha, fun j h hh => by simp at hh⟩
theorem B4.new {w0 w : World} {bk : Nat} (h : w.heap[bk]? = some (.cells newBk 48 (0, 0))) (hb : w0.heap.size ≤ bk) : B4 w0 w bk 0 (.slice none 0 0) (.slice none 0 0) (.slice none 0 0) (.slice none 0 0) [] [] [] [] := by
  refine ⟨⟨newBk, ⟨h, rfl, ?_⟩, rfl⟩, S0.none h rfl, S0.none h rfl, S0.none h rfl, S0.none h rfl, hb, ?_, ?_, ?_, ?_, by simp, by simp, by simp, by simp⟩
  · rintro c (rfl | rfl | rfl | rfl | rfl | rfl | rfl) <;> rfl
  all_goals (intro k hk; simp [Value.ownBlock] at hk)
/-- All that a Book's Apart writes was made since w0. -/
theorem B4.own {w0 w : World} {bk T : Nat} {rB rI rW rT : Value} {hB hI hW hT : List HB} (h : B4 w0 w bk T rB rI rW rT hB hI hW hT) (lB : ∀ k ∈ lbs hB, w0.heap.size ≤ k) (lI : ∀ k ∈ lbs hI, w0.heap.size ≤ k) (lW : ∀ k ∈ lbs hW, w0.heap.size ≤ k) (lT : ∀ k ∈ lbs hT, w0.heap.size ≤ k) : ∀ k ∈ own4 rB rI rW rT hB hI hW hT, w0.heap.size ≤ k := by
  intro k hk
  simp only [own4, List.mem_append, Option.mem_toList] at hk
  rcases hk with (hk | hk) | (hk | hk) | (hk | hk) | (hk | hk)
  · exact h.rBn k hk
  · exact lB k hk
  · exact h.rIn k hk
  · exact lI k hk
  · exact h.rWn k hk
  · exact lW k hk
  · exact h.rTn k hk
  · exact lT k hk
/-- Apart says true, and writes nothing that was there at w0. -/
theorem B4.apart {w0 w : World} {bk T : Nat} {rB rI rW rT : Value} {hB hI hW hT : List HB} (h : B4 w0 w bk T rB rI rW rT hB hI hW hT) (lB : ∀ k ∈ lbs hB, w0.heap.size ≤ k) (lI : ∀ k ∈ lbs hI, w0.heap.size ≤ k) (lW : ∀ k ∈ lbs hW, w0.heap.size ≤ k) (lT : ∀ k ∈ lbs hT, w0.heap.size ≤ k) (ht0 : Tab w0) (hf : Fr [] w0 w) :
    Calls Tryd.prog 12 #[.pointer (some ⟨bk, 0, none⟩)] w fun e w' => e = .returned (.bool true) ∧ Fr [] w0 w' := by
  obtain ⟨cs, hX, _⟩ := h.box
  have ho := h.own lB lI lW lT
  refine (apart4_any bk cs rB rI rW rT hB hI hW hT w hX h.sB h.sI h.sW h.sT (ht0.keep hf (by simp)) (fun hm => by have := ho _ hm; have := ht0.lt; omega)).mono ?_
  rintro e w' ⟨rfl, hF⟩
  exact ⟨rfl, hf.on hF ho⟩
end Bq
end Go.Proofs.YtfhfjplhfjlpaaaDoor

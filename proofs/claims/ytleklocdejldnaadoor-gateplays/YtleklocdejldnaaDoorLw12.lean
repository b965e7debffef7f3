/- A Book of numbers: its birth, a list told, Apart. Conditions as each names them. -/
import Derived.Test.YtleklocdejldnaaDoorTel
import Derived.Test.YtleklocdejldnaaDoorApt
import Derived.Test.YtleklocdejldnaaDoorGs12
namespace Go.Proofs.YtleklocdejldnaaDoor.Bq
open Go.ChangeShapes Go.WideShapes Go.ChangeAt Go.RowKit Go.Lib
set_option linter.unusedVariables false
section
variable {w0 w w' : World} {bk T : Nat} {rB rI : Value} {hB hI : List HB}
theorem B2.keep (h : B2 w0 w bk T rB rI hB hI) (hf : Fr [] w w') : B2 w0 w' bk T rB rI hB hI := by
  obtain ⟨cs, hX, hc⟩ := h.box
  exact ⟨⟨cs, hX.keep hf (by simp), hc⟩, h.sB.stay hf (Off.nil _ _), h.sI.stay hf (Off.nil _ _), h.bn, h.rBn, h.rIn, h.lB, h.lI⟩
theorem ints_any (h : B2 w0 w bk T rB rI hB hI) (ao : Option Addr) (L cap : Nat) (hp : P0 kInt w ⟨.slice ao L cap, .slice none 0 0, T + 1⟩) (hal : ∀ k, (Value.slice ao L cap).ownBlock = some k → k ∉ lbs hI) (hT2 : T < 2097150) :
    Calls Tryd.prog 11 #[.pointer (some ⟨bk, 0, none⟩), .slice ao L cap] w fun e w' => e = .returned (.tuple #[]) ∧ ∃ rv', B2 w0 w' bk (T + 1) rB rv' hB (hI ++ [⟨.slice ao L cap, .slice none 0 0, T + 1⟩]) ∧ Fr (bk :: rI.ownBlock.toList) w w' ∧ Moved w.heap.size rI rv' := by
  have HC : Hid _ := tellInt_any h ao L cap hp hal hT2
  clear h hp hal
  go_enter Tryd.func11, Tryd.ntmps11
  go_wp2_with fail
  refine Calls.mono HC.out ?_
  rintro e w' ⟨rfl, R⟩
  have HR : Hid _ := R
  clear R HC
  go_wp2_with fail
  go_end0
  exact ⟨rfl, HR.out⟩
/-- All that a Book's Apart writes was made since w0. -/
theorem B2.own (h : B2 w0 w bk T rB rI hB hI) (lB : ∀ k ∈ lbs hB, w0.heap.size ≤ k) (lI : ∀ k ∈ lbs hI, w0.heap.size ≤ k) : ∀ k ∈ own2 rB rI hB hI, w0.heap.size ≤ k := by
  intro k hk
  simp only [own2, List.mem_append, Option.mem_toList] at hk
  rcases hk with (hk | hk) | (hk | hk)
  · exact h.rBn k hk
  · exact lB k hk
  · exact h.rIn k hk
  · exact lI k hk
/-- Apart says true, and writes nothing that was there at w0. -/
theorem B2.apart (h : B2 w0 w bk T rB rI hB hI) (lB : ∀ k ∈ lbs hB, w0.heap.size ≤ k) (lI : ∀ k ∈ lbs hI, w0.heap.size ≤ k) (hf : Fr [] w0 w) :
    Calls Tryd.prog 13 #[.pointer (some ⟨bk, 0, none⟩)] w fun e w' => e = .returned (.bool true) ∧ Fr [] w0 w' := by
  obtain ⟨cs, hX, _⟩ := h.box
  refine (apart2_any bk cs rB rI hB hI w hX h.sB h.sI).mono ?_
  rintro e w' ⟨rfl, hF⟩
  exact ⟨rfl, hf.on hF (h.own lB lI)⟩
end
/-- A Book that was told nothing. -/
def newBk : Array Value := #[.int .i64 0, .slice none 0 0, .slice none 0 0, .slice none 0 0, .slice none 0 0, .slice none 0 0, .slice none 0 0, .slice none 0 0, .slice none 0 0, .slice none 0 0, .slice none 0 0, .slice none 0 0]
theorem S0.none {K : Kd} {w : World} {bk : Nat} (h : w.heap[bk]? = some (.cells newBk 45 (0, 0))) (hc : newBk[K.col]? = some (.slice none 0 0)) : S0 K w bk (.slice none 0 0) [] :=
  ⟨⟨⟨newBk, h, hc⟩, World.ownsRow_nil _ _ _ _, by simp, by simp⟩, by simp, fun i j a b ha => by simp at ha, fun j h hh => by simp at hh⟩
theorem B2.new {w0 w : World} {bk : Nat} (h : w.heap[bk]? = some (.cells newBk 45 (0, 0))) (hb : w0.heap.size ≤ bk) : B2 w0 w bk 0 (.slice none 0 0) (.slice none 0 0) [] [] := by
  refine ⟨⟨newBk, ⟨h, rfl, ?_⟩, rfl⟩, S0.none h rfl, S0.none h rfl, hb, ?_, ?_, by simp, by simp⟩
  · rintro c (rfl | rfl | rfl | rfl | rfl | rfl | rfl | rfl | rfl) <;> rfl
  all_goals (intro k hk; simp [Value.ownBlock] at hk)
theorem own_base8 {w : World} {base : Nat} {e : TypeId} {size : Nat} {v : Value} {n : Nat} {xs : List Value} (h : w.ownsRow base e size v n xs) : w.ownsRow 0 e size v n xs := by
  refine ⟨h.1, ?_⟩
  rcases h.2 with h0 | ⟨g, cap, cur, hv, _, hr⟩
  · exact Or.inl h0
  · exact Or.inr ⟨g, cap, cur, hv, Nat.zero_le _, hr⟩
/-- What an answer is to a Book. -/
theorem P0.ofI {base : Nat} {w : World} {ro : Option Addr} {N rc n : Nat} {xs : List Int} (h : IOw base w ro N rc xs) (hN : N < 17179869184) : P0 kInt w ⟨.slice ro N rc, .slice none 0 0, n⟩ := ⟨N, ints xs, Cut.of (own_base8 h.row), hN⟩
section
variable {w0 w : World} {bk T k : Nat} {rB rI : Value} {hB hI : List HB} {cs : Array Value} {t : TypeId}
/-- A block of another type is none that the telling of a list writes. -/
theorem B2.spare (h : B2 w0 w bk T rB rI hB hI) (hk : w.heap[k]? = some (.cells cs t (0, 0))) (h1 : t ≠ 45) (h2 : t ≠ kInt.tH) : k ∉ bk :: rI.ownBlock.toList := by
  intro hm
  rcases List.mem_cons.1 hm with rfl | hm
  · obtain ⟨c, hX, _⟩ := h.box
    rw [hX.box] at hk
    simp only [Option.some.injEq, Obj.cells.injEq] at hk
    exact h1 hk.2.1.symm
  · obtain ⟨c, hc⟩ := own_type h.sI.bl.row k (by simpa using hm)
    rw [hc] at hk
    simp only [Option.some.injEq, Obj.cells.injEq] at hk
    exact h2 hk.2.1.symm
/-- A block of another type, or of numbers that are not held, is none that Apart writes. -/
theorem B2.aside (h : B2 w0 w bk T rB rI [] hI) (hk : w.heap[k]? = some (.cells cs t (0, 0))) (h1 : t ≠ kVersion.tH) (h2 : t ≠ kInt.tH) (h3 : k ∉ lbs hI) : k ∉ own2 rB rI [] hI := by
  intro hm
  simp only [own2, List.mem_append, Option.mem_toList] at hm
  rcases hm with (hm | hm) | (hm | hm)
  · obtain ⟨c, hc⟩ := own_type h.sB.bl.row k hm
    rw [hc] at hk
    simp only [Option.some.injEq, Obj.cells.injEq] at hk
    exact h1 hk.2.1.symm
  · simp [lbs] at hm
  · obtain ⟨c, hc⟩ := own_type h.sI.bl.row k hm
    rw [hc] at hk
    simp only [Option.some.injEq, Obj.cells.injEq] at hk
    exact h2 hk.2.1.symm
  · exact h3 hm
theorem B2.lbsT (h : B2 w0 w bk T rB rI hB hI) (hk : k ∈ lbs hI) : ∃ cs, w.heap[k]? = some (.cells cs 3 (0, 0)) := by
  obtain ⟨b, hb, hb2⟩ := mem_lbs.1 hk
  obtain ⟨j, hj⟩ := List.getElem?_of_mem hb
  exact (h.sI.each j b hj).type k hb2
end
end Go.Proofs.YtleklocdejldnaaDoor.Bq

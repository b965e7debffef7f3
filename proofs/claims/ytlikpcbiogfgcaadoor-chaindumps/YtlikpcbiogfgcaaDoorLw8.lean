/- A Book of versions and numbers: its birth, a list told, Apart. Conditions as each names them. -/
import Derived.Test.YtlikpcbiogfgcaaDoorTel
import Derived.Test.YtlikpcbiogfgcaaDoorApt
import Derived.Test.YtlikpcbiogfgcaaDoorVp
namespace Go.Proofs.YtlikpcbiogfgcaaDoor.Bq
open Go.ChangeShapes Go.WideShapes Go.ChangeAt Go.RowKit Go.Lib
set_option linter.unusedVariables false
section
variable {w0 w w' : World} {bk T : Nat} {rB rI : Value} {hB hI : List HB}
theorem B2.keep (h : B2 w0 w bk T rB rI hB hI) (hf : Fr [] w w') : B2 w0 w' bk T rB rI hB hI := by
  obtain ⟨cs, hX, hc⟩ := h.box
  exact ⟨⟨cs, hX.keep hf (by simp), hc⟩, h.sB.stay hf (Off.nil _ _), h.sI.stay hf (Off.nil _ _), h.bn, h.rBn, h.rIn, h.lB, h.lI⟩
set_option maxHeartbeats 1000000 in
theorem versions_any (h : B2 w0 w bk T rB rI hB hI) (ao : Option Addr) (L cap : Nat) (hp : P0 kVersion w ⟨.slice ao L cap, .slice none 0 0, T + 1⟩) (hal : ∀ k, (Value.slice ao L cap).ownBlock = some k → k ∉ lbs hB) (hT2 : T < 2097150) :
    Calls Tryd.prog 15 #[.pointer (some ⟨bk, 0, none⟩), .slice ao L cap] w fun e w' => e = .returned (.tuple #[]) ∧ ∃ rv', B2 w0 w' bk (T + 1) rv' rI (hB ++ [⟨.slice ao L cap, .slice none 0 0, T + 1⟩]) hI ∧ Fr (bk :: rB.ownBlock.toList) w w' ∧ Moved w.heap.size rB rv' := by
  have HC : Hid _ := tellVersion_any h ao L cap hp hal hT2
  clear h hp hal
  go_enter Tryd.func15, Tryd.ntmps15
  go_wp2_with fail
  refine Calls.mono HC.out ?_
  rintro e w' ⟨rfl, R⟩
  have HR : Hid _ := R
  clear R HC
  go_wp2_with fail
  go_end0
  exact ⟨rfl, HR.out⟩
/-- All that a Book's Apart writes was made since w0. -/
theorem B2.own (h : B2 w0 w bk T rB rI hB hI) (lB : ∀ k ∈ lbs hB, w0.heap.size ≤ k) (lI : ∀ k ∈ lbs hI, w0.heap.size ≤ k) : ∀ k ∈ own2 rB rI hB hI, w0.heap.size ≤ k := by
  intro k hk
  simp only [own2, List.mem_append, Option.mem_toList] at hk
  rcases hk with (hk | hk) | (hk | hk)
  · exact h.rBn k hk
  · exact lB k hk
  · exact h.rIn k hk
  · exact lI k hk
/-- Apart says true, and writes nothing that was there at w0. -/
theorem B2.apart (h : B2 w0 w bk T rB rI hB hI) (lB : ∀ k ∈ lbs hB, w0.heap.size ≤ k) (lI : ∀ k ∈ lbs hI, w0.heap.size ≤ k) (hf : Fr [] w0 w) :
    Calls Tryd.prog 16 #[.pointer (some ⟨bk, 0, none⟩)] w fun e w' => e = .returned (.bool true) ∧ Fr [] w0 w' := by
  obtain ⟨cs, hX, _⟩ := h.box
  refine (apart2_any bk cs rB rI hB hI w hX h.sB h.sI).mono ?_
  rintro e w' ⟨rfl, hF⟩
  exact ⟨rfl, hf.on hF (h.own lB lI)⟩
end
/-- A Book that was told nothing. -/
def newBk : Array Value := #[.int .i64 0, .slice none 0 0, .slice none 0 0, .slice none 0 0, .slice none 0 0, .slice none 0 0, .slice none 0 0, .slice none 0 0, .slice none 0 0, .slice none 0 0, .slice none 0 0, .slice none 0 0]
theorem S0.none {K : Kd} {w : World} {bk : Nat} (h : w.heap[bk]? = some (.cells newBk 45 (0, 0))) (hc : newBk[K.col]? = some (.slice none 0 0)) : S0 K w bk (.slice none 0 0) [] :=
  ⟨⟨⟨newBk, h, hc⟩, World.ownsRow_nil _ _ _ _, by simp, by simp⟩, by simp, fun i j a b ha => by simp at ha, fun j h hh => by simp at hh⟩
theorem B2.new {w0 w : World} {bk : Nat} (h : w.heap[bk]? = some (.cells newBk 45 (0, 0))) (hb : w0.heap.size ≤ bk) : B2 w0 w bk 0 (.slice none 0 0) (.slice none 0 0) [] [] := by
  refine ⟨⟨newBk, ⟨h, rfl, ?_⟩, rfl⟩, S0.none h rfl, S0.none h rfl, hb, ?_, ?_, by simp, by simp⟩
  · rintro c (rfl | rfl | rfl | rfl | rfl | rfl | rfl | rfl | rfl) <;> rfl
  all_goals (intro k hk; simp [Value.ownBlock] at hk)
theorem own_base8 {w : World} {base : Nat} {e : TypeId} {size : Nat} {v : Value} {n : Nat} {xs : List Value} (h : w.ownsRow base e size v n xs) : w.ownsRow 0 e size v n xs := by
  refine ⟨h.1, ?_⟩
  rcases h.2 with h0 | ⟨g, cap, cur, hv, _, hr⟩
  · exact Or.inl h0
  · exact Or.inr ⟨g, cap, cur, hv, Nat.zero_le _, hr⟩
/-- What an answer is to a Book. -/
theorem P0.of_out {w0 w : World} {ro : Option Addr} {N rc n : Nat} {vs : List Vn} (h : VOut w0 w ro N rc vs) (hN : N < 17179869184) : P0 kVersion w ⟨.slice ro N rc, .slice none 0 0, n⟩ := by
  obtain ⟨rf, h1, h2⟩ := h.own
  exact ⟨N, vnsC vs, ⟨ro, rc, rf, rfl, h.cap, h1, own_base8 h2⟩, hN⟩
end Go.Proofs.YtlikpcbiogfgcaaDoor.Bq

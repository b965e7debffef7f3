/- Small lemmas for the law CodecOne. -/
import Derived.Test.YtcajoihfdeoikaaArg
import Derived.Deep.RegionWith
namespace Go.Proofs.Ytcajoihfdeoikaa
open Go.ChangeShapes Go.WideShapes Go.ChangeAt Go.RowKit Go.Lib
/-- Done's contract, kept from the walk. -/
def Dn (gw : Nat) (w6 : World) (Z : Nat) (yy : List Nat) : Prop :=
  Calls Try.prog 24 #[.pointer (some ⟨gw, 0, none⟩)] w6.drew fun e w' => e = .returned (.slice (some ⟨w6.heap.size, 0, none⟩) Z Z) ∧ w'.heap[w6.heap.size]? = some (.cells (bts yy).toArray 5 (0, 0)) ∧ Fr [] w6.drew w'
theorem Dn.calls {gw : Nat} {w6 : World} {Z : Nat} {yy : List Nat} (h : Dn gw w6 Z yy) : Calls Try.prog 24 #[.pointer (some ⟨gw, 0, none⟩)] w6.drew fun e w' => e = .returned (.slice (some ⟨w6.heap.size, 0, none⟩) Z Z) ∧ w'.heap[w6.heap.size]? = some (.cells (bts yy).toArray 5 (0, 0)) ∧ Fr [] w6.drew w' := h
theorem done_dn {gw : Nat} {w6 : World} {Z : Nat} {v6 : Value} {yy : List Nat} (hW : Wr w6.drew gw v6 yy) (hZ : Z = yy.length) (h0 : 0 < Z) (h1 : Z < 2^41) : Dn gw w6 Z yy := by
  have := done_some gw _ yy _ hW (by omega) (by omega)
  rw [← hZ] at this
  exact this
theorem Rs.src {w : World} {ao : Option Addr} {xs : List Nat} (h : Rs w ao xs) : 0 < xs.length → ∃ a, ao = some a ∧ ∀ j u, (bts xs)[j]? = some u → w.cell? (a.add j) = some u := by
  intro h0
  obtain ⟨b, off, e, hc⟩ := h.lies h0
  refine ⟨_, e, fun j u hj => ?_⟩
  have hj' : j < xs.length := by have := (List.getElem?_eq_some_iff.1 hj).1; rwa [bts_length] at this
  rw [bts_get xs j hj'] at hj
  rw [show (⟨b, off, none⟩ : Addr).add j = ⟨b, off + j, none⟩ from by simp [Addr.add], hc j hj']
  exact hj
theorem rd_cut (n k : Nat) (hn : n < 2 ^ 64) (hk : k < (enc n).length) : rdBy (shortF 0 0) 0 ((enc n).take k) 0 = (0, (enc n).take k, 5) := by
  simp [rdBy, short_cut n k hn hk]
end Go.Proofs.Ytcajoihfdeoikaa

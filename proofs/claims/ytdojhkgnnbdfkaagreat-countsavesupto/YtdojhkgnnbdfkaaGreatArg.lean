/- A slice of bytes that came in, and the statements' own test of sizes. Conditions as each lemma names them. -/
import Derived.Test.YtdojhkgnnbdfkaaGreatPure
import Derived.ShutString
import Derived.ChangeOld
import Derived.Below
namespace Go.Proofs.YtdojhkgnnbdfkaaGreat
open Go.ChangeShapes Go.WideShapes Go.ChangeAt Go.RowKit Go.Lib

/-- The slice that came in reads as the bytes xs. -/
structure BArg (w : World) (ao : Option Addr) (L cap : Nat) (xs : List Nat) : Prop where
  len : L = xs.length
  low : ∀ x ∈ xs, x < 256
  fits : L ≤ cap
  most : L ≤ 9223372036854775807
  lies : 0 < L → ∃ b off, ao = some ⟨b, off, none⟩ ∧ b < w.heap.size ∧ ∀ j, j < L → w.cell? ⟨b, off + j, none⟩ = some (.int .u8 ((xs.getD j 0 : Nat) : Int))
theorem BArg.keep {w w' : World} {ao : Option Addr} {L cap : Nat} {xs : List Nat} (h : BArg w ao L cap xs) (hf : Fr [] w w') : BArg w' ao L cap xs := by
  refine ⟨h.len, h.low, h.fits, h.most, fun h0 => ?_⟩
  obtain ⟨b, off, e, hb, hc⟩ := h.lies h0
  exact ⟨b, off, e, Nat.lt_of_lt_of_le hb hf.size, fun j hj => (World.cell?_of_block (hf.block b hb (by simp))).trans (hc j hj)⟩
theorem BArg.rs {w : World} {ao : Option Addr} {L cap : Nat} {xs : List Nat} (h : BArg w ao L cap xs) (hl : L < 2^41) : Rs w ao xs := by
  refine ⟨fun h0 => ?_, by rw [← h.len]; exact hl⟩
  rw [← h.len] at h0 ⊢
  obtain ⟨b, off, e, _, hc⟩ := h.lies h0
  exact ⟨b, off, e, hc⟩
theorem BArg.src {w : World} {ao : Option Addr} {L cap : Nat} {xs : List Nat} (h : BArg w ao L cap xs) : 0 < L → ∃ a, ao = some a ∧ ∀ j u, (bts xs)[j]? = some u → w.cell? (a.add j) = some u := by
  intro h0
  obtain ⟨b, off, e, _, hc⟩ := h.lies h0
  refine ⟨_, e, fun j u hj => ?_⟩
  have hj' : j < xs.length := by have := (List.getElem?_eq_some_iff.1 hj).1; rwa [bts_length] at this
  rw [bts_get xs j hj'] at hj
  rw [show (⟨b, off, none⟩ : Addr).add j = ⟨b, off + j, none⟩ from by simp [Addr.add], hc j (by rw [h.len]; exact hj')]
  exact hj
/-- What the frame of a law hands on of a slice of integers. -/
def IsRow (k : IntKind) (w : World) (a : Option Addr) (len cap : Nat) (zs : List Int) : Prop :=
  (a = none ∧ len = 0 ∧ cap = 0 ∧ zs = []) ∨
  ∃ x, a = some x ∧ len ≤ cap ∧ cap ≤ maxLen ∧ zs.length = cap ∧ (∀ i, i < zs.length → w.cell? (x.add i) = some (.int k (zs.getD i 0))) ∧ ∀ n ∈ zs, (Lit.int k n).wf = true
theorem BArg.of_row {w : World} {a : Option Addr} {len cap : Nat} {zs : List Int} (h : IsRow .u8 w a len cap zs) : ∃ xs, BArg w a len cap xs := by
  rcases h with ⟨rfl, rfl, rfl, rfl⟩ | ⟨x, rfl, hl, hm, hz, hc, hw⟩
  · exact ⟨[], rfl, by simp, Nat.le_refl _, by omega, fun h => by omega⟩
  · have hbd : ∀ n ∈ zs, 0 ≤ n ∧ n ≤ 255 := fun n hn => bounds_u8 (hw n hn)
    refine ⟨(zs.take len).map Int.toNat, ?_, ?_, hl, by simp only [maxLen] at hm; omega, ?_⟩
    · simp [hz]; omega
    · intro y hy
      obtain ⟨n, hn, rfl⟩ := List.mem_map.1 hy
      have := hbd n (List.mem_of_mem_take hn)
      omega
    · intro h0
      obtain ⟨b, off, spot⟩ := x
      have hspot : spot = none := by simpa [Addr.add] using World.cell?_spot (hc 0 (by omega))
      subst hspot
      refine ⟨b, off, rfl, ?_, fun j hj => ?_⟩
      · have := World.block_lt_of_cell? w _ (hc 0 (by omega))
        simpa [Addr.add] using this
      · have h1 := hc j (by omega)
        rw [show (⟨b, off, none⟩ : Addr).add j = ⟨b, off + j, none⟩ from by simp [Addr.add]] at h1
        rw [h1]
        have hjz : j < zs.length := by omega
        have hg : zs.getD j 0 = zs[j] := by simp [List.getD, hjz]
        have hb := hbd zs[j] (List.getElem_mem _)
        have e : ((zs.take len).map Int.toNat).getD j 0 = (zs[j]).toNat := by simp [List.getD, hj, hjz]
        rw [hg, e]
        congr 2
        omega

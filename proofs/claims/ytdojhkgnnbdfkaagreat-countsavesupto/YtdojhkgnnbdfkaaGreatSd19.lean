/- Savers: how they lie in memory, what their steps do. Plain lemmas. -/
import Derived.Test.YtdojhkgnnbdfkaaGreatNw19
namespace Go.Proofs.YtdojhkgnnbdfkaaGreat
open BigFrame Go.ChangeShapes Go.WideShapes Go.ChangeAt Go.RowKit Go.Lib Go.Maps
set_option linter.unusedVariables false
set_option linter.unusedSimpArgs false

/-- How many raw writes of bytes there are. -/
def nB (n : Nat) : Nat := (n + 63) / 64
/-- The bytes of the k-th block. -/
def chunk (zs : List Nat) (k : Nat) : List Nat := (zs.drop (64 * k)).take (min (64 * k + 64) zs.length - 64 * k)
theorem nB_lt {n k : Nat} (h : k < nB n) : 64 * k < n := by unfold nB at h; omega
theorem nB_le {n k : Nat} (h : 64 * k < n) : k < nB n := by unfold nB; omega
theorem nB_ge {n k : Nat} (h : n ≤ 64 * k) : nB n ≤ k := by unfold nB; omega
theorem nB_few {n : Nat} (h : n ≤ 16777216) : nB n ≤ 262144 := by unfold nB; omega
theorem chunk_le (zs : List Nat) (k : Nat) : (chunk zs k).length ≤ 64 := by simp [chunk]; omega
/-- The raw write of the k-th block, as a method's value. -/
def pieceV (d slot b cap n k : Nat) : Value := .func (.func 81) #[.agg #[.pointer (some ⟨d, 0, none⟩), .int .i64 (slot : Int), .int .i64 ((64 * k : Nat) : Int), .slice (some ⟨b, 64 * k, none⟩) (min (64 * k + 64) n - 64 * k) (cap - 64 * k)]] #[]
def clearV (d slot : Nat) : Value := .func (.func 80) #[.agg #[.pointer (some ⟨d, 0, none⟩), .int .i64 (slot : Int), .int .i64 0, .slice none 0 0]] #[]
/-- All raw writes, in order. -/
def rawsV (d slot b cap n m : Nat) : List Value := clearV d slot :: (List.range m).map (pieceV d slot b cap n)
theorem rawsV_length (d slot b cap n m : Nat) : (rawsV d slot b cap n m).length = m + 1 := by simp [rawsV]
theorem rawsV_succ (d slot b cap n m : Nat) : rawsV d slot b cap n (m + 1) = rawsV d slot b cap n m ++ [pieceV d slot b cap n m] := by simp [rawsV, List.range_succ]
theorem rawsV_zero (d slot b cap n m : Nat) : (rawsV d slot b cap n m)[0]? = some (clearV d slot) := by simp [rawsV]
theorem rawsV_get (d slot b cap n m k : Nat) (h : k < m) : (rawsV d slot b cap n m)[k + 1]? = some (pieceV d slot b cap n k) := by simp [rawsV, h]
/-- The program's saver of such bytes for a slot, of whose raw writes k are done. -/
structure SaM (w : World) (sb d fb ab : Nat) (fo : Option Addr) (fc ac slot : Nat) (zs : List Nat) (k : Nat) : Prop where
  box : w.heap[sb]? = some (.cells #[.bool true, .slice fo (nB zs.length + 1 - k) fc] 112 (0, 0))
  kle : k ≤ nB zs.length + 1
  row : ∃ cs : Array Value, w.heap[fb]? = some (.cells cs 135 (0, 0)) ∧ ∀ (j : Nat) (v : Value), (rawsV d slot ab ac zs.length (nB zs.length))[j]? = some v → cs[j]? = some v
  at_ : k ≤ nB zs.length → fo = some ⟨fb, k, none⟩
  cap : nB zs.length + 1 - k ≤ fc
  byt : w.ownsRow 0 5 1 (.slice (some ⟨ab, 0, none⟩) zs.length ac) zs.length (bts zs)
  low : ∀ x ∈ zs, x < 256
  few : zs.length ≤ 16777216
  sl : slot ≤ 1
theorem SaM.keep {S : List Nat} {w w' : World} {sb d fb ab : Nat} {fo : Option Addr} {fc ac slot : Nat} {zs : List Nat} {k : Nat} (h : SaM w sb d fb ab fo fc ac slot zs k) (hf : Fr S w w') (h1 : sb ∉ S) (h2 : fb ∉ S) (h3 : ab ∉ S) : SaM w' sb d fb ab fo fc ac slot zs k := by
  obtain ⟨cs, hb, hc⟩ := h.row
  exact ⟨hf.keep h.box h1, h.kle, ⟨cs, hf.keep hb h2, hc⟩, h.at_, h.cap, owns_keep h.byt hf (fun q hq => by simp [Value.ownBlock] at hq; subst hq; exact h3), h.low, h.few, h.sl⟩
theorem SaM.blocks {w : World} {sb d fb ab : Nat} {fo : Option Addr} {fc ac slot : Nat} {zs : List Nat} {k : Nat} (h : SaM w sb d fb ab fo fc ac slot zs k) : sb < w.heap.size ∧ fb < w.heap.size ∧ ab < w.heap.size ∧ sb ≠ fb ∧ sb ≠ ab ∧ fb ≠ ab := by
  obtain ⟨cs, hb, _⟩ := h.row
  obtain ⟨ca, ha⟩ := own_type h.byt ab rfl
  refine ⟨lt_of_block h.box, lt_of_block hb, lt_of_block ha, ?_, ?_, ?_⟩
  · rintro rfl; rw [h.box] at hb; simp at hb
  · rintro rfl; rw [h.box] at ha; simp at ha
  · rintro rfl; rw [hb] at ha; simp at ha
theorem SaM.c0 {w : World} {sb d fb ab : Nat} {fo : Option Addr} {fc ac slot : Nat} {zs : List Nat} {k : Nat} (h : SaM w sb d fb ab fo fc ac slot zs k) : w.cell? ⟨sb, 0, none⟩ = some (.bool true) := by rw [cell_of_row _ _ _ _ _ _ h.box]; rfl
theorem SaM.c1 {w : World} {sb d fb ab : Nat} {fo : Option Addr} {fc ac slot : Nat} {zs : List Nat} {k : Nat} (h : SaM w sb d fb ab fo fc ac slot zs k) : w.cell? ⟨sb, 1, none⟩ = some (.slice fo (nB zs.length + 1 - k) fc) := by rw [cell_of_row _ _ _ _ _ _ h.box]; rfl
theorem SaM.f1 {w : World} {sb d fb ab : Nat} {fo : Option Addr} {fc ac slot : Nat} {zs : List Nat} {k : Nat} (h : SaM w sb d fb ab fo fc ac slot zs k) : w.frozen? ⟨sb, 1, none⟩ = false := by simp [World.frozen?, h.box]
theorem SaM.raw {w : World} {sb d fb ab : Nat} {fo : Option Addr} {fc ac slot : Nat} {zs : List Nat} {k : Nat} (h : SaM w sb d fb ab fo fc ac slot zs k) (hk : k ≤ nB zs.length) : fo = some ⟨fb, k, none⟩ ∧ w.cell? ⟨fb, k, none⟩ = (rawsV d slot ab ac zs.length (nB zs.length))[k]? := by
  obtain ⟨cs, hb, hc⟩ := h.row
  refine ⟨h.at_ hk, ?_⟩
  have hl : k < (rawsV d slot ab ac zs.length (nB zs.length)).length := by rw [rawsV_length]; omega
  rw [cell_of_row _ _ _ _ _ _ hb, List.getElem?_eq_getElem hl, hc k _ (List.getElem?_eq_getElem hl)]
theorem SaM.step {w : World} {sb d fb ab : Nat} {fo : Option Addr} {fc ac slot : Nat} {zs : List Nat} {k : Nat} (h : SaM w sb d fb ab fo fc ac slot zs k) (hk : k ≤ nB zs.length) : SaM (w.setCell ⟨sb, 1, none⟩ (.slice (fromB fo fc 1) (nB zs.length + 1 - k - 1) (fc - 1))) sb d fb ab (fromB fo fc 1) (fc - 1) ac slot zs (k + 1) ∧ Fr [sb] w (w.setCell ⟨sb, 1, none⟩ (.slice (fromB fo fc 1) (nB zs.length + 1 - k - 1) (fc - 1))) := by
  have hf : Fr [sb] w (w.setCell ⟨sb, 1, none⟩ (.slice (fromB fo fc 1) (nB zs.length + 1 - k - 1) (fc - 1))) := Fr.set _ _ _ (by simp)
  obtain ⟨_, _, _, n1, n2, _⟩ := h.blocks
  obtain ⟨cs, hb, hc⟩ := h.row
  have hcap := h.cap
  refine ⟨⟨?_, by omega, ⟨cs, hf.keep hb (by simp; omega), hc⟩, fun hk1 => ?_, by omega, owns_keep h.byt hf (fun q hq => by simp [Value.ownBlock] at hq; subst hq; simp; omega), h.low, h.few, h.sl⟩, hf⟩
  · rw [row_setCell _ h.box, show nB zs.length + 1 - k - 1 = nB zs.length + 1 - (k + 1) by omega]
    rfl
  · rw [h.at_ hk]
    unfold fromB
    rw [if_neg (by omega)]
    simp [Addr.add]
theorem SaM.chunk {w : World} {sb d fb ab : Nat} {fo : Option Addr} {fc ac slot : Nat} {zs : List Nat} {k : Nat} (h : SaM w sb d fb ab fo fc ac slot zs k) (q : Nat) (hq : q < nB zs.length) : BArg w (some ⟨ab, 64 * q, none⟩) (min (64 * q + 64) zs.length - 64 * q) (ac - 64 * q) (chunk zs q) := by
  have hA : BArg w (some ⟨ab, 0, none⟩) zs.length ac zs := own_arg h.byt h.low (by have := h.few; omega)
  have h1 := nB_lt hq
  have h2 := hA.cut (64 * q) (min (64 * q + 64) zs.length) (by omega) (by omega)
  have h3 := hA.fits
  rw [show fromB (some ⟨ab, 0, none⟩) ac (64 * q) = some ⟨ab, 64 * q, none⟩ from by unfold fromB; rw [if_neg (by omega)]; simp [Addr.add_lit]] at h2
  exact h2
/-- What a step of a saver does. -/
inductive StepR (t : Sk) (slot : Nat) (zs : List Nat) (k : Nat) : Int → Sk → Nat → Prop
  | idle (h : k = nB zs.length + 1) : StepR t slot zs k 9 t k
  | clear (h : k = 0) {E : Int} {t' : Sk} (hc : Cleared t (slot : Int) E t') (he : E = 0) : StepR t slot zs k E t' (k + 1)
  | clearNo (h : k = 0) {E : Int} {t' : Sk} (hc : Cleared t (slot : Int) E t') (he : E ≠ 0) : StepR t slot zs k E t' k
  | write (q : Nat) (h : k = q + 1) (hq : q < nB zs.length) {E : Int} {t' : Sk} (hc : Wrote t (slot : Int) ((64 * q : Nat) : Int) (chunk zs q) E t') (he : E = 0) : StepR t slot zs k E t' (k + 1)
  | writeNo (q : Nat) (h : k = q + 1) (hq : q < nB zs.length) {E : Int} {t' : Sk} (hc : Wrote t (slot : Int) ((64 * q : Nat) : Int) (chunk zs q) E t') (he : E ≠ 0) : StepR t slot zs k E t' k
theorem StepR.some (t : Sk) (slot : Nat) (zs : List Nat) (k : Nat) (hk : k ≤ nB zs.length + 1) : ∃ E t' k', StepR t slot zs k E t' k' := by
  by_cases h1 : k = nB zs.length + 1
  · exact ⟨_, _, _, .idle h1⟩
  · by_cases h0 : k = 0
    · obtain ⟨E, t', hc⟩ := Cleared.some t (slot : Int)
      by_cases he : E = 0
      · exact ⟨_, _, _, .clear h0 hc he⟩
      · exact ⟨_, _, _, .clearNo h0 hc he⟩
    · obtain ⟨q, rfl⟩ : ∃ q, k = q + 1 := ⟨k - 1, by omega⟩
      obtain ⟨E, t', hc⟩ := Wrote.some t (slot : Int) ((64 * q : Nat) : Int) (chunk zs q)
      by_cases he : E = 0
      · exact ⟨_, _, _, .write q rfl (by omega) hc he⟩
      · exact ⟨_, _, _, .writeNo q rfl (by omega) hc he⟩
theorem StepR.n {t t' : Sk} {slot : Nat} {zs : List Nat} {k k' : Nat} {E : Int} (h : StepR t slot zs k E t' k') : t'.n ≤ t.n + 1 := by
  cases h with
  | idle _ => omega
  | clear _ hc _ => exact hc.n
  | clearNo _ hc _ => exact hc.n
  | write _ _ _ hc _ => exact hc.n
  | writeNo _ _ _ hc _ => exact hc.n
end Go.Proofs.YtdojhkgnnbdfkaaGreat

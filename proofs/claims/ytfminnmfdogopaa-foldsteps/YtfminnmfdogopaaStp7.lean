/- The mathematics of one transaction more, and of stretches. Plain lemmas. -/
import Derived.Test.YtfminnmfdogopaaAmg7
import Derived.Test.YtfminnmfdogopaaRg7
namespace Go.Proofs.Ytfminnmfdogopaa
open Go.Maps Go.Sort
set_option linter.unusedVariables false
theorem fo_okK {l : List Tx} (h : okL 1 l) : ∀ n, n ≤ l.length → ∀ s v, fo (l.take n) s = some v → okK s = true := by
  intro n
  induction n with
  | zero => intro _ s v hv; simp [fo, call] at hv
  | succ n ih =>
    intro hn s v hv
    rw [take_snoc_tx l n (by omega), fo_step] at hv
    cases hl : lastW (l.getD n Tx.zero).ws s with
    | none => rw [hl] at hv; exact ih (by omega) s v hv
    | some x =>
      obtain ⟨hx, hk⟩ := lastW_some_key hl
      have hm : l.getD n Tx.zero ∈ l := by simp [List.getD, show n < l.length by omega]
      have hok := (okL_mem h _ hm).2.2.2 x hx
      rw [← hk]
      exact (okK_iff _).2 ⟨hok.1, hok.2.1⟩
/-- A stretch of the fold. -/
theorem sc_filter {l : List Tx} {f : Nat} {ps : List Pr} (hok : okL 1 l) (hf : f ≤ l.length) (h : Is (fo (l.take f)) ps) (a b : ByteArray) : ScTold l (f : Int) a b (ps.filter fun p => inS a b p.1) 0 :=
  ⟨Or.inr (Or.inr ⟨hok, ⟨by omega, by omega⟩, rfl⟩), Or.inr ⟨rfl, by rw [Int.toNat_natCast]; exact (h.filter (inS a b)).cong (fun s => (call_fo _ _ s).symm)⟩⟩
theorem low_high {ps : List Pr} (h : Inc ps) (key : ByteArray) (hk : key.toList ≠ []) : (ps.filter fun p => inS ⟨#[]⟩ key p.1) ++ (ps.filter fun p => inS key ⟨#[]⟩ p.1) = ps := by
  have e1 : (ps.filter fun p => inS ⟨#[]⟩ key p.1) = ps.filter fun p => Op.bytesLess p.1.toList key.toList := by
    congr 1; funext p; exact inS_lo key p.1 hk
  have e2 : (ps.filter fun p => inS key ⟨#[]⟩ p.1) = ps.filter fun p => !(Op.bytesLess p.1.toList key.toList) := by
    congr 1; funext p; exact inS_hi key p.1
  rw [e1, e2]
  exact split_at h key
/-- Is it ahead of the stretch's end? -/
def cE (en : ByteArray) (p : Pr) : Bool := en.toList == [] || Op.bytesLess p.1.toList en.toList
theorem part_high (ps : List Pr) (key en : ByteArray) : (ps.filter fun p => inS key en p.1) = (ps.filter fun p => inS key ⟨#[]⟩ p.1).filter (cE en) := by
  rw [List.filter_filter]
  congr 1
  funext p
  rw [inS_part]
  unfold cE
  rw [Bool.and_comm]
theorem take_snoc_pr (hs : List Pr) (i : Nat) (h : i < hs.length) : hs.take (i + 1) = hs.take i ++ [hs.getD i e0] := by
  rw [List.take_add_one]
  simp [List.getD, h]
theorem cnt_yes {hs : List Pr} {c : Pr → Bool} {i : Nat} (hi : i < hs.length) (h : c (hs.getD i e0) = true) : ((hs.take i).filter c).length < (hs.filter c).length ∧ (hs.filter c).getD ((hs.take i).filter c).length e0 = hs.getD i e0 ∧ ((hs.take (i + 1)).filter c).length = ((hs.take i).filter c).length + 1 := by
  have e : hs.filter c = (hs.take i).filter c ++ (hs.getD i e0 :: (hs.drop (i + 1)).filter c) := by
    have e1 : hs = hs.take i ++ (hs.getD i e0 :: hs.drop (i + 1)) := by
      have h2 : hs.getD i e0 = hs[i] := by simp [List.getD, hi]
      rw [h2, ← List.drop_eq_getElem_cons hi, List.take_append_drop]
    have e2 := congrArg (List.filter c) e1
    rw [List.filter_append, List.filter_cons_of_pos h] at e2
    exact e2
  refine ⟨by rw [e, List.length_append]; simp, ?_, ?_⟩
  · rw [e]
    simp [List.getD]
  · rw [take_snoc_pr hs i hi, List.filter_append, List.filter_cons_of_pos h]
    simp
theorem cnt_no {hs : List Pr} {c : Pr → Bool} {i : Nat} (hi : i < hs.length) (h : c (hs.getD i e0) = false) : ((hs.take (i + 1)).filter c).length = ((hs.take i).filter c).length := by
  rw [take_snoc_pr hs i hi, List.filter_append, List.filter_cons_of_neg (by rw [h]; simp)]
  simp
end Go.Proofs.Ytfminnmfdogopaa

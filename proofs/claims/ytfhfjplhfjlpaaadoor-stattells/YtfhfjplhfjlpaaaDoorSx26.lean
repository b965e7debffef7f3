/- The mathematics of stats: which lanes hold one behind the first so many events, and what the stats of these are. No conditions. -/
import Derived.Test.YtfhfjplhfjlpaaaDoorRw26
namespace Go.Proofs.YtfhfjplhfjlpaaaDoor
open Go.ChangeShapes Go.WideShapes Go.ChangeAt Go.RowKit Go.Lib
set_option linter.unusedVariables false
set_option linter.unusedSimpArgs false

/-- Does lane j hold one behind the first so many events? -/
def hold (es : List Ev) (j : Int) : Nat → Bool
  | 0 => false
  | m + 1 => if (es.getD m Ev.no).t = j ∧ (es.getD m Ev.no).k = 4 then true else if (es.getD m Ev.no).t = j ∧ (es.getD m Ev.no).k = 6 then false else hold es j m
/-- All lanes. -/
def hs (L : Nat) (es : List Ev) (m : Nat) : List Bool := (List.range L).map fun (j : Nat) => hold es ((j : Int) + 1) m
theorem hs_length (L : Nat) (es : List Ev) (m : Nat) : (hs L es m).length = L := by simp [hs]
theorem hs_zero (L : Nat) (es : List Ev) : hs L es 0 = List.replicate L false := by
  apply List.ext_getElem
  · simp [hs]
  · intro i h1 h2
    simp [hs, hold]
theorem hs_getD (L : Nat) (es : List Ev) (m j : Nat) (h : j < L) : (hs L es m).getD j false = hold es ((j : Int) + 1) m := by simp [hs, List.getD, h]
theorem hs_succ (L : Nat) (es : List Ev) (m : Nat) : hs L es (m + 1) = seeL (hs L es m) (es.getD m Ev.no) := by
  obtain ⟨e, he⟩ : ∃ e, e = es.getD m Ev.no := ⟨_, rfl⟩
  apply List.ext_getElem
  · rw [seeL_length, hs_length, hs_length]
  · intro i h1 h2
    rw [hs_length] at h1
    have q : ∀ h, (hs L es (m + 1))[i]'h = if e.t = (i : Int) + 1 ∧ e.k = 4 then true else if e.t = (i : Int) + 1 ∧ e.k = 6 then false else hold es ((i : Int) + 1) m := by
      intro h
      simp [hs, hold, he]
    have q0 : ∀ h, (hs L es m)[i]'h = hold es ((i : Int) + 1) m := by
      intro h
      simp [hs]
    rw [q]
    simp only [← he]
    unfold seeL
    by_cases ht : 1 ≤ e.t ∧ e.t ≤ (hs L es m).length
    · simp only [if_pos ht]
      rw [hs_length] at ht
      by_cases h4 : e.k = 4
      · simp only [if_pos h4]
        rw [List.getElem_set]
        by_cases hi : (e.t - 1).toNat = i
        · rw [if_pos hi, if_pos ⟨by omega, h4⟩]
        · rw [if_neg hi, if_neg (by omega), if_neg (by omega), q0]
      · by_cases h6 : e.k = 6
        · simp only [if_neg h4, if_pos h6]
          rw [List.getElem_set]
          by_cases hi : (e.t - 1).toNat = i
          · rw [if_pos hi, if_neg (by omega), if_pos ⟨by omega, h6⟩]
          · rw [if_neg hi, if_neg (by omega), if_neg (by omega), q0]
        · simp only [if_neg h4, if_neg h6]
          rw [if_neg (by omega), if_neg (by omega), q0]
    · simp only [if_neg ht]
      rw [hs_length] at ht
      rw [if_neg (by omega), if_neg (by omega), q0]
/-- Stats as numbers: steps, installs, lag, busy, reads. -/
structure Sst where
  n : Int
  i : Int
  g : Int
  b : Int
  r : Int
def Sst.a (s : Sst) : Array Value := stA s.n s.i s.g s.b s.r
/-- The stats of the first so many events. -/
def sta (L : Nat) (es : List Ev) : Nat → Sst
  | 0 => ⟨0, 0, 0, 0, 0⟩
  | m + 1 => ⟨(sta L es m).n + 1, (sta L es m).i + insE (es.getD m Ev.no), max (sta L es m).g (dspE (es.getD m Ev.no)), max (sta L es m).b (busyL (hs L es (m + 1)) : Nat), (sta L es m).r + endE (es.getD m Ev.no)⟩
theorem sta_n (L : Nat) (es : List Ev) (m : Nat) : (sta L es m).n = m := by
  induction m with
  | zero => rfl
  | succ m ih => simp [sta, ih]
theorem sta_i (L : Nat) (es : List Ev) (m : Nat) : 0 ≤ (sta L es m).i ∧ (sta L es m).i ≤ m := by
  induction m with
  | zero => simp [sta]
  | succ m ih => have := insE_le (es.getD m Ev.no); simp only [sta]; omega
theorem sta_r (L : Nat) (es : List Ev) (m : Nat) : 0 ≤ (sta L es m).r ∧ (sta L es m).r ≤ m := by
  induction m with
  | zero => simp [sta]
  | succ m ih => have := endE_le (es.getD m Ev.no); simp only [sta]; omega
theorem sta_g (L : Nat) (es : List Ev) (m : Nat) : 0 ≤ (sta L es m).g ∧ (sta L es m).g ≤ 65536 := by
  induction m with
  | zero => simp [sta]
  | succ m ih => have := dspE_le (es.getD m Ev.no); simp only [sta]; omega
theorem sta_b (L : Nat) (es : List Ev) (m : Nat) : 0 ≤ (sta L es m).b ∧ (sta L es m).b ≤ L := by
  induction m with
  | zero => simp [sta]
  | succ m ih => have := busyL_le (hs L es (m + 1)); rw [hs_length] at this; simp only [sta]; omega
/-- A row of which the first so many fields are new. -/
def mixA (o n : Sst) (j : Nat) : Array Value := stA (if 0 < j then n.n else o.n) (if 1 < j then n.i else o.i) (if 2 < j then n.g else o.g) (if 3 < j then n.b else o.b) (if 4 < j then n.r else o.r)
theorem mixA_zero (o n : Sst) : mixA o n 0 = o.a := rfl
theorem mixA_five (o n : Sst) : mixA o n 5 = n.a := rfl
/-- Behind how many of the first so many events a lane held one. -/
def cntL (es : List Ev) (j : Int) : Nat → Int
  | 0 => 0
  | m + 1 => cntL es j m + (if hold es j (m + 1) = true then 1 else 0)
theorem cntL_le (es : List Ev) (j : Int) (m : Nat) : 0 ≤ cntL es j m ∧ cntL es j m ≤ m := by
  induction m with
  | zero => simp [cntL]
  | succ m ih => simp only [cntL]; split <;> omega
def lnS (L : Nat) (es : List Ev) (m : Nat) : List Int := (List.range L).map fun (j : Nat) => cntL es ((j : Int) + 1) m
theorem lnS_length (L : Nat) (es : List Ev) (m : Nat) : (lnS L es m).length = L := by simp [lnS]
theorem lnS_getD (L : Nat) (es : List Ev) (m j : Nat) (h : j < L) : (lnS L es m).getD j 0 = cntL es ((j : Int) + 1) m := by simp [lnS, List.getD, h]
theorem lnS_zero (L : Nat) (es : List Ev) : lnS L es 0 = List.replicate L 0 := by
  apply List.ext_getElem
  · simp [lnS]
  · intro i h1 h2
    simp [lnS, cntL]
end Go.Proofs.YtfhfjplhfjlpaaaDoor

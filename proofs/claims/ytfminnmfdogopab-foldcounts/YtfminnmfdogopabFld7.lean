/- The document's fold, Store, Get, Stretch and Scan. Conditions as each names them. -/
import Derived.Test.YtfminnmfdogopabWrt8
namespace Go.Proofs.Ytfminnmfdogopab
open Go.ChangeShapes Go.WideShapes Go.ChangeAt Go.RowKit Go.Lib Go.Maps Go.Sort
set_option linter.unusedVariables false
set_option linter.unusedSimpArgs false

theorem filt_two {α : Type} (p q : α → Bool) (h : ∀ x, p x = true → q x = false) : ∀ l : List α, (l.filter p).length + (l.filter q).length ≤ l.length
  | [] => by simp
  | x :: l => by
    have ih := filt_two p q h l
    cases hp : p x with
    | true => simp [hp, h x hp]; omega
    | false =>
      cases hq : q x with
      | true => simp [hp, hq]; omega
      | false => simp [hp, hq]; omega
theorem wrote_length (ps : List Pr) (x : Wt) : (wrote ps x).length ≤ ps.length + 1 := by
  have h := filt_two (fun p : Pr => Op.bytesLess p.1.toList x.key.toList) (fun p : Pr => Op.bytesLess x.key.toList p.1.toList) (fun p hp => bl_asymm hp) ps
  unfold wrote
  rw [List.length_append, List.length_append]
  have : (if x.drop = true then ([] : List Pr) else [(x.key, x.val)]).length ≤ 1 := by by_cases hd : x.drop = true <;> simp [hd]
  omega
theorem EOut.ers {w w' : World} {ro : Option Addr} {N rc : Nat} {ps : List Pr} (h : EOut w w' ro N rc ps) (hf : ps.length < 1099511627776) : ERs w' ro ps := ers_of h.row h.len hf
theorem EOut.cap {w w' : World} {ro : Option Addr} {N rc : Nat} {ps : List Pr} (h : EOut w w' ro N rc ps) : N ≤ rc := by
  rcases h.row.2 with ⟨e, h0⟩ | ⟨g, cap, _, e, _, _, h1, _⟩
  · omega
  · cases e; exact h1
theorem EOut.later {w w' w'' : World} {ro : Option Addr} {N rc : Nat} {ps : List Pr} (h : EOut w' w'' ro N rc ps) (hs : w.heap.size ≤ w'.heap.size) : EOut w w'' ro N rc ps := ⟨h.len, own_base h.row hs⟩
theorem EOut.keep {w w' w'' : World} {ro : Option Addr} {N rc : Nat} {ps : List Pr} (h : EOut w w' ro N rc ps) (hf : Fr [] w' w'') : EOut w w'' ro N rc ps := ⟨h.len, owns_keepB h.row hf (by simp)⟩
theorem fo_snoc (l : List Tx) (t : Tx) : fo (l ++ [t]) = capplys (fun _ => true) (fo l) t.ws := call_snoc _ _ _ _
theorem txs_take_snoc (ts : List Tm) (i : Nat) (h : i < ts.length) : (txs ts).take (i + 1) = (txs ts).take i ++ [(ts.getD i Tm.zero).tx] := by
  rw [List.take_add_one]
  simp [txs, List.getD, h]
/- Both lanes side by side (Pp): what a call on one side leaves of the other. No conditions. -/
import Derived.Test.YtgladhebgnngdaaPl14
namespace Go.Proofs.Ytgladhebgnngdaa
open Go.ChangeShapes Go.WideShapes Go.ChangeAt Go.RowKit Go.Lib Go.Maps
set_option linter.unusedVariables false
set_option linter.unusedSimpArgs false
/-- Both lanes, made since w0. -/
structure Pp (w0 w : World) (p r : Option Addr) (c : Lc) (s1 s2 : Option (Option Hl)) (O1 O2 : List Nat) : Prop where
  l : LS w p O1 c s1
  r : RS w r O2 c s2
  low1 : ∀ k ∈ O1, w0.heap.size ≤ k ∧ k < w.heap.size
  low2 : ∀ k ∈ O2, w0.heap.size ≤ k ∧ k < w.heap.size
  apart : ∀ k ∈ O1, k ∉ O2
  fr : Fr [] w0 w
section
variable {w0 w w' : World} {p r : Option Addr} {c : Lc} {s1 s2 : Option (Option Hl)} {O1 O2 : List Nat}
theorem Pp.off {T : List Nat} (P : Pp w0 w p r c s1 s2 O1 O2) (hf : Fr T w w') (h1 : ∀ k ∈ T, k ∉ O1 ∧ k ∉ O2 ∧ w0.heap.size ≤ k) : Pp w0 w' p r c s1 s2 O1 O2 :=
  ⟨P.l.keep hf (fun k hk ht => (h1 k ht).1 hk), P.r.keep hf (fun k hk ht => (h1 k ht).2.1 hk), fun k hk => ⟨(P.low1 k hk).1, Nat.lt_of_lt_of_le (P.low1 k hk).2 hf.size⟩, fun k hk => ⟨(P.low2 k hk).1, Nat.lt_of_lt_of_le (P.low2 k hk).2 hf.size⟩, P.apart, P.fr.on hf (fun k hk => (h1 k hk).2.2)⟩
theorem Pp.quiet (P : Pp w0 w p r c s1 s2 O1 O2) (hf : Fr [] w w') : Pp w0 w' p r c s1 s2 O1 O2 := P.off hf (by simp)
theorem Pp.stepL {t1 : Option (Option Hl)} {O1' : List Nat} (P : Pp w0 w p r c s1 s2 O1 O2) (hf : Fr O1 w w') (hl : LS w' p O1' c t1) (hn : Nw14 w w' O1 O1') : Pp w0 w' p r c t1 s2 O1' O2 := by
  have hs := hf.size
  have h0 := P.fr.size
  refine ⟨hl, P.r.keep hf (fun k hk ht => P.apart k ht hk), fun k hk => ?_, fun k hk => ⟨(P.low2 k hk).1, Nat.lt_of_lt_of_le (P.low2 k hk).2 hs⟩, fun k hk h2 => ?_, P.fr.on hf (fun k hk => (P.low1 k hk).1)⟩
  · rcases hn k hk with h | h
    · have := P.low1 k h; exact ⟨this.1, by omega⟩
    · exact ⟨by omega, h.2⟩
  · rcases hn k hk with h | h
    · exact P.apart k h h2
    · have := (P.low2 k h2).2; omega
theorem Pp.stepR {t2 : Option (Option Hl)} {O2' : List Nat} (P : Pp w0 w p r c s1 s2 O1 O2) (hf : Fr O2 w w') (hl : RS w' r O2' c t2) (hn : Nw14 w w' O2 O2') : Pp w0 w' p r c s1 t2 O1 O2' := by
  have hs := hf.size
  have h0 := P.fr.size
  refine ⟨P.l.keep hf (fun k hk ht => P.apart k hk ht), hl, fun k hk => ⟨(P.low1 k hk).1, Nat.lt_of_lt_of_le (P.low1 k hk).2 hs⟩, fun k hk => ?_, fun k hk h2 => ?_, P.fr.on hf (fun k hk => (P.low2 k hk).1)⟩
  · rcases hn k hk with h | h
    · have := P.low2 k h; exact ⟨this.1, by omega⟩
    · exact ⟨by omega, h.2⟩
  · rcases hn k h2 with h | h
    · exact P.apart k hk h
    · have := (P.low1 k hk).2; omega
theorem Pp.goL {t1 : Option (Option Hl)} (P : Pp w0 w p r c s1 s2 O1 O2) (hf : Fr O1 w w') (hl : LS w' p O1 c t1) : Pp w0 w' p r c t1 s2 O1 O2 := P.stepL hf hl (Nw14.refl _ _ _)
theorem Pp.goR {t2 : Option (Option Hl)} (P : Pp w0 w p r c s1 s2 O1 O2) (hf : Fr O2 w w') (hl : RS w' r O2 c t2) : Pp w0 w' p r c s1 t2 O1 O2 := P.stepR hf hl (Nw14.refl _ _ _)
/-- What is below the world's end and not one's own stays so. -/
theorem Nw14.not {O O' : List Nat} {k : Nat} (h : Nw14 w w' O O') (hk : k < w.heap.size) (hn : k ∉ O) : k ∉ O' := fun hk' => by
  rcases h k hk' with h | h
  · exact hn h
  · omega
/-- What asked leaves: the answer is yes, both lanes are alike, and only one's own may differ. -/
def AkT (w0 w w' : World) (p r : Option Addr) (c : Lc) (O1 O2 : List Nat) (e : Ending) : Prop :=
  e = .returned (.bool true) ∧ ∃ O1' O2' t, Pp w0 w' p r c t t O1' O2' ∧ (∀ k ∈ O1' ++ O2', k ∈ O1 ++ O2 ∨ w.heap.size ≤ k) ∧ Fr (O1 ++ O2) w w'
end
end Go.Proofs.Ytgladhebgnngdaa

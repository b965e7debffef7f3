/- What an idle replica's Store is: the fold's entries, in a row that can be read. Conditions as each names them. -/
import Derived.Test.YtakbodlicfmkjaaGreatKn20
import Derived.Test.YtakbodlicfmkjaaGreatFl20
namespace Go.Proofs.YtakbodlicfmkjaaGreat.Ap
open Go.ChangeShapes Go.WideShapes Go.ChangeAt Go.RowKit Go.Lib Go.Maps
set_option linter.unusedVariables false
set_option linter.unusedSimpArgs false
section
variable {w0 w w' : World} {p : Nat} {c : Cf} {T : List Tx} {Z : Lay} {s : Ms}
theorem idle_store (h : RP w0 w p c T Z s) (hW : Wf c T s) (hk : s.k < 16000000) (hr : rdyL c s (c.l.toNat + c.s.toNat + 2) = []) : Calls Tryz.prog 12 #[.pointer (some ⟨p, 0, none⟩)] w fun e w' => ∃ ro N rc ps, e = .returned (.slice ro N rc) ∧ N = ps.length ∧ Fo.Is (Fo.fo (T.take s.fd)) ps ∧ N ≤ 32 * T.length ∧ O.ERs w' ro ps ∧ N ≤ rc ∧ Fr [] w w' := by
  obtain ⟨i1, i2, i3, i4, i5, i6⟩ := idle_all hW hr
  refine Calls.mono (store_any h hW hk) ?_
  rintro e w' ⟨hs, v, rfl, h1, ⟨acc, h2, h3⟩, h4, h5⟩
  have hfd := hW.fdl.2
  have hIs := store_is hW i4 (fun n a b => (i6 n).2 ⟨a, b⟩) hfd h1 h2 h3
  obtain ⟨qs, q1, q2⟩ := Fo.fo_len (T.take s.fd) (fun t ht => (okL_mem hW.ok t (List.mem_of_mem_take ht)).2.2.1)
  have e : hs.filterMap (enOf s.ma) = qs := Fo.Is.unique hIs q1
  have hl : (T.take s.fd).length ≤ T.length := by rw [List.length_take]; exact Nat.min_le_right _ _
  have hT := okL_few hW.ok
  rw [e] at h4 hIs
  obtain ⟨ro, rc, rfl⟩ := O.own_shape2 h4
  refine ⟨ro, _, rc, qs, rfl, rfl, hIs, by omega, O.ers_of h4 rfl (by omega), ?_, h5⟩
  rcases h4.2 with ⟨h6, h7⟩ | ⟨g, cap, cur, h6, _, _, h7, _⟩
  · rw [h7]; exact Nat.zero_le _
  · cases h6; exact h7
end
end Go.Proofs.YtakbodlicfmkjaaGreat.Ap

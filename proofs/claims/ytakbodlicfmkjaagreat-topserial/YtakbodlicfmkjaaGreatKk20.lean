/- What an owner's task, the gate's task can do: contracts of can. Conditions as each names them. -/
import Derived.Test.YtakbodlicfmkjaaGreatMa20
namespace Go.Proofs.YtakbodlicfmkjaaGreat
open Go.ChangeShapes Go.WideShapes Go.ChangeAt Go.RowKit Go.Lib Go.Maps
set_option linter.unusedVariables false
set_option linter.unusedSimpArgs false
section
variable {w0 w w' : World} {c : Cf} {T : List Tx} {Z : Lay} {s : Ms}
theorem kk_can (h : MaM w0 w c T Z s) {j : Nat} (hj : j < c.s.toNat) : Calls Tryz.prog 302 #[.pointer (some ⟨Z.z.kk j, 0, none⟩)] w fun e w' => e = .returned (.int .u8 (canK s j : Int)) ∧ Fr [] w w' := by
  obtain ⟨_, _, _, c3⟩ := h.kkc hj
  have HL : Hid (Calls _ _ _ _ _) := O.os_len (h.ow hj) (s.qs j).length (by simp)
  by_cases h0 : s.qs j = []
  · have hc : canK s j = 0 := by simp [canK, h0]
    rw [hc]
    rw [h0] at HL
    simp only [List.length_nil] at HL
    clear h h0 hc
    go_enter Tryz.func302, Tryz.ntmps302
    go_wp2_with fail
    refine Calls.mono HL.out ?_
    rintro e w1 ⟨rfl, rfl⟩
    go_wp2
    go_ret
    exact ⟨rfl, Fr.refl _ _⟩
  · have hc : canK s j = 7 := by simp [canK, h0]
    have hl : 0 < (s.qs j).length := List.length_pos_iff.2 h0
    obtain ⟨K, hK⟩ : ∃ K, (s.qs j).length = K := ⟨_, rfl⟩
    rw [hK] at hl HL
    rw [hc]
    clear h h0 hc hK
    go_enter Tryz.func302, Tryz.ntmps302
    go_wp2_with fail
    refine Calls.mono HL.out ?_
    rintro e w1 ⟨rfl, rfl⟩
    go_wp2
    go_ret
    exact ⟨rfl, Fr.refl _ _⟩
theorem kg_can (h : MaM w0 w c T Z s) : Calls Tryz.prog 335 #[.pointer (some ⟨Z.z.kg, 0, none⟩)] w fun e w' => e = .returned (.int .u8 (canG s : Int)) ∧ Fr [] w w' := by
  obtain ⟨c0, _⟩ := h.kgc
  have c9 : w.cell? ⟨Z.z.mb, 9, none⟩ = some (.pointer (some ⟨Z.z.pr, 0, none⟩)) := h.mc rfl
  obtain ⟨N, F, K, ps, hR⟩ := h.pa
  have HL : Hid (Calls _ _ _ _ _) := GI.glen_any w hR
  have hK := hR.pl.cnt
  by_cases h0 : s.pass = []
  · have hc : canG s = 0 := by simp [canG, h0]
    rw [hc]
    obtain rfl : K = 0 := by rw [← hK, h0]; rfl
    clear h h0 hc hR hK
    go_enter Tryz.func335, Tryz.ntmps335
    go_wp2_with fail
    refine Calls.mono HL.out ?_
    rintro e w1 ⟨rfl, rfl⟩
    go_wp2
    go_ret
    exact ⟨rfl, Fr.refl _ _⟩
  · have hc : canG s = 8 := by simp [canG, h0]
    have hl : 0 < K := by rw [← hK]; exact List.length_pos_iff.2 h0
    rw [hc]
    clear h h0 hc hR hK
    go_enter Tryz.func335, Tryz.ntmps335
    go_wp2_with fail
    refine Calls.mono HL.out ?_
    rintro e w1 ⟨rfl, rfl⟩
    go_wp2
    go_ret
    exact ⟨rfl, Fr.refl _ _⟩
end
end Go.Proofs.YtakbodlicfmkjaaGreat

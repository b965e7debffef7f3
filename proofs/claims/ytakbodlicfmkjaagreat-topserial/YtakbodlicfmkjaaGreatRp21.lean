/- A replica in memory; what says whether it is there, its mark. Conditions as each names them. -/
import Derived.Test.YtakbodlicfmkjaaGreatVa20
namespace Go.Proofs.YtakbodlicfmkjaaGreat
open Go.ChangeShapes Go.WideShapes Go.ChangeAt Go.RowKit Go.Lib Go.Maps
set_option linter.unusedVariables false
set_option linter.unusedSimpArgs false
/-- A replica over a machine. -/
structure RP (w0 w : World) (p : Nat) (c : Cf) (T : List Tx) (Z : Lay) (s : Ms) : Prop where
  m : MaM w0 w c T Z s
  box : w.heap[p]? = some (.cells #[.pointer (some ⟨Z.z.mb, 0, none⟩)] 80 (0, 0))
  off : MaM.off w0 w c T Z s p
section
variable {w0 w w' : World} {p : Nat} {c : Cf} {T : List Tx} {Z : Lay} {s : Ms}
theorem RP.quiet (h : RP w0 w p c T Z s) (hf : Fr [] w w') : RP w0 w' p c T Z s := ⟨h.m.quiet hf, hf.keep h.box (by simp), h.m.otherO hf (by simp) h.off⟩
theorem RP.dn {Z' : Lay} {s' : Ms} (h : RP w0 w p c T Z s) (hD : Dn w0 c T w Z s w' Z' s') : RP w0 w' p c T Z' s' := ⟨hD.m, by rw [hD.z]; exact hD.keep h.box h.off, hD.off (lt_of_block h.box) h.off⟩
theorem RP.c0 (h : RP w0 w p c T Z s) : w.cell? ⟨p, 0, none⟩ = some (.pointer (some ⟨Z.z.mb, 0, none⟩)) := by rw [cell_of_row _ _ _ _ _ _ h.box]; rfl
theorem there_any (h : RP w0 w p c T Z s) : Calls Tryz.prog 21 #[.pointer (some ⟨p, 0, none⟩)] w fun e w' => e = .returned (.bool true) ∧ w = w' := by
  have c0 := h.c0
  clear h
  go_enter Tryz.func21, Tryz.ntmps21
  go_wp2_with fail
  go_ret
  exact ⟨rfl, rfl⟩
theorem wrong_any (h : RP w0 w p c T Z s) : Calls Tryz.prog 17 #[.pointer (some ⟨p, 0, none⟩)] w fun e w' => e = .returned (.int .i64 0) ∧ w = w' := by
  have HT : Hid (Calls _ _ _ _ _) := there_any h
  have c0 := h.c0
  have c18 : w.cell? ⟨Z.z.mb, 18, none⟩ = some (.bool false) := h.m.mc rfl
  clear h
  go_enter Tryz.func17, Tryz.ntmps17
  go_wp2_with fail
  refine Calls.mono HT.out ?_
  rintro e w1 ⟨rfl, rfl⟩
  go_wp2
  go_ret
  exact ⟨rfl, rfl⟩
theorem rmark_any (h : RP w0 w p c T Z s) : Calls Tryz.prog 10 #[.pointer (some ⟨p, 0, none⟩)] w fun e w' => e = .returned (.int .i64 s.ma) ∧ Fr [] w w' := by
  have HT : Hid (Calls _ _ _ _ _) := there_any h
  have c0 := h.c0
  have c12 : w.cell? ⟨Z.z.mb, 12, none⟩ = some (.pointer (some ⟨Z.z.gb, 0, none⟩)) := h.m.mc rfl
  have HM : Hid (Calls _ _ _ _ _) := gg_mark h.m.ga
  clear h
  go_enter Tryz.func10, Tryz.ntmps10
  go_wp2_with fail
  refine Calls.mono HT.out ?_
  rintro e w1 ⟨rfl, rfl⟩
  go_wp2_with fail
  refine Calls.mono HM.out ?_
  rintro e w1 ⟨rfl, hf⟩
  have HF : Hid (Fr [] w w1) := hf
  clear hf
  go_wp2
  go_ret
  exact ⟨rfl, HF.out⟩
end
end Go.Proofs.YtakbodlicfmkjaaGreat

/- What tasks can do: contracts of can. Conditions as each names them. -/
import Derived.Test.YtakbodlicfmkjaaGreatMa20
namespace Go.Proofs.YtakbodlicfmkjaaGreat
open Go.ChangeShapes Go.WideShapes Go.ChangeAt Go.RowKit Go.Lib Go.Maps
set_option linter.unusedVariables false
set_option linter.unusedSimpArgs false
section
variable {w0 w w' : World} {c : Cf} {T : List Tx} {Z : Lay} {s : Ms}
set_option maxRecDepth 100000 in
theorem kd_can (h : MaM w0 w c T Z s) : Calls Tryz.prog 248 #[.pointer (some ⟨Z.z.kd, 0, none⟩)] w fun e w' => e = .returned (.int .u8 (canD c s : Int)) ∧ Fr [] w w' := by
  have c0 : ∀ y : Wq w, y.W.cell? ⟨Z.z.kd, 0, none⟩ = some (.pointer (some ⟨Z.z.mb, 0, none⟩)) := fun y => (h.quiet y.h).kdc.1
  have c5 : ∀ y : Wq w, y.W.cell? ⟨Z.z.mb, 5, none⟩ = some (.pointer (some ⟨Z.z.fb, 0, none⟩)) := fun y => (h.quiet y.h).mc rfl
  have c12 : ∀ y : Wq w, y.W.cell? ⟨Z.z.mb, 12, none⟩ = some (.pointer (some ⟨Z.z.gb, 0, none⟩)) := fun y => (h.quiet y.h).mc rfl
  have HM : ∀ y : Wq w, Calls Tryz.prog 23 #[.pointer (some ⟨Z.z.gb, 0, none⟩)] y.W fun e w' => e = .returned (.int .i64 s.ma) ∧ Fr [] y.W w' := fun y => gg_mark (h.quiet y.h).ga
  have HC : ∀ y : Wq w, Calls Tryz.prog 43 #[.pointer (some ⟨Z.z.fb, 0, none⟩), .int .i64 s.ma] y.W fun e w' => e = .returned (.int .u8 (canD c s : Int)) ∧ Fr [] y.W w' := fun y => by
    have := F.fCan_any (h.quiet y.h).fe.m s.ma
    rw [can_eq h.may] at this
    exact this
  clear h
  go_enter Tryz.func248, Tryz.ntmps248
  go_wp2_with fail
  refine wp_region_wq (w1 := w) (by kernel_rfl) (by kernel_rfl) (Fr.refl _ _) ?_
  repeat (go_big_quiet_step (first
    | (go_at_call 23; with_reducible refine (HM _).mono ?_; exact fun e w3 hh => ⟨hh.1, ⟨_, Fr.then (Wq.h _) hh.2⟩, rfl⟩)
    | (go_at_call 43; with_reducible refine (HC _).mono ?_; exact fun e w3 hh => ⟨hh.1, ⟨_, Fr.then (Wq.h _) hh.2⟩, rfl⟩)))
  refine wpQuiet_nil ?_
  rintro _ ⟨z, rfl⟩
  go_wp2
  go_ret
  exact ⟨rfl, z.h⟩
end
end Go.Proofs.YtakbodlicfmkjaaGreat

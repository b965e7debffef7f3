/- An owner's task serves, and the lane that asked hears of it. Conditions as each names them. -/
import Derived.Test.YtakbodlicfmkjaaGreatAw20
import Derived.Test.YtakbodlicfmkjaaGreatFi20
namespace Go.Proofs.YtakbodlicfmkjaaGreat
open Go.ChangeShapes Go.WideShapes Go.ChangeAt Go.RowKit Go.Lib Go.Maps
set_option linter.unusedVariables false
set_option linter.unusedSimpArgs false
section
variable {w0 w w' : World} {c : Cf} {T : List Tx} {Z : Lay} {s : Ms}
/-- A lane hears that it was answered. -/
theorem whear_any (h : MaM w0 w c T Z s) {i : Nat} (hi : i < c.l.toNat) {g : Hl} (hn : s.ln i = some g) (ho : 0 < g.out) (f : Int) :
    Calls Tryz.prog 269 #[.pointer (some ⟨Z.z.kw i, 0, none⟩), .agg #[.int .i64 f, .bool true, .slice none 0 0, .slice none 0 0, .int .i64 0]] w fun e w' => e = .returned (.int .i64 g.n) ∧ Dn w0 c T w Z s w' { Z with S := upd Z.S i (Z.S i) } { s with ln := upd s.ln i (some (ackH g)) } := by
  obtain ⟨w1, HW1⟩ : ∃ w1, Hid (w.alloc (.cells #[.int .i64 f, .bool true, .slice none 0 0, .slice none 0 0, .int .i64 0] 398) = w1) := ⟨_, rfl⟩
  have hF1 : Fr [] w w1 := by rw [← HW1.out]; exact Fr.alloc _ _ _
  have h1 := h.quiet hF1
  have c2 : w1.cell? ⟨Z.z.kw i, 2, none⟩ = some (.pointer (some ⟨Z.z.la i, 0, none⟩)) := (h1.kwc hi).2.2
  rw [← HW1.out] at c2
  have HA : Hid (Calls Tryz.prog 306 #[.pointer (some ⟨Z.z.la i, 0, none⟩)] w1 fun e w' => e = .returned (.int .i64 0) ∧ w'.cell? ⟨Z.z.kw i, 2, none⟩ = some (.pointer (some ⟨Z.z.la i, 0, none⟩)) ∧ Hid (Calls Tryz.prog 244 #[.pointer (some ⟨Z.z.la i, 0, none⟩)] w' fun e w'' => e = .returned (.int .i64 g.n) ∧ Dn w0 c T w Z s w'' { Z with S := upd Z.S i (Z.S i) } { s with ln := upd s.ln i (some (ackH g)) })) := by
    have hla := h1.la hi
    rw [hn] at hla
    refine Calls.mono (lacked_any hla) ?_
    rintro e w' ⟨rfl, k1, k2⟩
    obtain ⟨gn, gl, go⟩ := g
    obtain ⟨o, rfl⟩ : ∃ o, go = o + 1 := ⟨go - 1, by simp only at ho; omega⟩
    have k1' : LnM w' (Z.z.la i) ((i + 1 : Nat) : Int) c.l c.s c.w c.q (some (ackH ⟨gn, gl, o + 1⟩)) (Z.S i) := k1
    have hD := h1.setLa hi k2 (fun b hb _ => by simpa using hb) k1' (fun b hb => Or.inl hb) (Nat.le_refl _)
    have hD2 := (h.dn hF1).trans hD
    refine ⟨rfl, (hD2.kwc hi).2, ?_⟩
    refine (lholds_any k1').mono ?_
    rintro e w'' ⟨rfl, k3⟩
    exact ⟨rfl, hD2.trans (hD2.m.dn k3)⟩
  clear h hF1 h1 hn ho
  go_enter Tryz.func269, Tryz.ntmps269
  go_wp2_with fail
  rw [HW1.out]
  clear HW1
  refine Calls.mono HA.out ?_
  rintro e w2 ⟨rfl, d2, HH⟩
  clear HA c2
  go_wp2_with fail
  refine Calls.mono HH.out ?_
  rintro e w3 ⟨rfl, hD⟩
  have HD : Hid (Dn w0 c T w Z s w3 _ _) := hD
  clear hD
  go_wp2
  go_ret
  exact ⟨rfl, HD.out⟩
end
end Go.Proofs.YtakbodlicfmkjaaGreat

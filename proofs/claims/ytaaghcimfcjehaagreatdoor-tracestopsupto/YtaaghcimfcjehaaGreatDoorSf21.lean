/- The first of a line, which is taken from it; a request goes to a queue's end. Conditions as each names them. -/
import Derived.Test.YtaaghcimfcjehaaGreatDoorSn21
import Derived.Test.YtaaghcimfcjehaaGreatDoorSi21
import Derived.BigQuiet
namespace Go.Proofs.YtaaghcimfcjehaaGreatDoor
open Go.ChangeShapes Go.WideShapes Go.ChangeAt Go.RowKit Go.Lib Go.Maps
set_option linter.unusedVariables false
set_option linter.unusedSimpArgs false

theorem first_none (b o : Nat) (q : Sq) (w : World) (hc : w.cell? ⟨b, o, none⟩ = some q.v) (hQ : QR w q.lo q.n q.c []) :
    Calls Tryz.prog 147 #[.pointer (some ⟨b, o, none⟩)] w fun e w' => e = .returned (.tuple #[.int .i64 0, .bool false]) ∧ w = w' := by
  obtain ⟨lo, n, c⟩ := q
  have hn : n = 0 := hQ.len
  subst hn
  have c0 : w.cell? ⟨b, o, none⟩ = some (.slice lo 0 c) := hc
  clear hc hQ
  go_enter Tryz.func147, Tryz.ntmps147
  go_wp2
  refine bodyPost_ret (results_tmp2 rfl _ _ _) rfl ?_
  exact ⟨rfl, rfl⟩
set_option maxHeartbeats 2000000 in
theorem first_some (b o : Nat) (q : Sq) (x : Int) (xs : List Int) (w : World) (hc : w.cell? ⟨b, o, none⟩ = some q.v) (hz : w.frozen? ⟨b, o, none⟩ = false) (hQ : QR w q.lo q.n q.c (x :: xs)) :
    Calls Tryz.prog 147 #[.pointer (some ⟨b, o, none⟩)] w fun e w' => ∃ p : Sq, e = .returned (.tuple #[.int .i64 x, .bool true]) ∧ w' = w.setCell ⟨b, o, none⟩ p.v ∧ QR w p.lo p.n p.c xs ∧ qb p.lo = qb q.lo := by
  obtain ⟨lo, n, c⟩ := q
  obtain ⟨g, off, e1, hx, hc0, hn, hK⟩ := hQ.first
  simp only at e1 hn hc0 hK
  have hfit := hQ.fit
  simp only at hfit
  subst e1
  obtain ⟨n, rfl⟩ : ∃ m, n = m + 1 := ⟨xs.length, hn⟩
  have c0 : w.cell? ⟨b, o, none⟩ = some (.slice (some ⟨g, off, none⟩) (n + 1) c) := hc
  clear hc hQ hn
  by_cases h1 : c = 1
  · subst h1
    have hn : n = 0 := by omega
    subst hn
    have HM : Hid (QR w (some ⟨g, off, none⟩) 0 0 xs) := (hK _ (by rw [if_pos rfl])).1
    clear hK hfit hc0
    go_enter Tryz.func147, Tryz.ntmps147
    go_wp2
    refine bodyPost_ret (results_tmp2 rfl _ _ _) rfl ?_
    exact ⟨⟨some ⟨g, off, none⟩, 0, 0⟩, rfl, rfl, HM.out, rfl⟩
  · have HM : Hid (QR w (some ⟨g, off + 1, none⟩) n (c - 1) xs) := (hK _ (by rw [if_neg h1])).1
    clear hK
    go_enter Tryz.func147, Tryz.ntmps147
    go_wp2
    refine bodyPost_ret (results_tmp2 rfl _ _ _) rfl ?_
    exact ⟨⟨some ⟨g, off + 1, none⟩, n, c - 1⟩, rfl, rfl, HM.out, rfl⟩
section
variable {w w' : World} {Z : Zs} {c : Cf} {s : Sy} {k : Nat}
theorem SyM.queCell (h : SyM w Z c s k) {j : Nat} (hj : j < c.s.toNat) : w.cell? ⟨Z.qq, j, none⟩ = some (Z.q (18 + j)).v ∧ w.frozen? ⟨Z.qq, j, none⟩ = false := by
  obtain ⟨cq, q1, q2, q3⟩ := h.ques
  exact ⟨by rw [cell_of_row _ _ _ _ _ _ q1]; exact q3 j hj, by simp [World.frozen?, q1]⟩
theorem SyM.lanCell (h : SyM w Z c s k) {i : Nat} (hi : i < c.l.toNat) : w.cell? ⟨Z.lb, 2 * i, none⟩ = some (.int .i64 (s.num i)) ∧ w.cell? ⟨Z.lb, 2 * i + 1, none⟩ = some (Z.q (2 + i)).v ∧ w.frozen? ⟨Z.lb, 2 * i, none⟩ = false ∧ w.frozen? ⟨Z.lb, 2 * i + 1, none⟩ = false := by
  obtain ⟨cq, q1, q2, q3⟩ := h.lanes
  exact ⟨by rw [cell_of_row _ _ _ _ _ _ q1]; exact (q3 i hi).1, by rw [cell_of_row _ _ _ _ _ _ q1]; exact (q3 i hi).2, by simp [World.frozen?, q1], by simp [World.frozen?, q1]⟩
/-- The first of the line. -/
theorem first0_some (h : SyM w Z c s k) {x : Int} {xs : List Int} (hR : s.R 0 = x :: xs) :
    Calls Tryz.prog 147 #[.pointer (some ⟨Z.sb, 9, none⟩)] w fun e w' => ∃ Z', e = .returned (.tuple #[.int .i64 x, .bool true]) ∧ SyM w' Z' c (s.put 0 xs) k ∧ Mv w Z w' Z' ∧ Z'.sb = Z.sb ∧ Z'.lb = Z.lb ∧ Z'.qq = Z.qq := by
  refine (first_some Z.sb 9 (Z.q 0) x xs w (h.cell rfl) (h.fz 9) (by rw [← hR]; exact h.rows 0)).mono ?_
  rintro e w' ⟨p, rfl, rfl, h1, h2⟩
  obtain ⟨m1, m2⟩ := h.row0 (w1 := w) p xs (Fr.refl _ _) h1 (Or.inl h2)
  exact ⟨_, rfl, m1, m2, rfl, rfl, rfl⟩
theorem first1_some (h : SyM w Z c s k) {x : Int} {xs : List Int} (hR : s.R 1 = x :: xs) :
    Calls Tryz.prog 147 #[.pointer (some ⟨Z.sb, 10, none⟩)] w fun e w' => ∃ Z', e = .returned (.tuple #[.int .i64 x, .bool true]) ∧ SyM w' Z' c (s.put 1 xs) k ∧ Mv w Z w' Z' ∧ Z'.sb = Z.sb ∧ Z'.lb = Z.lb ∧ Z'.qq = Z.qq := by
  refine (first_some Z.sb 10 (Z.q 1) x xs w (h.cell rfl) (h.fz 10) (by rw [← hR]; exact h.rows 1)).mono ?_
  rintro e w' ⟨p, rfl, rfl, h1, h2⟩
  obtain ⟨m1, m2⟩ := h.row1 (w1 := w) p xs (Fr.refl _ _) h1 (Or.inl h2)
  exact ⟨_, rfl, m1, m2, rfl, rfl, rfl⟩
theorem firstQ_some (h : SyM w Z c s k) {j : Nat} (hj : j < c.s.toNat) {x : Int} {xs : List Int} (hR : s.R (18 + j) = x :: xs) :
    Calls Tryz.prog 147 #[.pointer (some ⟨Z.qq, j, none⟩)] w fun e w' => ∃ Z', e = .returned (.tuple #[.int .i64 x, .bool true]) ∧ SyM w' Z' c (s.put (18 + j) xs) k ∧ Mv w Z w' Z' ∧ Z'.sb = Z.sb ∧ Z'.lb = Z.lb ∧ Z'.qq = Z.qq := by
  obtain ⟨c1, c2⟩ := h.queCell hj
  refine (first_some Z.qq j (Z.q (18 + j)) x xs w c1 c2 (by rw [← hR]; exact h.rows (18 + j))).mono ?_
  rintro e w' ⟨p, rfl, rfl, h1, h2⟩
  obtain ⟨m1, m2⟩ := h.rowQ hj (w1 := w) p xs (Fr.refl _ _) h1 (Or.inl h2)
  exact ⟨_, rfl, m1, m2, rfl, rfl, rfl⟩
theorem first0_none (h : SyM w Z c s k) (hR : s.R 0 = []) : Calls Tryz.prog 147 #[.pointer (some ⟨Z.sb, 9, none⟩)] w fun e w' => e = .returned (.tuple #[.int .i64 0, .bool false]) ∧ w = w' :=
  first_none Z.sb 9 (Z.q 0) w (h.cell rfl) (by rw [← hR]; exact h.rows 0)
theorem first1_none (h : SyM w Z c s k) (hR : s.R 1 = []) : Calls Tryz.prog 147 #[.pointer (some ⟨Z.sb, 10, none⟩)] w fun e w' => e = .returned (.tuple #[.int .i64 0, .bool false]) ∧ w = w' :=
  first_none Z.sb 10 (Z.q 1) w (h.cell rfl) (by rw [← hR]; exact h.rows 1)
theorem firstQ_none (h : SyM w Z c s k) {j : Nat} (hj : j < c.s.toNat) (hR : s.R (18 + j) = []) : Calls Tryz.prog 147 #[.pointer (some ⟨Z.qq, j, none⟩)] w fun e w' => e = .returned (.tuple #[.int .i64 0, .bool false]) ∧ w = w' :=
  first_none Z.qq j (Z.q (18 + j)) w (h.queCell hj).1 (by rw [← hR]; exact h.rows (18 + j))
end
end Go.Proofs.YtaaghcimfcjehaaGreatDoor

/- What the program's disk does, call by call: there, hasSlot, letOne, New, Dead, Capacity, Writes, Cut, Mend, Clear. Conditions: the disk's numbers are such as its calls leave them; fewer than 2^40 raw writes were done. -/
import Derived.Test.YtdojhkgnnbdfkaaGreatDk
namespace Go.Proofs.YtdojhkgnnbdfkaaGreat
open Go.ChangeShapes Go.WideShapes Go.ChangeAt Go.RowKit Go.Lib

abbrev ptr (g : Nat) : Value := .pointer (some ⟨g, 0, none⟩)
section
variable {w : World} {g : Nat} {v0 v1 : Value} {t : Sk}
theorem Dk.c0 (h : Dk w g v0 v1 t) : w.cell? ⟨g, 0, none⟩ = some (.bool true) := h.cell 0
theorem Dk.c1 (h : Dk w g v0 v1 t) : w.cell? ⟨g, 1, none⟩ = some (.int .i64 (t.C : Int)) := h.cell 1
theorem Dk.c2 (h : Dk w g v0 v1 t) : w.cell? ⟨g, 2, none⟩ = some v0 := h.cell 2
theorem Dk.c3 (h : Dk w g v0 v1 t) : w.cell? ⟨g, 3, none⟩ = some v1 := h.cell 3
theorem Dk.c4 (h : Dk w g v0 v1 t) : w.cell? ⟨g, 4, none⟩ = some (.int .i64 t.l) := h.cell 4
theorem Dk.c5 (h : Dk w g v0 v1 t) : w.cell? ⟨g, 5, none⟩ = some (.bool t.dd) := h.cell 5
theorem Dk.c6 (h : Dk w g v0 v1 t) : w.cell? ⟨g, 6, none⟩ = some (.int .i64 (t.n : Int)) := h.cell 6
theorem Rk.c0 (h : Rk w g v0 v1 t) : w.cell? ⟨g, 0, none⟩ = some (.int .i64 (t.C : Int)) := h.cell 0
theorem Rk.c1 (h : Rk w g v0 v1 t) : w.cell? ⟨g, 1, none⟩ = some v0 := h.cell 1
theorem Rk.c2 (h : Rk w g v0 v1 t) : w.cell? ⟨g, 2, none⟩ = some v1 := h.cell 2
theorem Rk.c3 (h : Rk w g v0 v1 t) : w.cell? ⟨g, 3, none⟩ = some (.int .i64 t.l) := h.cell 3
theorem Rk.c4 (h : Rk w g v0 v1 t) : w.cell? ⟨g, 4, none⟩ = some (.bool t.dd) := h.cell 4
theorem Rk.c5 (h : Rk w g v0 v1 t) : w.cell? ⟨g, 5, none⟩ = some (.int .i64 (t.n : Int)) := h.cell 5
theorem Dk.gS (_h : Dk w g v0 v1 t) : ∀ k ∈ [g], k ∈ dOwn g v0 v1 := by intro k hk; rw [List.mem_singleton] at hk; exact mem_dOwn.2 (Or.inl hk)
end

set_option maxHeartbeats 400000 in
theorem there_any (g : Nat) (w : World) (h : w.cell? ⟨g, 0, none⟩ = some (.bool true)) : Calls Tryz.prog 76 #[ptr g] w fun e w' => e = .returned (.bool true) ∧ w = w' := by
  go_enter Tryz.func76, Tryz.ntmps76
  go_wp2
  go_ret
  exact ⟨rfl, rfl⟩
/-- No disk: nil, or a zero one. -/
def Gone (w : World) (p : Value) : Prop := p = .pointer none ∨ ∃ z, p = ptr z ∧ w.cell? ⟨z, 0, none⟩ = some (.bool false)
set_option maxHeartbeats 400000 in
theorem there_no (p : Value) (w : World) (h : Gone w p) : Calls Tryz.prog 76 #[p] w fun e w' => e = .returned (.bool false) ∧ w = w' := by
  rcases h with rfl | ⟨z, rfl, hz⟩
  · go_enter Tryz.func76, Tryz.ntmps76
    go_wp2
    go_ret
    exact ⟨rfl, rfl⟩
  · go_enter Tryz.func76, Tryz.ntmps76
    go_wp2
    go_ret
    exact ⟨rfl, rfl⟩
set_option maxHeartbeats 400000 in
theorem hasSlot_yes (p : Value) (s : Int) (w : World) (h : s = 0 ∨ s = 1) : Calls Tryz.prog 88 #[p, .int .i64 s] w fun e w' => e = .returned (.bool true) ∧ w = w' := by
  rcases h with rfl | rfl
  · go_enter Tryz.func88, Tryz.ntmps88
    go_wp2
    go_ret
    exact ⟨rfl, rfl⟩
  · go_enter Tryz.func88, Tryz.ntmps88
    go_wp2
    go_ret
    exact ⟨rfl, rfl⟩
set_option maxHeartbeats 400000 in
theorem hasSlot_no (p : Value) (s : Int) (w : World) (h : ¬ (s = 0 ∨ s = 1)) : Calls Tryz.prog 88 #[p, .int .i64 s] w fun e w' => e = .returned (.bool false) ∧ w = w' := by
  by_cases h0 : s < 0
  · clear h
    go_enter Tryz.func88, Tryz.ntmps88
    go_wp2
    go_ret
    exact ⟨rfl, rfl⟩
  · have h1 : 0 ≤ s := by omega
    have h2 : 2 ≤ s := by omega
    clear h h0
    go_enter Tryz.func88, Tryz.ntmps88
    go_wp2
    go_ret
    exact ⟨by simp; omega, rfl⟩

section
variable {w : World} {g : Nat} {v0 v1 : Value} {t : Sk}
set_option maxHeartbeats 1000000 in
theorem letOne_cut (h : Dk w g v0 v1 t) (hl : t.l = 0) : Calls Tryz.prog 113 #[ptr g] w fun e w' => e = .returned (.int .i64 11) ∧ Dk w' g v0 v1 t.dead ∧ Fr [g] w w' := by
  have c4 := h.c4
  have c5 := h.c5
  have f5 := h.free 5
  have HX : Hid (Dk (w.setCell ⟨g, 5, none⟩ (.bool true)) g v0 v1 t.dead) := h.setD true
  rw [hl] at c4
  clear hl
  go_enter Tryz.func113, Tryz.ntmps113
  go_wp2
  go_ret
  exact ⟨rfl, HX.out, Fr.set _ _ _ (by simp)⟩
set_option maxHeartbeats 1000000 in
theorem letOne_ok (h : Dk w g v0 v1 t) (hl : t.l ≠ 0) (ht : t.ok) (hn : t.n < 2^40) : Calls Tryz.prog 113 #[ptr g] w fun e w' => e = .returned (.int .i64 0) ∧ Dk w' g v0 v1 t.next ∧ Fr [g] w w' := by
  have c4 := h.c4
  have c6 := h.c6
  have f4 := h.free 4
  have f6 := h.free 6
  by_cases h0 : 0 < t.l
  · have HX : Hid (Dk ((w.setCell ⟨g, 4, none⟩ (.int .i64 (t.l - 1))).setCell ⟨g, 6, none⟩ (.int .i64 ((t.n : Int) + 1))) g v0 v1 t.next) := by
      have e : t.next = { t with l := t.l - 1, n := t.n + 1 } := by simp [Sk.next, h0]
      rw [e]
      have := (h.setL (t.l - 1)).setN (t.n + 1)
      show Dk _ _ _ _ _
      simpa using this
    obtain ⟨l, hll⟩ : ∃ l, l = t.l := ⟨_, rfl⟩
    obtain ⟨n, hnn⟩ : ∃ n, n = t.n := ⟨_, rfl⟩
    have hl1 := ht.l1
    rw [← hll] at c4 h0 HX hl1
    rw [← hnn] at c6 HX hn
    have b1 : (l == 0) = false := by simp; omega
    have b2 : (l != -1) = true := by simp; omega
    clear hl hll hnn ht
    go_enter Tryz.func113, Tryz.ntmps113
    go_wp2
    go_ret
    exact ⟨rfl, HX.out, (Fr.set _ _ _ (by simp)).then (Fr.set _ _ _ (by simp))⟩
  · have hl1 : t.l = -1 := by have := ht.l0; omega
    have HX : Hid (Dk (w.setCell ⟨g, 6, none⟩ (.int .i64 ((t.n : Int) + 1))) g v0 v1 t.next) := by
      have e : t.next = { t with n := t.n + 1 } := by simp [Sk.next, h0]
      rw [e]
      have := h.setN (t.n + 1)
      show Dk _ _ _ _ _
      simpa using this
    obtain ⟨n, hnn⟩ : ∃ n, n = t.n := ⟨_, rfl⟩
    rw [hl1] at c4
    rw [← hnn] at c6 HX hn
    clear hl hl1 h0 hnn ht
    go_enter Tryz.func113, Tryz.ntmps113
    go_wp2
    go_ret
    exact ⟨rfl, HX.out, Fr.set _ _ _ (by simp)⟩
theorem capacity_any (h : Dk w g v0 v1 t) : Calls Tryz.prog 51 #[ptr g] w fun e w' => e = .returned (.int .i64 (t.C : Int)) ∧ w = w' := by
  have c1 := h.c1
  go_enter Tryz.func51, Tryz.ntmps51
  go_wp2_with fail
  refine (there_any g _ h.c0).mono ?_
  rintro e w' ⟨rfl, rfl⟩
  go_wp2
  go_ret
  exact ⟨rfl, rfl⟩
end
set_option maxHeartbeats 1000000 in
theorem new_ok (C : Nat) (w : World) (h : C ≤ 16777216) : Calls Tryz.prog 28 #[.int .i64 (C : Int)] w fun e w' => e = .returned (.tuple #[ptr w.heap.size, .int .i64 0]) ∧ Dk w' w.heap.size (.slice none 0 0) (.slice none 0 0) (Sk.new C) ∧ Fr [] w w' := by
  have h0 : (0 : Int) ≤ C := by omega
  have h1 : (C : Int) ≤ 16777216 := by omega
  go_enter Tryz.func28, Tryz.ntmps28
  go_wp2
  go_ret2
  exact ⟨rfl, ⟨heap_alloc_new w _, own_row_nil _, own_row_nil _, by intro k hk; simp [Value.ownBlock] at hk⟩, Fr.alloc _ _ _⟩
set_option maxHeartbeats 1000000 in
theorem new_no (n : Int) (w : World) (h : n < 0 ∨ 16777216 < n) : Calls Tryz.prog 28 #[.int .i64 n] w fun e w' => e = .returned (.tuple #[.pointer none, .int .i64 1]) ∧ w = w' := by
  rcases h with h | h
  · go_enter Tryz.func28, Tryz.ntmps28
    go_wp2
    go_ret2
    exact ⟨rfl, rfl⟩
  · have h0 : 0 ≤ n := by omega
    go_enter Tryz.func28, Tryz.ntmps28
    go_wp2
    go_ret2
    exact ⟨rfl, rfl⟩
end Go.Proofs.YtdojhkgnnbdfkaaGreat

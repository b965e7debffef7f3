/- The document's savers: how they lie in memory; all, Left. Conditions: fewer than 2^24 bytes. -/
import Derived.Test.YtdojhkgnnbdfkaaGreatZb19
namespace Go.Proofs.YtdojhkgnnbdfkaaGreat
open BigFrame Go.ChangeShapes Go.WideShapes Go.ChangeAt Go.RowKit Go.Lib Go.Maps
set_option linter.unusedVariables false
set_option linter.unusedSimpArgs false

/-- The document's saver of such bytes for a slot, of whose raw writes k are done. -/
structure ZaM (w : World) (tb d ab ac slot : Nat) (zs : List Nat) (k : Nat) : Prop where
  box : w.heap[tb]? = some (.cells #[.pointer (some ⟨d, 0, none⟩), .int .i64 (slot : Int), .slice (some ⟨ab, 0, none⟩) zs.length ac, .int .i64 (k : Int)] 87 (0, 0))
  kle : k ≤ nB zs.length + 1
  byt : w.ownsRow 0 5 1 (.slice (some ⟨ab, 0, none⟩) zs.length ac) zs.length (bts zs)
  low : ∀ x ∈ zs, x < 256
  few : zs.length ≤ 16777216
  sl : slot ≤ 1
section
variable {w w' : World} {tb d ab ac slot : Nat} {zs : List Nat} {k : Nat}
theorem ZaM.keep {S : List Nat} (h : ZaM w tb d ab ac slot zs k) (hf : Fr S w w') (h1 : tb ∉ S) (h3 : ab ∉ S) : ZaM w' tb d ab ac slot zs k :=
  ⟨hf.keep h.box h1, h.kle, owns_keep h.byt hf (fun q hq => by simp [Value.ownBlock] at hq; subst hq; exact h3), h.low, h.few, h.sl⟩
theorem ZaM.blocks (h : ZaM w tb d ab ac slot zs k) : tb < w.heap.size ∧ ab < w.heap.size ∧ tb ≠ ab := by
  obtain ⟨ca, ha⟩ := own_type h.byt ab rfl
  refine ⟨lt_of_block h.box, lt_of_block ha, ?_⟩
  rintro rfl; rw [h.box] at ha; simp at ha
theorem ZaM.c0 (h : ZaM w tb d ab ac slot zs k) : w.cell? ⟨tb, 0, none⟩ = some (.pointer (some ⟨d, 0, none⟩)) := by rw [cell_of_row _ _ _ _ _ _ h.box]; rfl
theorem ZaM.c1 (h : ZaM w tb d ab ac slot zs k) : w.cell? ⟨tb, 1, none⟩ = some (.int .i64 (slot : Int)) := by rw [cell_of_row _ _ _ _ _ _ h.box]; rfl
theorem ZaM.c2 (h : ZaM w tb d ab ac slot zs k) : w.cell? ⟨tb, 2, none⟩ = some (.slice (some ⟨ab, 0, none⟩) zs.length ac) := by rw [cell_of_row _ _ _ _ _ _ h.box]; rfl
theorem ZaM.c3 (h : ZaM w tb d ab ac slot zs k) : w.cell? ⟨tb, 3, none⟩ = some (.int .i64 (k : Int)) := by rw [cell_of_row _ _ _ _ _ _ h.box]; rfl
theorem ZaM.f3 (h : ZaM w tb d ab ac slot zs k) : w.frozen? ⟨tb, 3, none⟩ = false := by simp [World.frozen?, h.box]
theorem ZaM.step (h : ZaM w tb d ab ac slot zs k) (hk : k ≤ nB zs.length) : ZaM (w.setCell ⟨tb, 3, none⟩ (.int .i64 ((k : Int) + 1))) tb d ab ac slot zs (k + 1) ∧ Fr [tb] w (w.setCell ⟨tb, 3, none⟩ (.int .i64 ((k : Int) + 1))) := by
  have hf : Fr [tb] w (w.setCell ⟨tb, 3, none⟩ (.int .i64 ((k : Int) + 1))) := Fr.set _ _ _ (by simp)
  obtain ⟨_, _, n2⟩ := h.blocks
  refine ⟨⟨?_, by omega, owns_keep h.byt hf (fun q hq => by simp [Value.ownBlock] at hq; subst hq; simp; omega), h.low, h.few, h.sl⟩, hf⟩
  rw [row_setCell _ h.box]
  rfl
theorem ZaM.chunk (h : ZaM w tb d ab ac slot zs k) (q : Nat) (hq : q < nB zs.length) : BArg w (some ⟨ab, 64 * q, none⟩) (min (64 * q + 64) zs.length - 64 * q) (ac - 64 * q) (chunk zs q) := by
  have hA : BArg w (some ⟨ab, 0, none⟩) zs.length ac zs := own_arg h.byt h.low (by have := h.few; omega)
  have h1 := nB_lt hq
  have h2 := hA.cut (64 * q) (min (64 * q + 64) zs.length) (by omega) (by omega)
  have h3 := hA.fits
  rw [show fromB (some ⟨ab, 0, none⟩) ac (64 * q) = some ⟨ab, 64 * q, none⟩ from by unfold fromB; rw [if_neg (by omega)]; simp [Addr.add_lit]] at h2
  exact h2
end
set_option maxHeartbeats 1000000 in
theorem zall_any {w : World} {tb n c : Nat} {ao : Option Addr} (h : w.cell? ⟨tb, 2, none⟩ = some (.slice ao n c)) (hn : n ≤ 16777216) : Calls Tryz.prog 39 #[.pointer (some ⟨tb, 0, none⟩)] w fun e w' => e = .returned (.int .i64 ((nB n : Int) + 1)) ∧ w = w' := by
  have hq : IntKind.i64.wrap (((n : Int) + 64 - 1).tdiv 64) = ((nB n : Nat) : Int) := by rw [IntKind.wrap_i64, Int.tdiv_eq_ediv_of_nonneg (by omega)]; unfold nB; omega
  have hb := nB_few hn
  obtain ⟨N, HN⟩ : ∃ N, Hid (nB n = N) := ⟨_, rfl⟩
  rw [HN.out] at hq hb ⊢
  rw [show (N : Int) + 1 = 1 + (N : Int) by omega]
  go_enter Tryz.func39, Tryz.ntmps39
  go_wp2
  go_ret
  exact ⟨rfl, rfl⟩
set_option maxHeartbeats 1000000 in
theorem zleft_no (w : World) : Calls Tryz.prog 19 #[.pointer none] w fun e w' => e = .returned (.int .i64 0) ∧ w = w' := by
  go_enter Tryz.func19, Tryz.ntmps19
  go_wp2
  go_ret
  exact ⟨rfl, rfl⟩
set_option maxHeartbeats 1000000 in
theorem zleft_any {w : World} {tb d ab ac slot : Nat} {zs : List Nat} {k n : Nat} (h : ZaM w tb d ab ac slot zs k) (hn : n = nB zs.length + 1 - k) : Calls Tryz.prog 19 #[.pointer (some ⟨tb, 0, none⟩)] w fun e w' => e = .returned (.int .i64 (n : Int)) ∧ Fr [] w w' := by
  have c3 := h.c3
  have HA : Hid (∀ q, Calls Tryz.prog 39 #[.pointer (some ⟨tb, 0, none⟩)] (w.drewN q) fun e w' => e = .returned (.int .i64 ((nB zs.length : Int) + 1)) ∧ w' = w.drewN q) := fun q => (zall_any (h.keep (Fr.drewN [] w q) (by simp) (by simp)).c2 h.few).mono (fun _ _ ⟨a, b⟩ => ⟨a, b.symm⟩)
  have hk := h.kle
  have hb := nB_few h.few
  obtain ⟨N, HN⟩ : ∃ N, Hid (nB zs.length = N) := ⟨_, rfl⟩
  rw [HN.out] at HA hk hb hn
  have e1 : (N : Int) + 1 - (k : Int) = (n : Int) := by omega
  clear h hn
  go_enter Tryz.func19, Tryz.ntmps19
  go_wp2_with fail
  go_quiet ((go_at_call 39; exact Calls.quiet_of_same (HA.out _)))
  have HF : Hid (Fr [] w (w.drewN nq)) := Fr.drewN _ _ _
  go_wp2
  go_ret
  exact ⟨rfl, HF.out⟩
end Go.Proofs.YtdojhkgnnbdfkaaGreat

/- A saver's Step: contracts. Conditions: a disk that is there, apart from the saver; fewer than 2^40 raw writes. -/
import Derived.Test.YtdojhkgnnbdfkaaGreatSe19
namespace Go.Proofs.YtdojhkgnnbdfkaaGreat
open BigFrame Go.ChangeShapes Go.WideShapes Go.ChangeAt Go.RowKit Go.Lib Go.Maps
set_option linter.unusedVariables false
set_option linter.unusedSimpArgs false

set_option maxHeartbeats 1000000 in
theorem pclear_any {w0 w : World} {d slot : Nat} {S : List Nat} {t t' : Sk} {E : Int} (h : LD w0 w d S t) (hn : t.n < 2^40) (hc : Cleared t (slot : Int) E t') :
    Calls Tryz.prog 80 #[.agg #[.pointer (some ⟨d, 0, none⟩), .int .i64 (slot : Int), .int .i64 0, .slice none 0 0]] w fun e w' => e = .returned (.int .i64 E) ∧ ∃ S', LD w0 w' d S' t' ∧ To S S' w w' := by
  obtain ⟨w1, HW1⟩ : ∃ w1, Hid (w.alloc (.cells #[.pointer (some ⟨d, 0, none⟩), .int .i64 (slot : Int), .int .i64 0, .slice none 0 0] 137) = w1) := ⟨_, rfl⟩
  have hF1 : Fr [] w w1 := by rw [← HW1.out]; exact Fr.alloc [] w _
  have hb1 : w1.heap[w.heap.size]? = some (.cells #[.pointer (some ⟨d, 0, none⟩), .int .i64 (slot : Int), .int .i64 0, .slice none 0 0] 137 (0, 0)) := by rw [← HW1.out]; exact heap_alloc_new w _
  obtain ⟨R, hR⟩ : ∃ R, R = w.heap.size := ⟨_, rfl⟩
  have c0 : w1.cell? ⟨R, 0, none⟩ = some (.pointer (some ⟨d, 0, none⟩)) := by rw [hR, cell_of_row _ _ _ _ _ _ hb1]; rfl
  have c1 : w1.cell? ⟨R, 1, none⟩ = some (.int .i64 (slot : Int)) := by rw [hR, cell_of_row _ _ _ _ _ _ hb1]; rfl
  have HC : Hid (Calls _ _ _ _ _) := ld_clear (h.quiet hF1) hn hc
  have HF : Hid (Fr [] w w1) := hF1
  clear h hc hb1 hF1
  go_enter Tryz.func80, Tryz.ntmps80
  go_upto_region 1 with fail
  rw [HW1.out, ← hR]
  clear HW1 hR
  go_wp2_with fail
  refine Calls.mono HC.out ?_
  rintro e w2 ⟨rfl, S', hL, hT⟩
  have HR : Hid (∃ S', LD w0 w2 d S' t' ∧ To S S' w w2) := ⟨S', hL, (To.quiet HF.out).then hT⟩
  clear hL hT HC
  go_wp2
  go_ret
  exact ⟨rfl, HR.out⟩
set_option maxHeartbeats 1000000 in
theorem pwrite_any {w0 w : World} {d slot a : Nat} {S : List Nat} {t t' : Sk} {E : Int} {bo : Option Addr} {M cb : Nat} {ys : List Nat} (h : LD w0 w d S t) (hn : t.n < 2^40) (ha : a ≤ 9223372036854775807) (hB : BArg w bo M cb ys) (hap : 0 < M → ∀ a, bo = some a → a.block ∉ S) (hc : Wrote t (slot : Int) (a : Int) ys E t') :
    Calls Tryz.prog 81 #[.agg #[.pointer (some ⟨d, 0, none⟩), .int .i64 (slot : Int), .int .i64 (a : Int), .slice bo M cb]] w fun e w' => e = .returned (.int .i64 E) ∧ ∃ S', LD w0 w' d S' t' ∧ To S S' w w' := by
  obtain ⟨w1, HW1⟩ : ∃ w1, Hid (w.alloc (.cells #[.pointer (some ⟨d, 0, none⟩), .int .i64 (slot : Int), .int .i64 (a : Int), .slice bo M cb] 137) = w1) := ⟨_, rfl⟩
  have hF1 : Fr [] w w1 := by rw [← HW1.out]; exact Fr.alloc [] w _
  have hb1 : w1.heap[w.heap.size]? = some (.cells #[.pointer (some ⟨d, 0, none⟩), .int .i64 (slot : Int), .int .i64 (a : Int), .slice bo M cb] 137 (0, 0)) := by rw [← HW1.out]; exact heap_alloc_new w _
  obtain ⟨R, hR⟩ : ∃ R, R = w.heap.size := ⟨_, rfl⟩
  have c0 : w1.cell? ⟨R, 0, none⟩ = some (.pointer (some ⟨d, 0, none⟩)) := by rw [hR, cell_of_row _ _ _ _ _ _ hb1]; rfl
  have c1 : w1.cell? ⟨R, 1, none⟩ = some (.int .i64 (slot : Int)) := by rw [hR, cell_of_row _ _ _ _ _ _ hb1]; rfl
  have c2 : w1.cell? ⟨R, 2, none⟩ = some (.int .i64 (a : Int)) := by rw [hR, cell_of_row _ _ _ _ _ _ hb1]; rfl
  have c3 : w1.cell? ⟨R, 3, none⟩ = some (.slice bo M cb) := by rw [hR, cell_of_row _ _ _ _ _ _ hb1]; rfl
  have HC : Hid (Calls _ _ _ _ _) := ld_write (h.quiet hF1) hn (by omega) (hB.keep hF1) hap hc
  have HF : Hid (Fr [] w w1) := hF1
  clear h hc hb1 hF1 hB hap
  go_enter Tryz.func81, Tryz.ntmps81
  go_upto_region 1 with fail
  rw [HW1.out, ← hR]
  clear HW1 hR
  go_wp2_with fail
  refine Calls.mono HC.out ?_
  rintro e w2 ⟨rfl, S', hL, hT⟩
  have HR : Hid (∃ S', LD w0 w2 d S' t' ∧ To S S' w w2) := ⟨S', hL, (To.quiet HF.out).then hT⟩
  clear hL hT HC
  go_wp2
  go_ret
  exact ⟨rfl, HR.out⟩
/-- What is left behind a step. -/
def StP (w0 w : World) (d sb fb ab ac slot : Nat) (S : List Nat) (zs : List Nat) (E : Int) (t' : Sk) (k' : Nat) (e : Ending) (w' : World) : Prop := e = .returned (.int .i64 E) ∧ ∃ S' fo' fc', LD w0 w' d S' t' ∧ SaM w' sb d fb ab fo' fc' ac slot zs k' ∧ (∀ q ∈ S', q ∈ S ∨ w.heap.size ≤ q) ∧ Fr (sb :: S) w w'
/- Slices of bytes and of raw writes cut at the head. Plain lemmas. -/
import Derived.Test.YtdojhkgnnbdfkaaGreatHo19
import Derived.Stop.BytesEq
namespace Go.Proofs.YtdojhkgnnbdfkaaGreat
open BigFrame Go.ChangeShapes Go.WideShapes Go.ChangeAt Go.RowKit Go.Lib Go.Maps
set_option linter.unusedVariables false
set_option linter.unusedSimpArgs false
theorem Tryz.undBsE : Tryz.prog.underlying 76 = some (.slice (Tryz.prog.elem 76)) := by kernel_rfl
theorem Tryz.elemBs : Tryz.prog.elem 76 = 5 := by kernel_rfl
theorem Tryz.sizeOfB19 (w : World) : (Go.sizeOf 5).run Tryz.prog w = .ok 1 w := by kernel_rfl
theorem Tryz.undFnsE : Tryz.prog.underlying 108 = some (.slice (Tryz.prog.elem 108)) := by kernel_rfl
theorem Tryz.elemFns : Tryz.prog.elem 108 = 135 := by kernel_rfl
theorem Tryz.sizeOfFn0 (w : World) : (Go.sizeOf 135).run Tryz.prog w = .ok 1 w := by kernel_rfl
/-- Where a slice begins that is cut at the head. -/
def fromB (ro : Option Addr) (rc i : Nat) : Option Addr := if rc = i then ro else ro.map (·.add i)
theorem slB_lh (ro : Option Addr) (N rc i j : Nat) (h1 : i ≤ j) (h2 : j ≤ rc) (w : World) : (Instr.sliceAt 76 (.slice ro N rc) (some (.int .i64 (i : Int))) (some (.int .i64 (j : Int))) none).run Tryz.prog w = .ok (.slice (fromB ro rc i) (j - i) (rc - i)) w := by
  rw [run_sliceAt_slice w 76 _ _ _ _ Tryz.undBsE, run_slice_lh w 76 _ _ _ Tryz.undBsE .i64 .i64 (i : Int) (j : Int) (by omega) (by omega) (by omega), Tryz.elemBs, Tryz.sizeOfB19]
  simp [Result.andThen, sliced, fromB]
theorem slB_l (ro : Option Addr) (N rc K : Nat) (h1 : K ≤ N) (w : World) : (Instr.sliceAt 76 (.slice ro N rc) (some (.int .i64 (K : Int))) none none).run Tryz.prog w = .ok (.slice (fromB ro rc K) (N - K) (rc - K)) w := by
  rw [run_sliceAt_slice w 76 _ _ _ _ Tryz.undBsE, run_slice_l w 76 _ _ _ Tryz.undBsE .i64 (K : Int) (by omega) (by omega), Tryz.elemBs, Tryz.sizeOfB19]
  simp [Result.andThen, sliced, fromB]
theorem slF_l (ro : Option Addr) (N rc K : Nat) (h1 : K ≤ N) (w : World) : (Instr.sliceAt 108 (.slice ro N rc) (some (.int .i64 (K : Int))) none none).run Tryz.prog w = .ok (.slice (fromB ro rc K) (N - K) (rc - K)) w := by
  rw [run_sliceAt_slice w 108 _ _ _ _ Tryz.undFnsE, run_slice_l w 108 _ _ _ Tryz.undFnsE .i64 (K : Int) (by omega) (by omega), Tryz.elemFns, Tryz.sizeOfFn0]
  simp [Result.andThen, sliced, fromB]
/-- Some of the bytes of a slice. -/
theorem BArg.cut {w : World} {ao : Option Addr} {L cap : Nat} {xs : List Nat} (h : BArg w ao L cap xs) (i j : Nat) (hij : i ≤ j) (hj : j ≤ L) : BArg w (fromB ao cap i) (j - i) (cap - i) ((xs.drop i).take (j - i)) := by
  have hl := h.len
  have hf := h.fits
  refine ⟨by simp; omega, fun x hx => h.low x (List.mem_of_mem_drop (List.mem_of_mem_take hx)), by omega, by have := h.most; omega, fun h0 => ?_⟩
  obtain ⟨b, off, rfl, hb, hc⟩ := h.lies (by omega)
  refine ⟨b, off + i, by simp [fromB, Addr.add, show ¬ cap = i by omega], hb, fun q hq => ?_⟩
  rw [show off + i + q = off + (i + q) by omega, hc (i + q) (by omega)]
  simp [List.getD, hq]
theorem BArg.tail {w : World} {ao : Option Addr} {L cap : Nat} {xs : List Nat} (h : BArg w ao L cap xs) (i : Nat) (hi : i ≤ L) : BArg w (fromB ao cap i) (L - i) (cap - i) (xs.drop i) := by
  have hl := h.len
  have := h.cut i L hi (Nat.le_refl _)
  rwa [List.take_of_length_le (by simp; omega)] at this
/-- Are two heads the same? -/
theorem bts_cells (ys : List Nat) (h : ∀ x ∈ ys, x < 256) : bts ys = (ys.map UInt8.ofNat).map Extern.Stop.cell := by
  unfold bts
  rw [List.map_map]
  refine List.map_congr_left fun x hx => ?_
  have := h x hx
  simp [Extern.Stop.cell, UInt8.toNat_ofNat, Nat.mod_eq_of_lt this]
theorem ofNat_inj {ys zs : List Nat} (hy : ∀ x ∈ ys, x < 256) (hz : ∀ x ∈ zs, x < 256) (h : ys.map UInt8.ofNat = zs.map UInt8.ofNat) : ys = zs := by
  have key : ∀ l : List Nat, (∀ x ∈ l, x < 256) → (l.map UInt8.ofNat).map UInt8.toNat = l := fun l hl => by
    rw [List.map_map]
    conv => rhs; rw [← List.map_id l]
    refine List.map_congr_left fun x hx => ?_
    have := hl x hx
    simp [UInt8.toNat_ofNat, Nat.mod_eq_of_lt this]
  rw [← key ys hy, ← key zs hz, h]
theorem eq_heads (ys zs : List Nat) (hy : ∀ x ∈ ys, x < 256) (hz : ∀ x ∈ zs, x < 256) (h1 : ys.length = 20) (h2 : zs.length = 20) (w : World) : (Op.equalIn 10000 106 (.agg (bts ys).toArray) (.agg (bts zs).toArray)).run Tryz.prog w = .ok (decide (ys = zs)) w := by
  rw [bts_cells ys hy, bts_cells zs hz, run_equalIn_bytes w 9998 106 5 20 (by kernel_rfl) (by kernel_rfl) Tryz.sizeOfB19 _ _ (by simp [h1]) (by simp [h2])]
  congr 1
  rw [Bool.eq_iff_iff]
  simp only [beq_iff_eq, decide_eq_true_eq]
  exact ⟨fun h => ofNat_inj hy hz h, fun h => by rw [h]⟩
theorem Tryz.guardHead : Tryz.prog.eqGuardType Tryz.prog.depth 106 = false := by kernel_rfl
theorem twenty {ys : List Nat} (h : ys.length = 20) : ∃ y0 y1 y2 y3 y4 y5 y6 y7 y8 y9 y10 y11 y12 y13 y14 y15 y16 y17 y18 y19, ys = [y0, y1, y2, y3, y4, y5, y6, y7, y8, y9, y10, y11, y12, y13, y14, y15, y16, y17, y18, y19] := by
  match ys, h with
  | [y0, y1, y2, y3, y4, y5, y6, y7, y8, y9, y10, y11, y12, y13, y14, y15, y16, y17, y18, y19], _ => exact ⟨_, _, _, _, _, _, _, _, _, _, _, _, _, _, _, _, _, _, _, _, rfl⟩
end Go.Proofs.YtdojhkgnnbdfkaaGreat

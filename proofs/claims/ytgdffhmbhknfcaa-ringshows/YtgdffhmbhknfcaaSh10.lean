/- Numbers that came in; a Show that came in. Conditions as each lemma names them. -/
import Derived.Test.YtgdffhmbhknfcaaIn10
namespace Go.Proofs.Ytgdffhmbhknfcaa
open Go.ChangeShapes Go.WideShapes Go.ChangeAt Go.RowKit Go.Lib
/-- The slice that came in reads as the numbers zs. -/
structure IArg (w : World) (ao : Option Addr) (L cap : Nat) (zs : List Int) : Prop where
  len : L = zs.length
  fits : L ≤ cap
  most : L ≤ 9223372036854775807
  lies : 0 < L → ∃ b off, ao = some ⟨b, off, none⟩ ∧ b < w.heap.size ∧ ∀ j, j < L → w.cell? ⟨b, off + j, none⟩ = some (.int .i64 (zs.getD j 0))
theorem IArg.keep {w w' : World} {ao : Option Addr} {L cap : Nat} {zs : List Int} (h : IArg w ao L cap zs) (hf : Fr [] w w') : IArg w' ao L cap zs := by
  refine ⟨h.len, h.fits, h.most, fun h0 => ?_⟩
  obtain ⟨b, off, e, hb, hc⟩ := h.lies h0
  exact ⟨b, off, e, Nat.lt_of_lt_of_le hb hf.size, fun j hj => (World.cell?_of_block (hf.block b hb (by simp))).trans (hc j hj)⟩
theorem IArg.of_row {w : World} {a : Option Addr} {len cap : Nat} {zs : List Int} (h : IsRow .i64 w a len cap zs) : ∃ xs, IArg w a len cap xs := by
  rcases h with ⟨rfl, rfl, rfl, rfl⟩ | ⟨x, rfl, hl, hm, hz, hc, hw⟩
  · exact ⟨[], rfl, Nat.le_refl _, by omega, fun h => by omega⟩
  · refine ⟨zs.take len, by simp [hz]; omega, hl, by simp only [maxLen] at hm; omega, ?_⟩
    intro h0
    obtain ⟨b, off, spot⟩ := x
    have hspot : spot = none := by simpa [Addr.add] using World.cell?_spot (hc 0 (by omega))
    subst hspot
    refine ⟨b, off, rfl, ?_, fun j hj => ?_⟩
    · have := World.block_lt_of_cell? w _ (hc 0 (by omega))
      simpa [Addr.add] using this
    · have h1 := hc j (by omega)
      rw [show (⟨b, off, none⟩ : Addr).add j = ⟨b, off + j, none⟩ from by simp [Addr.add]] at h1
      rw [h1]
      congr 2
      simp only [List.getD]
      rw [List.getElem?_take_of_lt hj]
section
variable {H : Type} {enc : TypeId × Value → H}
theorem Try.undIsA : Try.prog.underlying 31 = some (.slice 3) := by kernel_rfl
theorem Try.undIA : Try.prog.underlying 3 = some (.int .i64) := by kernel_rfl
theorem Try.undBA : Try.prog.underlying 5 = some (.int .u8) := by kernel_rfl
theorem is_open {w : World} {fuel : Nat} {cs : List Value} {x : DataW H × List MemPlace} (h : DataW.trod enc Try.prog w 0 (fun _ => true) true fuel 31 cs = some x) : ∃ ao L cap zs, cs = [.slice ao L cap] ∧ IArg w ao L cap zs := by
  rcases open_ints Try.undIsA Try.undIA (by kernel_rfl) h with ⟨hcs, _⟩ | ⟨a, l, c, zs, hcs, _, hl, hm, hz, _, hcell, hwz⟩
  · obtain ⟨xs, hx⟩ := IArg.of_row (w := w) (a := none) (len := 0) (cap := 0) (zs := []) (.inl ⟨rfl, rfl, rfl, rfl⟩)
    exact ⟨_, _, _, xs, hcs, hx⟩
  · obtain ⟨xs, hx⟩ := IArg.of_row (w := w) (a := some a) (len := l) (cap := c) (zs := zs) (.inr ⟨_, rfl, hl, hm, by simpa using hz, hcell, hwz⟩)
    exact ⟨_, _, _, xs, hcs, hx⟩
theorem Try.showFields : (match Try.prog.underlying 49 with | some (.struct fs) => fs.toList.map (fun f => (f.type, f.offset)) | _ => []) = [(5, 0), (5, 1), (5, 2), (31, 3)] := by kernel_rfl
theorem Try.cellsShow : Try.prog.cellsOf 49 = 4 := by kernel_rfl
theorem Try.cBA : Try.prog.cellsOf 5 = 1 := by kernel_rfl
theorem Try.cIsA : Try.prog.cellsOf 31 = 1 := by kernel_rfl
set_option maxRecDepth 100000 in
theorem show_open {w : World} {fuel : Nat} {cs : List Value} {x : DataW H × List MemPlace} (h : DataW.trod enc Try.prog w 0 (fun _ => true) true fuel 49 cs = some x) :
    ∃ (a b c : Nat) (ao : Option Addr) (L cap : Nat) (zs : List Int), cs = [.int .u8 (a : Int), .int .u8 (b : Int), .int .u8 (c : Int), .slice ao L cap] ∧ a ≤ 255 ∧ b ≤ 255 ∧ c ≤ 255 ∧ IArg w ao L cap zs := by
  have hF := Try.showFields
  cases hu : Try.prog.underlying 49 with
  | none => rw [hu] at hF; simp at hF
  | some u =>
    rw [hu] at hF
    cases u with
    | struct fs =>
      simp only at hF
      obtain ⟨ys, n, _, hx, hlen, hys, hf⟩ := DataW.trod_struct hu h
      rw [Try.cellsShow] at hlen
      match cs, hlen with
      | [v0, v1, v2, v3], _ =>
        have hl4 : fs.toList.length = 4 := by have := congrArg List.length hF; simpa using this
        obtain ⟨l, hl⟩ : ∃ l, l = fs.toList := ⟨_, rfl⟩
        rw [← hl] at hF hl4
        match l, hl4 with
        | [f0, f1, f2, f3], _ =>
          simp only [List.map_cons, List.map_nil, List.cons.injEq, Prod.mk.injEq, and_true] at hF
          obtain ⟨⟨t0, o0⟩, ⟨t1, o1⟩, ⟨t2, o2⟩, ⟨t3, o3⟩⟩ := hF
          have g : ∀ (i : Nat) (f : Field), [f0, f1, f2, f3][i]? = some f → fs[i]? = some f := by
            intro i f hi
            rw [hl] at hi
            simpa using hi
          have r0 := hf 0 f0 (g 0 f0 rfl)
          have r1 := hf 1 f1 (g 1 f1 rfl)
          have r2 := hf 2 f2 (g 2 f2 rfl)
          have r3 := hf 3 f3 (g 3 f3 rfl)
          rw [t0, o0, Try.cBA] at r0
          rw [t1, o1, Try.cBA] at r1
          rw [t2, o2, Try.cBA] at r2
          rw [t3, o3, Try.cIsA] at r3
          simp only [List.drop_zero, List.drop_succ_cons, List.take_succ_cons, List.take_zero] at r0 r1 r2 r3
          have hy4 : ys.length = 4 := by rw [hys]; have := congrArg List.length hl; simpa using this.symm
          match ys, hy4 with
          | [y0, y1, y2, y3], _ =>
            simp only [List.getElem?_cons_zero, List.getElem?_cons_succ] at r0 r1 r2 r3
            obtain ⟨k0, e0, _, w0⟩ := DataW.trod_int Try.undBA r0
            obtain ⟨k1, e1, _, w1⟩ := DataW.trod_int Try.undBA r1
            obtain ⟨k2, e2, _, w2⟩ := DataW.trod_int Try.undBA r2
            obtain ⟨ao, L, cap, zs, e3, hA⟩ := is_open r3
            simp only [List.cons.injEq, and_true] at e0 e1 e2 e3
            have b0 := bounds_u8 w0
            have b1 := bounds_u8 w1
            have b2 := bounds_u8 w2
            refine ⟨k0.toNat, k1.toNat, k2.toNat, ao, L, cap, zs, ?_, by omega, by omega, by omega, hA⟩
            rw [e0, e1, e2, e3, show ((k0.toNat : Nat) : Int) = k0 by omega, show ((k1.toNat : Nat) : Int) = k1 by omega, show ((k2.toNat : Nat) : Int) = k2 by omega]
    | _ => simp at hF
end
end Go.Proofs.Ytgdffhmbhknfcaa

/- Ops that came in. Conditions as each lemma names them. -/
import Derived.Test.YtgdffhmbhknfcaaDoorIn10
import Derived.Deep.Slices
namespace Go.Proofs.YtgdffhmbhknfcaaDoor
open Go.ChangeShapes Go.WideShapes Go.ChangeAt Go.RowKit Go.Lib
/-- The slice that came in reads as the ops os. -/
structure OArg (w : World) (ao : Option Addr) (L cap : Nat) (os : List (Nat × Int)) : Prop where
  len : L = os.length
  fits : L ≤ cap
  most : L ≤ 9223372036854775807
  each : ∀ o ∈ os, o.1 ≤ 255 ∧ -9223372036854775808 ≤ o.2 ∧ o.2 ≤ 9223372036854775807
  lies : 0 < L → ∃ b off, ao = some ⟨b, off, none⟩ ∧ b < w.heap.size ∧ ∀ j, j < L → w.cell? ⟨b, off + j * 2, none⟩ = some (.int .u8 (((os.getD j (0, 0)).1 : Nat) : Int)) ∧ w.cell? ⟨b, off + j * 2 + 1, none⟩ = some (.int .i64 (os.getD j (0, 0)).2)
section
variable {H : Type} {enc : TypeId × Value → H}
theorem Tryd.undOps10 : Tryd.prog.underlying 22 = some (.slice 31) := by kernel_rfl
theorem Tryd.cellsOp10 : Tryd.prog.cellsOf 31 = 2 := by kernel_rfl
theorem Tryd.undIO : Tryd.prog.underlying 3 = some (.int .i64) := by kernel_rfl
theorem Tryd.undBO : Tryd.prog.underlying 5 = some (.int .u8) := by kernel_rfl
theorem Tryd.cBO : Tryd.prog.cellsOf 5 = 1 := by kernel_rfl
theorem Tryd.cIO : Tryd.prog.cellsOf 3 = 1 := by kernel_rfl
theorem Tryd.opFields : (match Tryd.prog.underlying 31 with | some (.struct fs) => fs.toList.map (fun f => (f.type, f.offset)) | _ => []) = [(5, 0), (3, 1)] := by kernel_rfl
set_option maxRecDepth 100000 in
theorem op_open {w : World} {base : Nat} {spare : Nat → Bool} {held : Bool} {fuel : Nat} {cs : List Value} {x : DataW H × List MemPlace} (h : DataW.trod enc Tryd.prog w base spare held fuel 31 cs = some x) :
    ∃ o : Nat × Int, cs = [.int .u8 (o.1 : Int), .int .i64 o.2] ∧ o.1 ≤ 255 ∧ -9223372036854775808 ≤ o.2 ∧ o.2 ≤ 9223372036854775807 := by
  have hF := Tryd.opFields
  cases hu : Tryd.prog.underlying 31 with
  | none => rw [hu] at hF; simp at hF
  | some u =>
    rw [hu] at hF
    cases u with
    | struct fs =>
      simp only at hF
      obtain ⟨ys, n, _, hx, hlen, hys, hf⟩ := DataW.trod_struct hu h
      rw [Tryd.cellsOp10] at hlen
      match cs, hlen with
      | [v0, v1], _ =>
        have hl2 : fs.toList.length = 2 := by have := congrArg List.length hF; simpa using this
        obtain ⟨l, hl⟩ : ∃ l, l = fs.toList := ⟨_, rfl⟩
        rw [← hl] at hF hl2
        match l, hl2 with
        | [f0, f1], _ =>
          simp only [List.map_cons, List.map_nil, List.cons.injEq, Prod.mk.injEq, and_true] at hF
          obtain ⟨⟨t0, o0⟩, ⟨t1, o1⟩⟩ := hF
          have g : ∀ (i : Nat) (f : Field), [f0, f1][i]? = some f → fs[i]? = some f := by
            intro i f hi
            rw [hl] at hi
            simpa using hi
          have r0 := hf 0 f0 (g 0 f0 rfl)
          have r1 := hf 1 f1 (g 1 f1 rfl)
          rw [t0, o0, Tryd.cBO] at r0
          rw [t1, o1, Tryd.cIO] at r1
          simp only [List.drop_zero, List.drop_succ_cons, List.take_succ_cons, List.take_zero] at r0 r1
          have hy2 : ys.length = 2 := by rw [hys]; have := congrArg List.length hl; simpa using this.symm
          match ys, hy2 with
          | [y0, y1], _ =>
            simp only [List.getElem?_cons_zero, List.getElem?_cons_succ] at r0 r1
            obtain ⟨k0, e0, _, w0⟩ := DataW.trod_int Tryd.undBO r0
            obtain ⟨k1, e1, _, w1⟩ := DataW.trod_int Tryd.undIO r1
            simp only [List.cons.injEq, and_true] at e0 e1
            have b0 := bounds_u8 w0
            have b1 := bounds_i64 w1
            refine ⟨(k0.toNat, k1), ?_, by simp only; omega, b1⟩
            rw [e0, e1]
            simp only
            rw [show ((k0.toNat : Nat) : Int) = k0 by omega]
    | _ => simp at hF
theorem ops_open {w : World} {fuel : Nat} {cs : List Value} {x : DataW H × List MemPlace} (h : DataW.trod enc Tryd.prog w 0 (fun _ => true) true fuel 22 cs = some x) : ∃ ao L cap os, cs = [.slice ao L cap] ∧ OArg w ao L cap os := by
  rcases Go.Deep.open_slice Tryd.undOps10 h with ⟨hcs, _⟩ | ⟨a, len, cap, m, n, D, Pl, hcs, hb, hl, hm, hmm, hx, hE⟩
  · exact ⟨none, 0, 0, [], hcs, rfl, Nat.le_refl _, by omega, by simp, fun h => by omega⟩
  · simp only [if_true] at hmm
    subst hmm
    rw [Tryd.cellsOp10] at hE hx
    have hO : ∀ i, i < m → ∃ o : Nat × Int, (w.cells? 0 (a.add (i * 2)) 2 = some [.int .u8 (o.1 : Int), .int .i64 o.2]) ∧ o.1 ≤ 255 ∧ -9223372036854775808 ≤ o.2 ∧ o.2 ≤ 9223372036854775807 := by
      intro i hi
      obtain ⟨cs', h1, h2⟩ := hE i hi
      obtain ⟨o, rfl, rest⟩ := op_open h2
      exact ⟨o, h1, rest⟩
    obtain ⟨F, hF⟩ := Go.Deep.choose_lt hO
    refine ⟨some a, len, m, (List.range len).map F, hcs, by simp, hl, by simp only [maxLen] at hm; omega, ?_, fun h0 => ?_⟩
    · intro o ho
      obtain ⟨i, hi, rfl⟩ := List.mem_map.1 ho
      have hi' : i < len := by simpa using hi
      exact (hF i (by omega)).2
    · have hc0 := (World.cells?_some (hF 0 (by omega)).1).2.2
      obtain ⟨b, off, spot⟩ := a
      have hspot : spot = none := by
        have := hc0 0 (by omega)
        simp at this
        simpa [Addr.add] using World.cell?_spot this
      subst hspot
      have hcell : ∀ i, i < len → ∀ j, j < 2 → w.cell? ⟨b, off + i * 2 + j, none⟩ = [Value.int .u8 ((F i).1 : Int), .int .i64 (F i).2][j]? := by
        intro i hi j hj
        have := (World.cells?_some (hF i (by omega)).1).2.2 j hj
        rw [show ((⟨b, off, none⟩ : Addr).add (i * 2)).add j = ⟨b, off + i * 2 + j, none⟩ from by rw [Addr.add_lit, Addr.add_lit]] at this
        exact this
      refine ⟨b, off, rfl, World.block_lt_of_cell? w ⟨b, off + 0 * 2 + 0, none⟩ (by rw [hcell 0 (by omega) 0 (by omega)]; rfl), fun i hi => ?_⟩
      have e : ((List.range len).map F).getD i (0, 0) = F i := by simp [List.getD, hi]
      rw [e]
      exact ⟨hcell i hi 0 (by omega), hcell i hi 1 (by omega)⟩
end
end Go.Proofs.YtgdffhmbhknfcaaDoor

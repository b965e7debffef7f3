/- Asks of a feed, and how it is made, as they come in. Conditions as each lemma names them. -/
import Derived.Test.YtibgdfjfhjckoaaFn16
import Derived.Deep.Slices
namespace Go.Proofs.Ytibgdfjfhjckoaa
open Go.ChangeShapes Go.WideShapes Go.ChangeAt Go.RowKit Go.Lib
/-- The slice that came in reads as the ops os. -/
structure OArg (w : World) (ao : Option Addr) (L cap : Nat) (os : List (Nat × Int)) : Prop where
  len : L = os.length
  fits : L ≤ cap
  most : L ≤ 9223372036854775807
  each : ∀ o ∈ os, o.1 ≤ 255 ∧ -9223372036854775808 ≤ o.2 ∧ o.2 ≤ 9223372036854775807
  lies : 0 < L → ∃ b off, ao = some ⟨b, off, none⟩ ∧ b < w.heap.size ∧ ∀ j, j < L → w.cell? ⟨b, off + j * 2, none⟩ = some (.int .u8 (((os.getD j (0, 0)).1 : Nat) : Int)) ∧ w.cell? ⟨b, off + j * 2 + 1, none⟩ = some (.int .i64 (os.getD j (0, 0)).2)
section
variable {H : Type} {enc : TypeId × Value → H}
theorem Try.undAsks16 : Try.prog.underlying 26 = some (.slice 35) := by kernel_rfl
theorem Try.cellsAsk16 : Try.prog.cellsOf 35 = 2 := by kernel_rfl
theorem Try.undIO : Try.prog.underlying 3 = some (.int .i64) := by kernel_rfl
theorem Try.undBO : Try.prog.underlying 33 = some (.int .u8) := by kernel_rfl
theorem Try.cBO : Try.prog.cellsOf 33 = 1 := by kernel_rfl
theorem Try.cIO : Try.prog.cellsOf 3 = 1 := by kernel_rfl
theorem Try.opFields : (match Try.prog.underlying 35 with | some (.struct fs) => fs.toList.map (fun f => (f.type, f.offset)) | _ => []) = [(33, 0), (3, 1)] := by kernel_rfl
set_option maxRecDepth 100000 in
theorem op_open {w : World} {base : Nat} {spare : Nat → Bool} {held : Bool} {fuel : Nat} {cs : List Value} {x : DataW H × List MemPlace} (h : DataW.trod enc Try.prog w base spare held fuel 35 cs = some x) :
    ∃ o : Nat × Int, cs = [.int .u8 (o.1 : Int), .int .i64 o.2] ∧ o.1 ≤ 255 ∧ -9223372036854775808 ≤ o.2 ∧ o.2 ≤ 9223372036854775807 := by
  have hF := Try.opFields
  cases hu : Try.prog.underlying 35 with
  | none => rw [hu] at hF; simp at hF
  | some u =>
    rw [hu] at hF
    cases u with
    | struct fs =>
      simp only at hF
      obtain ⟨ys, n, _, hx, hlen, hys, hf⟩ := DataW.trod_struct hu h
      rw [Try.cellsAsk16] at hlen
      match cs, hlen with
      | [v0, v1], _ =>
        have hl2 : fs.toList.length = 2 := by have := congrArg List.length hF; simpa using this
        obtain ⟨l, hl⟩ : ∃ l, l = fs.toList := ⟨_, rfl⟩
        rw [← hl] at hF hl2
        match l, hl2 with
        | [f0, f1], _ =>
          simp only [List.map_cons, List.map_nil, List.cons.injEq, Prod.mk.injEq, and_true] at hF
          obtain ⟨⟨t0, o0⟩, ⟨t1, o1⟩⟩ := hF
          have g : ∀ (i : Nat) (f : Field), [f0, f1][i]? = some f → fs[i]? = some f := by
            intro i f hi
            rw [hl] at hi
            simpa using hi
          have r0 := hf 0 f0 (g 0 f0 rfl)
          have r1 := hf 1 f1 (g 1 f1 rfl)
          rw [t0, o0, Try.cBO] at r0
          rw [t1, o1, Try.cIO] at r1
          simp only [List.drop_zero, List.drop_succ_cons, List.take_succ_cons, List.take_zero] at r0 r1
          have hy2 : ys.length = 2 := by rw [hys]; have := congrArg List.length hl; simpa using this.symm
          match ys, hy2 with
          | [y0, y1], _ =>
            simp only [List.getElem?_cons_zero, List.getElem?_cons_succ] at r0 r1
            obtain ⟨k0, e0, _, w0⟩ := DataW.trod_int Try.undBO r0
            obtain ⟨k1, e1, _, w1⟩ := DataW.trod_int Try.undIO r1
            simp only [List.cons.injEq, and_true] at e0 e1
            have b0 := bounds_u8 w0
            have b1 := bounds_i64 w1
            refine ⟨(k0.toNat, k1), ?_, by simp only; omega, b1⟩
            rw [e0, e1]
            simp only
            rw [show ((k0.toNat : Nat) : Int) = k0 by omega]
    | _ => simp at hF
theorem ops_open {w : World} {fuel : Nat} {cs : List Value} {x : DataW H × List MemPlace} (h : DataW.trod enc Try.prog w 0 (fun _ => true) true fuel 26 cs = some x) : ∃ ao L cap os, cs = [.slice ao L cap] ∧ OArg w ao L cap os := by
  rcases Go.Deep.open_slice Try.undAsks16 h with ⟨hcs, _⟩ | ⟨a, len, cap, m, n, D, Pl, hcs, hb, hl, hm, hmm, hx, hE⟩
  · exact ⟨none, 0, 0, [], hcs, rfl, Nat.le_refl _, by omega, by simp, fun h => by omega⟩
  · simp only [if_true] at hmm
    subst hmm
    rw [Try.cellsAsk16] at hE hx
    have hO : ∀ i, i < m → ∃ o : Nat × Int, (w.cells? 0 (a.add (i * 2)) 2 = some [.int .u8 (o.1 : Int), .int .i64 o.2]) ∧ o.1 ≤ 255 ∧ -9223372036854775808 ≤ o.2 ∧ o.2 ≤ 9223372036854775807 := by
      intro i hi
      obtain ⟨cs', h1, h2⟩ := hE i hi
      obtain ⟨o, rfl, rest⟩ := op_open h2
      exact ⟨o, h1, rest⟩
    obtain ⟨F, hF⟩ := Go.Deep.choose_lt hO
    refine ⟨some a, len, m, (List.range len).map F, hcs, by simp, hl, by simp only [maxLen] at hm; omega, ?_, fun h0 => ?_⟩
    · intro o ho
      obtain ⟨i, hi, rfl⟩ := List.mem_map.1 ho
      have hi' : i < len := by simpa using hi
      exact (hF i (by omega)).2
    · have hc0 := (World.cells?_some (hF 0 (by omega)).1).2.2
      obtain ⟨b, off, spot⟩ := a
      have hspot : spot = none := by
        have := hc0 0 (by omega)
        simp at this
        simpa [Addr.add] using World.cell?_spot this
      subst hspot
      have hcell : ∀ i, i < len → ∀ j, j < 2 → w.cell? ⟨b, off + i * 2 + j, none⟩ = [Value.int .u8 ((F i).1 : Int), .int .i64 (F i).2][j]? := by
        intro i hi j hj
        have := (World.cells?_some (hF i (by omega)).1).2.2 j hj
        rw [show ((⟨b, off, none⟩ : Addr).add (i * 2)).add j = ⟨b, off + i * 2 + j, none⟩ from by rw [Addr.add_lit, Addr.add_lit]] at this
        exact this
      refine ⟨b, off, rfl, World.block_lt_of_cell? w ⟨b, off + 0 * 2 + 0, none⟩ (by rw [hcell 0 (by omega) 0 (by omega)]; rfl), fun i hi => ?_⟩
      have e : ((List.range len).map F).getD i (0, 0) = F i := by simp [List.getD, hi]
      rw [e]
      exact ⟨hcell i hi 0 (by omega), hcell i hi 1 (by omega)⟩
theorem Try.cIs16 : Try.prog.cellsOf 23 = 1 := by kernel_rfl
theorem is16_open {w : World} {fuel : Nat} {v : Value} {x : DataW H × List MemPlace} (h : DataW.trod enc Try.prog w 0 (fun _ => true) true fuel 23 [v] = some x) (hsz : ∀ n ∈ x.1.weights Try.prog 23, n ≤ reachBytes) :
    ∃ ao L cap ns, v = .slice ao L cap ∧ IRs w ao ns ∧ L = ns.length ∧ L ≤ cap ∧ ∀ x ∈ ns, i64 x := by
  rcases open_ints Try.undIsW Try.undIO Try.cIO h with ⟨hcs, _⟩ | ⟨a, l, c, zs, hcs, _, hl, hm, hz, hx, hcell, hwz⟩
  · simp only [List.cons.injEq, and_true] at hcs
    exact ⟨none, 0, 0, [], hcs, ⟨fun h => by simp at h, by simp⟩, rfl, Nat.le_refl _, by simp⟩
  · simp only [List.cons.injEq, and_true] at hcs
    simp only [if_true] at hz
    have hw : zs.length * Try.prog.bytesOf 3 ≤ reachBytes := by
      apply hsz
      rw [hx]
      simp only [DataW.weights, Try.undIsW, lits, List.length_map]
      rw [show (zs.take l).length + (zs.drop l).length = zs.length by rw [← List.length_append, List.take_append_drop]]
      exact List.mem_cons_self
    rw [show Try.prog.bytesOf 3 = 8 from by kernel_rfl] at hw
    have hr := reachBytes_lt
    exact ⟨some a, l, c, zs.take l, hcs, IRs.of_open hl hz hcell (by omega), by rw [List.length_take]; omega, by omega, fun x hx => bounds_i64 (hwz x (List.mem_of_mem_take hx))⟩
theorem Try.cMade : Try.prog.cellsOf 25 = 3 := by kernel_rfl
theorem Try.madeFields : (match Try.prog.underlying 25 with | some (.struct fs) => fs.toList.map (fun f => (f.type, f.offset)) | _ => []) = [(3, 0), (23, 1), (3, 2)] := by kernel_rfl
set_option maxRecDepth 100000 in
theorem made16_open {w : World} {fuel : Nat} {cs : List Value} {x : DataW H × List MemPlace} (h : DataW.trod enc Try.prog w 0 (fun _ => true) true fuel 25 cs = some x) (hsz : ∀ n ∈ x.1.weights Try.prog 25, n ≤ reachBytes) :
    ∃ (sh qu : Int) (ao : Option Addr) (L cap : Nat) (os : List Int), cs = [.int .i64 sh, .slice ao L cap, .int .i64 qu] ∧ IRs w ao os ∧ L = os.length ∧ (∀ x ∈ os, i64 x) ∧ (-9223372036854775808 ≤ sh ∧ sh ≤ 9223372036854775807 ∧ -9223372036854775808 ≤ qu ∧ qu ≤ 9223372036854775807) := by
  have hF := Try.madeFields
  cases hu : Try.prog.underlying 25 with
  | none => rw [hu] at hF; simp at hF
  | some u =>
    rw [hu] at hF
    cases u with
    | struct fs =>
      simp only at hF
      obtain ⟨ys, n, _, hx, hlen, hys, hf⟩ := DataW.trod_struct hu h
      rw [Try.cMade] at hlen
      match cs, hlen with
      | [v0, v1, v2], _ =>
        have hl2 : fs.toList.length = 3 := by have := congrArg List.length hF; simpa using this
        obtain ⟨l, hl⟩ : ∃ l, l = fs.toList := ⟨_, rfl⟩
        rw [← hl] at hF hl2
        match l, hl2 with
        | [f0, f1, f2], _ =>
          simp only [List.map_cons, List.map_nil, List.cons.injEq, Prod.mk.injEq, and_true] at hF
          obtain ⟨⟨t0, o0⟩, ⟨t1, o1⟩, ⟨t2, o2⟩⟩ := hF
          have g : ∀ (i : Nat) (f : Field), [f0, f1, f2][i]? = some f → fs[i]? = some f := by
            intro i f hi
            rw [hl] at hi
            simpa using hi
          have r0 := hf 0 f0 (g 0 f0 rfl)
          have r1 := hf 1 f1 (g 1 f1 rfl)
          have r2 := hf 2 f2 (g 2 f2 rfl)
          rw [t0, o0, Try.cIO] at r0
          rw [t1, o1, Try.cIs16] at r1
          rw [t2, o2, Try.cIO] at r2
          simp only [List.drop_zero, List.drop_succ_cons, List.take_succ_cons, List.take_zero] at r0 r1 r2
          have hy2 : ys.length = 3 := by rw [hys]; have := congrArg List.length hl; simpa using this.symm
          match ys, hy2 with
          | [y0, y1, y2], _ =>
            simp only [List.getElem?_cons_zero, List.getElem?_cons_succ] at r0 r1 r2
            have hty : fs.toList.map (·.type) = [3, 23, 3] := by rw [← hl]; simp [t0, t1, t2]
            have hw : ∀ (j : Nat) (t : TypeId) (d : DataW H), [3, 23, 3][j]? = some t → [y0.1, y1.1, y2.1][j]? = some d → ∀ q ∈ d.weights Try.prog t, q ≤ reachBytes := fun j t d h1 h2 q hq => by
              apply hsz
              rw [hx]
              simp only [DataW.weights, hu]
              rw [hty]
              exact DataW.weights_mem_each (j := j) (t := t) (d := d) h1 h2 _ hq
            obtain ⟨k0, e0, _, w0⟩ := DataW.trod_int Try.undIO r0
            obtain ⟨k1, e1, _, w1⟩ := DataW.trod_int Try.undIO r2
            obtain ⟨ao, L, cap, os, e2, hH, hL, _, hM⟩ := is16_open r1 (hw 1 23 y1.1 rfl rfl)
            have b0 := bounds_i64 w0
            have b1 := bounds_i64 w1
            simp only [List.cons.injEq, and_true] at e0 e1
            exact ⟨k0, k1, ao, L, cap, os, by rw [e0, e1, e2], hH, hL, hM, by omega, by omega, by omega, by omega⟩
    | _ => simp at hF
end
end Go.Proofs.Ytibgdfjfhjckoaa

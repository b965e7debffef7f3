/- A trip as it comes in: a configuration, transactions and bytes. Conditions as each names them. -/
import Derived.Test.YtgladhebgnngdaaCi13
import Derived.Test.YtgladhebgnngdaaTxs
import Derived.Test.YtgladhebgnngdaaIn10
namespace Go.Proofs.Ytgladhebgnngdaa
open Go.ChangeShapes Go.WideShapes Go.ChangeAt Go.RowKit Go.Lib
set_option linter.unusedVariables false
section
variable {H : Type} {enc : TypeId × Value → H}
set_option maxRecDepth 100000 in
theorem bs_open {w : World} {fuel : Nat} {v : Value} {d : DataW H} {ps : List MemPlace} (h : DataW.trod enc Try.prog w 0 (fun _ => true) true fuel 45 [v] = some (d, ps)) (hsz : ∀ n ∈ d.weights Try.prog 45, n ≤ reachBytes) :
    ∃ ao L cap xs, v = .slice ao L cap ∧ BArg w ao L cap xs ∧ L ≤ 140737488351232 := by
  rcases open_ints Try.undBs Try.underlying5 (by kernel_rfl) h with ⟨hcs, _⟩ | ⟨x, l, c, zs, hcs, _, hl, hm, hz, hx, hcell, hwz⟩
  · simp only [List.cons.injEq, and_true] at hcs
    obtain ⟨xs, hA⟩ := BArg.of_row (w := w) (a := none) (len := 0) (cap := 0) (zs := []) (.inl ⟨rfl, rfl, rfl, rfl⟩)
    exact ⟨none, 0, 0, xs, hcs, hA, by omega⟩
  · simp only [List.cons.injEq, and_true] at hcs
    obtain ⟨xs, hA⟩ := BArg.of_row (w := w) (a := some x) (len := l) (cap := c) (zs := zs) (.inr ⟨_, rfl, hl, hm, by simpa using hz, hcell, hwz⟩)
    refine ⟨some x, l, c, xs, hcs, hA, ?_⟩
    have hd := congrArg Prod.fst hx
    simp only at hd
    have := hsz (((lits .u8 (zs.take l) : List (DataW H)).length + (lits .u8 (zs.drop l) : List (DataW H)).length) * Try.prog.bytesOf 5) (by
      rw [hd]
      simp only [DataW.weights, Try.undBs]
      exact List.mem_cons_self)
    rw [show Try.prog.bytesOf 5 = 1 from by kernel_rfl] at this
    simp [lits, reachBytes] at this hz
    omega
theorem Try.cellsTrip : Try.prog.cellsOf 47 = 6 := by kernel_rfl
theorem Try.cTs14 : Try.prog.cellsOf 44 = 1 := by kernel_rfl
theorem Try.cBs14 : Try.prog.cellsOf 45 = 1 := by kernel_rfl
theorem Try.tripFields : (match Try.prog.underlying 47 with | some (.struct fs) => fs.toList.map (fun f => (f.type, f.offset)) | _ => []) = [(23, 0), (44, 4), (45, 5)] := by kernel_rfl
set_option maxRecDepth 100000 in
theorem trip_open {w : World} {fuel : Nat} {cs : List Value} {x : DataW H × List MemPlace} (h : DataW.trod enc Try.prog w 0 (fun _ => true) true fuel 47 cs = some x) (hsz : ∀ n ∈ x.1.weights Try.prog 47, n ≤ reachBytes) :
    ∃ (a b c d : Int) (ao : Option Addr) (L cap : Nat) (ts : List Tm) (bo : Option Addr) (Bn bc : Nat) (bs : List Nat), cs = [.int .i64 a, .int .i64 b, .int .i64 c, .int .i64 d, .slice ao L cap, .slice bo Bn bc] ∧ Cf.ok ⟨a, b, c, d⟩ ∧ TRs w ao ts ∧ L = ts.length ∧ BArg w bo Bn bc bs ∧ Bn ≤ 140737488351232 := by
  have hF := Try.tripFields
  cases hu : Try.prog.underlying 47 with
  | none => rw [hu] at hF; simp at hF
  | some u =>
    rw [hu] at hF
    cases u with
    | struct fs =>
      simp only at hF
      obtain ⟨ys, n, _, hx, hlen, hys, hf⟩ := DataW.trod_struct hu h
      rw [Try.cellsTrip] at hlen
      match cs, hlen with
      | [v0, v1, v2, v3, v4, v5], _ =>
        have hl3 : fs.toList.length = 3 := by have := congrArg List.length hF; simpa using this
        obtain ⟨l, hl⟩ : ∃ l, l = fs.toList := ⟨_, rfl⟩
        rw [← hl] at hF hl3
        match l, hl3 with
        | [f0, f1, f2], _ =>
          simp only [List.map_cons, List.map_nil, List.cons.injEq, Prod.mk.injEq, and_true] at hF
          obtain ⟨⟨t0, o0⟩, ⟨t1, o1⟩, ⟨t2, o2⟩⟩ := hF
          have g : ∀ (i : Nat) (f : Field), [f0, f1, f2][i]? = some f → fs[i]? = some f := by
            intro i f hi
            rw [hl] at hi
            simpa using hi
          have r0 := hf 0 f0 (g 0 f0 rfl)
          have r1 := hf 1 f1 (g 1 f1 rfl)
          have r2 := hf 2 f2 (g 2 f2 rfl)
          rw [t0, o0, Try.cellsCf] at r0
          rw [t1, o1, Try.cTs14] at r1
          rw [t2, o2, Try.cBs14] at r2
          simp only [List.drop_zero, List.drop_succ_cons, List.take_succ_cons, List.take_zero] at r0 r1 r2
          have hy3 : ys.length = 3 := by rw [hys]; have := congrArg List.length hl; simpa using this.symm
          match ys, hy3 with
          | [y0, y1, y2], _ =>
            simp only [List.getElem?_cons_zero, List.getElem?_cons_succ] at r0 r1 r2
            have hty : fs.toList.map (·.type) = [23, 44, 45] := by rw [← hl]; simp [t0, t1, t2]
            obtain ⟨a, b, c, d, e0, hc⟩ := cf_open r0
            obtain ⟨ao, L, cap, ts, e1, hT, hL, _⟩ := ts_open (d := y1.1) (ps := y1.2) r1 (by
              intro q hq
              apply hsz
              rw [hx]
              simp only [DataW.weights, hu]
              rw [hty]
              exact DataW.weights_mem_each (j := 1) (t := 44) (d := y1.1) rfl rfl _ hq)
            obtain ⟨bo, Bn, bc, bs, e2, hB, hBn⟩ := bs_open (d := y2.1) (ps := y2.2) r2 (by
              intro q hq
              apply hsz
              rw [hx]
              simp only [DataW.weights, hu]
              rw [hty]
              exact DataW.weights_mem_each (j := 2) (t := 45) (d := y2.1) rfl rfl _ hq)
            simp only [List.cons.injEq, and_true] at e0
            obtain ⟨e00, e01, e02, e03⟩ := e0
            exact ⟨a, b, c, d, ao, L, cap, ts, bo, Bn, bc, bs, by rw [e00, e01, e02, e03, e1, e2], hc, hT, hL, hB, hBn⟩
    | _ => simp at hF
end
end Go.Proofs.Ytgladhebgnngdaa

/- Texts of this claim laid together, one behind the other: contracts and plain lemmas; conditions as each names them. -/
import Derived.Test.YtaaghcimfcjehaaGreatDoorGp45
import Derived.Test.YtaaghcimfcjehaaGreatDoorRows
/- What is told, as it comes in. Conditions as each names them. -/
namespace Go.Proofs.YtaaghcimfcjehaaGreatDoor
open Go.ChangeShapes Go.WideShapes Go.ChangeAt Go.RowKit Go.Lib
set_option linter.unusedVariables false
set_option linter.unusedSimpArgs false

section
variable {H : Type} {enc : TypeId × Value → H} {w : World}
theorem bulk_one (d : DataW H) : 1 ≤ Rows.uptoBulk d := by
  cases d with
  | lit l => cases l <;> simp [Rows.uptoBulk]
  | _ => simp [Rows.uptoBulk]
theorem bulk_mem {d : DataW H} : ∀ {l : List (DataW H)}, d ∈ l → Rows.uptoBulk d ≤ Rows.uptoBulkAll l
  | [], h => by cases h
  | x :: r, h => by
    simp only [Rows.uptoBulkAll]
    rcases List.mem_cons.1 h with e | e
    · subst e; omega
    · have := bulk_mem e; omega
theorem bulk_len : ∀ l : List (DataW H), l.length ≤ Rows.uptoBulkAll l
  | [] => by simp [Rows.uptoBulkAll]
  | x :: r => by have := bulk_one x; have := bulk_len r; simp only [Rows.uptoBulkAll, List.length_cons]; omega
theorem bulk_slice {t e : TypeId} {fuel : Nat} {ao : Option Addr} {L cap : Nat} {x : DataW H × List MemPlace} (ht : Tryz.prog.underlying t = some (.slice e)) (h : DataW.trod enc Tryz.prog w 0 (fun _ => true) true fuel t [.slice ao L cap] = some x) : L ≤ Rows.uptoBulk x.1 := by
  rcases Go.Deep.open_slice ht h with ⟨hcs, _⟩ | ⟨a, len, c, m, n, D, Pl, hcs, hb, hl, hm, hmm, hx, hE⟩
  · simp only [List.cons.injEq, Value.slice.injEq, and_true] at hcs
    omega
  · simp only [List.cons.injEq, Value.slice.injEq, and_true] at hcs
    rw [hx]
    simp only [Rows.uptoBulk]
    have := bulk_len ((List.range len).map D)
    simp only [List.length_map, List.length_range] at this
    omega
theorem evs_in {fuel : Nat} {v : Value} {x : DataW H × List MemPlace} (h : DataW.trod enc Tryz.prog w 0 (fun _ => true) true fuel 29 [v] = some x) (hsz : ∀ n ∈ x.1.weights Tryz.prog 29, n ≤ reachBytes) :
    ∃ ao L cap es, v = .slice ao L cap ∧ ERs w ao es ∧ L = es.length ∧ L ≤ cap ∧ cap ≤ 4398046511104 ∧ L ≤ Rows.uptoBulk x.1 := by
  obtain ⟨ao, L, cap, es, hh⟩ := evs_open (d := x.1) (ps := x.2) h hsz
  rcases hh with ⟨rfl, h1, h2, h3, h4, _⟩ | rfl
  · exact ⟨ao, L, cap, es, rfl, h1, h2, h3, by omega, bulk_slice Tryz.undEvs' h⟩
  · exact ⟨none, 0, 0, [], rfl, ERs.nil _ _, rfl, Nat.le_refl _, by omega, by omega⟩
theorem Tryz.undIs21 : Tryz.prog.underlying 25 = some (.slice 3) := by kernel_rfl
theorem Tryz.undHds21 : (match Tryz.prog.underlying 26 with | some (.slice _) => true | _ => false) = true := by kernel_rfl
theorem is21_open {fuel : Nat} {v : Value} {x : DataW H × List MemPlace} (h : DataW.trod enc Tryz.prog w 0 (fun _ => true) true fuel 25 [v] = some x) (hsz : ∀ n ∈ x.1.weights Tryz.prog 25, n ≤ reachBytes) :
    ∃ ao L cap ns, v = .slice ao L cap ∧ IRs w ao ns ∧ L = ns.length ∧ L ≤ cap := by
  rcases open_ints Tryz.undIs21 Tryz.eundI Tryz.ecI h with ⟨hcs, _⟩ | ⟨a, l, c, zs, hcs, _, hl, hm, hz, hx, hcell, hwz⟩
  · simp only [List.cons.injEq, and_true] at hcs
    exact ⟨none, 0, 0, [], hcs, ⟨fun h => by simp at h, by simp⟩, rfl, Nat.le_refl _⟩
  · simp only [List.cons.injEq, and_true] at hcs
    simp only [if_true] at hz
    have hw : zs.length * Tryz.prog.bytesOf 3 ≤ reachBytes := by
      apply hsz
      rw [hx]
      simp only [DataW.weights, Tryz.undIs21, lits, List.length_map]
      rw [show (zs.take l).length + (zs.drop l).length = zs.length by rw [← List.length_append, List.take_append_drop]]
      exact List.mem_cons_self
    rw [show Tryz.prog.bytesOf 3 = 8 from by kernel_rfl] at hw
    have hr := reachBytes_lt
    exact ⟨some a, l, c, zs.take l, hcs, IRs.of_open hl hz hcell (by omega), by rw [List.length_take]; omega, by omega⟩
theorem hds21_open {fuel : Nat} {v : Value} {x : DataW H × List MemPlace} (h : DataW.trod enc Tryz.prog w 0 (fun _ => true) true fuel 26 [v] = some x) : ∃ ao L cap, v = .slice ao L cap := by
  have hu := Tryz.undHds21
  cases hv : Tryz.prog.underlying 26 with
  | none => rw [hv] at hu; simp at hu
  | some u =>
    rw [hv] at hu
    cases u with
    | slice e =>
      rcases Go.Deep.open_slice hv h with ⟨hcs, _⟩ | ⟨a, len, c, m, n, D, Pl, hcs, _⟩
      · simp only [List.cons.injEq, and_true] at hcs
        exact ⟨none, 0, 0, hcs⟩
      · simp only [List.cons.injEq, and_true] at hcs
        exact ⟨_, _, _, hcs⟩
    | _ => simp at hu
theorem Tryz.svFields : (match Tryz.prog.underlying 28 with | some (.struct fs) => fs.toList.map (fun f => (f.type, f.offset)) | _ => []) = [(3, 0), (25, 1), (26, 2)] := by kernel_rfl
theorem Tryz.cSv21 : Tryz.prog.cellsOf 28 = 3 := by kernel_rfl
theorem Tryz.cIs21 : Tryz.prog.cellsOf 25 = 1 := by kernel_rfl
theorem Tryz.cHds21 : Tryz.prog.cellsOf 26 = 1 := by kernel_rfl
theorem Tryz.cTs21 : Tryz.prog.cellsOf 24 = 1 := by kernel_rfl
theorem Tryz.cEvs21 : Tryz.prog.cellsOf 29 = 1 := by kernel_rfl
theorem Tryz.cTold21 : Tryz.prog.cellsOf 31 = 9 := by kernel_rfl
theorem Tryz.toldFields : (match Tryz.prog.underlying 31 with | some (.struct fs) => fs.toList.map (fun f => (f.type, f.offset)) | _ => []) = [(23, 0), (24, 4), (28, 5), (29, 8)] := by kernel_rfl
set_option maxRecDepth 100000 in
theorem sv21_open {fuel : Nat} {cs : List Value} {x : DataW H × List MemPlace} (h : DataW.trod enc Tryz.prog w 0 (fun _ => true) true fuel 28 cs = some x) (hsz : ∀ n ∈ x.1.weights Tryz.prog 28, n ≤ reachBytes) :
    ∃ (m : Int) (bo : Option Addr) (bn bc : Nat) (xs : List Int) (ho : Option Addr) (hl hc : Nat), cs = [.int .i64 m, .slice bo bn bc, .slice ho hl hc] ∧ IRs w bo xs ∧ bn = xs.length ∧ bn ≤ bc := by
  have hF := Tryz.svFields
  cases hu : Tryz.prog.underlying 28 with
  | none => rw [hu] at hF; simp at hF
  | some u =>
    rw [hu] at hF
    cases u with
    | struct fs =>
      simp only at hF
      obtain ⟨ys, n, _, hx, hlen, hys, hf⟩ := DataW.trod_struct hu h
      rw [Tryz.cSv21] at hlen
      match cs, hlen with
      | [v0, v1, v2], _ =>
        have hl2 : fs.toList.length = 3 := by have := congrArg List.length hF; simpa using this
        obtain ⟨l, hl⟩ : ∃ l, l = fs.toList := ⟨_, rfl⟩
        rw [← hl] at hF hl2
        match l, hl2 with
        | [f0, f1, f2], _ =>
          simp only [List.map_cons, List.map_nil, List.cons.injEq, Prod.mk.injEq, and_true] at hF
          obtain ⟨⟨t0, o0⟩, ⟨t1, o1⟩, ⟨t2, o2⟩⟩ := hF
          have g : ∀ (i : Nat) (f : Field), [f0, f1, f2][i]? = some f → fs[i]? = some f := by
            intro i f hi
            rw [hl] at hi
            simpa using hi
          have r0 := hf 0 f0 (g 0 f0 rfl)
          have r1 := hf 1 f1 (g 1 f1 rfl)
          have r2 := hf 2 f2 (g 2 f2 rfl)
          rw [t0, o0, Tryz.ecI] at r0
          rw [t1, o1, Tryz.cIs21] at r1
          rw [t2, o2, Tryz.cHds21] at r2
          simp only [List.drop_zero, List.drop_succ_cons, List.take_succ_cons, List.take_zero] at r0 r1 r2
          have hy2 : ys.length = 3 := by rw [hys]; have := congrArg List.length hl; simpa using this.symm
          match ys, hy2 with
          | [y0, y1, y2], _ =>
            simp only [List.getElem?_cons_zero, List.getElem?_cons_succ] at r0 r1 r2
            have hty : fs.toList.map (·.type) = [3, 25, 26] := by rw [← hl]; simp [t0, t1, t2]
            have hw : ∀ (j : Nat) (t : TypeId) (d : DataW H), [3, 25, 26][j]? = some t → [y0.1, y1.1, y2.1][j]? = some d → ∀ q ∈ d.weights Tryz.prog t, q ≤ reachBytes := fun j t d h1 h2 q hq => by
              apply hsz
              rw [hx]
              simp only [DataW.weights, hu]
              rw [hty]
              exact DataW.weights_mem_each (j := j) (t := t) (d := d) h1 h2 _ hq
            obtain ⟨k0, e0, _, w0⟩ := DataW.trod_int Tryz.eundI r0
            obtain ⟨bo, Lb, cb, bs, e1, hB, hLb, hcb⟩ := is21_open r1 (hw 1 25 y1.1 rfl rfl)
            obtain ⟨ao, L, cap, e2⟩ := hds21_open r2
            simp only [List.cons.injEq, and_true] at e0
            exact ⟨k0, bo, Lb, cb, bs, ao, L, cap, by rw [e0, e1, e2], hB, hLb, hcb⟩
    | _ => simp at hF
/-- What is told, in memory. -/
structure ToB (w : World) (c : Cf) (lo : Option Addr) (M mc : Nat) (ts : List Tm) (bo : Option Addr) (bn bc : Nat) (xs : List Int) (eo : Option Addr) (en ec : Nat) (es : List Ev) : Prop where
  log : TRs w lo ts
  ln : M = ts.length
  lc : M ≤ mc
  bey : IRs w bo xs
  bl : bn = xs.length
  bcp : bn ≤ bc
  evs : ERs w eo es
  el : en = es.length
  ecp : en ≤ ec
  few : ec ≤ 4398046511104
set_option maxRecDepth 100000 in
theorem told_open {fuel : Nat} {cs : List Value} {x : DataW H × List MemPlace} (h : DataW.trod enc Tryz.prog w 0 (fun _ => true) true fuel 31 cs = some x) (hsz : ∀ n ∈ x.1.weights Tryz.prog 31, n ≤ reachBytes) :
    ∃ (c : Cf) (lo : Option Addr) (M mc : Nat) (ts : List Tm) (m : Int) (bo : Option Addr) (bn bc : Nat) (xs : List Int) (ho : Option Addr) (hl hc : Nat) (eo : Option Addr) (en ec : Nat) (es : List Ev), cs = [.int .i64 c.l, .int .i64 c.s, .int .i64 c.w, .int .i64 c.q, .slice lo M mc, .int .i64 m, .slice bo bn bc, .slice ho hl hc, .slice eo en ec] ∧ ToB w c lo M mc ts bo bn bc xs eo en ec es ∧ en ≤ Rows.uptoBulk x.1 := by
  have hF := Tryz.toldFields
  cases hu : Tryz.prog.underlying 31 with
  | none => rw [hu] at hF; simp at hF
  | some u =>
    rw [hu] at hF
    cases u with
    | struct fs =>
      simp only at hF
      obtain ⟨ys, n, _, hx, hlen, hys, hf⟩ := DataW.trod_struct hu h
      rw [Tryz.cTold21] at hlen
      match cs, hlen with
      | [v0, v1, v2, v3, v4, v5, v6, v7, v8], _ =>
        have hl2 : fs.toList.length = 4 := by have := congrArg List.length hF; simpa using this
        obtain ⟨l, hl⟩ : ∃ l, l = fs.toList := ⟨_, rfl⟩
        rw [← hl] at hF hl2
        match l, hl2 with
        | [f0, f1, f2, f3], _ =>
          simp only [List.map_cons, List.map_nil, List.cons.injEq, Prod.mk.injEq, and_true] at hF
          obtain ⟨⟨t0, o0⟩, ⟨t1, o1⟩, ⟨t2, o2⟩, ⟨t3, o3⟩⟩ := hF
          have g : ∀ (i : Nat) (f : Field), [f0, f1, f2, f3][i]? = some f → fs[i]? = some f := by
            intro i f hi
            rw [hl] at hi
            simpa using hi
          have r0 := hf 0 f0 (g 0 f0 rfl)
          have r1 := hf 1 f1 (g 1 f1 rfl)
          have r2 := hf 2 f2 (g 2 f2 rfl)
          have r3 := hf 3 f3 (g 3 f3 rfl)
          rw [t0, o0, Tryz.cellsCf] at r0
          rw [t1, o1, Tryz.cTs21] at r1
          rw [t2, o2, Tryz.cSv21] at r2
          rw [t3, o3, Tryz.cEvs21] at r3
          simp only [List.drop_zero, List.drop_succ_cons, List.take_succ_cons, List.take_zero] at r0 r1 r2 r3
          have hy2 : ys.length = 4 := by rw [hys]; have := congrArg List.length hl; simpa using this.symm
          match ys, hy2 with
          | [y0, y1, y2, y3], _ =>
            simp only [List.getElem?_cons_zero, List.getElem?_cons_succ] at r0 r1 r2 r3
            have hty : fs.toList.map (·.type) = [23, 24, 28, 29] := by rw [← hl]; simp [t0, t1, t2, t3]
            have hw : ∀ (j : Nat) (t : TypeId) (d : DataW H), [23, 24, 28, 29][j]? = some t → [y0.1, y1.1, y2.1, y3.1][j]? = some d → ∀ q ∈ d.weights Tryz.prog t, q ≤ reachBytes := fun j t d h1 h2 q hq => by
              apply hsz
              rw [hx]
              simp only [DataW.weights, hu]
              rw [hty]
              exact DataW.weights_mem_each (j := j) (t := t) (d := d) h1 h2 _ hq
            obtain ⟨ca, cb, cc, cd, e0, _⟩ := cf_open r0
            obtain ⟨lo, M, mc, ts, e1, hT, hM, hMc⟩ := ts_open (d := y1.1) (ps := y1.2) r1 (hw 1 24 y1.1 rfl rfl)
            obtain ⟨m, bo, bn, bc, xs, ho, hl', hc', e2, hI, hbn, hbc⟩ := sv21_open r2 (hw 2 28 y2.1 rfl rfl)
            obtain ⟨eo, en, ec, es, e3, hE, hen, hec, hfew, hbk⟩ := evs_in r3 (hw 3 29 y3.1 rfl rfl)
            simp only [List.cons.injEq, and_true] at e0 e2
            refine ⟨⟨ca, cb, cc, cd⟩, lo, M, mc, ts, m, bo, bn, bc, xs, ho, hl', hc', eo, en, ec, es, ?_, ⟨hT, hM, hMc, hI, hbn, hbc, hE, hen, hec, hfew⟩, ?_⟩
            · rw [e0.1, e0.2.1, e0.2.2.1, e0.2.2.2, e1, e2.1, e2.2.1, e2.2.2, e3]
            · rw [hx]
              simp only [Rows.uptoBulk, Rows.uptoBulkAll, List.map_cons, List.map_nil]
              omega
    | _ => simp at hF
end
end Go.Proofs.YtaaghcimfcjehaaGreatDoor

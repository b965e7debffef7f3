/- Texts of this claim laid together, one behind the other: contracts and plain lemmas; conditions as each names them. -/
import Derived.Test.YtaaghcimfcjehaaGreatDoorGp35
import Derived.Test.YtaaghcimfcjehaaGreatDoorRows
import Derived.Test.YtaaghcimfcjehaaGreatDoorGp26
import Derived.Test.YtaaghcimfcjehaaGreatDoorGp9
import Derived.Test.YtaaghcimfcjehaaGreatDoorGp2
/- What is told, as it comes in. Conditions as each names them. -/
namespace Go.Proofs.YtaaghcimfcjehaaGreatDoor
open Go.ChangeShapes Go.WideShapes Go.ChangeAt Go.RowKit Go.Lib
set_option linter.unusedVariables false
set_option linter.unusedSimpArgs false

section
variable {H : Type} {enc : TypeId × Value → H} {w : World}
theorem bulk_one (d : DataW H) : 1 ≤ Rows.uptoBulk d := by
  cases d with
  | lit l => cases l <;> simp [Rows.uptoBulk]
  | _ => simp [Rows.uptoBulk]
theorem bulk_mem {d : DataW H} : ∀ {l : List (DataW H)}, d ∈ l → Rows.uptoBulk d ≤ Rows.uptoBulkAll l
  | [], h => by cases h
  | x :: r, h => by
    simp only [Rows.uptoBulkAll]
    rcases List.mem_cons.1 h with e | e
    · subst e; omega
    · have := bulk_mem e; omega
theorem bulk_len : ∀ l : List (DataW H), l.length ≤ Rows.uptoBulkAll l
  | [] => by simp [Rows.uptoBulkAll]
  | x :: r => by have := bulk_one x; have := bulk_len r; simp only [Rows.uptoBulkAll, List.length_cons]; omega
theorem bulk_slice {t e : TypeId} {fuel : Nat} {ao : Option Addr} {L cap : Nat} {x : DataW H × List MemPlace} (ht : Tryz.prog.underlying t = some (.slice e)) (h : DataW.trod enc Tryz.prog w 0 (fun _ => true) true fuel t [.slice ao L cap] = some x) : L ≤ Rows.uptoBulk x.1 := by
  rcases Go.Deep.open_slice ht h with ⟨hcs, _⟩ | ⟨a, len, c, m, n, D, Pl, hcs, hb, hl, hm, hmm, hx, hE⟩
  · simp only [List.cons.injEq, Value.slice.injEq, and_true] at hcs
    omega
  · simp only [List.cons.injEq, Value.slice.injEq, and_true] at hcs
    rw [hx]
    simp only [Rows.uptoBulk]
    have := bulk_len ((List.range len).map D)
    simp only [List.length_map, List.length_range] at this
    omega
theorem evs_in {fuel : Nat} {v : Value} {x : DataW H × List MemPlace} (h : DataW.trod enc Tryz.prog w 0 (fun _ => true) true fuel 29 [v] = some x) (hsz : ∀ n ∈ x.1.weights Tryz.prog 29, n ≤ reachBytes) :
    ∃ ao L cap es, v = .slice ao L cap ∧ ERs w ao es ∧ L = es.length ∧ L ≤ cap ∧ cap ≤ 4398046511104 ∧ L ≤ Rows.uptoBulk x.1 := by
  obtain ⟨ao, L, cap, es, hh⟩ := evs_open (d := x.1) (ps := x.2) h hsz
  rcases hh with ⟨rfl, h1, h2, h3, h4, _⟩ | rfl
  · exact ⟨ao, L, cap, es, rfl, h1, h2, h3, by omega, bulk_slice Tryz.undEvs' h⟩
  · exact ⟨none, 0, 0, [], rfl, ERs.nil _ _, rfl, Nat.le_refl _, by omega, by omega⟩
theorem Tryz.undIs21 : Tryz.prog.underlying 25 = some (.slice 3) := by kernel_rfl
theorem Tryz.undHds21 : (match Tryz.prog.underlying 26 with | some (.slice _) => true | _ => false) = true := by kernel_rfl
theorem is21_open {fuel : Nat} {v : Value} {x : DataW H × List MemPlace} (h : DataW.trod enc Tryz.prog w 0 (fun _ => true) true fuel 25 [v] = some x) (hsz : ∀ n ∈ x.1.weights Tryz.prog 25, n ≤ reachBytes) :
    ∃ ao L cap ns, v = .slice ao L cap ∧ IRs w ao ns ∧ L = ns.length ∧ L ≤ cap := by
  rcases open_ints Tryz.undIs21 Tryz.eundI Tryz.ecI h with ⟨hcs, _⟩ | ⟨a, l, c, zs, hcs, _, hl, hm, hz, hx, hcell, hwz⟩
  · simp only [List.cons.injEq, and_true] at hcs
    exact ⟨none, 0, 0, [], hcs, ⟨fun h => by simp at h, by simp⟩, rfl, Nat.le_refl _⟩
  · simp only [List.cons.injEq, and_true] at hcs
    simp only [if_true] at hz
    have hw : zs.length * Tryz.prog.bytesOf 3 ≤ reachBytes := by
      apply hsz
      rw [hx]
      simp only [DataW.weights, Tryz.undIs21, lits, List.length_map]
      rw [show (zs.take l).length + (zs.drop l).length = zs.length by rw [← List.length_append, List.take_append_drop]]
      exact List.mem_cons_self
    rw [show Tryz.prog.bytesOf 3 = 8 from by kernel_rfl] at hw
    have hr := reachBytes_lt
    exact ⟨some a, l, c, zs.take l, hcs, IRs.of_open hl hz hcell (by omega), by rw [List.length_take]; omega, by omega⟩
theorem hds21_open {fuel : Nat} {v : Value} {x : DataW H × List MemPlace} (h : DataW.trod enc Tryz.prog w 0 (fun _ => true) true fuel 26 [v] = some x) : ∃ ao L cap, v = .slice ao L cap := by
  have hu := Tryz.undHds21
  cases hv : Tryz.prog.underlying 26 with
  | none => rw [hv] at hu; simp at hu
  | some u =>
    rw [hv] at hu
    cases u with
    | slice e =>
      rcases Go.Deep.open_slice hv h with ⟨hcs, _⟩ | ⟨a, len, c, m, n, D, Pl, hcs, _⟩
      · simp only [List.cons.injEq, and_true] at hcs
        exact ⟨none, 0, 0, hcs⟩
      · simp only [List.cons.injEq, and_true] at hcs
        exact ⟨_, _, _, hcs⟩
    | _ => simp at hu
theorem Tryz.svFields : (match Tryz.prog.underlying 28 with | some (.struct fs) => fs.toList.map (fun f => (f.type, f.offset)) | _ => []) = [(3, 0), (25, 1), (26, 2)] := by kernel_rfl
theorem Tryz.cSv21 : Tryz.prog.cellsOf 28 = 3 := by kernel_rfl
theorem Tryz.cIs21 : Tryz.prog.cellsOf 25 = 1 := by kernel_rfl
theorem Tryz.cHds21 : Tryz.prog.cellsOf 26 = 1 := by kernel_rfl
theorem Tryz.cTs21 : Tryz.prog.cellsOf 24 = 1 := by kernel_rfl
theorem Tryz.cEvs21 : Tryz.prog.cellsOf 29 = 1 := by kernel_rfl
theorem Tryz.cTold21 : Tryz.prog.cellsOf 31 = 9 := by kernel_rfl
theorem Tryz.toldFields : (match Tryz.prog.underlying 31 with | some (.struct fs) => fs.toList.map (fun f => (f.type, f.offset)) | _ => []) = [(23, 0), (24, 4), (28, 5), (29, 8)] := by kernel_rfl
set_option maxRecDepth 100000 in
theorem sv21_open {fuel : Nat} {cs : List Value} {x : DataW H × List MemPlace} (h : DataW.trod enc Tryz.prog w 0 (fun _ => true) true fuel 28 cs = some x) (hsz : ∀ n ∈ x.1.weights Tryz.prog 28, n ≤ reachBytes) :
    ∃ (m : Int) (bo : Option Addr) (bn bc : Nat) (xs : List Int) (ho : Option Addr) (hl hc : Nat), cs = [.int .i64 m, .slice bo bn bc, .slice ho hl hc] ∧ IRs w bo xs ∧ bn = xs.length ∧ bn ≤ bc := by
  have hF := Tryz.svFields
  cases hu : Tryz.prog.underlying 28 with
  | none => rw [hu] at hF; simp at hF
  | some u =>
    rw [hu] at hF
    cases u with
    | struct fs =>
      simp only at hF
      obtain ⟨ys, n, _, hx, hlen, hys, hf⟩ := DataW.trod_struct hu h
      rw [Tryz.cSv21] at hlen
      match cs, hlen with
      | [v0, v1, v2], _ =>
        have hl2 : fs.toList.length = 3 := by have := congrArg List.length hF; simpa using this
        obtain ⟨l, hl⟩ : ∃ l, l = fs.toList := ⟨_, rfl⟩
        rw [← hl] at hF hl2
        match l, hl2 with
        | [f0, f1, f2], _ =>
          simp only [List.map_cons, List.map_nil, List.cons.injEq, Prod.mk.injEq, and_true] at hF
          obtain ⟨⟨t0, o0⟩, ⟨t1, o1⟩, ⟨t2, o2⟩⟩ := hF
          have g : ∀ (i : Nat) (f : Field), [f0, f1, f2][i]? = some f → fs[i]? = some f := by
            intro i f hi
            rw [hl] at hi
            simpa using hi
          have r0 := hf 0 f0 (g 0 f0 rfl)
          have r1 := hf 1 f1 (g 1 f1 rfl)
          have r2 := hf 2 f2 (g 2 f2 rfl)
          rw [t0, o0, Tryz.ecI] at r0
          rw [t1, o1, Tryz.cIs21] at r1
          rw [t2, o2, Tryz.cHds21] at r2
          simp only [List.drop_zero, List.drop_succ_cons, List.take_succ_cons, List.take_zero] at r0 r1 r2
          have hy2 : ys.length = 3 := by rw [hys]; have := congrArg List.length hl; simpa using this.symm
          match ys, hy2 with
          | [y0, y1, y2], _ =>
            simp only [List.getElem?_cons_zero, List.getElem?_cons_succ] at r0 r1 r2
            have hty : fs.toList.map (·.type) = [3, 25, 26] := by rw [← hl]; simp [t0, t1, t2]
            have hw : ∀ (j : Nat) (t : TypeId) (d : DataW H), [3, 25, 26][j]? = some t → [y0.1, y1.1, y2.1][j]? = some d → ∀ q ∈ d.weights Tryz.prog t, q ≤ reachBytes := fun j t d h1 h2 q hq => by
              apply hsz
              rw [hx]
              simp only [DataW.weights, hu]
              rw [hty]
              exact DataW.weights_mem_each (j := j) (t := t) (d := d) h1 h2 _ hq
            obtain ⟨k0, e0, _, w0⟩ := DataW.trod_int Tryz.eundI r0
            obtain ⟨bo, Lb, cb, bs, e1, hB, hLb, hcb⟩ := is21_open r1 (hw 1 25 y1.1 rfl rfl)
            obtain ⟨ao, L, cap, e2⟩ := hds21_open r2
            simp only [List.cons.injEq, and_true] at e0
            exact ⟨k0, bo, Lb, cb, bs, ao, L, cap, by rw [e0, e1, e2], hB, hLb, hcb⟩
    | _ => simp at hF
/-- What is told, in memory. -/
structure ToB (w : World) (c : Cf) (lo : Option Addr) (M mc : Nat) (ts : List Tm) (bo : Option Addr) (bn bc : Nat) (xs : List Int) (eo : Option Addr) (en ec : Nat) (es : List Ev) : Prop where
  log : TRs w lo ts
  ln : M = ts.length
  lc : M ≤ mc
  bey : IRs w bo xs
  bl : bn = xs.length
  bcp : bn ≤ bc
  evs : ERs w eo es
  el : en = es.length
  ecp : en ≤ ec
  few : ec ≤ 4398046511104
set_option maxRecDepth 100000 in
theorem told_open {fuel : Nat} {cs : List Value} {x : DataW H × List MemPlace} (h : DataW.trod enc Tryz.prog w 0 (fun _ => true) true fuel 31 cs = some x) (hsz : ∀ n ∈ x.1.weights Tryz.prog 31, n ≤ reachBytes) :
    ∃ (c : Cf) (lo : Option Addr) (M mc : Nat) (ts : List Tm) (m : Int) (bo : Option Addr) (bn bc : Nat) (xs : List Int) (ho : Option Addr) (hl hc : Nat) (eo : Option Addr) (en ec : Nat) (es : List Ev), cs = [.int .i64 c.l, .int .i64 c.s, .int .i64 c.w, .int .i64 c.q, .slice lo M mc, .int .i64 m, .slice bo bn bc, .slice ho hl hc, .slice eo en ec] ∧ ToB w c lo M mc ts bo bn bc xs eo en ec es ∧ en ≤ Rows.uptoBulk x.1 := by
  have hF := Tryz.toldFields
  cases hu : Tryz.prog.underlying 31 with
  | none => rw [hu] at hF; simp at hF
  | some u =>
    rw [hu] at hF
    cases u with
    | struct fs =>
      simp only at hF
      obtain ⟨ys, n, _, hx, hlen, hys, hf⟩ := DataW.trod_struct hu h
      rw [Tryz.cTold21] at hlen
      match cs, hlen with
      | [v0, v1, v2, v3, v4, v5, v6, v7, v8], _ =>
        have hl2 : fs.toList.length = 4 := by have := congrArg List.length hF; simpa using this
        obtain ⟨l, hl⟩ : ∃ l, l = fs.toList := ⟨_, rfl⟩
        rw [← hl] at hF hl2
        match l, hl2 with
        | [f0, f1, f2, f3], _ =>
          simp only [List.map_cons, List.map_nil, List.cons.injEq, Prod.mk.injEq, and_true] at hF
          obtain ⟨⟨t0, o0⟩, ⟨t1, o1⟩, ⟨t2, o2⟩, ⟨t3, o3⟩⟩ := hF
          have g : ∀ (i : Nat) (f : Field), [f0, f1, f2, f3][i]? = some f → fs[i]? = some f := by
            intro i f hi
            rw [hl] at hi
            simpa using hi
          have r0 := hf 0 f0 (g 0 f0 rfl)
          have r1 := hf 1 f1 (g 1 f1 rfl)
          have r2 := hf 2 f2 (g 2 f2 rfl)
          have r3 := hf 3 f3 (g 3 f3 rfl)
          rw [t0, o0, Tryz.cellsCf] at r0
          rw [t1, o1, Tryz.cTs21] at r1
          rw [t2, o2, Tryz.cSv21] at r2
          rw [t3, o3, Tryz.cEvs21] at r3
          simp only [List.drop_zero, List.drop_succ_cons, List.take_succ_cons, List.take_zero] at r0 r1 r2 r3
          have hy2 : ys.length = 4 := by rw [hys]; have := congrArg List.length hl; simpa using this.symm
          match ys, hy2 with
          | [y0, y1, y2, y3], _ =>
            simp only [List.getElem?_cons_zero, List.getElem?_cons_succ] at r0 r1 r2 r3
            have hty : fs.toList.map (·.type) = [23, 24, 28, 29] := by rw [← hl]; simp [t0, t1, t2, t3]
            have hw : ∀ (j : Nat) (t : TypeId) (d : DataW H), [23, 24, 28, 29][j]? = some t → [y0.1, y1.1, y2.1, y3.1][j]? = some d → ∀ q ∈ d.weights Tryz.prog t, q ≤ reachBytes := fun j t d h1 h2 q hq => by
              apply hsz
              rw [hx]
              simp only [DataW.weights, hu]
              rw [hty]
              exact DataW.weights_mem_each (j := j) (t := t) (d := d) h1 h2 _ hq
            obtain ⟨ca, cb, cc, cd, e0, _⟩ := cf_open r0
            obtain ⟨lo, M, mc, ts, e1, hT, hM, hMc⟩ := ts_open (d := y1.1) (ps := y1.2) r1 (hw 1 24 y1.1 rfl rfl)
            obtain ⟨m, bo, bn, bc, xs, ho, hl', hc', e2, hI, hbn, hbc⟩ := sv21_open r2 (hw 2 28 y2.1 rfl rfl)
            obtain ⟨eo, en, ec, es, e3, hE, hen, hec, hfew, hbk⟩ := evs_in r3 (hw 3 29 y3.1 rfl rfl)
            simp only [List.cons.injEq, and_true] at e0 e2
            refine ⟨⟨ca, cb, cc, cd⟩, lo, M, mc, ts, m, bo, bn, bc, xs, ho, hl', hc', eo, en, ec, es, ?_, ⟨hT, hM, hMc, hI, hbn, hbc, hE, hen, hec, hfew⟩, ?_⟩
            · rw [e0.1, e0.2.1, e0.2.2.1, e0.2.2.2, e1, e2.1, e2.2.1, e2.2.2, e3]
            · rw [hx]
              simp only [Rows.uptoBulk, Rows.uptoBulkAll, List.map_cons, List.map_nil]
              omega
    | _ => simp at hF
end
end Go.Proofs.YtaaghcimfcjehaaGreatDoor
/- The marks of events: the program's Marks and the document's. Conditions: the events are at most 4194304. -/
namespace Go.Proofs.YtaaghcimfcjehaaGreatDoor
open Go.ChangeShapes Go.WideShapes Go.ChangeAt Go.RowKit Go.Lib
set_option linter.unusedVariables false
set_option linter.unusedSimpArgs false

/-- A row of numbers in block g. -/
def NR (w : World) (g : Nat) (ns : List Int) : Prop := w.heap[g]? = some (.cells (ns.map (Value.int .i64)).toArray 3 (0, 0))
theorem NR.keep {S : List Nat} {w w' : World} {g : Nat} {ns : List Int} (h : NR w g ns) (hf : Fr S w w') (hn : g ∉ S) : NR w' g ns := hf.keep h hn
theorem NR.cell {w : World} {g : Nat} {ns : List Int} (h : NR w g ns) (i : Nat) (hi : i < ns.length) : w.cell? ⟨g, i, none⟩ = some (.int .i64 (ns.getD i 0)) := by
  rw [cell_of_row _ _ _ _ _ _ h]
  simp [List.getD, hi]
theorem NR.free {w : World} {g : Nat} {ns : List Int} (h : NR w g ns) (i : Nat) : w.frozen? ⟨g, i, none⟩ = false := by
  unfold World.frozen?
  rw [h]
  rfl
theorem NR.put {w : World} {g j : Nat} {ns : List Int} (x : Int) (h : NR w g ns) : NR (w.setCell ⟨g, j, none⟩ (.int .i64 x)) g (ns.set j x) := by
  have h0 : w.heap[g]? = some (.cells (ns.map (Value.int .i64)).toArray 3 (0, 0)) := h
  have hlt := lt_of_block h0
  have h' : w.heap[g] = .cells (ns.map (Value.int .i64)).toArray 3 (0, 0) := by simpa [Array.getElem?_eq_getElem hlt] using h0
  show (w.heap.modify g _)[g]? = _
  rw [Array.getElem?_eq_getElem (by simpa using hlt), Array.getElem_modify_self, h']
  simp [List.map_set]
theorem made_ints (n : Nat) : (madeCells #[Value.int .i64 0] n).toList = (List.replicate n (0 : Int)).map (Value.int .i64) := by
  apply List.ext_getElem?
  intro i
  by_cases h : i < n
  · simp [madeCells, h, Nat.mod_one]
  · simp [madeCells, h]
theorem NR.put_fr {w : World} {g j : Nat} (x : Value) : Fr [g] w (w.setCell ⟨g, j, none⟩ x) := Fr.set w ⟨g, j, none⟩ x (by simp)
theorem NR.irs {w : World} {g : Nat} {ns : List Int} (h : NR w g ns) (hn : ns.length ≤ 17592186044416) : IRs w (some ⟨g, 0, none⟩) ns :=
  ⟨fun _ => ⟨g, 0, rfl, lt_of_block h, fun i hi => by rw [Nat.zero_add]; exact h.cell i hi⟩, hn⟩
theorem NR.own {w : World} {g : Nat} {ns : List Int} (h : NR w g ns) (hn : ns.length ≤ 4194304) : w.ownsRow 0 3 1 (.slice (some ⟨g, 0, none⟩) ns.length ns.length) ns.length (ints ns) := by
  refine ⟨by simp [ints], .inr ⟨g, ns.length, _, rfl, Nat.zero_le _, h, Nat.le_refl _, by unfold maxLen; omega, by simp, ?_⟩⟩
  simp only [ints, Nat.mul_one]
  exact List.take_of_length_le (by simp)
def mks (es : List Ev) : List Int := es.map (·.m)
theorem mks_get (es : List Ev) (i : Nat) (h : i < es.length) : (mks es).getD i 0 = (es.getD i Ev.no).m := by simp [mks, List.getD, h]
theorem getD_set21 (ns : List Int) (i j : Nat) (x : Int) (hi : i < ns.length) : (ns.set i x).getD j 0 = if j = i then x else ns.getD j 0 := by
  simp only [List.getD, List.getElem?_set]
  by_cases h : i = j
  · subst h; simp [hi]
  · simp [h, Ne.symm h]
theorem list_ext21 (a b : List Int) (hl : a.length = b.length) (h : ∀ j, j < b.length → a.getD j 0 = b.getD j 0) : a = b := by
  apply List.ext_getElem hl
  intro j h1 h2
  have := h j h2
  simpa [List.getD, h1, h2] using this
set_option maxHeartbeats 4000000 in
set_option maxRecDepth 100000 in
theorem marks_any (eo : Option Addr) (en ec : Nat) (es : List Ev) (w : World) (hE : ERs w eo es) (hen : en = es.length) (hk : en ≤ 4194304) :
    Calls Tryz.prog 16 #[.slice eo en ec] w fun e w' => ∃ g, e = .returned (.slice (some ⟨g, 0, none⟩) en en) ∧ w.heap.size ≤ g ∧ NR w' g (mks es) ∧ Fr [] w w' := by
  obtain ⟨iI, hiI, hzI, hsI, hbI⟩ := infoI_parts
  have HE : Hid (∀ W, Fr [] w W → ERs W eo es) := fun W hf => hE.keep hf
  have HL : Hid (en = es.length) := hen
  clear hE hen
  go_enter Tryz.func16, Tryz.ntmps16
  go_wp2_with (at_make; refine wpList_make_full _ rfl (.tmp 7) (.tmp 7) 25 rfl 0 3 iI _ 1 Tryz.undIs11 hiI hzI hsI .i64 .i64 (en : Int) (en : Int) en rfl rfl rfl rfl ?b2 ?b3 ?b4 ?_)
  case b2 => rw [hbI]; omega
  case b3 => unfold maxLen; omega
  case b4 => exact Nat.zero_le _
  intro w1 hown hgrow
  rw [made_ints] at hown
  have hrow : NR w1 w.heap.size (List.replicate en 0) := iown_full hown
  have hF1 : Fr [] w w1 := Fr.grown (S := []) hgrow (by simp)
  obtain ⟨g, hg⟩ : ∃ g, g = w.heap.size := ⟨_, rfl⟩
  rw [← hg] at hrow ⊢
  have hgw : w.heap.size ≤ g := by omega
  have HR0 : Hid (NR w1 g (List.replicate en 0)) := hrow
  clear hown hgrow hg hrow
  go_wp2_with fail
  go_loopw [11] (fun ii wr => ∃ (i : Nat) (ns : List Int), ii = .int .i64 i ∧ i ≤ en ∧ Hid (NR wr g ns ∧ ns.length = en ∧ ∀ j, j < i → ns.getD j 0 = (mks es).getD j 0) ∧ Fr [] w wr) (fun ii _ => en - (RowKit.intOf ii).toNat)
  case atStart => exact ⟨0, List.replicate en 0, rfl, Nat.zero_le _, ⟨HR0.out, by simp, fun j hj => by omega⟩, hF1⟩
  case round =>
    obtain ⟨i, ns, rfl, hin, HN, hF⟩ := hrel
    by_cases hi : i < en
    · have hi' : i < es.length := by rw [← HL.out]; exact hi
      obtain ⟨bb, off, rfl, _, hcE⟩ := (HE.out _ hF).lies (by omega)
      obtain ⟨d0, d1, d2, d3, d4, d5⟩ := hcE i hi'
      have HMi : Hid ((mks es).getD i 0 = (es.getD i Ev.no).m) := mks_get es i hi'
      generalize es.getD i Ev.no = E at d0 d1 d2 d3 d4 d5 HMi
      clear hcE
      obtain ⟨w3, HW3⟩ : ∃ w3, Hid (wr.alloc (.cells #[.int .i64 E.t, .int .u8 E.k, .int .i64 E.n, .int .i64 E.s, .int .i64 E.c, .int .i64 E.m] 62) = w3) := ⟨_, rfl⟩
      obtain ⟨B9, HB9⟩ : ∃ B9, Hid (B9 = wr.heap.size) := ⟨_, rfl⟩
      have hF3 : Fr [] wr w3 := by rw [← HW3.out]; exact Fr.alloc [] wr _
      have hby : w3.heap[B9]? = some (.cells #[.int .i64 E.t, .int .u8 E.k, .int .i64 E.n, .int .i64 E.s, .int .i64 E.c, .int .i64 E.m] 62 (0, 0)) := by rw [← HW3.out, HB9.out]; exact heap_alloc_new wr _
      have e5 : w3.cell? ⟨B9, 5, none⟩ = some (.int .i64 E.m) := by rw [cell_of_row _ _ _ _ _ _ hby]; rfl
      have hN3 := HN.out.1.keep hF3 (by simp)
      have g0 := hN3.cell i (by rw [HN.out.2.1]; exact hi)
      have g1 := hN3.free i
      have hN4 := hN3.put (j := i) E.m
      have hG4 : Fr [] w (w3.setCell ⟨g, i, none⟩ (.int .i64 E.m)) := (hF.then hF3).on (NR.put_fr _) (by intro x hx; simp at hx; omega)
      have HN4 : Hid (NR (w3.setCell ⟨g, i, none⟩ (.int .i64 E.m)) g (ns.set i E.m) ∧ (ns.set i E.m).length = en ∧ ∀ j, j < i + 1 → (ns.set i E.m).getD j 0 = (mks es).getD j 0) := by
        refine ⟨hN4, by rw [List.length_set]; exact HN.out.2.1, fun j hj => ?_⟩
        rw [getD_set21 ns i j _ (by rw [HN.out.2.1]; exact hi)]
        by_cases e : j = i
        · rw [if_pos e, e]; exact HMi.out.symm
        · rw [if_neg e]; exact HN.out.2.2 j (by omega)
      generalize ns.getD i 0 = old at g0
      clear hby hN3 hN4 HN hF3
      go_upto_region 5 with fail
      rw [HW3.out, ← HB9.out]
      clear HW3 HB9 d0 d1 d2 d3 d4 d5
      go_wp2_with fail
      go_roundw
      case rel => exact ⟨i + 1, _, by simp, by omega, HN4, hG4⟩
      case measure => simp [RowKit.intOf]; omega
    · obtain rfl : i = en := by omega
      have HR : Hid (NR wr g (mks es)) := by
        have e : ns = mks es := list_ext21 ns (mks es) (by rw [HN.out.2.1, HL.out]; simp [mks]) (fun j hj => HN.out.2.2 j (by rw [HL.out]; simpa [mks] using hj))
        have h := HN.out.1
        rw [e] at h
        exact h
      clear HN hi hin
      go_wp2_with fail
      go_ret
      exact ⟨g, rfl, hgw, HR.out, hF⟩
set_option maxHeartbeats 4000000 in
set_option maxRecDepth 100000 in
theorem xmarks_any (eo : Option Addr) (en ec : Nat) (es : List Ev) (w : World) (hE : ERs w eo es) (hen : en = es.length) (hk : en ≤ 4194304) :
    Calls Tryz.prog 18 #[.slice eo en ec] w fun e w' => ∃ o c, e = .returned (.slice o en c) ∧ IOw w.heap.size w' o en c (mks es) ∧ Fr [] w w' := by
  have HE : Hid (∀ W, Fr [] w W → ERs W eo es) := fun W hf => hE.keep hf
  have HL : Hid (en = es.length) := hen
  clear hE hen
  go_enter Tryz.func18, Tryz.ntmps18
  go_wp2_with fail
  go_loopw [3, 4] (fun ll ii wr => ∃ (o : Option Addr) (n c : Nat), ll = .slice o n c ∧ ii = .int .i64 n ∧ n ≤ en ∧ Hid (IOw w.heap.size wr o n c ((mks es).take n)) ∧ Fr [] w wr) (fun _ ii _ => en - (RowKit.intOf ii).toNat)
  case atStart => exact ⟨none, 0, 0, rfl, rfl, Nat.zero_le _, IOw.nil _ _, Fr.refl _ _⟩
  case round =>
    obtain ⟨o, i, c, rfl, rfl, hin, HO, hF⟩ := hrel
    by_cases hi : i < en
    · have hi' : i < es.length := by rw [← HL.out]; exact hi
      obtain ⟨bb, off, rfl, _, hcE⟩ := (HE.out _ hF).lies (by omega)
      obtain ⟨d0, d1, d2, d3, d4, d5⟩ := hcE i hi'
      have HMi : Hid ((mks es).take (i + 1) = (mks es).take i ++ [(es.getD i Ev.no).m]) := by
        show _ = _
        rw [itake_snoc (mks es) i (by simpa [mks] using hi'), mks_get es i hi']
      generalize es.getD i Ev.no = E at d0 d1 d2 d3 d4 d5 HMi
      clear hcE d0 d1 d2 d3 d4
      have HO2 : Hid (∀ W, Fr [] wr W → IOw w.heap.size W o i c ((mks es).take i)) := fun W hf => HO.out.keep hf
      have HB2 : Hid (∀ W W', Fr [] wr W → Fr (Value.slice o i c).ownBlock.toList W W' → Fr [] w W') := fun W W' h1 h2 => HO.out.on (Nat.le_refl _) hF h1 h2
      have hsz : w.heap.size ≤ wr.heap.size := hF.size
      go_wp2_with (first
        | (at_builtin; refine wpList_appI w.heap.size _ rfl _ _ rfl o i c _ rfl (HO2.out _ (Fr.alloc [] _ _)) _ _ E.m rfl ?hcell (by omega) ?hsize ?_
           case hcell => exact cell_new1 _ _ _
           case hsize => simp; omega
           intro o' c' w9 hO9 hF9 _
           have HR9 : Hid (_ ∧ _) := ⟨hO9, HB2.out _ _ (Fr.alloc [] _ _) hF9⟩
           clear hO9 hF9
           go_frame)
        | fail)
      go_roundw
      case rel => exact ⟨o', i + 1, c', rfl, by simp, by omega, (by rw [HMi.out]; exact HR9.out.1), HR9.out.2⟩
      case measure => simp [RowKit.intOf]; omega
    · obtain rfl : i = en := by omega
      have HR : Hid (IOw w.heap.size wr o i c (mks es)) := by
        have h := HO.out
        rw [List.take_of_length_le (by rw [HL.out]; simp [mks])] at h
        exact h
      have hii : ¬ ((i : Int) < (i : Int)) := by omega
      clear HO hi hin
      go_wp2_with fail
      go_ret
      exact ⟨o, c, rfl, HR.out, hF⟩
end Go.Proofs.YtaaghcimfcjehaaGreatDoor

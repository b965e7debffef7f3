/- Requests, asks, and keys with versions, as they come in. Conditions as each names them. -/
import Derived.Test.YtakbodlicfmkjaaGreatHl9
import Derived.Test.YtakbodlicfmkjaaGreatRm15
import Derived.Deep.Slices
namespace Go.Proofs.YtakbodlicfmkjaaGreat.O
open Go.ChangeShapes Go.WideShapes Go.ChangeAt Go.RowKit Go.Lib
set_option linter.unusedVariables false
set_option linter.unusedSimpArgs false
def hdC15 (o : Hd) : List Value := [.string o.key, .slice o.vo o.L o.cap]
/-- A request that came in: its cells r, the numbers ns of its list. -/
structure RqB (w : World) (r : Rv) (ns : List Int) : Prop where
  k : 0 ≤ r.k ∧ r.k ≤ 255
  f : -9223372036854775808 ≤ r.f ∧ r.f ≤ 9223372036854775807
  n : -9223372036854775808 ≤ r.n ∧ r.n ≤ 9223372036854775807
  wk : r.wk.size ≤ 140737488355328
  wv : r.wv.size ≤ 140737488355328
  key : r.key.size ≤ 140737488355328
  en : r.en.size ≤ 140737488355328
  is : IRs w r.bo ns
  len : r.bl = ns.length
  cap : r.bl ≤ r.bc
theorem RqB.keep {w w' : World} {r : Rv} {ns : List Int} (h : RqB w r ns) (hf : Fr [] w w') : RqB w' r ns := ⟨h.k, h.f, h.n, h.wk, h.wv, h.key, h.en, h.is.keep hf, h.len, h.cap⟩
/-- An ask that came in. -/
structure As where
  s : Bool
  r : Rv
  ns : List Int
def As.zero : As := ⟨false, Rv.zero, []⟩
def As.c (a : As) : List Value := .bool a.s :: a.r.cs
/-- The slice at ao reads as the asks os. -/
structure ARs (w : World) (ao : Option Addr) (os : List As) : Prop where
  lies : 0 < os.length → ∃ b off, ao = some ⟨b, off, none⟩ ∧ b < w.heap.size ∧ ∀ i, i < os.length → ∀ j, j < 10 → w.cell? ⟨b, off + i * 10 + j, none⟩ = (os.getD i As.zero).c[j]?
  few : os.length ≤ 140737488355328
  each : ∀ o ∈ os, RqB w o.r o.ns
theorem ARs.keep {w w' : World} {ao : Option Addr} {os : List As} (h : ARs w ao os) (hf : Fr [] w w') : ARs w' ao os := by
  refine ⟨fun h0 => ?_, h.few, fun o ho => (h.each o ho).keep hf⟩
  obtain ⟨b, off, e, hb, hc⟩ := h.lies h0
  exact ⟨b, off, e, Nat.lt_of_lt_of_le hb hf.size, fun i hi j hj => (World.cell?_of_block (hf.block b hb (by simp))).trans (hc i hi j hj)⟩
theorem agetD_mem (os : List As) (i : Nat) (h : i < os.length) : os.getD i As.zero ∈ os := by simp [List.getD, h]
section
variable {H : Type} {enc : TypeId × Value → H}
theorem weightsAll_mem {P : Program} {e : TypeId} : ∀ {ds : List (DataW H)} {d : DataW H}, d ∈ ds → ∀ n ∈ d.weights P e, n ∈ DataW.weightsAll P e ds
  | x :: r, d, hd, n, hn => by
    simp only [DataW.weightsAll, List.mem_append]
    rcases List.mem_cons.1 hd with rfl | hd
    · exact Or.inl hn
    · exact Or.inr (weightsAll_mem hd n hn)
theorem Tryz.undHds9 : Tryz.prog.underlying 82 = some (.slice 126) := by kernel_rfl
theorem Tryz.cellsHd9 : Tryz.prog.cellsOf 126 = 2 := by kernel_rfl
theorem Tryz.cellsReq : Tryz.prog.cellsOf 278 = 9 := by kernel_rfl
theorem Tryz.undRk : Tryz.prog.underlying 276 = some (.int .u8) := by kernel_rfl
theorem Tryz.cRk : Tryz.prog.cellsOf 276 = 1 := by kernel_rfl
theorem Tryz.undBl15 : Tryz.prog.underlying 4 = some .bool := by kernel_rfl
theorem Tryz.cBl15 : Tryz.prog.cellsOf 4 = 1 := by kernel_rfl
theorem Tryz.undI9 : Tryz.prog.underlying 3 = some (.int .i64) := by kernel_rfl
theorem Tryz.cI9 : Tryz.prog.cellsOf 3 = 1 := by kernel_rfl
theorem Tryz.cS9 : Tryz.prog.cellsOf 9 = 1 := by kernel_rfl
theorem Tryz.cVns9 : Tryz.prog.cellsOf 124 = 1 := by kernel_rfl
theorem Tryz.cIs9 : Tryz.prog.cellsOf 25 = 1 := by kernel_rfl
theorem Tryz.undIs9 : Tryz.prog.underlying 25 = some (.slice 3) := by kernel_rfl
theorem Tryz.hdFields9 : (match Tryz.prog.underlying 126 with | some (.struct fs) => fs.toList.map (fun f => (f.type, f.offset)) | _ => []) = [(9, 0), (124, 1)] := by kernel_rfl
theorem Tryz.reqFields : (match Tryz.prog.underlying 278 with | some (.struct fs) => fs.toList.map (fun f => (f.type, f.offset)) | _ => []) = [(276, 0), (3, 1), (3, 2), (56, 3), (9, 6), (9, 7), (25, 8)] := by kernel_rfl
theorem IRs.of_open15 {w : World} {a : Addr} {len cap : Nat} {zs : List Int} (hl : len ≤ cap) (hz : zs.length = cap) (hc : ∀ i, i < zs.length → w.cell? (a.add i) = some (.int .i64 (zs.getD i 0))) (hb : len ≤ 17592186044416) : IRs w (some a) (zs.take len) := by
  refine ⟨fun h0 => ?_, by simp; omega⟩
  rw [List.length_take] at h0
  obtain ⟨b, off, spot⟩ := a
  have hspot : spot = none := by simpa [Addr.add] using World.cell?_spot (hc 0 (by omega))
  subst hspot
  refine ⟨b, off, rfl, ?_, fun j hj => ?_⟩
  · have := World.block_lt_of_cell? w _ (hc 0 (by omega))
    simpa [Addr.add] using this
  · rw [List.length_take] at hj
    have h1 := hc j (by omega)
    rw [show (⟨b, off, none⟩ : Addr).add j = ⟨b, off + j, none⟩ from by simp [Addr.add]] at h1
    rw [h1]
    congr 2
    simp only [List.getD]
    rw [List.getElem?_take_of_lt (by omega)]
theorem is9_open {w : World} {fuel : Nat} {v : Value} {x : DataW H × List MemPlace} (h : DataW.trod enc Tryz.prog w 0 (fun _ => true) true fuel 25 [v] = some x) (hsz : ∀ n ∈ x.1.weights Tryz.prog 25, n ≤ reachBytes) :
    ∃ ao L cap ns, v = .slice ao L cap ∧ IRs w ao ns ∧ L = ns.length ∧ L ≤ cap := by
  rcases open_ints Tryz.undIs9 Tryz.undI9 Tryz.cI9 h with ⟨hcs, _⟩ | ⟨a, l, c, zs, hcs, _, hl, hm, hz, hx, hcell, hwz⟩
  · simp only [List.cons.injEq, and_true] at hcs
    exact ⟨none, 0, 0, [], hcs, ⟨fun h => by simp at h, by simp⟩, rfl, Nat.le_refl _⟩
  · simp only [List.cons.injEq, and_true] at hcs
    simp only [if_true] at hz
    have hw : zs.length * Tryz.prog.bytesOf 3 ≤ reachBytes := by
      apply hsz
      rw [hx]
      simp only [DataW.weights, Tryz.undIs9, lits, List.length_map]
      rw [show (zs.take l).length + (zs.drop l).length = zs.length by rw [← List.length_append, List.take_append_drop]]
      exact List.mem_cons_self
    rw [show Tryz.prog.bytesOf 3 = 8 from by kernel_rfl] at hw
    have hr := reachBytes_lt
    exact ⟨some a, l, c, zs.take l, hcs, IRs.of_open15 hl hz hcell (by omega), by rw [List.length_take]; omega, by omega⟩
set_option maxRecDepth 100000 in
theorem hd_open {w : World} {fuel : Nat} {cs : List Value} {x : DataW H × List MemPlace} (h : DataW.trod enc Tryz.prog w 0 (fun _ => true) true fuel 126 cs = some x) (hsz : ∀ n ∈ x.1.weights Tryz.prog 126, n ≤ reachBytes) :
    ∃ o : Hd, cs = hdC15 o ∧ HEach w o := by
  have hF := Tryz.hdFields9
  cases hu : Tryz.prog.underlying 126 with
  | none => rw [hu] at hF; simp at hF
  | some u =>
    rw [hu] at hF
    cases u with
    | struct fs =>
      simp only at hF
      obtain ⟨ys, n, _, hx, hlen, hys, hf⟩ := DataW.trod_struct hu h
      rw [Tryz.cellsHd9] at hlen
      match cs, hlen with
      | [v0, v1], _ =>
        have hl2 : fs.toList.length = 2 := by have := congrArg List.length hF; simpa using this
        obtain ⟨l, hl⟩ : ∃ l, l = fs.toList := ⟨_, rfl⟩
        rw [← hl] at hF hl2
        match l, hl2 with
        | [f0, f1], _ =>
          simp only [List.map_cons, List.map_nil, List.cons.injEq, Prod.mk.injEq, and_true] at hF
          obtain ⟨⟨t0, o0⟩, ⟨t1, o1⟩⟩ := hF
          have g : ∀ (i : Nat) (f : Field), [f0, f1][i]? = some f → fs[i]? = some f := by
            intro i f hi
            rw [hl] at hi
            simpa using hi
          have r0 := hf 0 f0 (g 0 f0 rfl)
          have r1 := hf 1 f1 (g 1 f1 rfl)
          rw [t0, o0, Tryz.cS9] at r0
          rw [t1, o1, Tryz.cVns9] at r1
          simp only [List.drop_zero, List.drop_succ_cons, List.take_succ_cons, List.take_zero] at r0 r1
          have hy2 : ys.length = 2 := by rw [hys]; have := congrArg List.length hl; simpa using this.symm
          match ys, hy2 with
          | [y0, y1], _ =>
            simp only [List.getElem?_cons_zero, List.getElem?_cons_succ] at r0 r1
            have hty : fs.toList.map (·.type) = [9, 124] := by rw [← hl]; simp [t0, t1]
            have hw : ∀ (j : Nat) (t : TypeId) (d : DataW H), [9, 124][j]? = some t → [y0.1, y1.1][j]? = some d → ∀ q ∈ d.weights Tryz.prog t, q ≤ reachBytes := fun j t d h1 h2 q hq => by
              apply hsz
              rw [hx]
              simp only [DataW.weights, hu]
              rw [hty]
              exact DataW.weights_mem_each (j := j) (t := t) (d := d) h1 h2 _ hq
            obtain ⟨s0, e0, x0, _⟩ := DataW.trod_string Tryz.undStr r0
            obtain ⟨ao, L, cap, vs, e1, hV, hL, hc⟩ := vs_open (d := y1.1) (ps := y1.2) r1 (hw 1 124 y1.1 rfl rfl)
            simp only [List.cons.injEq, and_true] at e0
            have hk := hw 0 9 y0.1 rfl rfl s0.size (by rw [x0]; simp only [DataW.weights, List.mem_singleton]; show s0.data.size = _; simp)
            have hr := reachBytes_lt
            refine ⟨⟨s0, ao, L, cap, vs⟩, ?_, ⟨by simp only; omega, hL, hc, hV⟩⟩
            simp only [hdC15]
            rw [e0, e1]
    | _ => simp at hF
set_option maxRecDepth 100000 in
theorem rq_open {w : World} {fuel : Nat} {cs : List Value} {x : DataW H × List MemPlace} (h : DataW.trod enc Tryz.prog w 0 (fun _ => true) true fuel 278 cs = some x) (hsz : ∀ n ∈ x.1.weights Tryz.prog 278, n ≤ reachBytes) :
    ∃ (r : Rv) (ns : List Int), cs = r.cs ∧ RqB w r ns := by
  have hF := Tryz.reqFields
  cases hu : Tryz.prog.underlying 278 with
  | none => rw [hu] at hF; simp at hF
  | some u =>
    rw [hu] at hF
    cases u with
    | struct fs =>
      simp only at hF
      obtain ⟨ys, n, _, hx, hlen, hys, hf⟩ := DataW.trod_struct hu h
      rw [Tryz.cellsReq] at hlen
      match cs, hlen with
      | [v0, v1, v2, v3, v4, v5, v6, v7, v8], _ =>
        have hl2 : fs.toList.length = 7 := by have := congrArg List.length hF; simpa using this
        obtain ⟨l, hl⟩ : ∃ l, l = fs.toList := ⟨_, rfl⟩
        rw [← hl] at hF hl2
        match l, hl2 with
        | [f0, f1, f2, f3, f4, f5, f6], _ =>
          simp only [List.map_cons, List.map_nil, List.cons.injEq, Prod.mk.injEq, and_true] at hF
          obtain ⟨⟨t0, o0⟩, ⟨t1, o1⟩, ⟨t2, o2⟩, ⟨t3, o3⟩, ⟨t4, o4⟩, ⟨t5, o5⟩, ⟨t6, o6⟩⟩ := hF
          have g : ∀ (i : Nat) (f : Field), [f0, f1, f2, f3, f4, f5, f6][i]? = some f → fs[i]? = some f := by
            intro i f hi
            rw [hl] at hi
            simpa using hi
          have r0 := hf 0 f0 (g 0 f0 rfl)
          have r1 := hf 1 f1 (g 1 f1 rfl)
          have r2 := hf 2 f2 (g 2 f2 rfl)
          have r3 := hf 3 f3 (g 3 f3 rfl)
          have r4 := hf 4 f4 (g 4 f4 rfl)
          have r5 := hf 5 f5 (g 5 f5 rfl)
          have r6 := hf 6 f6 (g 6 f6 rfl)
          rw [t0, o0, Tryz.cRk] at r0
          rw [t1, o1, Tryz.cI9] at r1
          rw [t2, o2, Tryz.cI9] at r2
          rw [t3, o3, Tryz.cellsWt] at r3
          rw [t4, o4, Tryz.cS9] at r4
          rw [t5, o5, Tryz.cS9] at r5
          rw [t6, o6, Tryz.cIs9] at r6
          simp only [List.drop_zero, List.drop_succ_cons, List.take_succ_cons, List.take_zero] at r0 r1 r2 r3 r4 r5 r6
          have hy2 : ys.length = 7 := by rw [hys]; have := congrArg List.length hl; simpa using this.symm
          match ys, hy2 with
          | [y0, y1, y2, y3, y4, y5, y6], _ =>
            simp only [List.getElem?_cons_zero, List.getElem?_cons_succ] at r0 r1 r2 r3 r4 r5 r6
            have hty : fs.toList.map (·.type) = [276, 3, 3, 56, 9, 9, 25] := by rw [← hl]; simp [t0, t1, t2, t3, t4, t5, t6]
            have hw : ∀ (j : Nat) (t : TypeId) (d : DataW H), [276, 3, 3, 56, 9, 9, 25][j]? = some t → [y0.1, y1.1, y2.1, y3.1, y4.1, y5.1, y6.1][j]? = some d → ∀ q ∈ d.weights Tryz.prog t, q ≤ reachBytes := fun j t d h1 h2 q hq => by
              apply hsz
              rw [hx]
              simp only [DataW.weights, hu]
              rw [hty]
              exact DataW.weights_mem_each (j := j) (t := t) (d := d) h1 h2 _ hq
            obtain ⟨k0, e0, _, w0⟩ := DataW.trod_int Tryz.undRk r0
            obtain ⟨k1, e1, _, w1⟩ := DataW.trod_int Tryz.undI9 r1
            obtain ⟨k2, e2, _, w2⟩ := DataW.trod_int Tryz.undI9 r2
            obtain ⟨wk, wv, wd, e3, hwk, hwv⟩ := wt_open r3
            obtain ⟨s4, e4, x4, _⟩ := DataW.trod_string Tryz.undStr r4
            obtain ⟨s5, e5, x5, _⟩ := DataW.trod_string Tryz.undStr r5
            obtain ⟨bo, M, cb, ns, e6, hI, hM, hMc⟩ := is9_open r6 (hw 6 25 y6.1 rfl rfl)
            have b0 := bounds_u8 w0
            have b1 := bounds_i64 w1
            have b2 := bounds_i64 w2
            simp only [List.cons.injEq, and_true] at e0 e1 e2 e3 e4 e5
            have hk4 := hw 4 9 y4.1 rfl rfl s4.size (by rw [x4]; simp only [DataW.weights, List.mem_singleton]; show s4.data.size = _; simp)
            have hk5 := hw 5 9 y5.1 rfl rfl s5.size (by rw [x5]; simp only [DataW.weights, List.mem_singleton]; show s5.data.size = _; simp)
            have hk3 := hw 3 56 y3.1 rfl rfl wk.size hwk
            have hk3' := hw 3 56 y3.1 rfl rfl wv.size hwv
            have hr := reachBytes_lt
            refine ⟨⟨k0, k1, k2, wk, wv, wd, s4, s5, bo, M, cb⟩, ns, ?_, ⟨by simp only; omega, by simp only; omega, by simp only; omega, by simp only; omega, by simp only; omega, by simp only; omega, by simp only; omega, hI, hM, hMc⟩⟩
            simp only [Rv.cs]
            rw [e0, e1, e2, e3.1, e3.2.1, e3.2.2, e4, e5, e6]
    | _ => simp at hF
theorem hs9_open {w : World} {fuel : Nat} {v : Value} {d : DataW H} {ps : List MemPlace} (h : DataW.trod enc Tryz.prog w 0 (fun _ => true) true fuel 82 [v] = some (d, ps)) (hsz : ∀ n ∈ d.weights Tryz.prog 82, n ≤ reachBytes) :
    ∃ ao L cap os, v = .slice ao L cap ∧ HRs w ao os ∧ L = os.length ∧ L ≤ cap ∧ L ≤ 3518437208780 := by
  rcases Go.Deep.open_slice Tryz.undHds9 h with ⟨hcs, _⟩ | ⟨a, len, cap, m, n, D, Pl, hcs, hb, hl, hm, hmm, hx, hE⟩
  · simp only [List.cons.injEq, and_true] at hcs
    exact ⟨none, 0, 0, [], hcs, ⟨fun h => by simp at h, by simp, by simp⟩, rfl, Nat.le_refl _, by omega⟩
  · simp only [List.cons.injEq, and_true] at hcs
    simp only [if_true] at hmm
    subst hmm
    rw [Tryz.cellsHd9] at hE hx
    have hd : d = .slice ((List.range len).map D) ((List.range (m - len)).map fun j => D (len + j)) := by have := congrArg Prod.fst hx; simpa using this
    have hr := reachBytes_lt
    have hW : ∀ i, i < len → ∀ q ∈ (D i).weights Tryz.prog 126, q ≤ reachBytes := by
      intro i hi q hq
      apply hsz
      rw [hd]
      simp only [DataW.weights, Tryz.undHds9]
      refine List.mem_cons_of_mem _ (List.mem_append_left _ ?_)
      exact weightsAll_mem (List.mem_map.2 ⟨i, by simpa using hi, rfl⟩) _ hq
    have hO : ∀ i, i < len → ∃ o : Hd, (w.cells? 0 (a.add (i * 2)) 2 = some (hdC15 o)) ∧ HEach w o := by
      intro i hi
      obtain ⟨cs', h1, h2⟩ := hE i (by omega)
      obtain ⟨o, rfl, hT⟩ := hd_open h2 (hW i hi)
      exact ⟨o, h1, hT⟩
    haveI : Inhabited Hd := ⟨Hd.zero⟩
    obtain ⟨F, hF⟩ := Go.Deep.choose_lt hO
    have hlen : len ≤ 3518437208780 := by
      have hw : len * Tryz.prog.bytesOf 126 ≤ reachBytes := by
        refine Nat.le_trans (Nat.mul_le_mul_right _ hl) (hsz _ ?_)
        rw [hd]
        simp only [DataW.weights, Tryz.undHds9, List.length_map, List.length_range]
        rw [show len + (m - len) = m by omega]
        exact List.mem_cons_self
      rw [show Tryz.prog.bytesOf 126 = 40 from by kernel_rfl] at hw
      have hr2 : reachBytes = 140737488351232 := rfl
      omega
    refine ⟨some a, len, m, (List.range len).map F, hcs, ⟨fun h0 => ?_, by simp; omega, ?_⟩, by simp, hl, hlen⟩
    · simp only [List.length_map, List.length_range] at h0 ⊢
      have hc0 := (World.cells?_some (hF 0 (by omega)).1).2.2
      obtain ⟨b, off, spot⟩ := a
      have hspot : spot = none := by
        have := hc0 0 (by omega)
        simp [hdC15] at this
        simpa [Addr.add] using World.cell?_spot this
      subst hspot
      have hcell : ∀ i, i < len → ∀ j, j < 2 → w.cell? ⟨b, off + i * 2 + j, none⟩ = (hdC15 (F i))[j]? := by
        intro i hi j hj
        have := (World.cells?_some (hF i (by omega)).1).2.2 j hj
        rw [show ((⟨b, off, none⟩ : Addr).add (i * 2)).add j = ⟨b, off + i * 2 + j, none⟩ from by rw [Addr.add_lit, Addr.add_lit]] at this
        exact this
      refine ⟨b, off, rfl, World.block_lt_of_cell? w ⟨b, off + 0 * 2 + 0, none⟩ (by rw [hcell 0 (by omega) 0 (by omega)]; rfl), fun i hi => ?_⟩
      have e : ((List.range len).map F).getD i Hd.zero = F i := by simp [List.getD, hi]
      rw [e]
      exact ⟨hcell i hi 0 (by omega), hcell i hi 1 (by omega)⟩
    · intro t ht
      obtain ⟨i, hi, rfl⟩ := List.mem_map.1 ht
      exact (hF i (by simpa using hi)).2
end
end Go.Proofs.YtakbodlicfmkjaaGreat.O

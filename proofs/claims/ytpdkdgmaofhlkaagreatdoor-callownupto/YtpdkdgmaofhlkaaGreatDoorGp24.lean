/- Texts of this claim laid together, one behind the other: contracts and plain lemmas; conditions as each names them. -/
import Derived.Test.YtpdkdgmaofhlkaaGreatDoorGp20
import Derived.Test.YtpdkdgmaofhlkaaGreatDoorGp23
import Derived.Deep.Slices
/- Asks of a task as they come in. No conditions. -/
namespace Go.Proofs.YtpdkdgmaofhlkaaGreatDoor
open Go.ChangeShapes Go.WideShapes Go.ChangeAt Go.RowKit Go.Lib
set_option linter.unusedVariables false
set_option linter.unusedSimpArgs false

/-- An ask, and what it reads as. -/
structure Aj where
  k : Int
  ma : Int
  le : Int
  bo : Option Addr
  bl : Nat
  bc : Nat
  ns : List Int
  r : Rp
  es : List Ey
  hs : List Hd
def Rp.c (r : Rp) : List Value := [.int .i64 r.to_, .bool r.ok, .slice r.eo r.el r.ec, .slice r.ho r.hl r.hc, .int .i64 r.ct]
def Aj.c (a : Aj) : List Value := .int .u8 a.k :: .int .i64 a.ma :: .int .i64 a.le :: .slice a.bo a.bl a.bc :: a.r.c
def Aj.zero : Aj := ⟨0, 0, 0, none, 0, 0, [], ⟨0, false, none, 0, 0, none, 0, 0, 0⟩, [], []⟩
/-- A reply can be read. -/
structure RpB (w : World) (r : Rp) (es : List Ey) (hs : List Hd) : Prop where
  to_ : -9223372036854775808 ≤ r.to_ ∧ r.to_ ≤ 9223372036854775807
  ct : -9223372036854775808 ≤ r.ct ∧ r.ct ≤ 9223372036854775807
  ye : YRs w r.eo es
  el : r.el = es.length
  ec : r.el ≤ r.ec
  yh : HRs w r.ho hs
  hl : r.hl = hs.length
  hc : r.hl ≤ r.hc
/-- An ask can be read. -/
structure AjB (w : World) (a : Aj) : Prop where
  k : 0 ≤ a.k ∧ a.k ≤ 255
  ma : -9223372036854775808 ≤ a.ma ∧ a.ma ≤ 9223372036854775807
  le : -9223372036854775808 ≤ a.le ∧ a.le ≤ 9223372036854775807
  is : IRs w a.bo a.ns
  bl : a.bl = a.ns.length
  bc : a.bl ≤ a.bc
  rp : RpB w a.r a.es a.hs
theorem RpB.keep {w w' : World} {r : Rp} {es : List Ey} {hs : List Hd} (h : RpB w r es hs) (hf : Fr [] w w') : RpB w' r es hs := ⟨h.to_, h.ct, h.ye.keep hf, h.el, h.ec, h.yh.keep hf, h.hl, h.hc⟩
theorem AjB.keep {w w' : World} {a : Aj} (h : AjB w a) (hf : Fr [] w w') : AjB w' a := ⟨h.k, h.ma, h.le, h.is.keep hf, h.bl, h.bc, h.rp.keep hf⟩
/-- The slice at ao reads as the asks. -/
structure JRs (w : World) (ao : Option Addr) (os : List Aj) : Prop where
  lies : 0 < os.length → ∃ b off, ao = some ⟨b, off, none⟩ ∧ b < w.heap.size ∧ ∀ i, i < os.length → ∀ j, j < 9 → w.cell? ⟨b, off + i * 9 + j, none⟩ = (os.getD i Aj.zero).c[j]?
  few : os.length ≤ 140737488355328
  each : ∀ o ∈ os, AjB w o
theorem JRs.keep {w w' : World} {ao : Option Addr} {os : List Aj} (h : JRs w ao os) (hf : Fr [] w w') : JRs w' ao os := by
  refine ⟨fun h0 => ?_, h.few, fun x hx => (h.each x hx).keep hf⟩
  obtain ⟨b, off, e, hb, hc⟩ := h.lies h0
  exact ⟨b, off, e, Nat.lt_of_lt_of_le hb hf.size, fun i hi j hj => (World.cell?_of_block (hf.block b hb (by simp))).trans (hc i hi j hj)⟩
theorem jgetD_mem (os : List Aj) (i : Nat) (h : i < os.length) : os.getD i Aj.zero ∈ os := by simp [List.getD, h]
theorem Tryz.cEns17 : Tryz.prog.cellsOf 50 = 1 := by kernel_rfl
theorem Tryz.cHds17 : Tryz.prog.cellsOf 51 = 1 := by kernel_rfl
theorem Tryz.cAk17 : Tryz.prog.cellsOf 48 = 1 := by kernel_rfl
theorem Tryz.undAk17 : Tryz.prog.underlying 48 = some (.int .u8) := by kernel_rfl
theorem Tryz.undAjs : Tryz.prog.underlying 29 = some (.slice 55) := by kernel_rfl
theorem Tryz.undHds9 : Tryz.prog.underlying 51 = some (.slice 97) := by kernel_rfl
theorem Tryz.cellsHd9 : Tryz.prog.cellsOf 97 = 2 := by kernel_rfl
theorem Tryz.undBl15 : Tryz.prog.underlying 4 = some .bool := by kernel_rfl
theorem Tryz.cBl15 : Tryz.prog.cellsOf 4 = 1 := by kernel_rfl
theorem Tryz.undI9 : Tryz.prog.underlying 3 = some (.int .i64) := by kernel_rfl
theorem Tryz.cI9 : Tryz.prog.cellsOf 3 = 1 := by kernel_rfl
theorem Tryz.cS9 : Tryz.prog.cellsOf 9 = 1 := by kernel_rfl
theorem Tryz.cVns9 : Tryz.prog.cellsOf 95 = 1 := by kernel_rfl
theorem Tryz.cIs9 : Tryz.prog.cellsOf 49 = 1 := by kernel_rfl
theorem Tryz.undIs9 : Tryz.prog.underlying 49 = some (.slice 3) := by kernel_rfl
theorem Tryz.hdFields9 : (match Tryz.prog.underlying 97 with | some (.struct fs) => fs.toList.map (fun f => (f.type, f.offset)) | _ => []) = [(9, 0), (95, 1)] := by kernel_rfl
theorem Tryz.resp_openC : Tryz.prog.cellsOf 53 = 5 := by kernel_rfl
theorem Tryz.resp_openF : (match Tryz.prog.underlying 53 with | some (.struct fs) => fs.toList.map (fun f => (f.type, f.offset)) | _ => []) = [(3, 0), (4, 1), (50, 2), (51, 3), (3, 4)] := by kernel_rfl
theorem Tryz.ask17_openC : Tryz.prog.cellsOf 55 = 9 := by kernel_rfl
theorem Tryz.ask17_openF : (match Tryz.prog.underlying 55 with | some (.struct fs) => fs.toList.map (fun f => (f.type, f.offset)) | _ => []) = [(48, 0), (3, 1), (3, 2), (49, 3), (53, 4)] := by kernel_rfl
section
variable {H : Type} {enc : TypeId × Value → H}
theorem IRs.of_open15 {w : World} {a : Addr} {len cap : Nat} {zs : List Int} (hl : len ≤ cap) (hz : zs.length = cap) (hc : ∀ i, i < zs.length → w.cell? (a.add i) = some (.int .i64 (zs.getD i 0))) (hb : len ≤ 17592186044416) : IRs w (some a) (zs.take len) := by
  refine ⟨fun h0 => ?_, by simp; omega⟩
  rw [List.length_take] at h0
  obtain ⟨b, off, spot⟩ := a
  have hspot : spot = none := by simpa [Addr.add] using World.cell?_spot (hc 0 (by omega))
  subst hspot
  refine ⟨b, off, rfl, ?_, fun j hj => ?_⟩
  · have := World.block_lt_of_cell? w _ (hc 0 (by omega))
    simpa [Addr.add] using this
  · rw [List.length_take] at hj
    have h1 := hc j (by omega)
    rw [show (⟨b, off, none⟩ : Addr).add j = ⟨b, off + j, none⟩ from by simp [Addr.add]] at h1
    rw [h1]
    congr 2
    simp only [List.getD]
    rw [List.getElem?_take_of_lt (by omega)]
theorem is9_open {w : World} {fuel : Nat} {v : Value} {x : DataW H × List MemPlace} (h : DataW.trod enc Tryz.prog w 0 (fun _ => true) true fuel 49 [v] = some x) (hsz : ∀ n ∈ x.1.weights Tryz.prog 49, n ≤ reachBytes) :
    ∃ ao L cap ns, v = .slice ao L cap ∧ IRs w ao ns ∧ L = ns.length ∧ L ≤ cap := by
  rcases open_ints Tryz.undIs9 Tryz.undI9 Tryz.cI9 h with ⟨hcs, _⟩ | ⟨a, l, c, zs, hcs, _, hl, hm, hz, hx, hcell, hwz⟩
  · simp only [List.cons.injEq, and_true] at hcs
    exact ⟨none, 0, 0, [], hcs, ⟨fun h => by simp at h, by simp⟩, rfl, Nat.le_refl _⟩
  · simp only [List.cons.injEq, and_true] at hcs
    simp only [if_true] at hz
    have hw : zs.length * Tryz.prog.bytesOf 3 ≤ reachBytes := by
      apply hsz
      rw [hx]
      simp only [DataW.weights, Tryz.undIs9, lits, List.length_map]
      rw [show (zs.take l).length + (zs.drop l).length = zs.length by rw [← List.length_append, List.take_append_drop]]
      exact List.mem_cons_self
    rw [show Tryz.prog.bytesOf 3 = 8 from by kernel_rfl] at hw
    have hr := reachBytes_lt
    exact ⟨some a, l, c, zs.take l, hcs, IRs.of_open15 hl hz hcell (by omega), by rw [List.length_take]; omega, by omega⟩
set_option maxRecDepth 100000 in
theorem hd_open {w : World} {fuel : Nat} {cs : List Value} {x : DataW H × List MemPlace} (h : DataW.trod enc Tryz.prog w 0 (fun _ => true) true fuel 97 cs = some x) (hsz : ∀ n ∈ x.1.weights Tryz.prog 97, n ≤ reachBytes) :
    ∃ o : Hd, cs = hdC o ∧ HEach w o := by
  have hF := Tryz.hdFields9
  cases hu : Tryz.prog.underlying 97 with
  | none => rw [hu] at hF; simp at hF
  | some u =>
    rw [hu] at hF
    cases u with
    | struct fs =>
      simp only at hF
      obtain ⟨ys, n, _, hx, hlen, hys, hf⟩ := DataW.trod_struct hu h
      rw [Tryz.cellsHd9] at hlen
      match cs, hlen with
      | [v0, v1], _ =>
        have hl2 : fs.toList.length = 2 := by have := congrArg List.length hF; simpa using this
        obtain ⟨l, hl⟩ : ∃ l, l = fs.toList := ⟨_, rfl⟩
        rw [← hl] at hF hl2
        match l, hl2 with
        | [f0, f1], _ =>
          simp only [List.map_cons, List.map_nil, List.cons.injEq, Prod.mk.injEq, and_true] at hF
          obtain ⟨⟨t0, o0⟩, ⟨t1, o1⟩⟩ := hF
          have g : ∀ (i : Nat) (f : Field), [f0, f1][i]? = some f → fs[i]? = some f := by
            intro i f hi
            rw [hl] at hi
            simpa using hi
          have r0 := hf 0 f0 (g 0 f0 rfl)
          have r1 := hf 1 f1 (g 1 f1 rfl)
          rw [t0, o0, Tryz.cS9] at r0
          rw [t1, o1, Tryz.cVns9] at r1
          simp only [List.drop_zero, List.drop_succ_cons, List.take_succ_cons, List.take_zero] at r0 r1
          have hy2 : ys.length = 2 := by rw [hys]; have := congrArg List.length hl; simpa using this.symm
          match ys, hy2 with
          | [y0, y1], _ =>
            simp only [List.getElem?_cons_zero, List.getElem?_cons_succ] at r0 r1
            have hty : fs.toList.map (·.type) = [9, 95] := by rw [← hl]; simp [t0, t1]
            have hw : ∀ (j : Nat) (t : TypeId) (d : DataW H), [9, 95][j]? = some t → [y0.1, y1.1][j]? = some d → ∀ q ∈ d.weights Tryz.prog t, q ≤ reachBytes := fun j t d h1 h2 q hq => by
              apply hsz
              rw [hx]
              simp only [DataW.weights, hu]
              rw [hty]
              exact DataW.weights_mem_each (j := j) (t := t) (d := d) h1 h2 _ hq
            obtain ⟨s0, e0, x0, _⟩ := DataW.trod_string Tryz.undStr r0
            obtain ⟨ao, L, cap, vs, e1, hV, hL, hc⟩ := vs_open (d := y1.1) (ps := y1.2) r1 (hw 1 95 y1.1 rfl rfl)
            simp only [List.cons.injEq, and_true] at e0
            have hk := hw 0 9 y0.1 rfl rfl s0.size (by rw [x0]; simp only [DataW.weights, List.mem_singleton]; show s0.data.size = _; simp)
            have hr := reachBytes_lt
            refine ⟨⟨s0, ao, L, cap, vs⟩, ?_, ⟨by simp only; omega, hL, hc, hV⟩⟩
            simp only [hdC]
            rw [e0, e1]
    | _ => simp at hF
set_option maxRecDepth 100000 in
theorem hs9_open {w : World} {fuel : Nat} {v : Value} {d : DataW H} {ps : List MemPlace} (h : DataW.trod enc Tryz.prog w 0 (fun _ => true) true fuel 51 [v] = some (d, ps)) (hsz : ∀ n ∈ d.weights Tryz.prog 51, n ≤ reachBytes) :
    ∃ ao L cap os, v = .slice ao L cap ∧ HRs w ao os ∧ L = os.length ∧ L ≤ cap ∧ L ≤ 3518437208780 := by
  rcases Go.Deep.open_slice Tryz.undHds9 h with ⟨hcs, _⟩ | ⟨a, len, cap, m, n, D, Pl, hcs, hb, hl, hm, hmm, hx, hE⟩
  · simp only [List.cons.injEq, and_true] at hcs
    exact ⟨none, 0, 0, [], hcs, ⟨fun h => by simp at h, by simp, by simp⟩, rfl, Nat.le_refl _, by omega⟩
  · simp only [List.cons.injEq, and_true] at hcs
    simp only [if_true] at hmm
    subst hmm
    rw [Tryz.cellsHd9] at hE hx
    have hd : d = .slice ((List.range len).map D) ((List.range (m - len)).map fun j => D (len + j)) := by have := congrArg Prod.fst hx; simpa using this
    have hr := reachBytes_lt
    have hW : ∀ i, i < len → ∀ q ∈ (D i).weights Tryz.prog 97, q ≤ reachBytes := by
      intro i hi q hq
      apply hsz
      rw [hd]
      simp only [DataW.weights, Tryz.undHds9]
      refine List.mem_cons_of_mem _ (List.mem_append_left _ ?_)
      exact vweightsAll_mem (List.mem_map.2 ⟨i, by simpa using hi, rfl⟩) _ hq
    have hO : ∀ i, i < len → ∃ o : Hd, (w.cells? 0 (a.add (i * 2)) 2 = some (hdC o)) ∧ HEach w o := by
      intro i hi
      obtain ⟨cs', h1, h2⟩ := hE i (by omega)
      obtain ⟨o, rfl, hT⟩ := hd_open h2 (hW i hi)
      exact ⟨o, h1, hT⟩
    haveI : Inhabited Hd := ⟨Hd.zero⟩
    obtain ⟨F, hF⟩ := Go.Deep.choose_lt hO
    have hlen : len ≤ 3518437208780 := by
      have hw : len * Tryz.prog.bytesOf 97 ≤ reachBytes := by
        refine Nat.le_trans (Nat.mul_le_mul_right _ hl) (hsz _ ?_)
        rw [hd]
        simp only [DataW.weights, Tryz.undHds9, List.length_map, List.length_range]
        rw [show len + (m - len) = m by omega]
        exact List.mem_cons_self
      rw [show Tryz.prog.bytesOf 97 = 40 from by kernel_rfl] at hw
      have hr2 : reachBytes = 140737488351232 := rfl
      omega
    refine ⟨some a, len, m, (List.range len).map F, hcs, ⟨fun h0 => ?_, by simp; omega, ?_⟩, by simp, hl, hlen⟩
    · simp only [List.length_map, List.length_range] at h0 ⊢
      have hc0 := (World.cells?_some (hF 0 (by omega)).1).2.2
      obtain ⟨b, off, spot⟩ := a
      have hspot : spot = none := by
        have := hc0 0 (by omega)
        simp [hdC] at this
        simpa [Addr.add] using World.cell?_spot this
      subst hspot
      have hcell : ∀ i, i < len → ∀ j, j < 2 → w.cell? ⟨b, off + i * 2 + j, none⟩ = (hdC (F i))[j]? := by
        intro i hi j hj
        have := (World.cells?_some (hF i (by omega)).1).2.2 j hj
        rw [show ((⟨b, off, none⟩ : Addr).add (i * 2)).add j = ⟨b, off + i * 2 + j, none⟩ from by rw [Addr.add_lit, Addr.add_lit]] at this
        exact this
      refine ⟨b, off, rfl, World.block_lt_of_cell? w ⟨b, off + 0 * 2 + 0, none⟩ (by rw [hcell 0 (by omega) 0 (by omega)]; rfl), fun i hi => ?_⟩
      have e : ((List.range len).map F).getD i Hd.zero = F i := by simp [List.getD, hi]
      rw [e]
      exact ⟨hcell i hi 0 (by omega), hcell i hi 1 (by omega)⟩
    · intro t ht
      obtain ⟨i, hi, rfl⟩ := List.mem_map.1 ht
      exact (hF i (by simpa using hi)).2
set_option maxRecDepth 100000 in
theorem resp_open {w : World} {fuel : Nat} {cs : List Value} {x : DataW H × List MemPlace} (h : DataW.trod enc Tryz.prog w 0 (fun _ => true) true fuel 53 cs = some x) (hsz : ∀ n ∈ x.1.weights Tryz.prog 53, n ≤ reachBytes) :
    ∃ (r : Rp) (es : List Ey) (hs : List Hd), cs = r.c ∧ RpB w r es hs := by
  have hF := Tryz.resp_openF
  cases hu : Tryz.prog.underlying 53 with
  | none => rw [hu] at hF; simp at hF
  | some u =>
    rw [hu] at hF
    cases u with
    | struct fs =>
      simp only at hF
      obtain ⟨ys, n, _, hx, hlen, hys, hf⟩ := DataW.trod_struct hu h
      rw [Tryz.resp_openC] at hlen
      match cs, hlen with
      | [v0, v1, v2, v3, v4], _ =>
        have hl2 : fs.toList.length = 5 := by have := congrArg List.length hF; simpa using this
        obtain ⟨l, hl⟩ : ∃ l, l = fs.toList := ⟨_, rfl⟩
        rw [← hl] at hF hl2
        match l, hl2 with
        | [f0, f1, f2, f3, f4], _ =>
          simp only [List.map_cons, List.map_nil, List.cons.injEq, Prod.mk.injEq, and_true] at hF
          obtain ⟨⟨t0, o0⟩, ⟨t1, o1⟩, ⟨t2, o2⟩, ⟨t3, o3⟩, ⟨t4, o4⟩⟩ := hF
          have g : ∀ (i : Nat) (f : Field), [f0, f1, f2, f3, f4][i]? = some f → fs[i]? = some f := by
            intro i f hi
            rw [hl] at hi
            simpa using hi
          have r0 := hf 0 f0 (g 0 f0 rfl)
          have r1 := hf 1 f1 (g 1 f1 rfl)
          have r2 := hf 2 f2 (g 2 f2 rfl)
          have r3 := hf 3 f3 (g 3 f3 rfl)
          have r4 := hf 4 f4 (g 4 f4 rfl)
          rw [t0, o0, Tryz.cI9] at r0
          rw [t1, o1, Tryz.cBl15] at r1
          rw [t2, o2, Tryz.cEns17] at r2
          rw [t3, o3, Tryz.cHds17] at r3
          rw [t4, o4, Tryz.cI9] at r4
          simp only [List.drop_zero, List.drop_succ_cons, List.take_succ_cons, List.take_zero] at r0 r1 r2 r3 r4
          have hy2 : ys.length = 5 := by rw [hys]; have := congrArg List.length hl; simpa using this.symm
          match ys, hy2 with
          | [y0, y1, y2, y3, y4], _ =>
            simp only [List.getElem?_cons_zero, List.getElem?_cons_succ] at r0 r1 r2 r3 r4
            have hty : fs.toList.map (·.type) = [3, 4, 50, 51, 3] := by rw [← hl]; simp [t0, t1, t2, t3, t4]
            have hw : ∀ (j : Nat) (t : TypeId) (d : DataW H), [3, 4, 50, 51, 3][j]? = some t → [y0.1, y1.1, y2.1, y3.1, y4.1][j]? = some d → ∀ q ∈ d.weights Tryz.prog t, q ≤ reachBytes := fun j t d h1 h2 q hq => by
              apply hsz
              rw [hx]
              simp only [DataW.weights, hu]
              rw [hty]
              exact DataW.weights_mem_each (j := j) (t := t) (d := d) h1 h2 _ hq
            obtain ⟨k0, e0, _, w0⟩ := DataW.trod_int Tryz.undI9 r0
            obtain ⟨k1, e1, _⟩ := DataW.trod_bool Tryz.undBl15 r1
            obtain ⟨eo, el, ec, es, e2, hE, hel, hec⟩ := eys_open (d := y2.1) (ps := y2.2) r2 (hw 2 50 y2.1 rfl rfl)
            obtain ⟨ho, hl9, hc9, hs, e3, hH, hhl, hhc, _⟩ := hs9_open (d := y3.1) (ps := y3.2) r3 (hw 3 51 y3.1 rfl rfl)
            obtain ⟨k4, e4, _, w4⟩ := DataW.trod_int Tryz.undI9 r4
            have b0 := bounds_i64 w0
            have b4 := bounds_i64 w4
            simp only [List.cons.injEq, and_true] at e0 e1 e4
            exact ⟨⟨k0, k1, eo, el, ec, ho, hl9, hc9, k4⟩, es, hs, by simp only [Rp.c]; rw [e0, e1, e2, e3, e4], ⟨b0, b4, hE, hel, hec, hH, hhl, hhc⟩⟩
    | _ => simp at hF
set_option maxRecDepth 100000 in
theorem ask17_open {w : World} {fuel : Nat} {cs : List Value} {x : DataW H × List MemPlace} (h : DataW.trod enc Tryz.prog w 0 (fun _ => true) true fuel 55 cs = some x) (hsz : ∀ n ∈ x.1.weights Tryz.prog 55, n ≤ reachBytes) :
    ∃ a : Aj, cs = a.c ∧ AjB w a := by
  have hF := Tryz.ask17_openF
  cases hu : Tryz.prog.underlying 55 with
  | none => rw [hu] at hF; simp at hF
  | some u =>
    rw [hu] at hF
    cases u with
    | struct fs =>
      simp only at hF
      obtain ⟨ys, n, _, hx, hlen, hys, hf⟩ := DataW.trod_struct hu h
      rw [Tryz.ask17_openC] at hlen
      match cs, hlen with
      | [v0, v1, v2, v3, v4, v5, v6, v7, v8], _ =>
        have hl2 : fs.toList.length = 5 := by have := congrArg List.length hF; simpa using this
        obtain ⟨l, hl⟩ : ∃ l, l = fs.toList := ⟨_, rfl⟩
        rw [← hl] at hF hl2
        match l, hl2 with
        | [f0, f1, f2, f3, f4], _ =>
          simp only [List.map_cons, List.map_nil, List.cons.injEq, Prod.mk.injEq, and_true] at hF
          obtain ⟨⟨t0, o0⟩, ⟨t1, o1⟩, ⟨t2, o2⟩, ⟨t3, o3⟩, ⟨t4, o4⟩⟩ := hF
          have g : ∀ (i : Nat) (f : Field), [f0, f1, f2, f3, f4][i]? = some f → fs[i]? = some f := by
            intro i f hi
            rw [hl] at hi
            simpa using hi
          have r0 := hf 0 f0 (g 0 f0 rfl)
          have r1 := hf 1 f1 (g 1 f1 rfl)
          have r2 := hf 2 f2 (g 2 f2 rfl)
          have r3 := hf 3 f3 (g 3 f3 rfl)
          have r4 := hf 4 f4 (g 4 f4 rfl)
          rw [t0, o0, Tryz.cAk17] at r0
          rw [t1, o1, Tryz.cI9] at r1
          rw [t2, o2, Tryz.cI9] at r2
          rw [t3, o3, Tryz.cIs9] at r3
          rw [t4, o4, Tryz.resp_openC] at r4
          simp only [List.drop_zero, List.drop_succ_cons, List.take_succ_cons, List.take_zero] at r0 r1 r2 r3 r4
          have hy2 : ys.length = 5 := by rw [hys]; have := congrArg List.length hl; simpa using this.symm
          match ys, hy2 with
          | [y0, y1, y2, y3, y4], _ =>
            simp only [List.getElem?_cons_zero, List.getElem?_cons_succ] at r0 r1 r2 r3 r4
            have hty : fs.toList.map (·.type) = [48, 3, 3, 49, 53] := by rw [← hl]; simp [t0, t1, t2, t3, t4]
            have hw : ∀ (j : Nat) (t : TypeId) (d : DataW H), [48, 3, 3, 49, 53][j]? = some t → [y0.1, y1.1, y2.1, y3.1, y4.1][j]? = some d → ∀ q ∈ d.weights Tryz.prog t, q ≤ reachBytes := fun j t d h1 h2 q hq => by
              apply hsz
              rw [hx]
              simp only [DataW.weights, hu]
              rw [hty]
              exact DataW.weights_mem_each (j := j) (t := t) (d := d) h1 h2 _ hq
            obtain ⟨k0, e0, _, w0⟩ := DataW.trod_int Tryz.undAk17 r0
            obtain ⟨k1, e1, _, w1⟩ := DataW.trod_int Tryz.undI9 r1
            obtain ⟨k2, e2, _, w2⟩ := DataW.trod_int Tryz.undI9 r2
            obtain ⟨bo, bl, bc, ns, e3, hI, hbl, hbc⟩ := is9_open r3 (hw 3 49 y3.1 rfl rfl)
            obtain ⟨r, es, hs, e4, hR⟩ := resp_open r4 (hw 4 53 y4.1 rfl rfl)
            have b0 := bounds_u8 w0
            have b1 := bounds_i64 w1
            have b2 := bounds_i64 w2
            simp only [List.cons.injEq, and_true] at e0 e1 e2
            exact ⟨⟨k0, k1, k2, bo, bl, bc, ns, r, es, hs⟩, by simp only [Aj.c]; rw [e0, e1, e2, e3, e4], ⟨by simp only; omega, b1, b2, hI, hbl, hbc, hR⟩⟩
    | _ => simp at hF
set_option maxRecDepth 100000 in
theorem asks17_open {w : World} {fuel : Nat} {v : Value} {d : DataW H} {ps : List MemPlace} (h : DataW.trod enc Tryz.prog w 0 (fun _ => true) true fuel 29 [v] = some (d, ps)) (hsz : ∀ n ∈ d.weights Tryz.prog 29, n ≤ reachBytes) :
    ∃ ao L cap os, v = .slice ao L cap ∧ JRs w ao os ∧ L = os.length ∧ L ≤ cap := by
  rcases Go.Deep.open_slice Tryz.undAjs h with ⟨hcs, _⟩ | ⟨a, len, cap, m, n, D, Pl, hcs, hb, hl, hm, hmm, hx, hE⟩
  · simp only [List.cons.injEq, and_true] at hcs
    exact ⟨none, 0, 0, [], hcs, ⟨fun h => by simp at h, by simp, by simp⟩, rfl, Nat.le_refl _⟩
  · simp only [List.cons.injEq, and_true] at hcs
    simp only [if_true] at hmm
    subst hmm
    rw [Tryz.ask17_openC] at hE hx
    have hd : d = .slice ((List.range len).map D) ((List.range (m - len)).map fun j => D (len + j)) := by have := congrArg Prod.fst hx; simpa using this
    have hr := reachBytes_lt
    have hW : ∀ i, i < len → ∀ q ∈ (D i).weights Tryz.prog 55, q ≤ reachBytes := by
      intro i hi q hq
      apply hsz
      rw [hd]
      simp only [DataW.weights, Tryz.undAjs]
      refine List.mem_cons_of_mem _ (List.mem_append_left _ ?_)
      exact vweightsAll_mem (List.mem_map.2 ⟨i, by simpa using hi, rfl⟩) _ hq
    have hO : ∀ i, i < len → ∃ o : Aj, (w.cells? 0 (a.add (i * 9)) 9 = some o.c) ∧ AjB w o := by
      intro i hi
      obtain ⟨cs', h1, h2⟩ := hE i (by omega)
      obtain ⟨o, rfl, hT⟩ := ask17_open h2 (hW i hi)
      exact ⟨o, h1, hT⟩
    haveI : Inhabited Aj := ⟨Aj.zero⟩
    obtain ⟨F, hF⟩ := Go.Deep.choose_lt hO
    have hlen : len ≤ 140737488355328 := by
      have hw : len * Tryz.prog.bytesOf 55 ≤ reachBytes := by
        refine Nat.le_trans (Nat.mul_le_mul_right _ hl) (hsz _ ?_)
        rw [hd]
        simp only [DataW.weights, Tryz.undAjs, List.length_map, List.length_range]
        rw [show len + (m - len) = m by omega]
        exact List.mem_cons_self
      have hb40 : 1 ≤ Tryz.prog.bytesOf 55 := by
        have e : decide (1 ≤ Tryz.prog.bytesOf 55) = true := by kernel_rfl
        simpa using e
      have := Nat.le_mul_of_pos_right len hb40
      omega
    refine ⟨some a, len, m, (List.range len).map F, hcs, ⟨fun h0 => ?_, by simpa using hlen, ?_⟩, by simp, hl⟩
    · simp only [List.length_map, List.length_range] at h0 ⊢
      have hc0 := (World.cells?_some (hF 0 (by omega)).1).2.2
      obtain ⟨b, off, spot⟩ := a
      have hspot : spot = none := by
        have := hc0 0 (by omega)
        simp [Aj.c] at this
        simpa [Addr.add] using World.cell?_spot this
      subst hspot
      have hcell : ∀ i, i < len → ∀ j, j < 9 → w.cell? ⟨b, off + i * 9 + j, none⟩ = (F i).c[j]? := by
        intro i hi j hj
        have := (World.cells?_some (hF i (by omega)).1).2.2 j hj
        rw [show ((⟨b, off, none⟩ : Addr).add (i * 9)).add j = ⟨b, off + i * 9 + j, none⟩ from by rw [Addr.add_lit, Addr.add_lit]] at this
        exact this
      refine ⟨b, off, rfl, World.block_lt_of_cell? w ⟨b, off + 0 * 9 + 0, none⟩ (by rw [hcell 0 (by omega) 0 (by omega)]; rfl), fun i hi j hj => ?_⟩
      have e : ((List.range len).map F).getD i Aj.zero = F i := by simp [List.getD, hi]
      rw [e]
      exact hcell i hi j hj
    · intro t ht
      obtain ⟨i, hi, rfl⟩ := List.mem_map.1 ht
      exact (hF i (by simpa using hi)).2
end
end Go.Proofs.YtpdkdgmaofhlkaaGreatDoor

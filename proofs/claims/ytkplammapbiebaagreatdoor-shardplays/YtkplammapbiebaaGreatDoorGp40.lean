/- Texts of this claim laid together, one behind the other: contracts and plain lemmas; conditions as each names them. -/
import Derived.Test.YtkplammapbiebaaGreatDoorGp38
import Derived.Deep.Slices
/- Keys with versions, numbers and ops as they come in. Conditions as each names them. -/
namespace Go.Proofs.YtkplammapbiebaaGreatDoor
open Go.ChangeShapes Go.WideShapes Go.ChangeAt Go.RowKit Go.Lib
set_option linter.unusedVariables false
set_option linter.unusedSimpArgs false
/-- An op. -/
structure Oq9 where
  kd : Nat
  x : Int
  wk : ByteArray
  wv : ByteArray
  wd : Bool
  key : ByteArray
  en : ByteArray
  bo : Option Addr
  M : Nat
  cb : Nat
  ns : List Int
def Oq9.zero : Oq9 := ⟨0, 0, ⟨#[]⟩, ⟨#[]⟩, false, ⟨#[]⟩, ⟨#[]⟩, none, 0, 0, []⟩
def Oq9.c (o : Oq9) : List Value := [.int .u8 (o.kd : Int), .int .i64 o.x, .string o.wk, .string o.wv, .bool o.wd, .string o.key, .string o.en, .slice o.bo o.M o.cb]
structure Oq9.at (w : World) (o : Oq9) : Prop where
  kd : o.kd ≤ 255
  e : PEach ⟨o.x, o.wk, o.wv, o.wd⟩
  key : o.key.size ≤ 140737488355328
  en : o.en.size ≤ 140737488355328
  is : IRs w o.bo o.ns
  M : o.M = o.ns.length
structure ORs9 (w : World) (ao : Option Addr) (os : List Oq9) : Prop where
  lies : 0 < os.length → ∃ b off, ao = some ⟨b, off, none⟩ ∧ b < w.heap.size ∧ ∀ i, i < os.length → ∀ j, j < 8 → w.cell? ⟨b, off + i * 8 + j, none⟩ = (os.getD i Oq9.zero).c[j]?
  few : os.length ≤ 140737488355328
  each : ∀ o ∈ os, o.at w
section
variable {H : Type} {enc : TypeId × Value → H}
theorem weightsAll_mem {P : Program} {e : TypeId} : ∀ {ds : List (DataW H)} {d : DataW H}, d ∈ ds → ∀ n ∈ d.weights P e, n ∈ DataW.weightsAll P e ds
  | x :: r, d, hd, n, hn => by
    simp only [DataW.weightsAll, List.mem_append]
    rcases List.mem_cons.1 hd with rfl | hd
    · exact Or.inl hn
    · exact Or.inr (weightsAll_mem hd n hn)
theorem Tryz.undHds9 : Tryz.prog.underlying 22 = some (.slice 71) := by kernel_rfl
theorem Tryz.cellsHd9 : Tryz.prog.cellsOf 71 = 2 := by kernel_rfl
theorem Tryz.undOps9 : Tryz.prog.underlying 23 = some (.slice 61) := by kernel_rfl
theorem Tryz.cellsOp9 : Tryz.prog.cellsOf 61 = 8 := by kernel_rfl
theorem Tryz.undB9 : Tryz.prog.underlying 5 = some (.int .u8) := by kernel_rfl
theorem Tryz.cB9 : Tryz.prog.cellsOf 5 = 1 := by kernel_rfl
theorem Tryz.undI9 : Tryz.prog.underlying 3 = some (.int .i64) := by kernel_rfl
theorem Tryz.cI9 : Tryz.prog.cellsOf 3 = 1 := by kernel_rfl
theorem Tryz.cS9 : Tryz.prog.cellsOf 9 = 1 := by kernel_rfl
theorem Tryz.cVns9 : Tryz.prog.cellsOf 69 = 1 := by kernel_rfl
theorem Tryz.cIs9 : Tryz.prog.cellsOf 59 = 1 := by kernel_rfl
theorem Tryz.undIs9 : Tryz.prog.underlying 59 = some (.slice 3) := by kernel_rfl
theorem Tryz.hdFields9 : (match Tryz.prog.underlying 71 with | some (.struct fs) => fs.toList.map (fun f => (f.type, f.offset)) | _ => []) = [(9, 0), (69, 1)] := by kernel_rfl
theorem Tryz.op9Fields : (match Tryz.prog.underlying 61 with | some (.struct fs) => fs.toList.map (fun f => (f.type, f.offset)) | _ => []) = [(5, 0), (3, 1), (58, 2), (9, 5), (9, 6), (59, 7)] := by kernel_rfl
theorem is9_open {w : World} {fuel : Nat} {v : Value} {x : DataW H × List MemPlace} (h : DataW.trod enc Tryz.prog w 0 (fun _ => true) true fuel 59 [v] = some x) (hsz : ∀ n ∈ x.1.weights Tryz.prog 59, n ≤ reachBytes) :
    ∃ ao L cap ns, v = .slice ao L cap ∧ IRs w ao ns ∧ L = ns.length := by
  rcases open_ints Tryz.undIs9 Tryz.undI9 Tryz.cI9 h with ⟨hcs, _⟩ | ⟨a, l, c, zs, hcs, _, hl, hm, hz, hx, hcell, hwz⟩
  · simp only [List.cons.injEq, and_true] at hcs
    exact ⟨none, 0, 0, [], hcs, ⟨fun h => by simp at h, by simp⟩, rfl⟩
  · simp only [List.cons.injEq, and_true] at hcs
    simp only [if_true] at hz
    have hw : zs.length * Tryz.prog.bytesOf 3 ≤ reachBytes := by
      apply hsz
      rw [hx]
      simp only [DataW.weights, Tryz.undIs9, lits, List.length_map]
      rw [show (zs.take l).length + (zs.drop l).length = zs.length by rw [← List.length_append, List.take_append_drop]]
      exact List.mem_cons_self
    rw [show Tryz.prog.bytesOf 3 = 8 from by kernel_rfl] at hw
    have hr := reachBytes_lt
    exact ⟨some a, l, c, zs.take l, hcs, IRs.of_open hl hz hcell (by omega), by rw [List.length_take]; omega⟩
set_option maxRecDepth 100000 in
theorem hd_open {w : World} {fuel : Nat} {cs : List Value} {x : DataW H × List MemPlace} (h : DataW.trod enc Tryz.prog w 0 (fun _ => true) true fuel 71 cs = some x) (hsz : ∀ n ∈ x.1.weights Tryz.prog 71, n ≤ reachBytes) :
    ∃ o : Hd, cs = hdC o ∧ HEach w o := by
  have hF := Tryz.hdFields9
  cases hu : Tryz.prog.underlying 71 with
  | none => rw [hu] at hF; simp at hF
  | some u =>
    rw [hu] at hF
    cases u with
    | struct fs =>
      simp only at hF
      obtain ⟨ys, n, _, hx, hlen, hys, hf⟩ := DataW.trod_struct hu h
      rw [Tryz.cellsHd9] at hlen
      match cs, hlen with
      | [v0, v1], _ =>
        have hl2 : fs.toList.length = 2 := by have := congrArg List.length hF; simpa using this
        obtain ⟨l, hl⟩ : ∃ l, l = fs.toList := ⟨_, rfl⟩
        rw [← hl] at hF hl2
        match l, hl2 with
        | [f0, f1], _ =>
          simp only [List.map_cons, List.map_nil, List.cons.injEq, Prod.mk.injEq, and_true] at hF
          obtain ⟨⟨t0, o0⟩, ⟨t1, o1⟩⟩ := hF
          have g : ∀ (i : Nat) (f : Field), [f0, f1][i]? = some f → fs[i]? = some f := by
            intro i f hi
            rw [hl] at hi
            simpa using hi
          have r0 := hf 0 f0 (g 0 f0 rfl)
          have r1 := hf 1 f1 (g 1 f1 rfl)
          rw [t0, o0, Tryz.cS9] at r0
          rw [t1, o1, Tryz.cVns9] at r1
          simp only [List.drop_zero, List.drop_succ_cons, List.take_succ_cons, List.take_zero] at r0 r1
          have hy2 : ys.length = 2 := by rw [hys]; have := congrArg List.length hl; simpa using this.symm
          match ys, hy2 with
          | [y0, y1], _ =>
            simp only [List.getElem?_cons_zero, List.getElem?_cons_succ] at r0 r1
            have hty : fs.toList.map (·.type) = [9, 69] := by rw [← hl]; simp [t0, t1]
            have hw : ∀ (j : Nat) (t : TypeId) (d : DataW H), [9, 69][j]? = some t → [y0.1, y1.1][j]? = some d → ∀ q ∈ d.weights Tryz.prog t, q ≤ reachBytes := fun j t d h1 h2 q hq => by
              apply hsz
              rw [hx]
              simp only [DataW.weights, hu]
              rw [hty]
              exact DataW.weights_mem_each (j := j) (t := t) (d := d) h1 h2 _ hq
            obtain ⟨s0, e0, x0, _⟩ := DataW.trod_string Tryz.undStr r0
            obtain ⟨ao, L, cap, vs, e1, hV, hL, hc⟩ := vs_open (d := y1.1) (ps := y1.2) r1 (hw 1 69 y1.1 rfl rfl)
            simp only [List.cons.injEq, and_true] at e0
            have hk := hw 0 9 y0.1 rfl rfl s0.size (by rw [x0]; simp only [DataW.weights, List.mem_singleton]; show s0.data.size = _; simp)
            have hr := reachBytes_lt
            refine ⟨⟨s0, ao, L, cap, vs⟩, ?_, ⟨by simp only; omega, hL, hc, hV⟩⟩
            simp only [hdC]
            rw [e0, e1]
    | _ => simp at hF
set_option maxRecDepth 100000 in
theorem op9_open {w : World} {fuel : Nat} {cs : List Value} {x : DataW H × List MemPlace} (h : DataW.trod enc Tryz.prog w 0 (fun _ => true) true fuel 61 cs = some x) (hsz : ∀ n ∈ x.1.weights Tryz.prog 61, n ≤ reachBytes) :
    ∃ o : Oq9, cs = o.c ∧ o.at w := by
  have hF := Tryz.op9Fields
  cases hu : Tryz.prog.underlying 61 with
  | none => rw [hu] at hF; simp at hF
  | some u =>
    rw [hu] at hF
    cases u with
    | struct fs =>
      simp only at hF
      obtain ⟨ys, n, _, hx, hlen, hys, hf⟩ := DataW.trod_struct hu h
      rw [Tryz.cellsOp9] at hlen
      match cs, hlen with
      | [v0, v1, v2, v3, v4, v5, v6, v7], _ =>
        have hl2 : fs.toList.length = 6 := by have := congrArg List.length hF; simpa using this
        obtain ⟨l, hl⟩ : ∃ l, l = fs.toList := ⟨_, rfl⟩
        rw [← hl] at hF hl2
        match l, hl2 with
        | [f0, f1, f2, f3, f4, f5], _ =>
          simp only [List.map_cons, List.map_nil, List.cons.injEq, Prod.mk.injEq, and_true] at hF
          obtain ⟨⟨t0, o0⟩, ⟨t1, o1⟩, ⟨t2, o2⟩, ⟨t3, o3⟩, ⟨t4, o4⟩, ⟨t5, o5⟩⟩ := hF
          have g : ∀ (i : Nat) (f : Field), [f0, f1, f2, f3, f4, f5][i]? = some f → fs[i]? = some f := by
            intro i f hi
            rw [hl] at hi
            simpa using hi
          have r0 := hf 0 f0 (g 0 f0 rfl)
          have r1 := hf 1 f1 (g 1 f1 rfl)
          have r2 := hf 2 f2 (g 2 f2 rfl)
          have r3 := hf 3 f3 (g 3 f3 rfl)
          have r4 := hf 4 f4 (g 4 f4 rfl)
          have r5 := hf 5 f5 (g 5 f5 rfl)
          rw [t0, o0, Tryz.cB9] at r0
          rw [t1, o1, Tryz.cI9] at r1
          rw [t2, o2, Tryz.cellsWt] at r2
          rw [t3, o3, Tryz.cS9] at r3
          rw [t4, o4, Tryz.cS9] at r4
          rw [t5, o5, Tryz.cIs9] at r5
          simp only [List.drop_zero, List.drop_succ_cons, List.take_succ_cons, List.take_zero] at r0 r1 r2 r3 r4 r5
          have hy2 : ys.length = 6 := by rw [hys]; have := congrArg List.length hl; simpa using this.symm
          match ys, hy2 with
          | [y0, y1, y2, y3, y4, y5], _ =>
            simp only [List.getElem?_cons_zero, List.getElem?_cons_succ] at r0 r1 r2 r3 r4 r5
            have hty : fs.toList.map (·.type) = [5, 3, 58, 9, 9, 59] := by rw [← hl]; simp [t0, t1, t2, t3, t4, t5]
            have hw : ∀ (j : Nat) (t : TypeId) (d : DataW H), [5, 3, 58, 9, 9, 59][j]? = some t → [y0.1, y1.1, y2.1, y3.1, y4.1, y5.1][j]? = some d → ∀ q ∈ d.weights Tryz.prog t, q ≤ reachBytes := fun j t d h1 h2 q hq => by
              apply hsz
              rw [hx]
              simp only [DataW.weights, hu]
              rw [hty]
              exact DataW.weights_mem_each (j := j) (t := t) (d := d) h1 h2 _ hq
            obtain ⟨k0, e0, _, w0⟩ := DataW.trod_int Tryz.undB9 r0
            obtain ⟨k1, e1, _, w1⟩ := DataW.trod_int Tryz.undI9 r1
            obtain ⟨wk, wv, wd, e2, hwk, hwv⟩ := wt_open r2
            obtain ⟨s3, e3, x3, _⟩ := DataW.trod_string Tryz.undStr r3
            obtain ⟨s4, e4, x4, _⟩ := DataW.trod_string Tryz.undStr r4
            obtain ⟨bo, M, cb, ns, e5, hI, hM⟩ := is9_open r5 (hw 5 59 y5.1 rfl rfl)
            have b0 := bounds_u8 w0
            have b1 := bounds_i64 w1
            simp only [List.cons.injEq, and_true] at e0 e1 e2 e3 e4
            have hk3 := hw 3 9 y3.1 rfl rfl s3.size (by rw [x3]; simp only [DataW.weights, List.mem_singleton]; show s3.data.size = _; simp)
            have hk4 := hw 4 9 y4.1 rfl rfl s4.size (by rw [x4]; simp only [DataW.weights, List.mem_singleton]; show s4.data.size = _; simp)
            have hk2 := hw 2 58 y2.1 rfl rfl wk.size hwk
            have hk2' := hw 2 58 y2.1 rfl rfl wv.size hwv
            have hr := reachBytes_lt
            refine ⟨⟨k0.toNat, k1, wk, wv, wd, s3, s4, bo, M, cb, ns⟩, ?_, ⟨by simp only; omega, ⟨by simp only; omega, by simp only; omega, b1.1, b1.2⟩, by simp only; omega, by simp only; omega, hI, hM⟩⟩
            simp only [Oq9.c]
            rw [e0, e1, e2.1, e2.2.1, e2.2.2, e3, e4, e5, show ((k0.toNat : Nat) : Int) = k0 by omega]
    | _ => simp at hF
theorem hs9_open {w : World} {fuel : Nat} {v : Value} {d : DataW H} {ps : List MemPlace} (h : DataW.trod enc Tryz.prog w 0 (fun _ => true) true fuel 22 [v] = some (d, ps)) (hsz : ∀ n ∈ d.weights Tryz.prog 22, n ≤ reachBytes) :
    ∃ ao L cap os, v = .slice ao L cap ∧ HRg w ao os ∧ L = os.length ∧ L ≤ cap := by
  rcases Go.Deep.open_slice Tryz.undHds9 h with ⟨hcs, _⟩ | ⟨a, len, cap, m, n, D, Pl, hcs, hb, hl, hm, hmm, hx, hE⟩
  · simp only [List.cons.injEq, and_true] at hcs
    exact ⟨none, 0, 0, [], hcs, ⟨fun h => by simp at h, by simp, by simp⟩, rfl, Nat.le_refl _⟩
  · simp only [List.cons.injEq, and_true] at hcs
    simp only [if_true] at hmm
    subst hmm
    rw [Tryz.cellsHd9] at hE hx
    have hd : d = .slice ((List.range len).map D) ((List.range (m - len)).map fun j => D (len + j)) := by have := congrArg Prod.fst hx; simpa using this
    have hr := reachBytes_lt
    have hW : ∀ i, i < len → ∀ q ∈ (D i).weights Tryz.prog 71, q ≤ reachBytes := by
      intro i hi q hq
      apply hsz
      rw [hd]
      simp only [DataW.weights, Tryz.undHds9]
      refine List.mem_cons_of_mem _ (List.mem_append_left _ ?_)
      exact weightsAll_mem (List.mem_map.2 ⟨i, by simpa using hi, rfl⟩) _ hq
    have hO : ∀ i, i < len → ∃ o : Hd, (w.cells? 0 (a.add (i * 2)) 2 = some (hdC o)) ∧ HEach w o := by
      intro i hi
      obtain ⟨cs', h1, h2⟩ := hE i (by omega)
      obtain ⟨o, rfl, hT⟩ := hd_open h2 (hW i hi)
      exact ⟨o, h1, hT⟩
    haveI : Inhabited Hd := ⟨Hd.zero⟩
    obtain ⟨F, hF⟩ := Go.Deep.choose_lt hO
    have hlen : len ≤ 140737488355328 := by
      have hw : len * Tryz.prog.bytesOf 71 ≤ reachBytes := by
        refine Nat.le_trans (Nat.mul_le_mul_right _ hl) (hsz _ ?_)
        rw [hd]
        simp only [DataW.weights, Tryz.undHds9, List.length_map, List.length_range]
        rw [show len + (m - len) = m by omega]
        exact List.mem_cons_self
      have hb40 : 1 ≤ Tryz.prog.bytesOf 71 := by
        have e : decide (1 ≤ Tryz.prog.bytesOf 71) = true := by kernel_rfl
        simpa using e
      have := Nat.le_mul_of_pos_right len hb40
      omega
    refine ⟨some a, len, m, (List.range len).map F, hcs, ⟨fun h0 => ?_, by simpa using hlen, ?_⟩, by simp, hl⟩
    · simp only [List.length_map, List.length_range] at h0 ⊢
      have hc0 := (World.cells?_some (hF 0 (by omega)).1).2.2
      obtain ⟨b, off, spot⟩ := a
      have hspot : spot = none := by
        have := hc0 0 (by omega)
        simp [hdC] at this
        simpa [Addr.add] using World.cell?_spot this
      subst hspot
      have hcell : ∀ i, i < len → ∀ j, j < 2 → w.cell? ⟨b, off + i * 2 + j, none⟩ = (hdC (F i))[j]? := by
        intro i hi j hj
        have := (World.cells?_some (hF i (by omega)).1).2.2 j hj
        rw [show ((⟨b, off, none⟩ : Addr).add (i * 2)).add j = ⟨b, off + i * 2 + j, none⟩ from by rw [Addr.add_lit, Addr.add_lit]] at this
        exact this
      refine ⟨b, off, rfl, World.block_lt_of_cell? w ⟨b, off + 0 * 2 + 0, none⟩ (by rw [hcell 0 (by omega) 0 (by omega)]; rfl), fun i hi j hj => ?_⟩
      have e : ((List.range len).map F).getD i Hd.zero = F i := by simp [List.getD, hi]
      rw [e]
      exact hcell i hi j hj
    · intro t ht
      obtain ⟨i, hi, rfl⟩ := List.mem_map.1 ht
      exact (hF i (by simpa using hi)).2
theorem ops9_open {w : World} {fuel : Nat} {v : Value} {d : DataW H} {ps : List MemPlace} (h : DataW.trod enc Tryz.prog w 0 (fun _ => true) true fuel 23 [v] = some (d, ps)) (hsz : ∀ n ∈ d.weights Tryz.prog 23, n ≤ reachBytes) :
    ∃ ao L cap os, v = .slice ao L cap ∧ ORs9 w ao os ∧ L = os.length ∧ L ≤ cap := by
  rcases Go.Deep.open_slice Tryz.undOps9 h with ⟨hcs, _⟩ | ⟨a, len, cap, m, n, D, Pl, hcs, hb, hl, hm, hmm, hx, hE⟩
  · simp only [List.cons.injEq, and_true] at hcs
    exact ⟨none, 0, 0, [], hcs, ⟨fun h => by simp at h, by simp, by simp⟩, rfl, Nat.le_refl _⟩
  · simp only [List.cons.injEq, and_true] at hcs
    simp only [if_true] at hmm
    subst hmm
    rw [Tryz.cellsOp9] at hE hx
    have hd : d = .slice ((List.range len).map D) ((List.range (m - len)).map fun j => D (len + j)) := by have := congrArg Prod.fst hx; simpa using this
    have hr := reachBytes_lt
    have hW : ∀ i, i < len → ∀ q ∈ (D i).weights Tryz.prog 61, q ≤ reachBytes := by
      intro i hi q hq
      apply hsz
      rw [hd]
      simp only [DataW.weights, Tryz.undOps9]
      refine List.mem_cons_of_mem _ (List.mem_append_left _ ?_)
      exact weightsAll_mem (List.mem_map.2 ⟨i, by simpa using hi, rfl⟩) _ hq
    have hO : ∀ i, i < len → ∃ o : Oq9, (w.cells? 0 (a.add (i * 8)) 8 = some o.c) ∧ o.at w := by
      intro i hi
      obtain ⟨cs', h1, h2⟩ := hE i (by omega)
      obtain ⟨o, rfl, hT⟩ := op9_open h2 (hW i hi)
      exact ⟨o, h1, hT⟩
    haveI : Inhabited Oq9 := ⟨Oq9.zero⟩
    obtain ⟨F, hF⟩ := Go.Deep.choose_lt hO
    have hlen : len ≤ 140737488355328 := by
      have hw : len * Tryz.prog.bytesOf 61 ≤ reachBytes := by
        refine Nat.le_trans (Nat.mul_le_mul_right _ hl) (hsz _ ?_)
        rw [hd]
        simp only [DataW.weights, Tryz.undOps9, List.length_map, List.length_range]
        rw [show len + (m - len) = m by omega]
        exact List.mem_cons_self
      have hb40 : 1 ≤ Tryz.prog.bytesOf 61 := by
        have e : decide (1 ≤ Tryz.prog.bytesOf 61) = true := by kernel_rfl
        simpa using e
      have := Nat.le_mul_of_pos_right len hb40
      omega
    refine ⟨some a, len, m, (List.range len).map F, hcs, ⟨fun h0 => ?_, by simpa using hlen, ?_⟩, by simp, hl⟩
    · simp only [List.length_map, List.length_range] at h0 ⊢
      have hc0 := (World.cells?_some (hF 0 (by omega)).1).2.2
      obtain ⟨b, off, spot⟩ := a
      have hspot : spot = none := by
        have := hc0 0 (by omega)
        simp [Oq9.c] at this
        simpa [Addr.add] using World.cell?_spot this
      subst hspot
      have hcell : ∀ i, i < len → ∀ j, j < 8 → w.cell? ⟨b, off + i * 8 + j, none⟩ = (F i).c[j]? := by
        intro i hi j hj
        have := (World.cells?_some (hF i (by omega)).1).2.2 j hj
        rw [show ((⟨b, off, none⟩ : Addr).add (i * 8)).add j = ⟨b, off + i * 8 + j, none⟩ from by rw [Addr.add_lit, Addr.add_lit]] at this
        exact this
      refine ⟨b, off, rfl, World.block_lt_of_cell? w ⟨b, off + 0 * 8 + 0, none⟩ (by rw [hcell 0 (by omega) 0 (by omega)]; rfl), fun i hi j hj => ?_⟩
      have e : ((List.range len).map F).getD i Oq9.zero = F i := by simp [List.getD, hi]
      rw [e]
      exact hcell i hi j hj
    · intro t ht
      obtain ⟨i, hi, rfl⟩ := List.mem_map.1 ht
      exact (hF i (by simpa using hi)).2
end
end Go.Proofs.YtkplammapbiebaaGreatDoor

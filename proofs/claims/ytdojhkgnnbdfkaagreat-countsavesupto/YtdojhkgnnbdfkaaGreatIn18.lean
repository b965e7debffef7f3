/- What a checkpoint says, as it comes in. Conditions as each names them. -/
import Derived.Test.YtdojhkgnnbdfkaaGreatHl9
import Derived.Deep.Slices
namespace Go.Proofs.YtdojhkgnnbdfkaaGreat
open Go.ChangeShapes Go.WideShapes Go.ChangeAt Go.RowKit Go.Lib
set_option linter.unusedVariables false
set_option linter.unusedSimpArgs false
def hdC15 (o : Hd) : List Value := [.string o.key, .slice o.vo o.L o.cap]
section
variable {H : Type} {enc : TypeId × Value → H}
theorem weightsAll_mem {P : Program} {e : TypeId} : ∀ {ds : List (DataW H)} {d : DataW H}, d ∈ ds → ∀ n ∈ d.weights P e, n ∈ DataW.weightsAll P e ds
  | x :: r, d, hd, n, hn => by
    simp only [DataW.weightsAll, List.mem_append]
    rcases List.mem_cons.1 hd with rfl | hd
    · exact Or.inl hn
    · exact Or.inr (weightsAll_mem hd n hn)
theorem Tryz.undHds9 : Tryz.prog.underlying 25 = some (.slice 58) := by kernel_rfl
theorem Tryz.cellsHd9 : Tryz.prog.cellsOf 58 = 2 := by kernel_rfl
theorem Tryz.undBl15 : Tryz.prog.underlying 4 = some .bool := by kernel_rfl
theorem Tryz.cBl15 : Tryz.prog.cellsOf 4 = 1 := by kernel_rfl
theorem Tryz.undI9 : Tryz.prog.underlying 3 = some (.int .i64) := by kernel_rfl
theorem Tryz.cI9 : Tryz.prog.cellsOf 3 = 1 := by kernel_rfl
theorem Tryz.cS9 : Tryz.prog.cellsOf 9 = 1 := by kernel_rfl
theorem Tryz.cVns9 : Tryz.prog.cellsOf 56 = 1 := by kernel_rfl
theorem Tryz.cIs9 : Tryz.prog.cellsOf 24 = 1 := by kernel_rfl
theorem Tryz.undIs9 : Tryz.prog.underlying 24 = some (.slice 3) := by kernel_rfl
theorem Tryz.hdFields9 : (match Tryz.prog.underlying 58 with | some (.struct fs) => fs.toList.map (fun f => (f.type, f.offset)) | _ => []) = [(9, 0), (56, 1)] := by kernel_rfl
theorem IRs.of_open15 {w : World} {a : Addr} {len cap : Nat} {zs : List Int} (hl : len ≤ cap) (hz : zs.length = cap) (hc : ∀ i, i < zs.length → w.cell? (a.add i) = some (.int .i64 (zs.getD i 0))) (hb : len ≤ 17592186044416) : IRs w (some a) (zs.take len) := by
  refine ⟨fun h0 => ?_, by simp; omega⟩
  rw [List.length_take] at h0
  obtain ⟨b, off, spot⟩ := a
  have hspot : spot = none := by simpa [Addr.add] using World.cell?_spot (hc 0 (by omega))
  subst hspot
  refine ⟨b, off, rfl, ?_, fun j hj => ?_⟩
  · have := World.block_lt_of_cell? w _ (hc 0 (by omega))
    simpa [Addr.add] using this
  · rw [List.length_take] at hj
    have h1 := hc j (by omega)
    rw [show (⟨b, off, none⟩ : Addr).add j = ⟨b, off + j, none⟩ from by simp [Addr.add]] at h1
    rw [h1]
    congr 2
    simp only [List.getD]
    rw [List.getElem?_take_of_lt (by omega)]
theorem is9_open {w : World} {fuel : Nat} {v : Value} {x : DataW H × List MemPlace} (h : DataW.trod enc Tryz.prog w 0 (fun _ => true) true fuel 24 [v] = some x) (hsz : ∀ n ∈ x.1.weights Tryz.prog 24, n ≤ reachBytes) :
    ∃ ao L cap ns, v = .slice ao L cap ∧ IRs w ao ns ∧ L = ns.length ∧ L ≤ cap := by
  rcases open_ints Tryz.undIs9 Tryz.undI9 Tryz.cI9 h with ⟨hcs, _⟩ | ⟨a, l, c, zs, hcs, _, hl, hm, hz, hx, hcell, hwz⟩
  · simp only [List.cons.injEq, and_true] at hcs
    exact ⟨none, 0, 0, [], hcs, ⟨fun h => by simp at h, by simp⟩, rfl, Nat.le_refl _⟩
  · simp only [List.cons.injEq, and_true] at hcs
    simp only [if_true] at hz
    have hw : zs.length * Tryz.prog.bytesOf 3 ≤ reachBytes := by
      apply hsz
      rw [hx]
      simp only [DataW.weights, Tryz.undIs9, lits, List.length_map]
      rw [show (zs.take l).length + (zs.drop l).length = zs.length by rw [← List.length_append, List.take_append_drop]]
      exact List.mem_cons_self
    rw [show Tryz.prog.bytesOf 3 = 8 from by kernel_rfl] at hw
    have hr := reachBytes_lt
    exact ⟨some a, l, c, zs.take l, hcs, IRs.of_open15 hl hz hcell (by omega), by rw [List.length_take]; omega, by omega⟩
set_option maxRecDepth 100000 in
theorem hd_open {w : World} {fuel : Nat} {cs : List Value} {x : DataW H × List MemPlace} (h : DataW.trod enc Tryz.prog w 0 (fun _ => true) true fuel 58 cs = some x) (hsz : ∀ n ∈ x.1.weights Tryz.prog 58, n ≤ reachBytes) :
    ∃ o : Hd, cs = hdC15 o ∧ HEach w o := by
  have hF := Tryz.hdFields9
  cases hu : Tryz.prog.underlying 58 with
  | none => rw [hu] at hF; simp at hF
  | some u =>
    rw [hu] at hF
    cases u with
    | struct fs =>
      simp only at hF
      obtain ⟨ys, n, _, hx, hlen, hys, hf⟩ := DataW.trod_struct hu h
      rw [Tryz.cellsHd9] at hlen
      match cs, hlen with
      | [v0, v1], _ =>
        have hl2 : fs.toList.length = 2 := by have := congrArg List.length hF; simpa using this
        obtain ⟨l, hl⟩ : ∃ l, l = fs.toList := ⟨_, rfl⟩
        rw [← hl] at hF hl2
        match l, hl2 with
        | [f0, f1], _ =>
          simp only [List.map_cons, List.map_nil, List.cons.injEq, Prod.mk.injEq, and_true] at hF
          obtain ⟨⟨t0, o0⟩, ⟨t1, o1⟩⟩ := hF
          have g : ∀ (i : Nat) (f : Field), [f0, f1][i]? = some f → fs[i]? = some f := by
            intro i f hi
            rw [hl] at hi
            simpa using hi
          have r0 := hf 0 f0 (g 0 f0 rfl)
          have r1 := hf 1 f1 (g 1 f1 rfl)
          rw [t0, o0, Tryz.cS9] at r0
          rw [t1, o1, Tryz.cVns9] at r1
          simp only [List.drop_zero, List.drop_succ_cons, List.take_succ_cons, List.take_zero] at r0 r1
          have hy2 : ys.length = 2 := by rw [hys]; have := congrArg List.length hl; simpa using this.symm
          match ys, hy2 with
          | [y0, y1], _ =>
            simp only [List.getElem?_cons_zero, List.getElem?_cons_succ] at r0 r1
            have hty : fs.toList.map (·.type) = [9, 56] := by rw [← hl]; simp [t0, t1]
            have hw : ∀ (j : Nat) (t : TypeId) (d : DataW H), [9, 56][j]? = some t → [y0.1, y1.1][j]? = some d → ∀ q ∈ d.weights Tryz.prog t, q ≤ reachBytes := fun j t d h1 h2 q hq => by
              apply hsz
              rw [hx]
              simp only [DataW.weights, hu]
              rw [hty]
              exact DataW.weights_mem_each (j := j) (t := t) (d := d) h1 h2 _ hq
            obtain ⟨s0, e0, x0, _⟩ := DataW.trod_string Tryz.undStr r0
            obtain ⟨ao, L, cap, vs, e1, hV, hL, hc⟩ := vs_open (d := y1.1) (ps := y1.2) r1 (hw 1 56 y1.1 rfl rfl)
            simp only [List.cons.injEq, and_true] at e0
            have hk := hw 0 9 y0.1 rfl rfl s0.size (by rw [x0]; simp only [DataW.weights, List.mem_singleton]; show s0.data.size = _; simp)
            have hr := reachBytes_lt
            refine ⟨⟨s0, ao, L, cap, vs⟩, ?_, ⟨by simp only; omega, hL, hc, hV⟩⟩
            simp only [hdC15]
            rw [e0, e1]
    | _ => simp at hF
theorem hs9_open {w : World} {fuel : Nat} {v : Value} {d : DataW H} {ps : List MemPlace} (h : DataW.trod enc Tryz.prog w 0 (fun _ => true) true fuel 25 [v] = some (d, ps)) (hsz : ∀ n ∈ d.weights Tryz.prog 25, n ≤ reachBytes) :
    ∃ ao L cap os, v = .slice ao L cap ∧ HRs w ao os ∧ L = os.length ∧ L ≤ cap ∧ L ≤ 3518437208780 := by
  rcases Go.Deep.open_slice Tryz.undHds9 h with ⟨hcs, _⟩ | ⟨a, len, cap, m, n, D, Pl, hcs, hb, hl, hm, hmm, hx, hE⟩
  · simp only [List.cons.injEq, and_true] at hcs
    exact ⟨none, 0, 0, [], hcs, ⟨fun h => by simp at h, by simp, by simp⟩, rfl, Nat.le_refl _, by omega⟩
  · simp only [List.cons.injEq, and_true] at hcs
    simp only [if_true] at hmm
    subst hmm
    rw [Tryz.cellsHd9] at hE hx
    have hd : d = .slice ((List.range len).map D) ((List.range (m - len)).map fun j => D (len + j)) := by have := congrArg Prod.fst hx; simpa using this
    have hr := reachBytes_lt
    have hW : ∀ i, i < len → ∀ q ∈ (D i).weights Tryz.prog 58, q ≤ reachBytes := by
      intro i hi q hq
      apply hsz
      rw [hd]
      simp only [DataW.weights, Tryz.undHds9]
      refine List.mem_cons_of_mem _ (List.mem_append_left _ ?_)
      exact weightsAll_mem (List.mem_map.2 ⟨i, by simpa using hi, rfl⟩) _ hq
    have hO : ∀ i, i < len → ∃ o : Hd, (w.cells? 0 (a.add (i * 2)) 2 = some (hdC15 o)) ∧ HEach w o := by
      intro i hi
      obtain ⟨cs', h1, h2⟩ := hE i (by omega)
      obtain ⟨o, rfl, hT⟩ := hd_open h2 (hW i hi)
      exact ⟨o, h1, hT⟩
    haveI : Inhabited Hd := ⟨Hd.zero⟩
    obtain ⟨F, hF⟩ := Go.Deep.choose_lt hO
    have hlen : len ≤ 3518437208780 := by
      have hw : len * Tryz.prog.bytesOf 58 ≤ reachBytes := by
        refine Nat.le_trans (Nat.mul_le_mul_right _ hl) (hsz _ ?_)
        rw [hd]
        simp only [DataW.weights, Tryz.undHds9, List.length_map, List.length_range]
        rw [show len + (m - len) = m by omega]
        exact List.mem_cons_self
      rw [show Tryz.prog.bytesOf 58 = 40 from by kernel_rfl] at hw
      have hr2 : reachBytes = 140737488351232 := rfl
      omega
    refine ⟨some a, len, m, (List.range len).map F, hcs, ⟨fun h0 => ?_, by simp; omega, ?_⟩, by simp, hl, hlen⟩
    · simp only [List.length_map, List.length_range] at h0 ⊢
      have hc0 := (World.cells?_some (hF 0 (by omega)).1).2.2
      obtain ⟨b, off, spot⟩ := a
      have hspot : spot = none := by
        have := hc0 0 (by omega)
        simp [hdC15] at this
        simpa [Addr.add] using World.cell?_spot this
      subst hspot
      have hcell : ∀ i, i < len → ∀ j, j < 2 → w.cell? ⟨b, off + i * 2 + j, none⟩ = (hdC15 (F i))[j]? := by
        intro i hi j hj
        have := (World.cells?_some (hF i (by omega)).1).2.2 j hj
        rw [show ((⟨b, off, none⟩ : Addr).add (i * 2)).add j = ⟨b, off + i * 2 + j, none⟩ from by rw [Addr.add_lit, Addr.add_lit]] at this
        exact this
      refine ⟨b, off, rfl, World.block_lt_of_cell? w ⟨b, off + 0 * 2 + 0, none⟩ (by rw [hcell 0 (by omega) 0 (by omega)]; rfl), fun i hi => ?_⟩
      have e : ((List.range len).map F).getD i Hd.zero = F i := by simp [List.getD, hi]
      rw [e]
      exact ⟨hcell i hi 0 (by omega), hcell i hi 1 (by omega)⟩
    · intro t ht
      obtain ⟨i, hi, rfl⟩ := List.mem_map.1 ht
      exact (hF i (by simpa using hi)).2
theorem Tryz.cHds15 : Tryz.prog.cellsOf 25 = 1 := by kernel_rfl
theorem Tryz.cSv : Tryz.prog.cellsOf 27 = 3 := by kernel_rfl
theorem Tryz.svFields : (match Tryz.prog.underlying 27 with | some (.struct fs) => fs.toList.map (fun f => (f.type, f.offset)) | _ => []) = [(3, 0), (24, 1), (25, 2)] := by kernel_rfl
set_option maxRecDepth 100000 in
theorem sv_open {w : World} {fuel : Nat} {cs : List Value} {x : DataW H × List MemPlace} (h : DataW.trod enc Tryz.prog w 0 (fun _ => true) true fuel 27 cs = some x) (hsz : ∀ n ∈ x.1.weights Tryz.prog 27, n ≤ reachBytes) :
    ∃ (m : Int) (bo : Option Addr) (Lb cb : Nat) (bs : List Int) (ao : Option Addr) (L cap : Nat) (os : List Hd), cs = [.int .i64 m, .slice bo Lb cb, .slice ao L cap] ∧ (-9223372036854775808 ≤ m ∧ m ≤ 9223372036854775807) ∧ IRs w bo bs ∧ Lb = bs.length ∧ HRs w ao os ∧ L = os.length := by
  have hF := Tryz.svFields
  cases hu : Tryz.prog.underlying 27 with
  | none => rw [hu] at hF; simp at hF
  | some u =>
    rw [hu] at hF
    cases u with
    | struct fs =>
      simp only at hF
      obtain ⟨ys, n, _, hx, hlen, hys, hf⟩ := DataW.trod_struct hu h
      rw [Tryz.cSv] at hlen
      match cs, hlen with
      | [v0, v1, v2], _ =>
        have hl2 : fs.toList.length = 3 := by have := congrArg List.length hF; simpa using this
        obtain ⟨l, hl⟩ : ∃ l, l = fs.toList := ⟨_, rfl⟩
        rw [← hl] at hF hl2
        match l, hl2 with
        | [f0, f1, f2], _ =>
          simp only [List.map_cons, List.map_nil, List.cons.injEq, Prod.mk.injEq, and_true] at hF
          obtain ⟨⟨t0, o0⟩, ⟨t1, o1⟩, ⟨t2, o2⟩⟩ := hF
          have g : ∀ (i : Nat) (f : Field), [f0, f1, f2][i]? = some f → fs[i]? = some f := by
            intro i f hi
            rw [hl] at hi
            simpa using hi
          have r0 := hf 0 f0 (g 0 f0 rfl)
          have r1 := hf 1 f1 (g 1 f1 rfl)
          have r2 := hf 2 f2 (g 2 f2 rfl)
          rw [t0, o0, Tryz.cI9] at r0
          rw [t1, o1, Tryz.cIs9] at r1
          rw [t2, o2, Tryz.cHds15] at r2
          simp only [List.drop_zero, List.drop_succ_cons, List.take_succ_cons, List.take_zero] at r0 r1 r2
          have hy2 : ys.length = 3 := by rw [hys]; have := congrArg List.length hl; simpa using this.symm
          match ys, hy2 with
          | [y0, y1, y2], _ =>
            simp only [List.getElem?_cons_zero, List.getElem?_cons_succ] at r0 r1 r2
            have hty : fs.toList.map (·.type) = [3, 24, 25] := by rw [← hl]; simp [t0, t1, t2]
            have hw : ∀ (j : Nat) (t : TypeId) (d : DataW H), [3, 24, 25][j]? = some t → [y0.1, y1.1, y2.1][j]? = some d → ∀ q ∈ d.weights Tryz.prog t, q ≤ reachBytes := fun j t d h1 h2 q hq => by
              apply hsz
              rw [hx]
              simp only [DataW.weights, hu]
              rw [hty]
              exact DataW.weights_mem_each (j := j) (t := t) (d := d) h1 h2 _ hq
            obtain ⟨k0, e0, _, w0⟩ := DataW.trod_int Tryz.undI9 r0
            obtain ⟨bo, Lb, cb, bs, e1, hB, hLb, _⟩ := is9_open r1 (hw 1 24 y1.1 rfl rfl)
            obtain ⟨ao, L, cap, os, e2, hH, hL, _, hM⟩ := hs9_open r2 (hw 2 25 y2.1 rfl rfl)
            have b0 := bounds_i64 w0
            simp only [List.cons.injEq, and_true] at e0
            exact ⟨k0, bo, Lb, cb, bs, ao, L, cap, os, by rw [e0, e1, e2], by omega, hB, hLb, hH, hL⟩
    | _ => simp at hF
end
end Go.Proofs.YtdojhkgnnbdfkaaGreat

/- A script that came in: ops that hold a transaction. Conditions as each lemma names them. -/
import Derived.Test.YtgladhebgnngdaaTxo
import Derived.Test.YtgladhebgnngdaaTm
import Derived.Deep.Slices
namespace Go.Proofs.Ytgladhebgnngdaa
open Go.ChangeShapes Go.WideShapes Go.ChangeAt Go.RowKit Go.Lib
set_option linter.unusedVariables false
/-- An op. -/
structure Oq where
  kd : Nat
  nn : Int
  wo : Option Addr
  M : Nat
  mc : Nat
  ws : List Wt
def Oq.zero : Oq := ⟨0, 0, none, 0, 0, []⟩
def Oq.c (o : Oq) : List Value := [.int .u8 (o.kd : Int), .int .i64 o.nn, .slice o.wo o.M o.mc]
structure Oq.at (w : World) (o : Oq) : Prop where
  kd : o.kd ≤ 255
  tx : TArg w o.nn o.wo o.M o.mc o.ws
/-- The slice that came in reads as the ops os. -/
structure ORs (w : World) (ao : Option Addr) (os : List Oq) : Prop where
  lies : 0 < os.length → ∃ b off, ao = some ⟨b, off, none⟩ ∧ b < w.heap.size ∧ ∀ i, i < os.length → ∀ j, j < 3 → w.cell? ⟨b, off + i * 3 + j, none⟩ = (os.getD i Oq.zero).c[j]?
  few : os.length ≤ 140737488355328
  each : ∀ o ∈ os, o.at w
theorem ORs.keep {w w' : World} {ao : Option Addr} {os : List Oq} (h : ORs w ao os) (hf : Fr [] w w') : ORs w' ao os := by
  refine ⟨fun h0 => ?_, h.few, fun o ho => ⟨(h.each o ho).kd, (h.each o ho).tx.keep hf⟩⟩
  obtain ⟨b, off, e, hb, hc⟩ := h.lies h0
  exact ⟨b, off, e, Nat.lt_of_lt_of_le hb hf.size, fun i hi j hj => (World.cell?_of_block (hf.block b hb (by simp))).trans (hc i hi j hj)⟩
section
variable {H : Type} {enc : TypeId × Value → H}
theorem Try.undOps14 : Try.prog.underlying 24 = some (.slice 42) := by kernel_rfl
theorem Try.cellsOp14 : Try.prog.cellsOf 42 = 3 := by kernel_rfl
theorem Try.undB14 : Try.prog.underlying 5 = some (.int .u8) := by kernel_rfl
theorem Try.cB14 : Try.prog.cellsOf 5 = 1 := by kernel_rfl
theorem Try.op14Fields : (match Try.prog.underlying 42 with | some (.struct fs) => fs.toList.map (fun f => (f.type, f.offset)) | _ => []) = [(5, 0), (40, 1)] := by kernel_rfl
set_option maxRecDepth 100000 in
theorem op14_open {w : World} {fuel : Nat} {cs : List Value} {x : DataW H × List MemPlace} (h : DataW.trod enc Try.prog w 0 (fun _ => true) true fuel 42 cs = some x) (hsz : ∀ n ∈ x.1.weights Try.prog 42, n ≤ reachBytes) :
    ∃ o : Oq, cs = o.c ∧ o.at w := by
  have hF := Try.op14Fields
  cases hu : Try.prog.underlying 42 with
  | none => rw [hu] at hF; simp at hF
  | some u =>
    rw [hu] at hF
    cases u with
    | struct fs =>
      simp only at hF
      obtain ⟨ys, n, _, hx, hlen, hys, hf⟩ := DataW.trod_struct hu h
      rw [Try.cellsOp14] at hlen
      match cs, hlen with
      | [v0, v1, v2], _ =>
        have hl2 : fs.toList.length = 2 := by have := congrArg List.length hF; simpa using this
        obtain ⟨l, hl⟩ : ∃ l, l = fs.toList := ⟨_, rfl⟩
        rw [← hl] at hF hl2
        match l, hl2 with
        | [f0, f1], _ =>
          simp only [List.map_cons, List.map_nil, List.cons.injEq, Prod.mk.injEq, and_true] at hF
          obtain ⟨⟨t0, o0⟩, ⟨t1, o1⟩⟩ := hF
          have g : ∀ (i : Nat) (f : Field), [f0, f1][i]? = some f → fs[i]? = some f := by
            intro i f hi
            rw [hl] at hi
            simpa using hi
          have r0 := hf 0 f0 (g 0 f0 rfl)
          have r1 := hf 1 f1 (g 1 f1 rfl)
          rw [t0, o0, Try.cB14] at r0
          rw [t1, o1, Try.cellsT] at r1
          simp only [List.drop_zero, List.drop_succ_cons, List.take_succ_cons, List.take_zero] at r0 r1
          have hy2 : ys.length = 2 := by rw [hys]; have := congrArg List.length hl; simpa using this.symm
          match ys, hy2 with
          | [y0, y1], _ =>
            simp only [List.getElem?_cons_zero, List.getElem?_cons_succ] at r0 r1
            have hty : fs.toList.map (·.type) = [5, 40] := by rw [← hl]; simp [t0, t1]
            obtain ⟨k0, e0, _, w0⟩ := DataW.trod_int Try.undB14 r0
            obtain ⟨nn, ao, L, cap, ws, e1, hT⟩ := tx_open (x := y1) r1 (by
              intro q hq
              apply hsz
              rw [hx]
              simp only [DataW.weights, hu]
              rw [hty]
              exact DataW.weights_mem_each (j := 1) (t := 40) (d := y1.1) rfl rfl _ hq)
            have b0 := bounds_u8 w0
            simp only [List.cons.injEq, and_true] at e0 e1
            obtain ⟨e10, e11⟩ := e1
            refine ⟨⟨k0.toNat, nn, ao, L, cap, ws⟩, ?_, ⟨by show k0.toNat ≤ 255; omega, hT⟩⟩
            simp only [Oq.c]
            rw [e0, e10, e11, show ((k0.toNat : Nat) : Int) = k0 by omega]
    | _ => simp at hF
set_option maxRecDepth 100000 in
theorem ops14_open {w : World} {fuel : Nat} {v : Value} {d : DataW H} {ps : List MemPlace} (h : DataW.trod enc Try.prog w 0 (fun _ => true) true fuel 24 [v] = some (d, ps)) (hsz : ∀ n ∈ d.weights Try.prog 24, n ≤ reachBytes) :
    ∃ ao L cap os, v = .slice ao L cap ∧ ORs w ao os ∧ L = os.length := by
  rcases Go.Deep.open_slice Try.undOps14 h with ⟨hcs, _⟩ | ⟨a, len, cap, m, n, D, Pl, hcs, hb, hl, hm, hmm, hx, hE⟩
  · simp only [List.cons.injEq, and_true] at hcs
    exact ⟨none, 0, 0, [], hcs, ⟨fun h => by simp at h, by simp, by simp⟩, rfl⟩
  · simp only [List.cons.injEq, and_true] at hcs
    simp only [if_true] at hmm
    subst hmm
    rw [Try.cellsOp14] at hE hx
    have hd : d = .slice ((List.range len).map D) ((List.range (m - len)).map fun j => D (len + j)) := by have := congrArg Prod.fst hx; simpa using this
    have hr := reachBytes_lt
    have hW : ∀ i, i < len → ∀ q ∈ (D i).weights Try.prog 42, q ≤ reachBytes := by
      intro i hi q hq
      apply hsz
      rw [hd]
      simp only [DataW.weights, Try.undOps14]
      refine List.mem_cons_of_mem _ (List.mem_append_left _ ?_)
      exact weightsAll_mem (List.mem_map.2 ⟨i, by simpa using hi, rfl⟩) _ hq
    have hO : ∀ i, i < len → ∃ o : Oq, (w.cells? 0 (a.add (i * 3)) 3 = some o.c) ∧ o.at w := by
      intro i hi
      obtain ⟨cs', h1, h2⟩ := hE i (by omega)
      obtain ⟨o, rfl, hT⟩ := op14_open h2 (hW i hi)
      exact ⟨o, h1, hT⟩
    haveI : Inhabited Oq := ⟨Oq.zero⟩
    obtain ⟨F, hF⟩ := Go.Deep.choose_lt hO
    have hlen : len ≤ 140737488355328 := by
      have hw : len * Try.prog.bytesOf 42 ≤ reachBytes := by
        refine Nat.le_trans (Nat.mul_le_mul_right _ hl) (hsz _ ?_)
        rw [hd]
        simp only [DataW.weights, Try.undOps14, List.length_map, List.length_range]
        rw [show len + (m - len) = m by omega]
        exact List.mem_cons_self
      have hb40 : 1 ≤ Try.prog.bytesOf 42 := by
        rw [show Try.prog.bytesOf 42 = 40 from by kernel_rfl]
        decide
      have := Nat.le_mul_of_pos_right len hb40
      omega
    refine ⟨some a, len, m, (List.range len).map F, hcs, ⟨fun h0 => ?_, by simpa using hlen, ?_⟩, by simp⟩
    · simp only [List.length_map, List.length_range] at h0 ⊢
      have hc0 := (World.cells?_some (hF 0 (by omega)).1).2.2
      obtain ⟨b, off, spot⟩ := a
      have hspot : spot = none := by
        have := hc0 0 (by omega)
        simp [Oq.c] at this
        simpa [Addr.add] using World.cell?_spot this
      subst hspot
      have hcell : ∀ i, i < len → ∀ j, j < 3 → w.cell? ⟨b, off + i * 3 + j, none⟩ = (F i).c[j]? := by
        intro i hi j hj
        have := (World.cells?_some (hF i (by omega)).1).2.2 j hj
        rw [show ((⟨b, off, none⟩ : Addr).add (i * 3)).add j = ⟨b, off + i * 3 + j, none⟩ from by rw [Addr.add_lit, Addr.add_lit]] at this
        exact this
      refine ⟨b, off, rfl, ?_, fun i hi j hj => ?_⟩
      · have := World.block_lt_of_cell? w ⟨b, off + 0 * 3 + 0, none⟩ (hcell 0 (by omega) 0 (by omega))
        exact this
      · rw [hcell i hi j hj]
        have : ((List.range len).map F).getD i Oq.zero = F i := by simp [List.getD, hi]
        rw [this]
    · intro o ho
      obtain ⟨i, hi, rfl⟩ := List.mem_map.1 ho
      exact (hF i (by simpa using hi)).2
end
end Go.Proofs.Ytgladhebgnngdaa

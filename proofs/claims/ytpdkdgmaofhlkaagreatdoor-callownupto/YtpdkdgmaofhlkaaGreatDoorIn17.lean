/- A call, and how a task is made, as they come in. No conditions. -/
import Derived.Test.YtpdkdgmaofhlkaaGreatDoorLi17
import Derived.SizedLaws
import Derived.ChangeMaps5
namespace Go.Proofs.YtpdkdgmaofhlkaaGreatDoor
open Go.ChangeShapes Go.WideShapes Go.ChangeAt Go.RowKit Go.Lib
set_option linter.unusedVariables false
set_option linter.unusedSimpArgs false

theorem Tryz.cS17 : Tryz.prog.cellsOf 9 = 1 := by kernel_rfl
theorem Tryz.cCk17 : Tryz.prog.cellsOf 24 = 1 := by kernel_rfl
theorem Tryz.undCk17 : Tryz.prog.underlying 24 = some (.int .u8) := by kernel_rfl
theorem Tryz.call_openC : Tryz.prog.cellsOf 26 = 3 := by kernel_rfl
theorem Tryz.call_openF : (match Tryz.prog.underlying 26 with | some (.struct fs) => fs.toList.map (fun f => (f.type, f.offset)) | _ => []) = [(24, 0), (9, 1), (9, 2)] := by kernel_rfl
theorem Tryz.made17_openC : Tryz.prog.cellsOf 28 = 8 := by kernel_rfl
theorem Tryz.made17_openF : (match Tryz.prog.underlying 28 with | some (.struct fs) => fs.toList.map (fun f => (f.type, f.offset)) | _ => []) = [(3, 0), (23, 1), (26, 5)] := by kernel_rfl
section
variable {H : Type} {enc : TypeId × Value → H}
set_option maxRecDepth 100000 in
theorem call_open {w : World} {fuel : Nat} {cs : List Value} {x : DataW H × List MemPlace} (h : DataW.trod enc Tryz.prog w 0 (fun _ => true) true fuel 26 cs = some x) (hsz : ∀ n ∈ x.1.weights Tryz.prog 26, n ≤ reachBytes) :
    ∃ (k : Int) (key en : ByteArray), cs = [.int .u8 k, .string key, .string en] ∧ (0 ≤ k ∧ k ≤ 255) ∧ key.size ≤ reachBytes ∧ en.size ≤ reachBytes := by
  have hF := Tryz.call_openF
  cases hu : Tryz.prog.underlying 26 with
  | none => rw [hu] at hF; simp at hF
  | some u =>
    rw [hu] at hF
    cases u with
    | struct fs =>
      simp only at hF
      obtain ⟨ys, n, _, hx, hlen, hys, hf⟩ := DataW.trod_struct hu h
      rw [Tryz.call_openC] at hlen
      match cs, hlen with
      | [v0, v1, v2], _ =>
        have hl2 : fs.toList.length = 3 := by have := congrArg List.length hF; simpa using this
        obtain ⟨l, hl⟩ : ∃ l, l = fs.toList := ⟨_, rfl⟩
        rw [← hl] at hF hl2
        match l, hl2 with
        | [f0, f1, f2], _ =>
          simp only [List.map_cons, List.map_nil, List.cons.injEq, Prod.mk.injEq, and_true] at hF
          obtain ⟨⟨t0, o0⟩, ⟨t1, o1⟩, ⟨t2, o2⟩⟩ := hF
          have g : ∀ (i : Nat) (f : Field), [f0, f1, f2][i]? = some f → fs[i]? = some f := by
            intro i f hi
            rw [hl] at hi
            simpa using hi
          have r0 := hf 0 f0 (g 0 f0 rfl)
          have r1 := hf 1 f1 (g 1 f1 rfl)
          have r2 := hf 2 f2 (g 2 f2 rfl)
          rw [t0, o0, Tryz.cCk17] at r0
          rw [t1, o1, Tryz.cS17] at r1
          rw [t2, o2, Tryz.cS17] at r2
          simp only [List.drop_zero, List.drop_succ_cons, List.take_succ_cons, List.take_zero] at r0 r1 r2
          have hy2 : ys.length = 3 := by rw [hys]; have := congrArg List.length hl; simpa using this.symm
          match ys, hy2 with
          | [y0, y1, y2], _ =>
            simp only [List.getElem?_cons_zero, List.getElem?_cons_succ] at r0 r1 r2
            have hty : fs.toList.map (·.type) = [24, 9, 9] := by rw [← hl]; simp [t0, t1, t2]
            have hw : ∀ (j : Nat) (t : TypeId) (d : DataW H), [24, 9, 9][j]? = some t → [y0.1, y1.1, y2.1][j]? = some d → ∀ q ∈ d.weights Tryz.prog t, q ≤ reachBytes := fun j t d h1 h2 q hq => by
              apply hsz
              rw [hx]
              simp only [DataW.weights, hu]
              rw [hty]
              exact DataW.weights_mem_each (j := j) (t := t) (d := d) h1 h2 _ hq
            obtain ⟨k0, e0, _, w0⟩ := DataW.trod_int Tryz.undCk17 r0
            obtain ⟨s1, e1, x1, _⟩ := DataW.trod_string Tryz.undStr r1
            obtain ⟨s2, e2, x2, _⟩ := DataW.trod_string Tryz.undStr r2
            have b0 := bounds_u8 w0
            simp only [List.cons.injEq, and_true] at e0 e1 e2
            have hk1 := hw 1 9 y1.1 rfl rfl s1.size (by rw [x1]; simp only [DataW.weights, List.mem_singleton]; show s1.data.size = _; simp)
            have hk2 := hw 2 9 y2.1 rfl rfl s2.size (by rw [x2]; simp only [DataW.weights, List.mem_singleton]; show s2.data.size = _; simp)
            exact ⟨k0, s1, s2, by rw [e0, e1, e2], by omega, hk1, hk2⟩
    | _ => simp at hF
set_option maxRecDepth 100000 in
theorem made17_open {w : World} {fuel : Nat} {cs : List Value} {x : DataW H × List MemPlace} (h : DataW.trod enc Tryz.prog w 0 (fun _ => true) true fuel 28 cs = some x) (hsz : ∀ n ∈ x.1.weights Tryz.prog 28, n ≤ reachBytes) :
    ∃ (n l s x q k : Int) (key en : ByteArray), cs = [.int .i64 n, .int .i64 l, .int .i64 s, .int .i64 x, .int .i64 q, .int .u8 k, .string key, .string en] ∧ (I6 n ∧ Cf.ok ⟨l, s, x, q⟩) ∧ (0 ≤ k ∧ k ≤ 255) ∧ key.size ≤ reachBytes ∧ en.size ≤ reachBytes := by
  have hF := Tryz.made17_openF
  cases hu : Tryz.prog.underlying 28 with
  | none => rw [hu] at hF; simp at hF
  | some u =>
    rw [hu] at hF
    cases u with
    | struct fs =>
      simp only at hF
      obtain ⟨ys, n, _, hx, hlen, hys, hf⟩ := DataW.trod_struct hu h
      rw [Tryz.made17_openC] at hlen
      match cs, hlen with
      | [v0, v1, v2, v3, v4, v5, v6, v7], _ =>
        have hl2 : fs.toList.length = 3 := by have := congrArg List.length hF; simpa using this
        obtain ⟨l, hl⟩ : ∃ l, l = fs.toList := ⟨_, rfl⟩
        rw [← hl] at hF hl2
        match l, hl2 with
        | [f0, f1, f2], _ =>
          simp only [List.map_cons, List.map_nil, List.cons.injEq, Prod.mk.injEq, and_true] at hF
          obtain ⟨⟨t0, o0⟩, ⟨t1, o1⟩, ⟨t2, o2⟩⟩ := hF
          have g : ∀ (i : Nat) (f : Field), [f0, f1, f2][i]? = some f → fs[i]? = some f := by
            intro i f hi
            rw [hl] at hi
            simpa using hi
          have r0 := hf 0 f0 (g 0 f0 rfl)
          have r1 := hf 1 f1 (g 1 f1 rfl)
          have r2 := hf 2 f2 (g 2 f2 rfl)
          rw [t0, o0, Tryz.cI13] at r0
          rw [t1, o1, Tryz.cellsCf] at r1
          rw [t2, o2, Tryz.call_openC] at r2
          simp only [List.drop_zero, List.drop_succ_cons, List.take_succ_cons, List.take_zero] at r0 r1 r2
          have hy2 : ys.length = 3 := by rw [hys]; have := congrArg List.length hl; simpa using this.symm
          match ys, hy2 with
          | [y0, y1, y2], _ =>
            simp only [List.getElem?_cons_zero, List.getElem?_cons_succ] at r0 r1 r2
            have hty : fs.toList.map (·.type) = [3, 23, 26] := by rw [← hl]; simp [t0, t1, t2]
            have hw : ∀ (j : Nat) (t : TypeId) (d : DataW H), [3, 23, 26][j]? = some t → [y0.1, y1.1, y2.1][j]? = some d → ∀ q ∈ d.weights Tryz.prog t, q ≤ reachBytes := fun j t d h1 h2 q hq => by
              apply hsz
              rw [hx]
              simp only [DataW.weights, hu]
              rw [hty]
              exact DataW.weights_mem_each (j := j) (t := t) (d := d) h1 h2 _ hq
            obtain ⟨k0, e0, _, w0⟩ := DataW.trod_int Tryz.undI13 r0
            obtain ⟨l, s, x', q, e1, hok⟩ := cf_open r1
            obtain ⟨k, key, en, e2, hk, hk1, hk2⟩ := call_open r2 (hw 2 26 y2.1 rfl rfl)
            have b0 := bounds_i64 w0
            simp only [List.cons.injEq, and_true] at e0 e1 e2
            obtain ⟨a1, a2, a3, a4⟩ := e1
            obtain ⟨c1, c2, c3⟩ := e2
            exact ⟨k0, l, s, x', q, k, key, en, by rw [e0, a1, a2, a3, a4, c1, c2, c3], ⟨b0, hok⟩, hk, hk1, hk2⟩
    | _ => simp at hF
end
end Go.Proofs.YtpdkdgmaofhlkaaGreatDoor

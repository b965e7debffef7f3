/- Texts of this claim laid together, one behind the other: contracts and plain lemmas; conditions as each names them. -/
import Derived.Test.YtomajifklajilaaGp24
/- A stretch, as it comes in. Conditions as each names them. -/
namespace Go.Proofs.Ytomajifklajilaa
open Go.ChangeShapes Go.WideShapes Go.ChangeAt Go.RowKit Go.Lib
set_option linter.unusedVariables false
set_option linter.unusedSimpArgs false
section
variable {H : Type} {enc : TypeId × Value → H}
theorem Try.cHds15 : Try.prog.cellsOf 37 = 1 := by kernel_rfl
theorem Try.cStretch : Try.prog.cellsOf 51 = 4 := by kernel_rfl
theorem Try.stretchFields : (match Try.prog.underlying 51 with | some (.struct fs) => fs.toList.map (fun f => (f.type, f.offset)) | _ => []) = [(37, 0), (9, 1), (9, 2), (3, 3)] := by kernel_rfl
set_option maxRecDepth 100000 in
theorem stretch_open {w : World} {fuel : Nat} {cs : List Value} {x : DataW H × List MemPlace} (h : DataW.trod enc Try.prog w 0 (fun _ => true) true fuel 51 cs = some x) (hsz : ∀ n ∈ x.1.weights Try.prog 51, n ≤ reachBytes) :
    ∃ (ao : Option Addr) (L cap : Nat) (os : List Hd) (key en : ByteArray) (mk : Int), cs = [.slice ao L cap, .string key, .string en, .int .i64 mk] ∧ HRs w ao os ∧ L = os.length ∧ L ≤ 3518437208780 ∧ (key.size ≤ 140737488355328 ∧ en.size ≤ 140737488355328 ∧ -9223372036854775808 ≤ mk ∧ mk ≤ 9223372036854775807) := by
  have hF := Try.stretchFields
  cases hu : Try.prog.underlying 51 with
  | none => rw [hu] at hF; simp at hF
  | some u =>
    rw [hu] at hF
    cases u with
    | struct fs =>
      simp only at hF
      obtain ⟨ys, n, _, hx, hlen, hys, hf⟩ := DataW.trod_struct hu h
      rw [Try.cStretch] at hlen
      match cs, hlen with
      | [v0, v1, v2, v3], _ =>
        have hl2 : fs.toList.length = 4 := by have := congrArg List.length hF; simpa using this
        obtain ⟨l, hl⟩ : ∃ l, l = fs.toList := ⟨_, rfl⟩
        rw [← hl] at hF hl2
        match l, hl2 with
        | [f0, f1, f2, f3], _ =>
          simp only [List.map_cons, List.map_nil, List.cons.injEq, Prod.mk.injEq, and_true] at hF
          obtain ⟨⟨t0, o0⟩, ⟨t1, o1⟩, ⟨t2, o2⟩, ⟨t3, o3⟩⟩ := hF
          have g : ∀ (i : Nat) (f : Field), [f0, f1, f2, f3][i]? = some f → fs[i]? = some f := by
            intro i f hi
            rw [hl] at hi
            simpa using hi
          have r0 := hf 0 f0 (g 0 f0 rfl)
          have r1 := hf 1 f1 (g 1 f1 rfl)
          have r2 := hf 2 f2 (g 2 f2 rfl)
          have r3 := hf 3 f3 (g 3 f3 rfl)
          rw [t0, o0, Try.cHds15] at r0
          rw [t1, o1, Try.cS9] at r1
          rw [t2, o2, Try.cS9] at r2
          rw [t3, o3, Try.cI9] at r3
          simp only [List.drop_zero, List.drop_succ_cons, List.take_succ_cons, List.take_zero] at r0 r1 r2 r3
          have hy2 : ys.length = 4 := by rw [hys]; have := congrArg List.length hl; simpa using this.symm
          match ys, hy2 with
          | [y0, y1, y2, y3], _ =>
            simp only [List.getElem?_cons_zero, List.getElem?_cons_succ] at r0 r1 r2 r3
            have hty : fs.toList.map (·.type) = [37, 9, 9, 3] := by rw [← hl]; simp [t0, t1, t2, t3]
            have hw : ∀ (j : Nat) (t : TypeId) (d : DataW H), [37, 9, 9, 3][j]? = some t → [y0.1, y1.1, y2.1, y3.1][j]? = some d → ∀ q ∈ d.weights Try.prog t, q ≤ reachBytes := fun j t d h1 h2 q hq => by
              apply hsz
              rw [hx]
              simp only [DataW.weights, hu]
              rw [hty]
              exact DataW.weights_mem_each (j := j) (t := t) (d := d) h1 h2 _ hq
            obtain ⟨ao, L, cap, os, e0, hH, hL, _, hM⟩ := hs9_open r0 (hw 0 37 y0.1 rfl rfl)
            obtain ⟨s1, e1, x1, _⟩ := DataW.trod_string Try.undStr r1
            obtain ⟨s2, e2, x2, _⟩ := DataW.trod_string Try.undStr r2
            obtain ⟨k3, e3, _, w3⟩ := DataW.trod_int Try.undI9 r3
            have b3 := bounds_i64 w3
            simp only [List.cons.injEq, and_true] at e1 e2 e3
            have hk1 := hw 1 9 y1.1 rfl rfl s1.size (by rw [x1]; simp only [DataW.weights, List.mem_singleton]; show s1.data.size = _; simp)
            have hk2 := hw 2 9 y2.1 rfl rfl s2.size (by rw [x2]; simp only [DataW.weights, List.mem_singleton]; show s2.data.size = _; simp)
            have hr := reachBytes_lt
            exact ⟨ao, L, cap, os, s1, s2, k3, by rw [e0, e1, e2, e3], hH, hL, hM, by omega, by omega, by omega, by omega⟩
    | _ => simp at hF
end
end Go.Proofs.Ytomajifklajilaa

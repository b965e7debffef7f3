/- A call as it comes in. No conditions. -/
import Derived.Test.YtdojhkgnnbdfkaaCy17
import Derived.SizedLaws
import Derived.ChangeMaps5
namespace Go.Proofs.Ytdojhkgnnbdfkaa
open Go.ChangeShapes Go.WideShapes Go.ChangeAt Go.RowKit Go.Lib
set_option linter.unusedVariables false
set_option linter.unusedSimpArgs false

theorem Try.cS17 : Try.prog.cellsOf 9 = 1 := by kernel_rfl
theorem Try.cCk17 : Try.prog.cellsOf 40 = 1 := by kernel_rfl
theorem Try.undCk17 : Try.prog.underlying 40 = some (.int .u8) := by kernel_rfl
theorem Try.call_openC : Try.prog.cellsOf 42 = 3 := by kernel_rfl
theorem Try.call_openF : (match Try.prog.underlying 42 with | some (.struct fs) => fs.toList.map (fun f => (f.type, f.offset)) | _ => []) = [(40, 0), (9, 1), (9, 2)] := by kernel_rfl
section
variable {H : Type} {enc : TypeId × Value → H}
set_option maxRecDepth 100000 in
theorem call_open {w : World} {fuel : Nat} {cs : List Value} {x : DataW H × List MemPlace} (h : DataW.trod enc Try.prog w 0 (fun _ => true) true fuel 42 cs = some x) (hsz : ∀ n ∈ x.1.weights Try.prog 42, n ≤ reachBytes) :
    ∃ (k : Int) (key en : ByteArray), cs = [.int .u8 k, .string key, .string en] ∧ (0 ≤ k ∧ k ≤ 255) ∧ key.size ≤ reachBytes ∧ en.size ≤ reachBytes := by
  have hF := Try.call_openF
  cases hu : Try.prog.underlying 42 with
  | none => rw [hu] at hF; simp at hF
  | some u =>
    rw [hu] at hF
    cases u with
    | struct fs =>
      simp only at hF
      obtain ⟨ys, n, _, hx, hlen, hys, hf⟩ := DataW.trod_struct hu h
      rw [Try.call_openC] at hlen
      match cs, hlen with
      | [v0, v1, v2], _ =>
        have hl2 : fs.toList.length = 3 := by have := congrArg List.length hF; simpa using this
        obtain ⟨l, hl⟩ : ∃ l, l = fs.toList := ⟨_, rfl⟩
        rw [← hl] at hF hl2
        match l, hl2 with
        | [f0, f1, f2], _ =>
          simp only [List.map_cons, List.map_nil, List.cons.injEq, Prod.mk.injEq, and_true] at hF
          obtain ⟨⟨t0, o0⟩, ⟨t1, o1⟩, ⟨t2, o2⟩⟩ := hF
          have g : ∀ (i : Nat) (f : Field), [f0, f1, f2][i]? = some f → fs[i]? = some f := by
            intro i f hi
            rw [hl] at hi
            simpa using hi
          have r0 := hf 0 f0 (g 0 f0 rfl)
          have r1 := hf 1 f1 (g 1 f1 rfl)
          have r2 := hf 2 f2 (g 2 f2 rfl)
          rw [t0, o0, Try.cCk17] at r0
          rw [t1, o1, Try.cS17] at r1
          rw [t2, o2, Try.cS17] at r2
          simp only [List.drop_zero, List.drop_succ_cons, List.take_succ_cons, List.take_zero] at r0 r1 r2
          have hy2 : ys.length = 3 := by rw [hys]; have := congrArg List.length hl; simpa using this.symm
          match ys, hy2 with
          | [y0, y1, y2], _ =>
            simp only [List.getElem?_cons_zero, List.getElem?_cons_succ] at r0 r1 r2
            have hty : fs.toList.map (·.type) = [40, 9, 9] := by rw [← hl]; simp [t0, t1, t2]
            have hw : ∀ (j : Nat) (t : TypeId) (d : DataW H), [40, 9, 9][j]? = some t → [y0.1, y1.1, y2.1][j]? = some d → ∀ q ∈ d.weights Try.prog t, q ≤ reachBytes := fun j t d h1 h2 q hq => by
              apply hsz
              rw [hx]
              simp only [DataW.weights, hu]
              rw [hty]
              exact DataW.weights_mem_each (j := j) (t := t) (d := d) h1 h2 _ hq
            obtain ⟨k0, e0, _, w0⟩ := DataW.trod_int Try.undCk17 r0
            obtain ⟨s1, e1, x1, _⟩ := DataW.trod_string Try.undStr r1
            obtain ⟨s2, e2, x2, _⟩ := DataW.trod_string Try.undStr r2
            have b0 := bounds_u8 w0
            simp only [List.cons.injEq, and_true] at e0 e1 e2
            have hk1 := hw 1 9 y1.1 rfl rfl s1.size (by rw [x1]; simp only [DataW.weights, List.mem_singleton]; show s1.data.size = _; simp)
            have hk2 := hw 2 9 y2.1 rfl rfl s2.size (by rw [x2]; simp only [DataW.weights, List.mem_singleton]; show s2.data.size = _; simp)
            exact ⟨k0, s1, s2, by rw [e0, e1, e2], by omega, hk1, hk2⟩
    | _ => simp at hF
end
end Go.Proofs.Ytdojhkgnnbdfkaa

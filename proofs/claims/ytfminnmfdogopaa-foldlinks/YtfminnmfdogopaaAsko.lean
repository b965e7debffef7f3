/- What is asked of a log, as it comes in; three sizes together. Conditions as each names them. -/
import Derived.Test.YtfminnmfdogopaaTxs
import Derived.Test.YtfminnmfdogopaaArg
namespace Go.Proofs.Ytfminnmfdogopaa
open Go.ChangeShapes Go.WideShapes Go.ChangeAt Go.RowKit Go.Lib
set_option linter.unusedVariables false
set_option linter.unusedSimpArgs false

set_option maxHeartbeats 2000000 in
theorem beyond3_any (k N M P : Nat) (w : World) (hN : N ≤ 9007199254740992) (hM : M ≤ 9007199254740992) (hP : P ≤ 9007199254740992) (h0 : w.cell? ⟨k, 0, none⟩ = some (.int .i64 (N : Int))) (h1 : w.cell? ⟨k, 1, none⟩ = some (.int .i64 (M : Int))) (h2 : w.cell? ⟨k, 2, none⟩ = some (.int .i64 (P : Int))) :
    Calls Try.prog 8 #[.slice (some ⟨k, 0, none⟩) 3 3] w fun e w' => ∃ B : Bool, e = .returned (.bool B) ∧ (B = false → N + M + P ≤ 1048576) ∧ w = w' := by
  by_cases h : 1048576 < N
  · have h' : (1048576 : Int) < N := by omega
    go_enter Try.func8, Try.ntmps8
    go_wp2_with fail
    refine wp_loop_rounds 1 ?_
    rw [rounds_succ]
    go_wp2
    go_ret
    exact ⟨true, rfl, fun hh => (by cases hh), rfl⟩
  · have h' : (N : Int) ≤ 1048576 := by omega
    by_cases h3 : 1048576 < N + M
    · have h3' : (1048576 : Int) < (N : Int) + M := by omega
      go_enter Try.func8, Try.ntmps8
      go_wp2_with fail
      refine wp_loop_rounds 2 ?_
      rw [rounds_succ]
      go_wp2
      rw [rounds_succ]
      go_wp2
      go_ret
      exact ⟨true, rfl, fun hh => (by cases hh), rfl⟩
    · have h3' : (N : Int) + M ≤ 1048576 := by omega
      by_cases h4 : 1048576 < N + M + P
      · have h4' : (1048576 : Int) < (N : Int) + M + P := by omega
        go_enter Try.func8, Try.ntmps8
        go_wp2_with fail
        refine wp_loop_rounds 3 ?_
        rw [rounds_succ]
        go_wp2
        rw [rounds_succ]
        go_wp2
        rw [rounds_succ]
        go_wp2
        go_ret
        exact ⟨true, rfl, fun hh => (by cases hh), rfl⟩
      · have h4' : (N : Int) + M + P ≤ 1048576 := by omega
        go_enter Try.func8, Try.ntmps8
        go_wp2_with fail
        refine wp_loop_rounds 4 ?_
        rw [rounds_succ]
        go_wp2
        rw [rounds_succ]
        go_wp2
        rw [rounds_succ]
        go_wp2
        rw [rounds_succ]
        go_wp2
        go_ret
        exact ⟨false, rfl, fun _ => (by omega), rfl⟩
theorem Try.cellsAsk : Try.prog.cellsOf 24 = 4 := by kernel_rfl
theorem Try.askFields : (match Try.prog.underlying 24 with | some (.struct fs) => fs.toList.map (fun f => (f.type, f.offset)) | _ => []) = [(3, 0), (3, 1), (9, 2), (9, 3)] := by kernel_rfl
section
variable {H : Type} {enc : TypeId × Value → H}
set_option maxRecDepth 100000 in
theorem ask_open {w : World} {base : Nat} {spare : Nat → Bool} {held : Bool} {fuel : Nat} {cs : List Value} {x : DataW H × List MemPlace} (h : DataW.trod enc Try.prog w base spare held fuel 24 cs = some x) :
    ∃ (f n : Int) (key en : ByteArray), cs = [.int .i64 f, .int .i64 n, .string key, .string en] ∧ (-9223372036854775808 ≤ f ∧ f ≤ 9223372036854775807) ∧ (-9223372036854775808 ≤ n ∧ n ≤ 9223372036854775807) ∧ key.size ∈ x.1.weights Try.prog 24 ∧ en.size ∈ x.1.weights Try.prog 24 := by
  have hF := Try.askFields
  cases hu : Try.prog.underlying 24 with
  | none => rw [hu] at hF; simp at hF
  | some u =>
    rw [hu] at hF
    cases u with
    | struct fs =>
      simp only at hF
      obtain ⟨ys, n, _, hx, hlen, hys, hf⟩ := DataW.trod_struct hu h
      rw [Try.cellsAsk] at hlen
      match cs, hlen with
      | [v0, v1, v2, v3], _ =>
        have hl4 : fs.toList.length = 4 := by have := congrArg List.length hF; simpa using this
        obtain ⟨l, hl⟩ : ∃ l, l = fs.toList := ⟨_, rfl⟩
        rw [← hl] at hF hl4
        match l, hl4 with
        | [f0, f1, f2, f3], _ =>
          simp only [List.map_cons, List.map_nil, List.cons.injEq, Prod.mk.injEq, and_true] at hF
          obtain ⟨⟨t0, o0⟩, ⟨t1, o1⟩, ⟨t2, o2⟩, ⟨t3, o3⟩⟩ := hF
          have g : ∀ (i : Nat) (f : Field), [f0, f1, f2, f3][i]? = some f → fs[i]? = some f := by
            intro i f hi
            rw [hl] at hi
            simpa using hi
          have r0 := hf 0 f0 (g 0 f0 rfl)
          have r1 := hf 1 f1 (g 1 f1 rfl)
          have r2 := hf 2 f2 (g 2 f2 rfl)
          have r3 := hf 3 f3 (g 3 f3 rfl)
          rw [t0, o0, Try.cI] at r0
          rw [t1, o1, Try.cI] at r1
          rw [t2, o2, Try.cS] at r2
          rw [t3, o3, Try.cS] at r3
          simp only [List.drop_zero, List.drop_succ_cons, List.take_succ_cons, List.take_zero] at r0 r1 r2 r3
          have hy4 : ys.length = 4 := by rw [hys]; have := congrArg List.length hl; simpa using this.symm
          match ys, hy4 with
          | [y0, y1, y2, y3], _ =>
            simp only [List.getElem?_cons_zero, List.getElem?_cons_succ] at r0 r1 r2 r3
            obtain ⟨k0, e0, _, w0⟩ := DataW.trod_int Try.undI r0
            obtain ⟨k1, e1, _, w1⟩ := DataW.trod_int Try.undI r1
            obtain ⟨s2, e2, x2, _⟩ := DataW.trod_string Try.undStr r2
            obtain ⟨s3, e3, x3, _⟩ := DataW.trod_string Try.undStr r3
            simp only [List.cons.injEq, and_true] at e0 e1 e2 e3
            have hty : fs.toList.map (·.type) = [3, 3, 9, 9] := by rw [← hl]; simp [t0, t1, t2, t3]
            refine ⟨k0, k1, s2, s3, by rw [e0, e1, e2, e3], bounds_i64 w0, bounds_i64 w1, ?_, ?_⟩
            · rw [hx]
              simp only [DataW.weights, hu]
              rw [hty]
              refine DataW.weights_mem_each (j := 2) (t := 9) (d := y2.1) rfl rfl _ ?_
              rw [x2]
              simp only [DataW.weights, List.mem_singleton]
              show s2.data.size = _
              simp
            · rw [hx]
              simp only [DataW.weights, hu]
              rw [hty]
              refine DataW.weights_mem_each (j := 3) (t := 9) (d := y3.1) rfl rfl _ ?_
              rw [x3]
              simp only [DataW.weights, List.mem_singleton]
              show s3.data.size = _
              simp
    | _ => simp at hF
end
end Go.Proofs.Ytfminnmfdogopaa

/- For every row of asks the law CallNone returns true, and the asks read as they did. No conditions. -/
import Derived.Test.YtpdkdgmaofhlkaaAg17
namespace Go.Proofs.Ytpdkdgmaofhlkaa.callNone
open Go.ChangeShapes Go.WideShapes Go.ChangeAt Go.RowKit Go.Lib Go.ChangeMaps
set_option linter.unusedVariables false
set_option linter.unusedSimpArgs false

theorem asks_no {p : Value} {w : World} (h : NoT p w) (a : Aj) (hA : AjB w a) : Calls Try.prog 12 #[p, .pointer none, .agg a.v] w fun e w' => e = .returned (.bool true) ∧ Fr [] w w' := by
  by_cases h0 : a.k = 0
  · exact asks_begin_no h a hA h0
  · by_cases h2 : a.k = 2
    · exact asks_got_no h a hA h2
    · exact asks_sent_no h a (by simp [h0]) (by simp [h2])
set_option maxHeartbeats 4000000 in
set_option maxRecDepth 100000 in
theorem walk (ao : Option Addr) (L cap : Nat) (os : List Aj) (w : World) (hA : JRs w ao os) (hL : L = os.length) :
    Calls Try.prog 5 #[.slice ao L cap] w fun e w' => e = .returned (.bool true) ∧ Fr [] w w' := by
  obtain ⟨wz, HWz⟩ : ∃ wz, Hid (w.alloc (.cells #[.int .i64 0, .int .i64 0, .int .i64 0, .int .i64 0, .int .i64 0, .int .u8 0, .string ⟨#[]⟩, .string ⟨#[]⟩, .bool false, .int .i64 0, .int .u8 0, .int .i64 0, .int .i64 0, .string ⟨#[]⟩, .string ⟨#[]⟩, .bool false, .string ⟨#[]⟩, .string ⟨#[]⟩, .slice none 0 0, .int .i64 0, .int .i64 0, .slice none 0 0, .slice none 0 0, .int .i64 0] 61) = wz) := ⟨_, rfl⟩
  have hF0 : Fr [] w wz := by rw [← HWz.out]; exact Fr.alloc [] w _
  have hr : wz.heap[w.heap.size]? = some (.cells #[.int .i64 0, .int .i64 0, .int .i64 0, .int .i64 0, .int .i64 0, .int .u8 0, .string ⟨#[]⟩, .string ⟨#[]⟩, .bool false, .int .i64 0, .int .u8 0, .int .i64 0, .int .i64 0, .string ⟨#[]⟩, .string ⟨#[]⟩, .bool false, .string ⟨#[]⟩, .string ⟨#[]⟩, .slice none 0 0, .int .i64 0, .int .i64 0, .slice none 0 0, .slice none 0 0, .int .i64 0] 61 (0, 0)) := by rw [← HWz.out]; exact heap_alloc_new w _
  obtain ⟨z, HZ⟩ : ∃ Z, Hid (w.heap.size = Z) := ⟨_, rfl⟩
  rw [HZ.out] at hr
  have HN : Hid (∀ W, Fr [] wz W → NoT (.pointer (some ⟨z, 0, none⟩)) W) := fun W hf => Or.inr ⟨z, rfl, hf.keep hr (by simp)⟩
  have HA : Hid (∀ W, Fr [] wz W → JRs W ao os) := fun W hf => hA.keep (hF0.then hf)
  have HL : Hid (L = os.length) := hL
  have HF0 : Hid (Fr [] w wz) := hF0
  have hLm : L ≤ 140737488355328 := by have := hA.few; omega
  have HSn : Hid (∀ W, Calls Try.prog 13 #[.pointer none, .pointer none] W fun e w' => e = .returned (.bool true) ∧ Fr [] W w') := fun W => stands_no (Or.inl rfl)
  have HSz : Hid (∀ W, Fr [] wz W → Calls Try.prog 13 #[.pointer (some ⟨z, 0, none⟩), .pointer none] W fun e w' => e = .returned (.bool true) ∧ Fr [] W w') := fun W hf => stands_no (HN.out W hf)
  have HLv : Hid (∀ W, Calls Try.prog 9 #[] W fun e w' => e = .returned (.bool true) ∧ Fr [] W w') := fun W => lives_any W
  clear hA hL hF0 hr
  go_enter Try.func5, Try.ntmps5
  go_wp2_with fail
  rw [HWz.out, HZ.out]
  clear HWz HZ
  go_loopw [4] (fun ii wr => ∃ (i : Nat), ii = .int .i64 i ∧ i ≤ L ∧ i ≤ 50 ∧ Hid (Fr [] wz wr)) (fun ii _ => 50 - (RowKit.intOf ii).toNat)
  case atStart => exact ⟨0, rfl, Nat.zero_le _, Nat.zero_le _, Fr.refl _ _⟩
  case round =>
    obtain ⟨i, rfl, hiL, hi5, HF⟩ := hrel
    by_cases hi : i < L
    · by_cases hj : i < 50
      · have hi' : i < os.length := by rw [← HL.out]; exact hi
        have HX : Hid (∀ W, Fr [] wz W → ∃ ab off, ao = some ⟨ab, off, none⟩ ∧ ∀ j, j < 9 → W.cell? ⟨ab, off + i * 9 + j, none⟩ = (os.getD i Aj.zero).c[j]?) := fun W hf => by
          obtain ⟨ab, off, e, _, h2⟩ := (HA.out W hf).lies (by omega)
          exact ⟨ab, off, e, h2 i hi'⟩
        have HB : Hid (∀ W, Fr [] wz W → AjB W (os.getD i Aj.zero)) := fun W hf => (HA.out W hf).each _ (jgetD_mem os i hi')
        obtain ⟨a, ha⟩ : ∃ a, a = os.getD i Aj.zero := ⟨_, rfl⟩
        rw [← ha] at HX HB
        clear ha
        have HQ : Hid (∀ p W, NoT p W → Fr [] wz W → Calls Try.prog 12 #[p, .pointer none, .agg a.v] W fun e w' => e = .returned (.bool true) ∧ Fr [] W w') := fun p W hp hf => asks_no hp a (HB.out W hf)
        obtain ⟨ab, off, rfl, hx⟩ := HX.out _ HF.out
        have HX2 : Hid (∀ W, Fr [] wz W → ∀ j, j < 9 → W.cell? ⟨ab, off + i * 9 + j, none⟩ = a.c[j]?) := fun W hf => by
          obtain ⟨ab', off', e, h⟩ := HX.out W hf
          cases e
          exact h
        obtain ⟨ak, ma, le, bo, bl, bc, ns, ⟨rt, rk, eo, el, ec, ho, hl, hc, ct⟩, es, hs⟩ := a
        have HX3 : Hid (∀ W, Fr [] wz W → W.cell? ⟨ab, off + i * 9, none⟩ = some (.int .u8 ak) ∧ W.cell? ⟨ab, off + i * 9 + 1, none⟩ = some (.int .i64 ma) ∧ W.cell? ⟨ab, off + i * 9 + 2, none⟩ = some (.int .i64 le) ∧ W.cell? ⟨ab, off + i * 9 + 3, none⟩ = some (.slice bo bl bc) ∧ W.cell? ⟨ab, off + i * 9 + 4, none⟩ = some (.int .i64 rt) ∧ W.cell? ⟨ab, off + i * 9 + 5, none⟩ = some (.bool rk) ∧ W.cell? ⟨ab, off + i * 9 + 6, none⟩ = some (.slice eo el ec) ∧ W.cell? ⟨ab, off + i * 9 + 7, none⟩ = some (.slice ho hl hc) ∧ W.cell? ⟨ab, off + i * 9 + 8, none⟩ = some (.int .i64 ct)) := fun W hf => by
          have h := HX2.out W hf
          exact ⟨h 0 (by omega), h 1 (by omega), h 2 (by omega), h 3 (by omega), h 4 (by omega), h 5 (by omega), h 6 (by omega), h 7 (by omega), h 8 (by omega)⟩
        have H1 : Hid (Calls Try.prog 12 #[.pointer none, .pointer none, .agg #[.int .u8 ak, .int .i64 ma, .int .i64 le, .slice bo bl bc, .int .i64 rt, .bool rk, .slice eo el ec, .slice ho hl hc, .int .i64 ct]] wr fun e w' => e = .returned (.bool true) ∧ Fr [] wr w') := HQ.out _ wr (Or.inl rfl) HF.out
        have H2 : Hid (∀ W, Fr [] wz W → Calls Try.prog 12 #[.pointer (some ⟨z, 0, none⟩), .pointer none, .agg #[.int .u8 ak, .int .i64 ma, .int .i64 le, .slice bo bl bc, .int .i64 rt, .bool rk, .slice eo el ec, .slice ho hl hc, .int .i64 ct]] W fun e w' => e = .returned (.bool true) ∧ Fr [] W w') := fun W hf => HQ.out _ W (HN.out W hf) hf
        obtain ⟨a0, a1, a2, a3, a4, a5, a6, a7, a8⟩ := HX3.out _ HF.out
        clear hx HX HX2 HB HQ
        go_wp2_with fail
        refine Calls.mono H1.out ?_
        rintro e w1 ⟨rfl, hF1⟩
        have HG1 : Hid (Fr [] wz w1) := HF.out.then hF1
        clear a0 a1 a2 a3 a4 a5 a6 a7 a8 hF1
        obtain ⟨a0, a1, a2, a3, a4, a5, a6, a7, a8⟩ := HX3.out _ HG1.out
        go_wp2_with fail
        refine Calls.mono (H2.out _ HG1.out) ?_
        rintro e w2 ⟨rfl, hF2⟩
        have HF2 : Hid (Fr [] wz w2) := HG1.out.then hF2
        clear a0 a1 a2 a3 a4 a5 a6 a7 a8 hF2 H1 H2
        go_wp2_with fail
        refine Calls.mono (HSz.out _ HF2.out) ?_
        rintro e w3 ⟨rfl, hF3⟩
        have HF3 : Hid (Fr [] wz w3) := HF2.out.then hF3
        clear hF3
        go_wp2_with fail
        go_roundw
        case rel => exact ⟨i + 1, by simp, by omega, by omega, HF3⟩
        case measure => simp [RowKit.intOf]; omega
      · have hj2 : ((i : Int) < 50) = False := by simp; omega
        go_wp2_with fail
        refine (HSn.out _).mono ?_
        rintro e w1 ⟨rfl, hF1⟩
        have HF1 : Hid (Fr [] w w1) := HF0.out.then (HF.out.then hF1)
        clear hF1
        go_wp2_with fail
        refine (HLv.out _).mono ?_
        rintro e w3 ⟨rfl, hF3⟩
        have HF3 : Hid (Fr [] w w3) := HF1.out.then hF3
        clear hF3
        go_wp2
        go_ret
        exact ⟨rfl, HF3.out⟩
    · go_wp2_with fail
      refine (HSn.out _).mono ?_
      rintro e w1 ⟨rfl, hF1⟩
      have HF1 : Hid (Fr [] w w1) := HF0.out.then (HF.out.then hF1)
      clear hF1
      go_wp2_with fail
      refine (HLv.out _).mono ?_
      rintro e w3 ⟨rfl, hF3⟩
      have HF3 : Hid (Fr [] w w3) := HF1.out.then hF3
      clear hF3
      go_wp2
      go_ret
      exact ⟨rfl, HF3.out⟩

theorem own : ownKnob Try.prog.godebug = none := by kernel_rfl
theorem laidOut : laidOutB Try.prog = true := by kernel_rfl
set_option maxHeartbeats 4000000 in
set_option maxRecDepth 100000 in
theorem lifted (os : Os) (started : os.Started) (H : Type) (enc : TypeId × Value → H) :
    ReturnsInHanded {} Try.checked os 5 .any (Rows.callNoneSpec.pre6 enc Try.prog Try.f5 Rows.callNoneRow.domain false) (Rows.callNoneSpec.post enc Try.prog Try.f5 false true false false) := by
  refine returnsInHanded_of_change_sized (C := Try.checked) own started (by kernel_rfl) Try.func5
    (ChangeSpec.witness6 (enc := enc) (C := Try.checked) false ⟨#[], #[.slice none 0 0], []⟩ 8 (by kernel_rfl) (by kernel_rfl) (by kernel_rfl) (by kernel_rfl)) ?_
  intro W base args ds gs before hval0 hW hcnd hsz0 _
  have hval : ∀ (j : Nat) t v, Try.f5.params[j]? = some t → args[j]? = some v → Value.okWide Try.prog W .any base t v := hval0
  have hsz : (DataW.weightsEach Try.prog (Try.f5.params.toList ++ Rows.callNoneSpec.plain.varTypes Try.prog) (ds ++ gs)).all (· ≤ reachBytes) = true := hsz0
  have hW' := hW
  obtain ⟨p, q, hA0, hV, rfl, hfz, hnd⟩ := hW
  have hA : DataW.TrodAll enc Try.prog W 0 (fun _ => true) true Try.f5.params.toList args.toList ds p := hA0
  rw [Try.params5] at hA hval hsz
  obtain ⟨v0, vs0, d0, ds0, p0, q0, hargs, rfl, rfl, h0, r0⟩ := trodAll_cons hA
  obtain ⟨rfl, rfl, rfl⟩ := trodAll_nil r0
  obtain rfl : args = #[v0] := by cases args; simp_all
  obtain ⟨rfl, rfl⟩ := trodVars_none hV
  have k0 := h0
  have lt0 : ∀ x ∈ p0, x.block < W.heap.size := by obtain ⟨m, hm⟩ := k0; exact DataW.trod_lt m _ _ _ hm
  obtain ⟨a0, len0, cap0, xs0, rfl, hB0, hL0⟩ : ∃ ao L cap xs, v0 = .slice ao L cap ∧ JRs W ao xs ∧ L = xs.length := by
    obtain ⟨fuel, hf⟩ := h0
    obtain ⟨ao, L, cap, rfl⟩ := okWide_slice Try.undAjs (hval 0 33 v0 rfl rfl)
    obtain ⟨ao', L', cap', xs, e, h1, h2, _⟩ := asks17_open hf (fun n hn => of_decide_eq_true (List.all_eq_true.1 hsz n (DataW.weights_mem_each (j := 0) (t := 33) rfl rfl n hn)))
    exact ⟨ao', L', cap', xs, e, h1, h2⟩
  clear hA0 hval0
  refine (walk a0 len0 cap0 xs0 W hB0 hL0).mono fun e W' ⟨he, hf⟩ => ?_
  subst he
  have bel : Below W.heap.size W W' := hf.below (Nat.le_refl _) (by simp)
  exact ⟨_, rfl, _, _, _, [], _, [], hW', trodAll_mk1 (shut_bool Try.underlying4 _), (trodAll_cons_mk (Below.trod laidOut (by kernel_rfl) (of_decide_eq_true (by kernel_rfl)) k0 bel lt0) trodAll_mk0), rfl, bel.frame _, fun h => by cases h⟩

theorem over : Rows.callNoneRow.holds Try.pinned (OpenSpec.ofChange Rows.callNoneSpec) :=
  OpenClaim.holds_of_wide 5 Try.f5 rfl rfl rfl rfl rfl rfl rfl ⟨rfl, rfl, rfl, rfl, rfl⟩ rfl rfl rfl rfl rfl (by kernel_rfl) Try.func5 (by kernel_rfl)
    (of_decide_eq_true (by kernel_rfl)) (by unfold Func.isWrapper; first | (rw [if_pos (by decide +kernel)]; kernel_rfl) | (rw [if_neg (by decide +kernel)]; exact ⟨rfl, rfl⟩))
    (fun os started H enc _ => lifted os started H enc)
end Go.Proofs.Ytpdkdgmaofhlkaa.callNone
namespace Go.Proofs.Ytpdkdgmaofhlkaa
theorem callnone_holds : Rows.CallNoneSaid := callNone.over
#print axioms callnone_holds
end Go.Proofs.Ytpdkdgmaofhlkaa

/- For every stretch the law OwnerScans returns true, and it reads as it did. No conditions. -/
import Derived.Test.YtomajifklajilaaGp51
import Derived.Test.YtomajifklajilaaGp52
namespace Go.Proofs.Ytomajifklajilaa.ownerScans
open Go.ChangeShapes Go.WideShapes Go.ChangeAt Go.RowKit Go.Lib Go.Maps
set_option linter.unusedVariables false
set_option linter.unusedSimpArgs false

theorem walk (ao : Option Addr) (L cap : Nat) (os : List Hd) (key en : ByteArray) (mk : Int) (w : World) (hH : HRs w ao os) (hL : L = os.length) (hM : L ≤ 3518437208780) (hK : key.size ≤ 140737488355328 ∧ en.size ≤ 140737488355328 ∧ -9223372036854775808 ≤ mk ∧ mk ≤ 9223372036854775807) :
    Calls Try.prog 5 #[.agg #[.slice ao L cap, .string key, .string en, .int .i64 mk]] w fun e w' => e = .returned (.bool true) ∧ Fr [] w w' := scans_walk ao L cap os key en mk w hH hL hM hK

theorem own : ownKnob Try.prog.godebug = none := by kernel_rfl
theorem laidOut : laidOutB Try.prog = true := by kernel_rfl
set_option maxHeartbeats 4000000 in
set_option maxRecDepth 100000 in
theorem lifted (os : Os) (started : os.Started) (H : Type) (enc : TypeId × Value → H) :
    ReturnsInHanded {} Try.checked os 5 .any (Rows.ownerScansSpec.pre6 enc Try.prog Try.f5 Rows.ownerScansRow.domain false) (Rows.ownerScansSpec.post enc Try.prog Try.f5 false true false false) := by
  refine returnsInHanded_of_change_sized (C := Try.checked) own started (by kernel_rfl) Try.func5
    (ChangeSpec.witness6 (enc := enc) (C := Try.checked) false ⟨#[], #[.agg #[.slice none 0 0, .string ⟨#[]⟩, .string ⟨#[]⟩, .int .i64 0]], []⟩ 8 (by kernel_rfl) (by kernel_rfl) (by kernel_rfl) (by kernel_rfl)) ?_
  intro W base args ds gs before hval0 hW hcnd hsz0 _
  have hval : ∀ (j : Nat) t v, Try.f5.params[j]? = some t → args[j]? = some v → Value.okWide Try.prog W .any base t v := hval0
  have hsz : (DataW.weightsEach Try.prog (Try.f5.params.toList ++ Rows.ownerScansSpec.plain.varTypes Try.prog) (ds ++ gs)).all (· ≤ reachBytes) = true := hsz0
  have hW' := hW
  obtain ⟨p, q, hA0, hV, rfl, hfz, hnd⟩ := hW
  have hA : DataW.TrodAll enc Try.prog W 0 (fun _ => true) true Try.f5.params.toList args.toList ds p := hA0
  rw [Try.params5] at hA hval hsz
  obtain ⟨v0, vs0, d0, ds0, p0, q0, hargs, rfl, rfl, h0, r0⟩ := trodAll_cons hA
  obtain ⟨rfl, rfl, rfl⟩ := trodAll_nil r0
  obtain rfl : args = #[v0] := by cases args; simp_all
  obtain ⟨rfl, rfl⟩ := trodVars_none hV
  obtain ⟨cs0, rfl, _⟩ := okWide_struct Try.underlying51 (hval 0 51 v0 rfl rfl)
  have k0 := h0
  have lt0 : ∀ x ∈ p0, x.block < W.heap.size := by obtain ⟨m, hm⟩ := k0; exact DataW.trod_lt m _ _ _ hm
  obtain ⟨a0, len0, cap0, xs0, key0, en0, mk0, rfl, hB0, hL0, hM0, hK0⟩ : ∃ (ao : Option Addr) (L cap : Nat) (os : List Hd) (key en : ByteArray) (mk : Int), cs0 = #[.slice ao L cap, .string key, .string en, .int .i64 mk] ∧ HRs W ao os ∧ L = os.length ∧ L ≤ 3518437208780 ∧ (key.size ≤ 140737488355328 ∧ en.size ≤ 140737488355328 ∧ -9223372036854775808 ≤ mk ∧ mk ≤ 9223372036854775807) := by
    obtain ⟨fuel, hf⟩ := h0
    obtain ⟨ao, L, cap, os, key, en, mk, e, h1, h2, h3, h4⟩ := stretch_open hf (fun n hn => of_decide_eq_true (List.all_eq_true.1 hsz n (DataW.weights_mem_each (j := 0) (t := 51) rfl rfl n hn)))
    exact ⟨ao, L, cap, os, key, en, mk, by cases cs0; simpa [Value.cells] using e, h1, h2, h3, h4⟩
  clear hA0 hval0
  refine (walk a0 len0 cap0 xs0 key0 en0 mk0 W hB0 hL0 hM0 hK0).mono fun e W' ⟨he, hf⟩ => ?_
  subst he
  have bel : Below W.heap.size W W' := hf.below (Nat.le_refl _) (by simp)
  exact ⟨_, rfl, _, _, _, [], _, [], hW', trodAll_mk1 (shut_bool Try.underlying4 _), (trodAll_cons_mk (Below.trod laidOut (by kernel_rfl) (of_decide_eq_true (by kernel_rfl)) k0 bel lt0) trodAll_mk0), rfl, bel.frame _, fun h => by cases h⟩

theorem over : Rows.ownerScansRow.holds Try.pinned (OpenSpec.ofChange Rows.ownerScansSpec) :=
  OpenClaim.holds_of_wide 5 Try.f5 rfl rfl rfl rfl rfl rfl rfl ⟨rfl, rfl, rfl, rfl, rfl⟩ rfl rfl rfl rfl rfl (by kernel_rfl) Try.func5 (by kernel_rfl)
    (of_decide_eq_true (by kernel_rfl)) (by unfold Func.isWrapper; first | (rw [if_pos (by decide +kernel)]; kernel_rfl) | (rw [if_neg (by decide +kernel)]; exact ⟨rfl, rfl⟩))
    (fun os started H enc _ => lifted os started H enc)
end Go.Proofs.Ytomajifklajilaa.ownerScans
namespace Go.Proofs.Ytomajifklajilaa
theorem ownerscans_holds : Rows.OwnerScansSaid := ownerScans.over
#print axioms ownerscans_holds
end Go.Proofs.Ytomajifklajilaa

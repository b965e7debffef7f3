/- For every key the law SumKeys returns true, and the key reads as it did. No conditions. -/
import Derived.Test.YtdnafiflgnehjaaHash
import Derived.SizedLaws
import Derived.ChangeMaps5
namespace Go.Proofs.Ytdnafiflgnehjaa.sumKeys
open Go.ChangeShapes Go.WideShapes Go.ChangeAt Go.RowKit Go.Lib Go.ChangeMaps
set_option linter.unusedVariables false

set_option maxHeartbeats 4000000 in
set_option maxRecDepth 100000 in
theorem walk (s : ByteArray) (hs : s.size ≤ maxLen) (w : World) :
    Calls Try.prog 4 #[.string s] w fun e w' => e = .returned (.bool true) ∧ Fr [] w w' := by
  have hs' : s.size ≤ 9223372036854775807 := by simp only [maxLen] at hs; omega
  obtain ⟨m, HM⟩ : ∃ m, Hid (hashOf (strNs s) = m) := ⟨_, rfl⟩
  clear hs
  by_cases hL : 1048576 < s.size
  · have E : decide (1048576 < s.size) = true := by simp [hL]
    go_enter Try.func4, Try.ntmps4
    go_wp2_with fail
    refine (beyond_any _ s.size _ hs' (by simp [World.cell?_alloc_at])).mono ?_
    rintro e w1 ⟨rfl, rfl⟩
    rw [E]
    go_wp2_with fail
    go_ret
    exact ⟨rfl, Fr.alloc _ _ _⟩
  · have E : decide (1048576 < s.size) = false := by simp [hL]
    go_enter Try.func4, Try.ntmps4
    go_wp2_with fail
    refine (beyond_any _ s.size _ hs' (by simp [World.cell?_alloc_at])).mono ?_
    rintro e w1 ⟨rfl, rfl⟩
    rw [E]
    go_wp2_with fail
    refine (hash_any m s _ hs' HM.out).mono ?_
    rintro e w2 ⟨rfl, rfl⟩
    go_wp2_with fail
    refine (refHash_any m s _ hs' HM.out).mono ?_
    rintro e w3 ⟨rfl, rfl⟩
    go_wp2_with fail
    go_ret
    exact ⟨rfl, Fr.alloc _ _ _⟩

theorem own : ownKnob Try.prog.godebug = none := by kernel_rfl
theorem laidOut : laidOutB Try.prog = true := by kernel_rfl
set_option maxRecDepth 100000 in
theorem lifted (os : Os) (started : os.Started) (H : Type) (enc : TypeId × Value → H) :
    ReturnsInHanded {} Try.checked os 4 .any (Rows.sumKeysSpec.pre6 enc Try.prog Try.f4 Rows.sumKeysRow.domain false) (Rows.sumKeysSpec.post enc Try.prog Try.f4 false true false false) := by
  refine returnsInHanded_of_change_sized (C := Try.checked) own started (by kernel_rfl) Try.func4
    (ChangeSpec.witness6 (enc := enc) (C := Try.checked) false ⟨#[], #[.string ⟨#[]⟩], []⟩ 8 (by kernel_rfl) (by kernel_rfl) (by kernel_rfl) (by kernel_rfl)) ?_
  intro W base args ds gs before hval0 hW hcnd hsz0 _
  have hval : ∀ (j : Nat) t v, Try.f4.params[j]? = some t → args[j]? = some v → Value.okWide Try.prog W .any base t v := hval0
  clear hsz0
  have hW' := hW
  obtain ⟨p, q, hA0, hV, rfl, hfz, hnd⟩ := hW
  have hA : DataW.TrodAll enc Try.prog W 0 (fun _ => true) true Try.f4.params.toList args.toList ds p := hA0
  rw [Try.params4] at hA hval
  obtain ⟨v0, vs0, d0, ds0, p0, q0, hargs, rfl, rfl, h0, r0⟩ := trodAll_cons hA
  obtain ⟨rfl, rfl, rfl⟩ := trodAll_nil r0
  obtain rfl : args = #[v0] := by cases args; simp_all
  obtain ⟨rfl, rfl⟩ := trodVars_none hV
  obtain ⟨s0, rfl, rfl, rfl, w0⟩ := open_string Try.underlying9 (hval 0 9 v0 rfl rfl) h0
  clear hA0 hval0
  refine (walk s0 w0 W ).mono fun e W' ⟨he, hf⟩ => ?_
  subst he
  have bel : Below W.heap.size W W' := hf.below (Nat.le_refl _) (by simp)
  exact ⟨_, rfl, _, _, _, [], _, [], hW', trodAll_mk1 (shut_bool Try.underlying4 _), (trodAll_cons_mk (shut_string Try.underlying9 w0) trodAll_mk0), rfl, bel.frame _, fun h => by cases h⟩

theorem over : Rows.sumKeysRow.holds Try.pinned (OpenSpec.ofChange Rows.sumKeysSpec) :=
  OpenClaim.holds_of_wide 4 Try.f4 rfl rfl rfl rfl rfl rfl rfl ⟨rfl, rfl, rfl, rfl, rfl⟩ rfl rfl rfl rfl rfl (by kernel_rfl) Try.func4 (by kernel_rfl)
    (of_decide_eq_true (by kernel_rfl)) (by unfold Func.isWrapper; first | (rw [if_pos (by decide +kernel)]; kernel_rfl) | (rw [if_neg (by decide +kernel)]; exact ⟨rfl, rfl⟩))
    (fun os started H enc _ => lifted os started H enc)
end Go.Proofs.Ytdnafiflgnehjaa.sumKeys
namespace Go.Proofs.Ytdnafiflgnehjaa
theorem sumkeys_holds : Rows.SumKeysSaid := sumKeys.over
#print axioms sumkeys_holds
end Go.Proofs.Ytdnafiflgnehjaa

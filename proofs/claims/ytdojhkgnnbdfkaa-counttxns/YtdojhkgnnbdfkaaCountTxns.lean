/- For every transaction, skipped or not, the law CountTxns returns true, and it reads as it did. No conditions. -/
import Derived.Test.YtdojhkgnnbdfkaaTx22
import Derived.Test.YtdojhkgnnbdfkaaTxo
import Derived.SizedLaws
import Derived.ChangeMaps5
namespace Go.Proofs.Ytdojhkgnnbdfkaa.countTxns
open Go.ChangeShapes Go.WideShapes Go.ChangeAt Go.RowKit Go.Lib Go.ChangeMaps
set_option linter.unusedVariables false

set_option maxHeartbeats 1600000 in
set_option maxRecDepth 100000 in
theorem walk (n : Int) (ao : Option Addr) (L cap : Nat) (ws : List Wt) (sk : Bool) (w : World) (hT : TArg w n ao L cap ws) :
    Calls Try.prog 3 #[.agg #[.int .i64 n, .slice ao L cap], .bool sk] w fun e w' => e = .returned (.bool true) ∧ Fr [] w w' := by
  have HT : Hid (∀ W, Fr [] w W → TArg W n ao L cap ws) := fun W hf => hT.keep hf
  have HB : Hid (∀ W, Fr [] (w.alloc (.cells #[.int .i64 n, .slice ao L cap] 24)) W → W.cell? ⟨w.heap.size, 0, none⟩ = some (.int .i64 n) ∧ W.cell? ⟨w.heap.size, 1, none⟩ = some (.slice ao L cap)) := fun W hf => TArg.box hf
  have HF0 : Hid (Fr [] w (w.alloc (.cells #[.int .i64 n, .slice ao L cap] 24))) := Fr.alloc _ _ _
  obtain ⟨w1, HW1⟩ : ∃ w1, Hid (w.alloc (.cells #[.int .i64 n, .slice ao L cap] 24) = w1) := ⟨_, rfl⟩
  rw [HW1.out] at HB HF0
  obtain ⟨B, HBw⟩ : ∃ B, Hid (w.heap.size = B) := ⟨_, rfl⟩
  rw [HBw.out] at HB
  obtain ⟨a0, a1⟩ := HB.out _ (Fr.refl _ _)
  clear hT
  go_enter Try.func3, Try.ntmps3
  go_upto_region 1 with fail
  rw [HW1.out, HBw.out]
  clear HW1 HBw
  go_wp2_with fail
  refine (ntxn_any n ao L cap ws sk _ (HT.out _ HF0.out)).mono ?_
  rintro e w2 ⟨r, c, rfl, hP, hF2⟩
  have HP : Hid (TnP n ws sk r c) := hP
  have HF2 : Hid (Fr [] w w2) := HF0.out.then hF2
  clear a0 a1 hP
  obtain ⟨a0, a1⟩ := HB.out _ hF2
  clear hF2
  go_wp2_with fail
  refine (xntxn_any n ao L cap ws sk _ (HT.out _ HF2.out)).mono ?_
  rintro e w3 ⟨r', c', rfl, hP', hF3⟩
  obtain ⟨rfl, rfl⟩ := HP.out.uniq hP'
  have HF3 : Hid (Fr [] w w3) := HF2.out.then hF3
  clear hP' hF3 a0 a1
  have e1 : (r == r) = true := by simp
  have e2 : (c == c) = true := by simp
  go_wp2_with fail
  refine (lives22_any _).mono ?_
  rintro e w4 ⟨rfl, hF4⟩
  go_wp2_with fail
  go_ret
  exact ⟨rfl, HF3.out.then hF4⟩

theorem own : ownKnob Try.prog.godebug = none := by kernel_rfl
theorem laidOut : laidOutB Try.prog = true := by kernel_rfl
set_option maxHeartbeats 4000000 in
set_option maxRecDepth 100000 in
theorem lifted (os : Os) (started : os.Started) (H : Type) (enc : TypeId × Value → H) :
    ReturnsInHanded {} Try.checked os 3 .any (Rows.countTxnsSpec.pre6 enc Try.prog Try.f3 Rows.countTxnsRow.domain false) (Rows.countTxnsSpec.post enc Try.prog Try.f3 false true false false) := by
  refine returnsInHanded_of_change_sized (C := Try.checked) own started (by kernel_rfl) Try.func3
    (ChangeSpec.witness6 (enc := enc) (C := Try.checked) false ⟨#[], #[.agg #[.int .i64 0, .slice none 0 0], .bool false], []⟩ 8 (by kernel_rfl) (by kernel_rfl) (by kernel_rfl) (by kernel_rfl)) ?_
  intro W base args ds gs before hval0 hW hcnd hsz0 _
  have hval : ∀ (j : Nat) t v, Try.f3.params[j]? = some t → args[j]? = some v → Value.okWide Try.prog W .any base t v := hval0
  have hsz : (DataW.weightsEach Try.prog (Try.f3.params.toList ++ Rows.countTxnsSpec.plain.varTypes Try.prog) (ds ++ gs)).all (· ≤ reachBytes) = true := hsz0
  have hW' := hW
  obtain ⟨p, q, hA0, hV, rfl, hfz, hnd⟩ := hW
  have hA : DataW.TrodAll enc Try.prog W 0 (fun _ => true) true Try.f3.params.toList args.toList ds p := hA0
  rw [Try.params3] at hA hval hsz
  obtain ⟨v0, vs0, d0, ds0, p0, q0, hargs, rfl, rfl, h0, r0⟩ := trodAll_cons hA
  obtain ⟨v1, vs1, d1, ds1, p1, q1, rfl, rfl, rfl, h1, r1⟩ := trodAll_cons r0
  obtain ⟨rfl, rfl, rfl⟩ := trodAll_nil r1
  obtain rfl : args = #[v0, v1] := by cases args; simp_all
  obtain ⟨rfl, rfl⟩ := trodVars_none hV
  obtain ⟨cs0, rfl, _⟩ := okWide_struct Try.underlying24 (hval 0 24 v0 rfl rfl)
  have k0 := h0
  have lt0 : ∀ x ∈ p0, x.block < W.heap.size := by obtain ⟨m, hm⟩ := k0; exact DataW.trod_lt m _ _ _ hm
  obtain ⟨n0, a0, len0, cap0, ws0, rfl, hB0⟩ : ∃ n ao L cap ws, cs0 = #[.int .i64 n, .slice ao L cap] ∧ TArg W n ao L cap ws := by
    obtain ⟨fuel, hf⟩ := h0
    obtain ⟨n, ao, L, cap, ws, e, hok⟩ := tx_open hf (fun n hn => of_decide_eq_true (List.all_eq_true.1 hsz n (DataW.weights_mem_each (j := 0) (t := 24) rfl rfl n hn)))
    exact ⟨n, ao, L, cap, ws, by cases cs0; simpa [Value.cells] using e, hok⟩
  obtain ⟨n1, rfl, rfl, rfl⟩ := open_bool Try.underlying4 (hval 1 4 v1 rfl rfl) h1
  clear hA0 hval0
  refine (walk n0 a0 len0 cap0 ws0 n1 W hB0).mono fun e W' ⟨he, hf⟩ => ?_
  subst he
  have bel : Below W.heap.size W W' := hf.below (Nat.le_refl _) (by simp)
  exact ⟨_, rfl, _, _, _, [], _, [], hW', trodAll_mk1 (shut_bool Try.underlying4 _), (trodAll_cons_mk (Below.trod laidOut (by kernel_rfl) (of_decide_eq_true (by kernel_rfl)) k0 bel lt0) (trodAll_cons_mk (shut_bool Try.underlying4 _) trodAll_mk0)), rfl, bel.frame _, fun h => by cases h⟩

theorem over : Rows.countTxnsRow.holds Try.pinned (OpenSpec.ofChange Rows.countTxnsSpec) :=
  OpenClaim.holds_of_wide 3 Try.f3 rfl rfl rfl rfl rfl rfl rfl ⟨rfl, rfl, rfl, rfl, rfl⟩ rfl rfl rfl rfl rfl (by kernel_rfl) Try.func3 (by kernel_rfl)
    (of_decide_eq_true (by kernel_rfl)) (by unfold Func.isWrapper; first | (rw [if_pos (by decide +kernel)]; kernel_rfl) | (rw [if_neg (by decide +kernel)]; exact ⟨rfl, rfl⟩))
    (fun os started H enc _ => lifted os started H enc)
end Go.Proofs.Ytdojhkgnnbdfkaa.countTxns
namespace Go.Proofs.Ytdojhkgnnbdfkaa
theorem counttxns_holds : Rows.CountTxnsSaid := countTxns.over
#print axioms counttxns_holds
end Go.Proofs.Ytdojhkgnnbdfkaa

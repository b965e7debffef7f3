/- A new replica over an empty disk: New. Conditions as each names them. -/
import Derived.Test.YtakbodlicfmkjaaGreatNm20
import Derived.Test.YtakbodlicfmkjaaGreatDk20
import Derived.Test.YtakbodlicfmkjaaGreatIs20
namespace Go.Proofs.YtakbodlicfmkjaaGreat.Ap
open Go.ChangeShapes Go.WideShapes Go.ChangeAt Go.RowKit Go.Lib Go.Maps
set_option linter.unusedVariables false
set_option linter.unusedSimpArgs false
/-- What New answers of a configuration that may be. -/
def NewR (w0 : World) (c : Cf) (T : List Tx) (e : Ending) (w' : World) : Prop := ∃ (p : Nat) (Z : Lay), e = .returned (.tuple #[.pointer (some ⟨p, 0, none⟩), .int .i64 0]) ∧ RP w0 w' p c T Z ms0 ∧ Z.nr = 0
section
variable {w0 w : World} {l s x q : Int} {g lb L db : Nat} {ts : List Tm} {v : Value} {C : Int}
set_option maxHeartbeats 8000000 in
set_option maxRecDepth 100000 in
theorem rnew_ok (h : F.Src w0 w g lb L ts v []) (hok : okL 1 (txs ts)) (hd : Dz.D0 w db C) (hc : Cf.may ⟨l, s, x, q⟩) (h0 : Fr [] w0 w) :
    Calls Tryz.prog 15 #[.agg #[.int .i64 l, .int .i64 s, .int .i64 x, .int .i64 q], .pointer (some ⟨g, 0, none⟩), .pointer (some ⟨db, 0, none⟩)] w fun e w' => NewR w0 ⟨l, s, x, q⟩ (txs ts) e w' := by
  obtain ⟨w1, HW1⟩ : ∃ w1, Hid (w.alloc (.cells #[.int .i64 l, .int .i64 s, .int .i64 x, .int .i64 q] 23) = w1) := ⟨_, rfl⟩
  obtain ⟨A, HA⟩ : ∃ A, Hid (w.heap.size = A) := ⟨_, rfl⟩
  have hF1 : Fr [] w w1 := by rw [← HW1.out]; exact Fr.alloc [] w _
  have hC1 : CfM w1 A l s x q := by rw [← HW1.out, ← HA.out]; exact CfM.new _ _ _ _ _ _
  have HC1 : Hid (∀ W, Fr [] w1 W → CfM W A l s x q) := fun W hf => hC1.keep hf
  have HS1 : Hid (∀ W, Fr [] w1 W → F.Src w0 W g lb L ts v [] ∧ Dz.D0 W db C ∧ Fr [] w0 W) := fun W hf => ⟨h.keep (hF1.then hf), hd.keep (hF1.then hf) (by simp), h0.then (hF1.then hf)⟩
  have HI : Hid (Calls _ _ _ _ _) := isSource_any (HS1.out _ (Fr.refl _ _)).1
  have HOK : Hid (okL 1 (txs ts)) := hok
  have HM : Hid (Cf.may ⟨l, s, x, q⟩) := hc
  clear h hok hd hc h0 hF1 hC1
  go_enter Tryz.func15, Tryz.ntmps15
  go_upto_region 1 with fail
  rw [HW1.out, HA.out]
  clear HW1 HA
  go_wp2_with fail
  refine Calls.mono HI.out ?_
  rintro e w2 ⟨rfl, hf2⟩
  have HF2 : Hid (Fr [] w1 w2) := hf2
  have HID : Hid (Calls _ _ _ _ _) := Dz.isDisk_any (HS1.out _ hf2).2.1
  clear hf2 HI
  go_wp2_with fail
  refine Calls.mono HID.out ?_
  rintro e w3 ⟨rfl, rfl⟩
  obtain ⟨_, f0, f1, f2, f3⟩ := HC1.out _ HF2.out
  have hCk := check_cells l s x q w2
  rw [show Cf.err ⟨l, s, x, q⟩ = 0 from if_pos HM.out] at hCk
  have HCk : Hid (Calls _ _ _ _ _) := hCk
  clear hCk HID
  go_wp2_with fail
  refine Calls.mono HCk.out ?_
  rintro e w3 ⟨rfl, hf3⟩
  have HF3 : Hid (Fr [] w1 w3) := HF2.out.then hf3
  have HNw : Hid (Calls _ _ _ _ _) := Dz.newest_nil (HS1.out _ HF3.out).2.1
  clear HCk hf3 HF2 f0 f1 f2 f3
  go_wp2_with fail
  refine Calls.mono HNw.out ?_
  rintro e w4 ⟨rfl, hf4⟩
  obtain ⟨w5, HW5⟩ : ∃ w5, Hid (w4.alloc (.cells #[.int .i64 0, .slice none 0 0, .slice none 0 0] 96) = w5) := ⟨_, rfl⟩
  obtain ⟨Q, HQ⟩ : ∃ Q, Hid (w4.heap.size = Q) := ⟨_, rfl⟩
  have hf5 : Fr [] w4 w5 := by rw [← HW5.out]; exact Fr.alloc _ _ _
  have HSB : Dz.SB w5 Q := ⟨by rw [← HW5.out, ← HQ.out]; exact heap_alloc_new _ _⟩
  have a0 := HSB.c0
  have a1 := HSB.c1
  have a2 := HSB.c2
  have HF5 : Hid (Fr [] w1 w5) := (HF3.out.then hf4).then hf5
  obtain ⟨_, f0, f1, f2, f3⟩ := HC1.out _ HF5.out
  have HNM : Hid (Calls _ _ _ _ _) := newMachine_any (dk := some ⟨db, 0, none⟩) (HS1.out _ HF5.out).1 HOK.out HM.out (HS1.out _ HF5.out).2.2
  clear HNw hf4 hf5 HSB HF3
  go_upto_region 7 with fail
  rw [HW5.out, HQ.out]
  clear HW5 HQ
  go_wp2_with fail
  refine Calls.mono HNM.out ?_
  rintro e w6 ⟨Z, rfl, hM, hnr⟩
  have HR : Hid (RP w0 (w6.alloc (.cells #[.pointer (some ⟨Z.z.mb, 0, none⟩)] 80)) w6.heap.size ⟨l, s, x, q⟩ (txs ts) Z ms0 ∧ Z.nr = 0) :=
    ⟨⟨hM.quiet (Fr.alloc _ _ _), heap_alloc_new _ _, hM.otherO (S := []) (Fr.alloc [] _ _) (fun b hb => by cases hb) (hM.offNew (Nat.le_refl _))⟩, hnr⟩
  clear hM hnr HNM
  go_wp2
  go_ret2
  exact ⟨_, Z, rfl, HR.out.1, HR.out.2⟩
set_option maxHeartbeats 4000000 in
set_option maxRecDepth 100000 in
theorem rnew_no (h : F.Src w0 w g lb L ts v []) (hd : Dz.D0 w db C) (hc : ¬ Cf.may ⟨l, s, x, q⟩) :
    Calls Tryz.prog 15 #[.agg #[.int .i64 l, .int .i64 s, .int .i64 x, .int .i64 q], .pointer (some ⟨g, 0, none⟩), .pointer (some ⟨db, 0, none⟩)] w fun e w' => e = .returned (.tuple #[.pointer none, .int .i64 7]) ∧ Fr [] w w' := by
  obtain ⟨w1, HW1⟩ : ∃ w1, Hid (w.alloc (.cells #[.int .i64 l, .int .i64 s, .int .i64 x, .int .i64 q] 23) = w1) := ⟨_, rfl⟩
  obtain ⟨A, HA⟩ : ∃ A, Hid (w.heap.size = A) := ⟨_, rfl⟩
  have hF1 : Fr [] w w1 := by rw [← HW1.out]; exact Fr.alloc [] w _
  have hC1 : CfM w1 A l s x q := by rw [← HW1.out, ← HA.out]; exact CfM.new _ _ _ _ _ _
  have HC1 : Hid (∀ W, Fr [] w1 W → CfM W A l s x q) := fun W hf => hC1.keep hf
  have HS1 : Hid (∀ W, Fr [] w1 W → F.Src w0 W g lb L ts v [] ∧ Dz.D0 W db C) := fun W hf => ⟨h.keep (hF1.then hf), hd.keep (hF1.then hf) (by simp)⟩
  have HI : Hid (Calls _ _ _ _ _) := isSource_any (HS1.out _ (Fr.refl _ _)).1
  have HM : Hid (¬ Cf.may ⟨l, s, x, q⟩) := hc
  have HF1 : Hid (Fr [] w w1) := hF1
  clear h hd hc hF1 hC1
  go_enter Tryz.func15, Tryz.ntmps15
  go_upto_region 1 with fail
  rw [HW1.out, HA.out]
  clear HW1 HA
  go_wp2_with fail
  refine Calls.mono HI.out ?_
  rintro e w2 ⟨rfl, hf2⟩
  have HF2 : Hid (Fr [] w1 w2) := hf2
  have HID : Hid (Calls _ _ _ _ _) := Dz.isDisk_any (HS1.out _ hf2).2
  clear hf2 HI
  go_wp2_with fail
  refine Calls.mono HID.out ?_
  rintro e w3 ⟨rfl, rfl⟩
  obtain ⟨_, f0, f1, f2, f3⟩ := HC1.out _ HF2.out
  have hCk := check_cells l s x q w2
  rw [show Cf.err ⟨l, s, x, q⟩ = 7 from if_neg HM.out] at hCk
  have HCk : Hid (Calls _ _ _ _ _) := hCk
  clear hCk HID
  go_wp2_with fail
  refine Calls.mono HCk.out ?_
  rintro e w3 ⟨rfl, hf3⟩
  have HF3 : Hid (Fr [] w w3) := HF1.out.then (HF2.out.then hf3)
  clear hf3 HCk
  go_wp2
  go_ret2
  exact ⟨rfl, HF3.out⟩
end
end Go.Proofs.YtakbodlicfmkjaaGreat.Ap

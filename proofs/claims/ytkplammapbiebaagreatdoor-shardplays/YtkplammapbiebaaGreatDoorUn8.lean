/- What the document's newest and Collect of versions answer. Conditions as each names them. -/
import Derived.Test.YtkplammapbiebaaGreatDoorUc8
import Derived.Test.YtkplammapbiebaaGreatDoorVa
namespace Go.Proofs.YtkplammapbiebaaGreatDoor
open BigFrame Go.ChangeShapes Go.WideShapes Go.ChangeAt Go.RowKit Go.Lib
set_option linter.unusedVariables false
set_option linter.unusedSimpArgs false

set_option maxHeartbeats 4000000 in
set_option maxRecDepth 100000 in
theorem unewest_any (ao : Option Addr) (L cap d : Nat) (k : Int) (vs : List Vn) (w : World) (hV : VRs w ao vs) (hL : L = vs.length) (hd : UpTo vs k d) :
    Calls Tryz.prog 132 #[.slice ao L cap, .int .i64 k] w fun e w' => e = .returned (.int .i64 ((d : Int) - 1)) ∧ Fr [] w w' := by
  have HL : Hid (L = vs.length) := hL
  have HD : Hid (UpTo vs k d) := hd
  have HV : Hid (VRs w ao vs) := hV
  have hLL : L ≤ 4398046511104 := by have := hV.few; omega
  have hdL : d ≤ L := by have := hd.le; omega
  clear hV hL hd
  go_enter Tryz.func132, Tryz.ntmps132
  go_wp2_with fail
  go_loop [5, 6] (fun kk ii => ∃ (i : Nat) (z : Int), kk = .int .i64 z ∧ ii = .int .i64 i ∧ i ≤ L ∧ -1 ≤ z ∧ z < 4398046511105 ∧ Hid (z = ((min i d : Nat) : Int) - 1)) (fun _ ii => L - (intOf ii).toNat)
  case atStart => exact ⟨0, -1, rfl, rfl, Nat.zero_le _, by omega, by omega, (by show _ = _; simp)⟩
  case round =>
    obtain ⟨i, z, rfl, rfl, hiL, hz0, hz1, HZ⟩ := hrel
    by_cases hi : i < L
    · have hi' : i < vs.length := by rw [← HL.out]; exact hi
      obtain ⟨b, off, rfl, hbl, hat⟩ := HV.out.lies (by omega)
      obtain ⟨c0, c1, c2⟩ := hat i hi'
      have hlo := HD.out.lo i
      have hhi := HD.out.hi i
      obtain ⟨⟨n, val, drop⟩, hx⟩ : ∃ x, x = vs.getD i Vn.zero := ⟨_, rfl⟩
      rw [← hx] at c0 c1 c2 hlo hhi
      simp only at c0 c1 c2 hlo hhi
      clear hat hx c1 c2
      by_cases hid : i < d
      · have h1 : n ≤ k := hlo hid
        have HZ2 : Hid ((i : Int) = ((min (i + 1) d : Nat) : Int) - 1) := by show _ = _; omega
        clear hlo hhi HZ
        go_wp2
        refine ⟨⟨i + 1, (i : Int), rfl, by simp, by omega, by omega, by omega, HZ2⟩, ?_⟩
        simp [intOf]
        omega
      · have h1 : ¬ n ≤ k := by have := hhi (by omega) hi'; omega
        have HZ2 : Hid (z = ((min (i + 1) d : Nat) : Int) - 1) := by show _ = _; rw [HZ.out]; omega
        clear hlo hhi HZ
        go_wp2
        refine ⟨⟨i + 1, z, rfl, by simp, by omega, hz0, hz1, HZ2⟩, ?_⟩
        simp [intOf]
        omega
    · have hz : z = (d : Int) - 1 := by rw [HZ.out]; omega
      subst hz
      clear HZ
      go_wp2
      go_ret
      exact ⟨rfl, Fr.refl _ _⟩
set_option maxHeartbeats 4000000 in
set_option maxRecDepth 100000 in
theorem ucollect_any (ao : Option Addr) (L cap : Nat) (k : Int) (vs : List Vn) (w : World) (hV : VRs w ao vs) (hL : L = vs.length) (hcap : L ≤ cap) :
    Calls Tryz.prog 120 #[.slice ao L cap, .int .i64 k] w fun e w' => ∃ ro N rc us n c, e = .returned (.tuple #[.slice ro N rc, .int .i64 ((n : Nat) : Int), .int .i64 ((c : Nat) : Int)]) ∧ CoTold vs k us n c ∧ N = us.length ∧ VRs w' ro us ∧ Fr [] w w' ∧ Nr9 w w' ao ro N rc := by
  by_cases hok : okV vs
  · have hck := CkT.of hok
    have HV : Hid (∀ W, Fr [] w W → VRs W ao vs) := fun W hf => hV.keep hf
    have HL : Hid (L = vs.length) := hL
    have HO : Hid (okV vs) := hok
    have hL2 : L ≤ 65536 := by have := okV_few hok; omega
    have HC : Hid (Calls _ _ _ _ _) := ucheck_any ao L cap 0 vs w hV hL hck
    obtain ⟨d, hd⟩ := UpTo.ex hok.2 k
    have HD : Hid (UpTo vs k d) := hd
    have hdL : d ≤ L := by have := hd.le; omega
    clear hV hL hok hck hd
    go_enter Tryz.func120, Tryz.ntmps120
    go_wp2_with fail
    refine Calls.mono HC.out ?_
    rintro e w1 ⟨rfl, hF1⟩
    have HU : Hid (Calls _ _ _ _ _) := unewest_any ao L cap d k vs w1 (HV.out _ hF1) HL.out HD.out
    clear HC
    go_wp2_with fail
    refine Calls.mono HU.out ?_
    rintro e w2 ⟨rfl, hF2⟩
    have hG2 := hF1.then hF2
    clear HU
    by_cases h0 : d = 0
    · subst h0
      go_wp2
      refine bodyPost_ret (results_tmp3 rfl _ _ _) rfl ?_
      exact ⟨ao, L, cap, vs, 0, 0, rfl, Or.inr ⟨rfl, HO.out, 0, HD.out, rfl, rfl⟩, HL.out, HV.out _ hG2, hG2, Nr9.same hcap⟩
    · obtain ⟨d', rfl⟩ : ∃ d', d = d' + 1 := ⟨d - 1, by omega⟩
      have hmx2 : (((d' + 1 : Nat) : Int) - 1) = (d' : Int) := by omega
      have s1 : ∀ W, (Instr.sliceAt 69 (.slice ao L cap) (some (.int .i64 (d' : Int))) none none).run Tryz.prog W = .ok (.slice (fromV ao cap d') (L - d') (cap - d')) W := slV_l ao L cap d' (by omega)
      have hn0 : ¬ ((d' : Int) < 0) := by omega
      have HR : Hid (VRs w2 (fromV ao cap d') (vs.drop d')) := by
        have h1 := (HV.out _ hG2).from cap d' L (by omega) (by rw [← HL.out]; exact Nat.le_refl _) (by rw [← HL.out]; exact hcap)
        have hdr : (vs.drop d').take (L - d') = vs.drop d' := by rw [HL.out, List.take_of_length_le (by simp)]
        rw [hdr] at h1
        exact h1
      rw [hmx2]
      go_wp2
      refine bodyPost_ret (results_tmp3 rfl _ _ _) rfl ?_
      exact ⟨fromV ao cap d', L - d', cap - d', vs.drop d', d', 0, rfl, Or.inr ⟨rfl, HO.out, d' + 1, HD.out, rfl, rfl⟩, by rw [List.length_drop, HL.out], HR.out, hG2, Nr9.cut hcap⟩
  · have hck : CkT vs 1 := Or.inr ⟨rfl, hok⟩
    have HO : Hid (¬ okV vs) := hok
    have HC : Hid (Calls _ _ _ _ _) := ucheck_any ao L cap 1 vs w hV hL hck
    clear hV hL hok hck
    go_enter Tryz.func120, Tryz.ntmps120
    go_wp2_with fail
    refine Calls.mono HC.out ?_
    rintro e w1 ⟨rfl, hF1⟩
    clear HC
    go_wp2
    refine bodyPost_ret (results_tmp3 rfl _ _ _) rfl ?_
    exact ⟨none, 0, 0, [], 0, 1, rfl, Or.inl ⟨rfl, HO.out, rfl, rfl⟩, rfl, VRs.nil _ _, hF1, Nr9.none _ _ _⟩
end Go.Proofs.YtkplammapbiebaaGreatDoor

/- The statements' helpers SameInts, SameSaved. Conditions as each names them. -/
import Derived.Test.YtembflnhhfliaaaGreatDoorTs18
import Derived.Test.YtembflnhhfliaaaGreatDoorHg18
namespace Go.Proofs.YtembflnhhfliaaaGreatDoor
open Go.ChangeShapes Go.WideShapes Go.ChangeAt Go.RowKit Go.Lib
set_option linter.unusedVariables false
set_option linter.unusedSimpArgs false

set_option maxHeartbeats 2000000 in
set_option maxRecDepth 100000 in
theorem sameI17 (a b : Option Addr) (L ca cb : Nat) (xs : List Int) (w : World) (ha : IRs w a xs) (hb : IRs w b xs) (hL : L = xs.length) (hLl : L < 2 ^ 40) :
    Calls Tryz.prog 95 #[.slice a L ca, .slice b L cb] w fun e w' => e = .returned (.bool true) ∧ Fr [] w w' := by
  have HL : Hid (L = xs.length) := hL
  have hne : ((L : Int) != L) = false := by simp
  clear hL
  by_cases h0 : 0 < L
  · obtain ⟨ba, oa, rfl, _, hca⟩ := ha.lies (by rw [← HL.out]; exact h0)
    obtain ⟨bb, ob, rfl, _, hcb⟩ := hb.lies (by rw [← HL.out]; exact h0)
    rw [← HL.out] at hca hcb
    go_enter Tryz.func95, Tryz.ntmps95
    go_wp2_with fail
    go_loopw [5] (fun ii wr => ∃ (i q : Nat), ii = .int .i64 i ∧ i ≤ L ∧ wr = w.drewN q) (fun ii _ => L - (RowKit.intOf ii).toNat)
    case atStart => exact ⟨0, 0, rfl, Nat.zero_le _, rfl⟩
    case round =>
      obtain ⟨i, q, rfl, hiL, rfl⟩ := hrel
      by_cases hi : i < L
      · have hx := hca i hi
        have hy := hcb i hi
        obtain ⟨x, hxx⟩ : ∃ x, x = xs.getD i 0 := ⟨_, rfl⟩
        rw [← hxx] at hx hy
        clear hxx hca hcb
        have hb1 : (x != x) = false := by simp
        go_wp2_with fail
        go_quiet (fail)
        go_wp2
        go_roundw
        case rel => exact ⟨i + 1, q + nq, by simp, by omega, by simp⟩
        case measure => simp [RowKit.intOf]; omega
      · go_wp2
        go_ret
        exact ⟨rfl, Fr.drewN _ _ _⟩
  · obtain rfl : L = 0 := by omega
    go_enter Tryz.func95, Tryz.ntmps95
    go_wp2_with fail
    refine wp_loop_rounds 1 ?_
    rw [rounds_succ]
    go_wp2
    go_ret
    exact ⟨rfl, Fr.refl _ _⟩
set_option maxHeartbeats 4000000 in
set_option maxRecDepth 100000 in
theorem sameSv_any (w : World) (m : Int) (bo ho bo' ho' : Option Addr) (Lb cb Lh ch cb' ch' : Nat) (bs : List Int) (hs hs' : List Hd) (hI : IRs w bo bs) (hI' : IRs w bo' bs) (hLb : Lb = bs.length) (hH : HRs w ho hs) (hH' : HRs w ho' hs') (hLh : Lh = hs.length) (he : hs.map Hd.kv = hs'.map Hd.kv) (hl : Lb < 2^40) :
    Calls Tryz.prog 30 #[.agg #[.int .i64 m, .slice bo Lb cb, .slice ho Lh ch], .agg #[.int .i64 m, .slice bo' Lb cb', .slice ho' Lh ch']] w fun e w' => e = .returned (.bool true) ∧ Fr [] w w' := by
  have HE : Hid (∀ W, Fr [] w W → Calls Tryz.prog 95 #[.slice bo Lb cb, .slice bo' Lb cb'] W fun e w' => e = .returned (.bool true) ∧ Fr [] W w') := fun W hW => (sameI17 bo bo' Lb cb cb' bs W (hI.keep hW) (hI'.keep hW) hLb hl).mono (fun e w' h => h)
  have HH : Hid (∀ W, Fr [] w W → Calls Tryz.prog 96 #[.slice ho Lh ch, .slice ho' Lh ch'] W fun e w' => e = .returned (.bool true) ∧ Fr [] W w') := fun W hW => sameHelds_any ho ho' Lh ch ch' hs hs' W (hH.keep hW) (hH'.keep hW) hLh he
  clear hI hH hI' hH' hLb hLh he
  obtain ⟨W0, HW0⟩ : ∃ W0, Hid (((w.alloc (.cells #[.int .i64 m, .slice bo Lb cb, .slice ho Lh ch] 57)).alloc (.cells #[.int .i64 m, .slice bo' Lb cb', .slice ho' Lh ch'] 57)) = W0) := ⟨_, rfl⟩
  have h1 : W0.heap[w.heap.size]? = some (.cells #[.int .i64 m, .slice bo Lb cb, .slice ho Lh ch] 57 (0, 0)) := by
    rw [← HW0.out]; exact (Fr.alloc [] _ _).keep (heap_alloc_new w _) (by simp)
  have h2 : W0.heap[w.heap.size + 1]? = some (.cells #[.int .i64 m, .slice bo' Lb cb', .slice ho' Lh ch'] 57 (0, 0)) := by
    rw [← HW0.out]
    have := heap_alloc_new (w.alloc (.cells #[.int .i64 m, .slice bo Lb cb, .slice ho Lh ch] 57)) (.cells #[.int .i64 m, .slice bo' Lb cb', .slice ho' Lh ch'] 57)
    simpa using this
  have HC : Hid (∀ W, Fr [] W0 W → W.heap[w.heap.size]? = some (.cells #[.int .i64 m, .slice bo Lb cb, .slice ho Lh ch] 57 (0, 0)) ∧ W.heap[w.heap.size + 1]? = some (.cells #[.int .i64 m, .slice bo' Lb cb', .slice ho' Lh ch'] 57 (0, 0))) := fun W hW => ⟨hW.keep h1 (by simp), hW.keep h2 (by simp)⟩
  have HF0 : Hid (Fr [] w W0) := by rw [← HW0.out]; exact (Fr.alloc [] w _).then (Fr.alloc [] _ _)
  clear h1 h2
  go_enter Tryz.func30, Tryz.ntmps30
  go_upto_region 1 with fail
  rw [HW0.out]
  obtain ⟨q1, q2⟩ := HC.out W0 (Fr.refl _ _)
  obtain ⟨a0, a1, a2⟩ := sv_cells q1
  obtain ⟨b0, b1, b2⟩ := sv_cells q2
  clear q1 q2 HW0
  go_wp2_with fail
  refine (HE.out _ HF0.out).mono ?_
  rintro e' w1 ⟨rfl, hf1⟩
  have HF1 : Hid (Fr [] W0 w1) := hf1
  obtain ⟨q1, q2⟩ := HC.out w1 hf1
  clear a0 a1 a2 b0 b1 b2 hf1
  obtain ⟨a0, a1, a2⟩ := sv_cells q1
  obtain ⟨b0, b1, b2⟩ := sv_cells q2
  clear q1 q2
  go_wp2_with fail
  refine (HH.out _ (HF0.out.then HF1.out)).mono ?_
  rintro e' w2 ⟨rfl, hf2⟩
  have HF2 : Hid (Fr [] W0 w2) := HF1.out.then hf2
  clear a0 a1 a2 b0 b1 b2 hf2
  go_wp2
  go_ret
  exact ⟨by simp, HF0.out.then HF2.out⟩
end Go.Proofs.YtembflnhhfliaaaGreatDoor

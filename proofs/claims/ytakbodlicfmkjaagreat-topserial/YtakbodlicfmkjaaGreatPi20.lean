/- A replica goes on by one of those that are ready: Pick. Conditions as each names them. -/
import Derived.Test.YtakbodlicfmkjaaGreatSp20
namespace Go.Proofs.YtakbodlicfmkjaaGreat
open Go.ChangeShapes Go.WideShapes Go.ChangeAt Go.RowKit Go.Lib Go.Maps
set_option linter.unusedVariables false
set_option linter.unusedSimpArgs false
section
variable {w0 w w' : World} {p : Nat} {c : Cf} {T : List Tx} {Z : Lay} {s : Ms}
set_option maxHeartbeats 4000000 in
set_option maxRecDepth 100000 in
theorem pick_idle (h : RP w0 w p c T Z s) (hW : Wf c T s) (n : Int) (hr : rdyL c s (c.l.toNat + c.s.toNat + 2) = []) : Calls Tryz.prog 6 #[.pointer (some ⟨p, 0, none⟩), .int .i64 n] w fun e w' => e = .returned (.tuple #[.agg #[.int .i64 0, .int .u8 0, .int .i64 0, .int .i64 0, .int .i64 0, .int .i64 0], .int .i64 9]) ∧ Fr [] w w' := by
  obtain ⟨w1, HW1⟩ : ∃ w1, Hid (w.alloc (.cells #[.int .i64 0, .int .u8 0, .int .i64 0, .int .i64 0, .int .i64 0, .int .i64 0] 35) = w1) := ⟨_, rfl⟩
  obtain ⟨A, HA⟩ : ∃ A, Hid (w.heap.size = A) := ⟨_, rfl⟩
  have hF1 : Fr [] w w1 := by rw [← HW1.out]; exact Fr.alloc _ _ _
  have hb1 : Evx w1 A 0 0 0 0 0 0 := by rw [← HW1.out, ← HA.out]; exact heap_alloc_new _ _
  have h1 := h.quiet hF1
  have HT : Hid (Calls _ _ _ _ _) := wrong_any h1
  have HR : Hid (Calls Tryz.prog 18 #[.pointer (some ⟨p, 0, none⟩)] w1 fun e w' => ∃ so cc, e = .returned (.slice so 0 cc) ∧ w'.heap[A]? = some (.cells #[.int .i64 0, .int .u8 0, .int .i64 0, .int .i64 0, .int .i64 0, .int .i64 0] 35 (0, 0)) ∧ Hid (∀ W', Fr [A] w' W' → Fr [] w W')) := by
    refine (ready_any h1 hW).mono ?_
    rintro e w' ⟨so, m, cc, rfl, hI, hf⟩
    rw [hr] at hI
    have hm : m = 0 := hI.len
    subst hm
    exact ⟨so, cc, rfl, hf.keep hb1 (by simp), fun W' hf' => (hF1.then hf).on hf' (fun x hx => by simp at hx; have := HA.out; omega)⟩
  clear h hW hr hF1 hb1 h1
  go_enter Tryz.func6, Tryz.ntmps6
  go_upto_region 1 with fail
  rw [HW1.out, HA.out]
  clear HW1 HA
  go_wp2_with fail
  refine Calls.mono HT.out ?_
  rintro e w2 ⟨rfl, rfl⟩
  clear HT
  go_wp2_with fail
  refine Calls.mono HR.out ?_
  rintro e w2 ⟨so, cc, rfl, hb2, HF⟩
  clear HR
  go_wp2_with (first
    | (refine wpList_storeEv20 rfl _ _ rfl A 0 0 0 0 0 0 rfl rfl 0 0 0 0 0 0 hb2 ?_; intro w5 hw5 hf5; have HF5 : Hid _ := HF.out w5 hf5; clear hf5)
    | fail)
  refine bodyPost_ret (results_ct20 rfl _ _ _ A _ rfl (load_ev hw5.out)) rfl ?_
  exact ⟨rfl, HF5.out⟩
/-- The place among m that a number picks. -/
def pickAt (n : Int) (m : Nat) : Nat := if n.tmod m < 0 then (n.tmod m + m).toNat else (n.tmod m).toNat
theorem pickAt_lt (n : Int) {m : Nat} (hm : 0 < m) : pickAt n m < m := by
  have h1 := Int.tmod_lt_of_pos n (show (0 : Int) < m by omega)
  have h2 : -(m : Int) < n.tmod m := by
    have := Int.tmod_lt_of_pos (-n) (show (0 : Int) < m by omega)
    rw [Int.neg_tmod] at this
    omega
  unfold pickAt
  split <;> omega
set_option maxHeartbeats 4000000 in
set_option maxRecDepth 100000 in
theorem pick_on (h : RP w0 w p c T Z s) (hnr : Z.nr = s.d) (hW : Wf c T s) (hk : s.k < 16000000) (n : Int) (hn : i64 n) (hr : rdyL c s (c.l.toNat + c.s.toNat + 2) ≠ []) : Calls Tryz.prog 6 #[.pointer (some ⟨p, 0, none⟩), .int .i64 n] w fun e w' => SpP w0 c T w Z s e w' := by
  obtain ⟨w1, HW1⟩ : ∃ w1, Hid (w.alloc (.cells #[.int .i64 0, .int .u8 0, .int .i64 0, .int .i64 0, .int .i64 0, .int .i64 0] 35) = w1) := ⟨_, rfl⟩
  obtain ⟨A, HA⟩ : ∃ A, Hid (w.heap.size = A) := ⟨_, rfl⟩
  have hF1 : Fr [] w w1 := by rw [← HW1.out]; exact Fr.alloc _ _ _
  have hBx : Bx w0 c T w1 Z s A := by rw [← HW1.out, ← HA.out]; exact Bx.new h.m
  have h1 := h.quiet hF1
  have HT : Hid (Calls _ _ _ _ _) := wrong_any h1
  obtain ⟨M, hM⟩ : ∃ M, (rdyL c s (c.l.toNat + c.s.toNat + 2)).length = M := ⟨_, rfl⟩
  have hM0 : 0 < M := by rw [← hM]; exact List.length_pos_iff.2 hr
  have hMl : M ≤ 100 := by
    have e : (rdyL c s (c.l.toNat + c.s.toNat + 2)).length ≤ c.l.toNat + c.s.toNat + 2 := by
      unfold rdyL
      rw [List.length_map]
      exact Nat.le_trans (List.length_filter_le _ _) (by rw [List.length_range]; exact Nat.le_refl _)
    have := h.m.may.1; have := h.m.may.2.1; omega
  have hpl := pickAt_lt n hM0
  obtain ⟨K, hK⟩ : ∃ K, pickAt n M = K := ⟨_, rfl⟩
  rw [hK] at hpl
  obtain ⟨q, hqe, hq, hne⟩ := rdyL_mem (c := c) (s := s) (n := c.l.toNat + c.s.toNat + 2) (x := (rdyL c s (c.l.toNat + c.s.toNat + 2)).getD K 0) (by
    have : K < (rdyL c s (c.l.toNat + c.s.toNat + 2)).length := by omega
    rw [show (rdyL c s (c.l.toNat + c.s.toNat + 2)).getD K 0 = (rdyL c s (c.l.toNat + c.s.toNat + 2))[K] by simp [List.getD, this]]
    exact List.getElem_mem this)
  have HR : Hid (Calls Tryz.prog 18 #[.pointer (some ⟨p, 0, none⟩)] w1 fun e w' => ∃ g cc, e = .returned (.slice (some ⟨g, 0, none⟩) M cc) ∧ M ≤ cc ∧ w'.cell? ⟨g, K, none⟩ = some (.int .i64 (q : Int)) ∧ Hid (Calls Tryz.prog 19 #[.pointer (some ⟨p, 0, none⟩), .int .i64 (q : Int)] w' fun e w3 => ∃ t k n sh ct m s', e = .returned (.tuple #[.agg #[.int .i64 t, .int .u8 k, .int .i64 n, .int .i64 sh, .int .i64 ct, .int .i64 m], .int .i64 0]) ∧ w3.heap[A]? = some (.cells #[.int .i64 0, .int .u8 0, .int .i64 0, .int .i64 0, .int .i64 0, .int .i64 0] 35 (0, 0)) ∧ Hid ((∀ W', Fr [A] w3 W' → ∃ Z', Dn w0 c T w Z s W' Z' s' ∧ Z'.nr = s'.d) ∧ Nxt c T s s'))) := by
    refine (ready_any h1 hW).mono ?_
    rintro e w' ⟨so, m, cc, rfl, hI, hf⟩
    have hm : m = M := by rw [hI.len, hM]
    subst hm
    obtain ⟨g, hg, _, _, hcl⟩ := hI.cells hM0
    subst hg
    refine ⟨g, cc, rfl, hI.cap, ?_, ?_⟩
    · rw [hcl K hpl, hqe]
    · refine Calls.mono (pstep_any (h1.quiet hf) hnr hW hk hq hne) ?_
      rintro e w3 ⟨t, k, n', sh, ct, m', s', rfl, ⟨Z', hD, hnr'⟩, hN⟩
      have hD1 := (h1.m.dn hf).trans hD
      exact ⟨t, k, n', sh, ct, m', s', rfl, (hBx.then hD1).box, fun W' hf' => ⟨Z', hD1.fin h.m hF1 (by rw [HA.out]; exact Nat.le_refl _) hBx hf', hnr'⟩, hN⟩
  obtain ⟨R, hR⟩ : ∃ R : Int, n.tmod (M : Int) = R := ⟨_, rfl⟩
  have hRb : -(M : Int) < R ∧ R < M := by
    have h1 := Int.tmod_lt_of_pos n (show (0 : Int) < M by omega)
    have h2 := Int.tmod_lt_of_pos (-n) (show (0 : Int) < M by omega)
    rw [Int.neg_tmod] at h2
    omega
  unfold pickAt at hK
  rw [hR] at hK
  clear h hnr hW hr hq hne hqe hF1 hBx h1 hk hM
  by_cases hneg : R < 0
  · rw [if_pos hneg] at hK
    have hsum : R + (M : Int) = (K : Int) := by omega
    have hwr : wrap64 (R + (M : Int)) = (K : Int) := by rw [hsum]; unfold wrap64; omega
    clear hK hRb hsum
    go_enter Tryz.func6, Tryz.ntmps6
    go_upto_region 1 with fail
    rw [HW1.out, HA.out]
    clear HW1 HA
    go_wp2_with fail
    refine Calls.mono HT.out ?_
    rintro e w2 ⟨rfl, rfl⟩
    clear HT
    go_wp2_with fail
    refine Calls.mono HR.out ?_
    rintro e w2 ⟨g, cc, rfl, hcc, hcell, HS⟩
    clear HR
    go_wp2_with fail
    refine Calls.mono HS.out ?_
    rintro e w4 ⟨t, k', n', sh, ct, m, s', rfl, hA, HF⟩
    clear HS hcell
    go_wp2_with (first
      | (refine wpList_storeEv20 rfl _ _ rfl A t k' n' sh ct m rfl rfl 0 0 0 0 0 0 hA ?_; intro w5 hw5 hf5; have HF5 : Hid _ := HF.out.1 w5 hf5; clear hf5)
      | fail)
    refine bodyPost_ret (results_ct20 rfl _ _ _ A _ rfl (load_ev hw5.out)) rfl ?_
    exact ⟨t, k', n', sh, ct, m, s', rfl, HF5.out, HF.out.2⟩
  · rw [if_neg hneg] at hK
    have hRK : R = (K : Int) := by omega
    subst hRK
    clear hK hRb hneg
    go_enter Tryz.func6, Tryz.ntmps6
    go_upto_region 1 with fail
    rw [HW1.out, HA.out]
    clear HW1 HA
    go_wp2_with fail
    refine Calls.mono HT.out ?_
    rintro e w2 ⟨rfl, rfl⟩
    clear HT
    go_wp2_with fail
    refine Calls.mono HR.out ?_
    rintro e w2 ⟨g, cc, rfl, hcc, hcell, HS⟩
    clear HR
    go_wp2_with fail
    refine Calls.mono HS.out ?_
    rintro e w4 ⟨t, k', n', sh, ct, m, s', rfl, hA, HF⟩
    clear HS hcell
    go_wp2_with (first
      | (refine wpList_storeEv20 rfl _ _ rfl A t k' n' sh ct m rfl rfl 0 0 0 0 0 0 hA ?_; intro w5 hw5 hf5; have HF5 : Hid _ := HF.out.1 w5 hf5; clear hf5)
      | fail)
    refine bodyPost_ret (results_ct20 rfl _ _ _ A _ rfl (load_ev hw5.out)) rfl ?_
    exact ⟨t, k', n', sh, ct, m, s', rfl, HF5.out, HF.out.2⟩
end
end Go.Proofs.YtakbodlicfmkjaaGreat

/- An owner's step, and the gate's. Conditions as each names them. -/
import Derived.Test.YtaaghcimfcjehaaGreatDoorRs21
namespace Go.Proofs.YtaaghcimfcjehaaGreatDoor
open Go.ChangeShapes Go.WideShapes Go.ChangeAt Go.RowKit Go.Lib Go.Maps
set_option linter.unusedVariables false
set_option linter.unusedSimpArgs false

section
variable {w w' : World} {Z : Zs} {c : Cf} {s : Sy} {k : Nat}
set_option maxHeartbeats 4000000 in
set_option maxRecDepth 100000 in
theorem owner_any (h : SyM w Z c s k) (j : Nat) (hj : j < c.s.toNat) (hk : k < 1152921504606846976) (hc : ∀ n, -(k : Int) ≤ s.F n ∧ s.F n ≤ k) (hq : ∀ n ∈ s.R (18 + j), i64 n) :
    Calls Tryz.prog 120 #[.pointer (some ⟨Z.sb, 0, none⟩), .int .i64 (j : Int)] w (TaskP w Z c k (own s j)) := by
  have hs := h.may.2.1
  have hlt := h.lt
  have hF0 : Fr [] w (w.alloc (.cells (evA 0 0 0 0 0 0) 62)) := Fr.alloc _ _ _
  have hb0 : (w.alloc (.cells (evA 0 0 0 0 0 0) 62)).heap[w.heap.size]? = some (.cells (evA 0 0 0 0 0 0) 62 (0, 0)) := heap_alloc_new _ _
  have h0 := h.quiet hF0
  have hl0 : w.heap.size < (w.alloc (.cells (evA 0 0 0 0 0 0) 62)).heap.size := by simp
  obtain ⟨w0, HW0⟩ : ∃ w0, Hid (w.alloc (.cells (evA 0 0 0 0 0 0) 62) = w0) := ⟨_, rfl⟩
  rw [HW0.out] at hF0 hb0 h0 hl0
  obtain ⟨rb, HRB⟩ : ∃ rb, Hid (w.heap.size = rb) := ⟨_, rfl⟩
  have hrb : w.heap.size ≤ rb := by rw [HRB.out]; exact Nat.le_refl _
  rw [HRB.out] at hb0 hl0
  have d12 : w0.cell? ⟨Z.sb, 12, none⟩ = some (.slice (some ⟨Z.qq, 0, none⟩) c.s.toNat c.s.toNat) := h0.cell rfl
  have HFin : Hid (∀ W W' Z' s' k', Mv w0 Z W Z' → Fr [rb] W W' → SyM W Z' c s' k' → SyM W' Z' c s' k' ∧ Mv w Z W' Z') := fun W W' Z' s' k' hM hf hS => hM.fin hF0 hrb hl0 hlt hf hS
  have HBox : Hid (∀ W Z', Mv w0 Z W Z' → W.heap[rb]? = some (.cells (evA 0 0 0 0 0 0) 62 (0, 0))) := fun W Z' hM => hM.box hrb hlt hb0
  have HW0' : Hid (w.alloc (.cells #[.int .i64 0, .int .u8 0, .int .i64 0, .int .i64 0, .int .i64 0, .int .i64 0] 62) = w0) := HW0
  obtain ⟨S, hS⟩ : ∃ S, S = c.s.toNat := ⟨_, rfl⟩
  cases hR : s.R (18 + j) with
  | nil =>
    have HC : Hid (Calls _ _ _ _ _) := firstQ_none h0 hj hR
    have HO : Hid (own s j = (Te.no, s)) := by unfold own; show (match s.R (18 + j) with | [] => _ | n :: r => _) = _; rw [hR]
    have hj2 : (j : Int) < (S : Int) := by omega
    have HS : Hid (SyM w0 Z c s k) := h0
    rw [← hS] at d12 hj
    have hS2 : S ≤ 16 := by omega
    clear h h0 hb0 hl0 hlt hF0 hS hs hc hq HW0 hk
    go_enter Tryz.func120, Tryz.ntmps120
    go_upto_region 1 with fail
    rw [HW0'.out, HRB.out]
    go_wp2_with fail
    refine Calls.mono HC.out ?_
    rintro e w1 ⟨rfl, rfl⟩
    have HB := HBox.out _ _ (Mv.refl w0 Z)
    clear d12
    go_wp2_with (refine wpList_storeEv rfl _ _ rfl rb 0 0 0 0 0 0 rfl rfl 0 0 0 0 0 0 HB ?_; intro w3 hw3 hf3)
    refine bodyPost_ret (results_c_row rfl _ _ _ rb _ rfl (load_evt hw3.out)) rfl ?_
    rw [HO.out]
    obtain ⟨m1, m2⟩ := HFin.out _ _ _ _ _ (Mv.refl w0 Z) hf3 HS.out
    exact ⟨Z, rfl, m1.mono (Nat.le_succ k), m2, rfl⟩
  | cons n r =>
    have HC : Hid (Calls _ _ _ _ _) := firstQ_some h0 hj hR
    have hn : i64 n := hq n (by rw [hR]; simp)
    have hcn := hc n
    have HO : Hid (own s j = (⟨7, n, (j : Int), 0⟩, { s with R := upd s.R (18 + j) r, F := updI s.F n (s.F n - 1) })) := by unfold own; show (match s.R (18 + j) with | [] => _ | n :: r => _) = _; rw [hR]
    have hj2 : (j : Int) < (S : Int) := by omega
    have HU : Hid (∀ W Z', Z'.sb = Z.sb → SyM W Z' c (s.put (18 + j) r) k → Mv w0 Z W Z' → W.cell? ⟨Z.sb, 13, none⟩ = some (.map (some Z'.ob)) ∧ (Instr.lookup 111 (.map (some Z'.ob)) (.int .i64 n) false).run Tryz.prog W = .ok (.int .i64 (s.F n)) W ∧ ∃ w3, (Instr.mapUpdate 111 (.map (some Z'.ob)) (.int .i64 n) (.int .i64 (s.F n - 1))).run Tryz.prog W = .ok () w3 ∧ SyM w3 Z' c { s with R := upd s.R (18 + j) r, F := updI s.F n (s.F n - 1) } (k + 1) ∧ Mv w0 Z w3 Z') := by
      intro W Z' e1 hW hm
      obtain ⟨w3, r1, r2, r3⟩ := hW.setOut n (s.F n - 1) hn (by omega)
      exact ⟨by have := hW.cell (j := 13) (v := .map (some Z'.ob)) rfl; rw [e1] at this; exact this, hW.lookOut n hn, w3, r1, r2, hm.trans r3⟩
    obtain ⟨Fn, hFn⟩ : ∃ Fn, Fn = s.F n := ⟨_, rfl⟩
    rw [← hFn] at HU HO hcn
    have hf1 : -1152921504606846976 ≤ Fn := by omega
    have hf2 : Fn ≤ 1152921504606846976 := by omega
    rw [← hS] at d12 hj
    have hS2 : S ≤ 16 := by omega
    clear h h0 hb0 hl0 hlt hF0 hS hs hc hq HW0 hcn hFn hk
    go_enter Tryz.func120, Tryz.ntmps120
    go_upto_region 1 with fail
    rw [HW0'.out, HRB.out]
    go_wp2_with fail
    refine Calls.mono HC.out ?_
    rintro e w1 ⟨Z1, rfl, hS1, hM1, z1, z2, z3⟩
    obtain ⟨f1, f2, w5, f3, f4, f5⟩ := HU.out w1 Z1 z1 hS1 hM1
    have HE : Hid (SyM w5 Z1 c { s with R := upd s.R (18 + j) r, F := updI s.F n (Fn - 1) } (k + 1) ∧ Mv w0 Z w5 Z1) := ⟨f4, f5⟩
    have HB := HBox.out w5 Z1 f5
    have HZ1 : Hid (Z1.sb = Z.sb) := z1
    clear hS1 hM1 f4 f5 HU z1 z2 z3 HC d12 HBox
    go_wp2_with (refine wpList_storeEv rfl _ _ rfl rb 0 7 n (j : Int) 0 0 rfl rfl 0 0 0 0 0 0 HB ?_; intro w6 hw6 hf6)
    refine bodyPost_ret (results_c_row rfl _ _ _ rb _ rfl (load_evt hw6.out)) rfl ?_
    rw [HO.out]
    obtain ⟨m1, m2⟩ := HFin.out _ _ _ _ _ HE.out.2 hf6 HE.out.1
    exact ⟨Z1, rfl, m1, m2, HZ1.out⟩
end
end Go.Proofs.YtaaghcimfcjehaaGreatDoor

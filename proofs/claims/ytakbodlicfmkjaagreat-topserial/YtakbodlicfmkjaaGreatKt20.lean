/- The dispatcher's step: it dispatches. Conditions as each names them. -/
import Derived.Test.YtakbodlicfmkjaaGreatKq20
import Derived.Test.YtakbodlicfmkjaaGreatKr20
namespace Go.Proofs.YtakbodlicfmkjaaGreat
open Go.ChangeShapes Go.WideShapes Go.ChangeAt Go.RowKit Go.Lib Go.Maps
set_option linter.unusedVariables false
set_option linter.unusedSimpArgs false
section
variable {w0 w w' : World} {c : Cf} {T : List Tx} {Z : Lay} {s : Ms}
set_option maxHeartbeats 4000000 in
set_option maxRecDepth 100000 in
theorem kd_disp (h : MaM w0 w c T Z s) (hnr : Z.nr = s.d) (hW : Wf c T s) (hv : s.hv = true) (hnear : (s.rd : Int) ≤ s.ma + c.w) (hk : s.k < 16000000) : Calls Tryz.prog 251 #[.pointer (some ⟨Z.z.kd, 0, none⟩), .int .u8 3] w fun e w' => StP w0 c T w Z s (s.rd : Int) 0 (((wtsOf T s).length : Nat) : Int) (dispM T s) e w' := by
  obtain ⟨w1, HW1⟩ : ∃ w1, Hid (w.alloc (.cells #[.int .i64 0, .int .u8 0, .int .i64 0, .int .i64 0, .int .i64 0, .int .i64 0] 35) = w1) := ⟨_, rfl⟩
  obtain ⟨A, HA⟩ : ∃ A, Hid (w.heap.size = A) := ⟨_, rfl⟩
  have hF1 : Fr [] w w1 := by rw [← HW1.out]; exact Fr.alloc _ _ _
  have hBx : Bx w0 c T w1 Z s A := by rw [← HW1.out, ← HA.out]; exact Bx.new h
  have h1 := h.quiet hF1
  obtain ⟨N, hN⟩ : ∃ N : Int, (s.rd : Int) = N := ⟨_, rfl⟩
  obtain ⟨C, hC⟩ : ∃ C : Int, (((wtsOf T s).length : Nat) : Int) = C := ⟨_, rfl⟩
  have HC1 : Hid (Calls Tryz.prog 254 #[.pointer (some ⟨Z.z.kd, 0, none⟩)] w1 fun e w' => e = .returned (.tuple #[.int .i64 N, .int .i64 C]) ∧ w'.heap[A]? = some (.cells #[.int .i64 0, .int .u8 0, .int .i64 0, .int .i64 0, .int .i64 0, .int .i64 0] 35 (0, 0)) ∧ ∀ W', Fr [A] w' W' → ∃ Z', Dn w0 c T w Z s W' Z' (dispM T s) ∧ Z'.nr = (dispM T s).d) := by
    refine (mdisp_any h1 hnr hW hv hnear hk).mono ?_
    rintro e w' ⟨rfl, Z', hD, hnr'⟩
    refine ⟨by rw [hN, hC], (hBx.then hD).box, fun W' hf => ⟨_, hD.fin h hF1 (by rw [HA.out]; exact Nat.le_refl _) hBx hf, hnr'⟩⟩
  rw [hN, hC]
  clear h hnr hW hv hnear hk hF1 hBx h1 hN hC
  go_enter Tryz.func251, Tryz.ntmps251
  go_upto_region 1 with fail
  rw [HW1.out, HA.out]
  clear HW1 HA
  go_wp2_with fail
  refine Calls.mono HC1.out ?_
  rintro e w2 ⟨rfl, hb, hfin⟩
  have HFin : Hid (∀ W', _ → _) := hfin
  clear hfin HC1
  go_wp2_with (first
    | (refine wpList_storeEv20 rfl _ _ rfl A 0 0 N 0 C 0 rfl rfl 0 0 0 0 0 0 hb ?_; intro w6 hw6 hf6; have HF6 : Hid _ := HFin.out _ hf6; clear hf6)
    | fail)
  refine bodyPost_ret (results_c_row20 rfl _ _ _ A _ rfl (load_ev hw6.out)) rfl ?_
  exact ⟨rfl, HF6.out⟩
end
end Go.Proofs.YtakbodlicfmkjaaGreat

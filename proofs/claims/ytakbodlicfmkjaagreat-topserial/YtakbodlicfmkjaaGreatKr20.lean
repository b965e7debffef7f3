/- The dispatcher's step: what it reads. Conditions as each names them. -/
import Derived.Test.YtakbodlicfmkjaaGreatAw20
import Derived.Test.YtakbodlicfmkjaaGreatFr20
namespace Go.Proofs.YtakbodlicfmkjaaGreat
open Go.ChangeShapes Go.WideShapes Go.ChangeAt Go.RowKit Go.Lib Go.Maps
set_option linter.unusedVariables false
set_option linter.unusedSimpArgs false
section
variable {w0 w w' : World} {c : Cf} {T : List Tx} {Z : Lay} {s : Ms}
theorem MaM.readF (h : MaM w0 w c T Z s) (hv : s.hv = false) (hr : s.rd < s.fd) :
    Calls Tryz.prog 252 #[.pointer (some ⟨Z.z.fb, 0, none⟩)] w fun e w' => e = .returned (.tuple #[.int .i64 ((s.rd + 1 : Nat) : Int), .int .i64 0]) ∧ ∃ v' hw', Dn w0 c T w Z s w' { Z with v := v', hw := hw' } { s with rd := s.rd + 1, hv := true } := by
  have hfe := h.fe
  have hm := hfe.m
  have hfl := hm.fl
  have hfew := hm.src.few
  have rc : (⟨s.rd, s.fd, c.w.toNat, s.hv, false⟩ : F.Fe).readC = 0 := by simp [F.Fe.readC, hv]; omega
  refine (F.fRead_any hm (by have h1 := okL_few hm.ok; have h2 : s.fd ≤ Z.y.ts.length := hm.fl; simp [txs] at h1; simp [askd]; omega)).mono ?_
  rintro e w' ⟨rfl, (⟨k, _⟩ | ⟨_, v', hw', k1, k2, k3, kb, kn, rfl, k5⟩)⟩
  · exact absurd rc k
  · have rn : (⟨s.rd, s.fd, c.w.toNat, s.hv, false⟩ : F.Fe).readN = s.rd + 1 := by simp [F.Fe.readN, rc]
    have rs : (⟨s.rd, s.fd, c.w.toNat, s.hv, false⟩ : F.Fe).readS = ⟨s.rd + 1, s.fd, c.w.toNat, true, false⟩ := by simp [F.Fe.readS, rc]
    rw [rs] at k1
    have ha : askd s.rd ++ [(⟨s.rd, s.fd, c.w.toNat, s.hv, false⟩ : F.Fe).rd + 1] = askd (s.rd + 1) := (askd_succ _).symm
    rw [ha] at k1
    have hkb : kb < w'.heap.size := by
      obtain ⟨_, k, e1, e2, _⟩ := k1.held rfl
      have : kb = k := by cases e1; rfl
      rw [this]
      exact lt_of_block e2
    have hd := h.setFe k2 (fun b hb _ => ?_) (v' := v') (hw' := .slice (some ⟨kb, 0, none⟩) kn kn) (rd := s.rd + 1) (fd := s.fd) (hv := true) (k := s.k) ⟨k1, hfe.f0, hfe.g0, hfe.l0, hfe.m0, hfe.t0, Nat.le_trans hfe.b0 k2.size, fun k hk => ?_, fun k hk => ?_⟩ (fun b hb => ?_) (Nat.le_refl _)
    · exact ⟨by rw [rn, rc]; rfl, v', _, hd⟩
    · rcases List.mem_cons.1 hb with rfl | hb
      · exact Or.inl ⟨hm.fn, hfe.f0⟩
      · simp only [F.Src.own, List.mem_cons, Option.mem_toList] at hb
        rcases hb with rfl | hb
        · exact Or.inl ⟨hm.src.gn, hfe.g0⟩
        · exact Or.inr (Or.inl hb)
    · simp [Value.ownBlock] at hk
      subst hk
      exact ⟨Nat.le_trans h.fr.size k5, hkb⟩
    · simp [Value.ownBlock] at hk
      subst hk
      exact Nat.le_trans hfe.b0 k5
    · rcases hb with hb | hb | hb
      · exact Or.inl (Or.inl hb)
      · rcases k3 with e | ⟨k, e, hk⟩
        · exact Or.inl (Or.inr (Or.inl (by rw [← e]; exact hb)))
        · rw [e] at hb; cases hb; exact Or.inr hk
      · simp [Value.ownBlock] at hb
        subst hb
        exact Or.inr k5
set_option maxHeartbeats 4000000 in
set_option maxRecDepth 100000 in
theorem kd_read (h : MaM w0 w c T Z s) (hnr : Z.nr = s.d) (hv : s.hv = false) (hr : s.rd < s.fd) : Calls Tryz.prog 251 #[.pointer (some ⟨Z.z.kd, 0, none⟩), .int .u8 1] w fun e w' => StP w0 c T w Z s ((s.rd + 1 : Nat) : Int) 0 0 (readM s) e w' := by
  obtain ⟨w1, HW1⟩ : ∃ w1, Hid (w.alloc (.cells #[.int .i64 0, .int .u8 0, .int .i64 0, .int .i64 0, .int .i64 0, .int .i64 0] 35) = w1) := ⟨_, rfl⟩
  obtain ⟨A, HA⟩ : ∃ A, Hid (w.heap.size = A) := ⟨_, rfl⟩
  have hF1 : Fr [] w w1 := by rw [← HW1.out]; exact Fr.alloc _ _ _
  have hBx : Bx w0 c T w1 Z s A := by rw [← HW1.out, ← HA.out]; exact Bx.new h
  have h1 := h.quiet hF1
  obtain ⟨N, hN⟩ : ∃ N : Int, ((s.rd + 1 : Nat) : Int) = N := ⟨_, rfl⟩
  have c0 : w1.cell? ⟨Z.z.kd, 0, none⟩ = some (.pointer (some ⟨Z.z.mb, 0, none⟩)) := h1.kdc.1
  have c5 : w1.cell? ⟨Z.z.mb, 5, none⟩ = some (.pointer (some ⟨Z.z.fb, 0, none⟩)) := h1.mc rfl
  have HC1 : Hid (Calls Tryz.prog 252 #[.pointer (some ⟨Z.z.fb, 0, none⟩)] w1 fun e w' => e = .returned (.tuple #[.int .i64 N, .int .i64 0]) ∧ w'.heap[A]? = some (.cells #[.int .i64 0, .int .u8 0, .int .i64 0, .int .i64 0, .int .i64 0, .int .i64 0] 35 (0, 0)) ∧ ∀ W', Fr [A] w' W' → ∃ Z', Dn w0 c T w Z s W' Z' (readM s) ∧ Z'.nr = (readM s).d) := by
    refine (h1.readF hv hr).mono ?_
    rintro e w' ⟨rfl, v', hw', hD⟩
    refine ⟨by rw [hN], (hBx.then hD).box, fun W' hf => ⟨_, (hD.steps (k := s.k + 1) (Nat.le_succ _)).fin h hF1 (by rw [HA.out]; exact Nat.le_refl _) hBx hf, hnr⟩⟩
  rw [hN]
  clear h hnr hv hr hF1 hBx h1 hN
  go_enter Tryz.func251, Tryz.ntmps251
  go_upto_region 1 with fail
  rw [HW1.out, HA.out]
  clear HW1 HA
  go_wp2_with fail
  refine Calls.mono HC1.out ?_
  rintro e w2 ⟨rfl, hb, hfin⟩
  have HFin : Hid (∀ W', _ → _) := hfin
  clear hfin HC1 c0 c5
  go_wp2_with (first
    | (refine wpList_storeEv20 rfl _ _ rfl A 0 0 N 0 0 0 rfl rfl 0 0 0 0 0 0 hb ?_; intro w6 hw6 hf6; have HF6 : Hid _ := HFin.out _ hf6; clear hf6)
    | fail)
  refine bodyPost_ret (results_c_row20 rfl _ _ _ A _ rfl (load_ev hw6.out)) rfl ?_
  exact ⟨rfl, HF6.out⟩
end
end Go.Proofs.YtakbodlicfmkjaaGreat

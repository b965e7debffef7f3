/- A task goes on by one step: advance. Conditions as each names them. -/
import Derived.Test.YtakbodlicfmkjaaGreatTk20
namespace Go.Proofs.YtakbodlicfmkjaaGreat
open Go.ChangeShapes Go.WideShapes Go.ChangeAt Go.RowKit Go.Lib Go.Maps
set_option linter.unusedVariables false
set_option linter.unusedSimpArgs false
section
variable {w0 w w' : World} {c : Cf} {T : List Tx} {Z : Lay} {s : Ms}
/-- An event's box with all its fields. -/
def Evx (w : World) (b : Nat) (t k n sh ct m : Int) : Prop := w.heap[b]? = some (.cells #[.int .i64 t, .int .u8 k, .int .i64 n, .int .i64 sh, .int .i64 ct, .int .i64 m] 35 (0, 0))
/-- What an advance answers and leaves. -/
def AdP (w0 : World) (c : Cf) (T : List Tx) (w : World) (Z : Lay) (s : Ms) (q : Nat) (e : Ending) (w' : World) : Prop := ∃ s' n sh ct, e = .returned (evV q (canT c s q) n sh ct s'.ma) ∧ (∃ Z', Dn w0 c T w Z s w' Z' s' ∧ Z'.nr = s'.d) ∧ Nxt c T s s'
set_option maxHeartbeats 4000000 in
set_option maxRecDepth 100000 in
theorem adv_any (h : MaM w0 w c T Z s) (hnr : Z.nr = s.d) (hW : Wf c T s) (hk : s.k < 16000000) {q : Nat} (hq : q < c.l.toNat + c.s.toNat + 2) (hne : canT c s q ≠ 0) : Calls Tryz.prog 36 #[.pointer (some ⟨Z.z.mb, 0, none⟩), .iface (tyT c q) (.pointer (some ⟨bT c Z.z q, 0, none⟩))] w fun e w' => AdP w0 c T w Z s q e w' := by
  obtain ⟨w1, HW1⟩ : ∃ w1, Hid (w.alloc (.cells #[.int .i64 0, .int .u8 0, .int .i64 0, .int .i64 0, .int .i64 0, .int .i64 0] 35) = w1) := ⟨_, rfl⟩
  obtain ⟨A, HA⟩ : ∃ A, Hid (w.heap.size = A) := ⟨_, rfl⟩
  have hF1 : Fr [] w w1 := by rw [← HW1.out]; exact Fr.alloc _ _ _
  have hBx : Bx w0 c T w1 Z s A := by rw [← HW1.out, ← HA.out]; exact Bx.new h
  have h1 := h.quiet hF1
  have hwA : w.heap.size ≤ A := by rw [HA.out]; exact Nat.le_refl _
  have hAl : A < w1.heap.size := lt_of_block hBx.box
  obtain ⟨ty, hty⟩ : ∃ ty, tyT c q = ty := ⟨_, rfl⟩
  obtain ⟨b, hb⟩ : ∃ b, bT c Z.z q = b := ⟨_, rfl⟩
  obtain ⟨cf, hcf⟩ : ∃ f, canF c q = f := ⟨_, rfl⟩
  obtain ⟨sf, hsf⟩ : ∃ f, stepF c q = f := ⟨_, rfl⟩
  obtain ⟨k, hkk⟩ : ∃ k : Int, (canT c s q : Int) = k := ⟨_, rfl⟩
  obtain ⟨Q, hQ⟩ : ∃ Q : Int, (q : Int) = Q := ⟨_, rfl⟩
  have MC : ∀ W, (method 609 ty (.pointer (some ⟨b, 0, none⟩)) "towpath/replica.can").run Tryz.prog W = .ok (cf, .pointer (some ⟨b, 0, none⟩)) W := fun W => by rw [← hty, ← hb, ← hcf]; exact m_can c Z.z q W
  have MS : ∀ W, (method 609 ty (.pointer (some ⟨b, 0, none⟩)) "towpath/replica.step").run Tryz.prog W = .ok (sf, .pointer (some ⟨b, 0, none⟩)) W := fun W => by rw [← hty, ← hb, ← hsf]; exact m_step c Z.z q W
  have EC : ∀ args W, (callFunc cf args).run Tryz.prog W = .ok (.enter cf args) W := by rw [← hcf]; exact enter_can c q
  have ES : ∀ args W, (callFunc sf args).run Tryz.prog W = .ok (.enter sf args) W := by rw [← hsf]; exact enter_step c q
  have HC1 : Hid (Calls Tryz.prog cf #[.pointer (some ⟨b, 0, none⟩)] w1 fun e w' => e = .returned (.int .u8 k) ∧ Fr [] w1 w') := by
    rw [← hcf, ← hb, ← hkk]
    exact can_any h1 hW hq
  have HC2 : Hid (∀ W, Fr [] w1 W → Calls Tryz.prog sf #[.pointer (some ⟨b, 0, none⟩), .int .u8 k] W fun e w3 => ∃ s' n sh ct, e = .returned (.agg #[.int .i64 0, .int .u8 0, .int .i64 n, .int .i64 sh, .int .i64 ct, .int .i64 0]) ∧ Hid (Nxt c T s s' ∧ ∀ W4, Fr [w3.heap.size] (w3.alloc (.cells #[.int .i64 0, .int .u8 0, .int .i64 0, .int .i64 0, .int .i64 0, .int .i64 0] 35)) W4 → w3.heap.size ≠ Z.z.mb ∧ (∀ W, Fr [] W4 W → W.cell? ⟨Z.z.mb, 12, none⟩ = some (.pointer (some ⟨Z.z.gb, 0, none⟩)) ∧ (method 609 ty (.pointer (some ⟨b, 0, none⟩)) "towpath/replica.number").run Tryz.prog W = .ok (250, .agg #[.pointer (some ⟨Z.z.mb, 0, none⟩), .int .i64 Q]) W ∧ Calls Tryz.prog 23 #[.pointer (some ⟨Z.z.gb, 0, none⟩)] W fun e w' => e = .returned (.int .i64 s'.ma) ∧ Fr [] W w') ∧ ∀ W6, Fr [w3.heap.size] W4 W6 → Evx W6 A 0 0 0 0 0 0 ∧ ∀ W9, Fr [A] W6 W9 → ∃ Z', Dn w0 c T w Z s W9 Z' s' ∧ Z'.nr = s'.d)) := fun W hf => by
    rw [← hsf, ← hb, ← hkk]
    refine (step_any (h1.quiet hf) hnr hW hk hq hne).mono ?_
    rintro e w3 ⟨s', n, sh, ct, ⟨rfl, Z', hD, hnr'⟩, hN⟩
    have hD1 := (h.dn (hF1.then hf)).trans hD
    have hB3 := (hBx.then (h1.dn hf)).then hD
    refine ⟨s', n, sh, ct, rfl, hN, fun W4 hf4 => ?_⟩
    have hE0 : w0.heap.size ≤ w3.heap.size := hD.m.fr.size
    have hEw : w.heap.size ≤ w3.heap.size := by have := hD1.x.size; omega
    have hAE : A < w3.heap.size := lt_of_block hB3.box
    have hfa : Fr [] w3 (w3.alloc (.cells #[.int .i64 0, .int .u8 0, .int .i64 0, .int .i64 0, .int .i64 0, .int .i64 0] 35)) := Fr.alloc _ _ _
    have hBe : Bx w0 c T (w3.alloc (.cells #[.int .i64 0, .int .u8 0, .int .i64 0, .int .i64 0, .int .i64 0, .int .i64 0] 35)) Z' s' w3.heap.size := Bx.new hD.m
    have hDa := hD1.trans (hD1.m.dn hfa)
    have hBa := hB3.then (hD.m.dn hfa)
    have hS : ∀ x ∈ [w3.heap.size], w.heap.size ≤ x ∧ MaM.off w0 (w3.alloc (.cells #[.int .i64 0, .int .u8 0, .int .i64 0, .int .i64 0, .int .i64 0, .int .i64 0] 35)) c T Z' s' x := fun x hx => by rw [List.mem_singleton.1 hx]; exact ⟨hEw, hBe.off⟩
    have hS0 : ∀ x ∈ [w3.heap.size], w0.heap.size ≤ x ∧ MaM.off w0 (w3.alloc (.cells #[.int .i64 0, .int .u8 0, .int .i64 0, .int .i64 0, .int .i64 0, .int .i64 0] 35)) c T Z' s' x := fun x hx => ⟨by rw [List.mem_singleton.1 hx]; exact hE0, (hS x hx).2⟩
    have hD4 := hDa.finS h (Fr.refl _ _) (S := [w3.heap.size]) hS hf4
    have hbA4 : Evx W4 A 0 0 0 0 0 0 := hf4.keep hBa.box (by simp; omega)
    have hoA4 := hDa.m.otherO hf4 hS0 hBa.off
    have hoE4 := hDa.m.otherO hf4 hS0 hBe.off
    refine ⟨fun e => ?_, fun W' hf' => ?_, fun W6 hf6 => ?_⟩
    · have h2 := hD1.m.lt (b := Z'.z.mb) (Or.inl rfl)
      rw [hD1.z] at h2
      omega
    · have hD5 := hD4.trans (hD4.m.dn hf')
      refine ⟨hD5.mc rfl, ?_, ?_⟩
      · have := m_num hD5.m hq
        rw [hD5.z, hty, hQ] at this
        exact this
      · have := gg_mark hD5.m.ga
        rw [hD5.z] at this
        exact this
    · have hD6 := hD4.finS h (Fr.refl _ _) (S := [w3.heap.size]) (fun x hx => by rw [List.mem_singleton.1 hx]; exact ⟨hEw, hoE4⟩) hf6
      have hbA6 : Evx W6 A 0 0 0 0 0 0 := hf6.keep hbA4 (by simp; omega)
      have hoA6 := hD4.m.otherO hf6 (fun x hx => by rw [List.mem_singleton.1 hx]; exact ⟨hE0, hoE4⟩) hoA4
      exact ⟨hbA6, fun W9 hf9 => ⟨_, hD6.finS h (Fr.refl _ _) (S := [A]) (fun x hx => by rw [List.mem_singleton.1 hx]; exact ⟨hwA, hoA6⟩) hf9, hnr'⟩⟩
  unfold AdP
  rw [hty, hb]
  have HK : Hid ((canT c s q : Int) = k ∧ (q : Int) = Q) := ⟨hkk, hQ⟩
  clear h hnr hW hk hq hne hF1 hBx h1 hwA hAl hty hb hcf hsf hkk hQ
  go_enter Tryz.func36, Tryz.ntmps36
  go_upto_region 1 with fail
  rw [HW1.out, HA.out]
  clear HW1 HA
  go_wp2_with (simp [go_sem, MC, MS, EC, ES])
  refine Calls.mono HC1.out ?_
  rintro e w2 ⟨rfl, hf2⟩
  have HC3 : Hid (Calls _ _ _ _ _) := HC2.out w2 hf2
  clear HC1 HC2 hf2
  go_wp2_with (simp [go_sem, MC, MS, EC, ES])
  refine Calls.mono HC3.out ?_
  rintro e w3 ⟨s', n, sh, ct, rfl, HR⟩
  clear HC3 MC MS EC ES
  go_wp2_with (first
    | (refine wpList_storeEv20 rfl _ _ rfl w3.heap.size 0 0 n sh ct 0 rfl rfl 0 0 0 0 0 0 (heap_alloc_new w3 _) ?_; intro w4 hb4 hf4; obtain ⟨hN, hR⟩ := HR.out; have HR4 : Hid (_ ∧ _) := hR w4 hf4; clear hf4 hR HR; have HNx : Hid (Nxt c T s s') := hN; clear hN)
    | fail)
  obtain ⟨E, HE⟩ : ∃ E, Hid (w3.heap.size = E) := ⟨_, rfl⟩
  have hne := HR4.out.1
  have hrq := HR4.out.2.1
  have HRf : Hid (∀ W6, _ → _) := HR4.out.2.2
  rw [HE.out] at hb4 hne HRf ⊢
  clear HR4 HE
  have hem : E ≠ Z.z.mb := hne
  have hme : Z.z.mb ≠ E := fun e => hne e.symm
  have HBk : Hid (∀ W, Fr [] w4 W → Evx W E 0 0 n sh ct 0) := fun W hf => hf.keep hb4.out (by simp)
  clear hb4 hne
  obtain ⟨ma, hma⟩ : ∃ ma, s'.ma = ma := ⟨_, rfl⟩
  have HRq : Hid (∀ W, Fr [] w4 W → W.cell? ⟨Z.z.mb, 12, none⟩ = some (.pointer (some ⟨Z.z.gb, 0, none⟩)) ∧ Hid (Calls Tryz.prog 23 #[.pointer (some ⟨Z.z.gb, 0, none⟩)] W fun e w' => e = .returned (.int .i64 ma) ∧ Fr [] W w')) := fun W hf => ⟨(hrq W hf).1, by rw [← hma]; exact (hrq W hf).2.2⟩
  have HU : Hid (∀ W, Fr [] w4 W → W.cell? ⟨E, 0, none⟩ = some (.int .i64 0) ∧ W.cell? ⟨E, 1, none⟩ = some (.int .u8 0) ∧ W.cell? ⟨E, 5, none⟩ = some (.int .i64 0) ∧ W.frozen? ⟨E, 0, none⟩ = false ∧ W.frozen? ⟨E, 1, none⟩ = false ∧ W.frozen? ⟨E, 5, none⟩ = false) := fun W hf => by
    have hb6 := HBk.out W hf
    refine ⟨?_, ?_, ?_, ?_, ?_, ?_⟩
    · rw [cell_of_row _ _ _ _ _ _ hb6]; rfl
    · rw [cell_of_row _ _ _ _ _ _ hb6]; rfl
    · rw [cell_of_row _ _ _ _ _ _ hb6]; rfl
    · simp [World.frozen?, show W.heap[E]? = _ from hb6]
    · simp [World.frozen?, show W.heap[E]? = _ from hb6]
    · simp [World.frozen?, show W.heap[E]? = _ from hb6]
  obtain ⟨c12, _, _⟩ := hrq w4 (Fr.refl _ _)
  obtain ⟨c12d, MN, _⟩ := hrq w4.drew (Fr.drew _ _)
  have HFd : Hid (Fr [] w4 w4.drew) := Fr.drew _ _
  have HMa : Hid (s'.ma = ma) := hma
  clear hma hrq
  have HNm : Hid (Calls Tryz.prog 250 #[.agg #[.pointer (some ⟨Z.z.mb, 0, none⟩), .int .i64 Q]] w4.drew fun e w' => e = .returned (.int .i64 Q) ∧ Fr [] w4.drew w') := snum_any _ _ _
  simp only [Act.put]
  go_region_held3 (fun W => W.cell? ⟨Z.z.mb, 12, none⟩ = some (.pointer (some ⟨Z.z.gb, 0, none⟩))) (go_keep)
    (first
      | (go_at_call 250; with_reducible refine Calls.mono HNm.out ?_; rintro e w5 ⟨rfl, hf5⟩; obtain ⟨c5, HM5⟩ := HRq.out w5 (Fr.then HFd.out hf5))
      | (go_at_call 23; with_reducible refine Calls.mono HM5.out ?_; rintro e w6 ⟨rfl, hf6⟩; obtain ⟨c6, _⟩ := HRq.out w6 (Fr.then (Fr.then HFd.out hf5) hf6); obtain ⟨u0, u1, u5, z0, z1, z5⟩ := HU.out w6 (Fr.then (Fr.then HFd.out hf5) hf6))
      | simp [go_sem, MN])
  have hF46 : Fr [] w4 w6 := Fr.then (Fr.then HFd.out hf5) hf6
  obtain ⟨w8, HW8⟩ : ∃ w8, Hid (((w6.setCell ⟨E, 0, none⟩ (.int .i64 Q)).setCell ⟨E, 1, none⟩ (.int .u8 k)).setCell ⟨E, 5, none⟩ (.int .i64 ma) = w8) := ⟨_, rfl⟩
  have hF8 : Fr [E] w4 w8 := by
    rw [← HW8.out]
    exact (((hF46.mono (by simp)).then (Fr.set _ _ _ (by simp))).then (Fr.set _ _ _ (by simp))).then (Fr.set _ _ _ (by simp))
  have hb8 : Evx w8 E Q k n sh ct ma := by
    rw [← HW8.out]
    exact row_putE _ (row_putE _ (row_putE _ (HBk.out w6 hF46)))
  obtain ⟨hA8, hfin⟩ := HRf.out w8 hF8
  have HFin9 : Hid (∀ w9, _ → _) := hfin
  have e0 : w8.cell? ⟨E, 0, none⟩ = some (.int .i64 Q) := by rw [cell_of_row _ _ _ _ _ _ hb8]; rfl
  have e1 : w8.cell? ⟨E, 1, none⟩ = some (.int .u8 k) := by rw [cell_of_row _ _ _ _ _ _ hb8]; rfl
  have e2 : w8.cell? ⟨E, 2, none⟩ = some (.int .i64 n) := by rw [cell_of_row _ _ _ _ _ _ hb8]; rfl
  have e3 : w8.cell? ⟨E, 3, none⟩ = some (.int .i64 sh) := by rw [cell_of_row _ _ _ _ _ _ hb8]; rfl
  have e4 : w8.cell? ⟨E, 4, none⟩ = some (.int .i64 ct) := by rw [cell_of_row _ _ _ _ _ _ hb8]; rfl
  have e5 : w8.cell? ⟨E, 5, none⟩ = some (.int .i64 ma) := by rw [cell_of_row _ _ _ _ _ _ hb8]; rfl
  rw [HW8.out]
  clear hF8 hb8 hfin HRf HW8 hF46 u0 u1 u5 z0 z1 z5 HU HBk HRq HM5 HNm HFd hf5 hf6 c5 c6 c12 c12d MN
  go_wp2_with (first
    | (refine wpList_storeEv20 rfl _ _ rfl A Q k n sh ct ma rfl rfl 0 0 0 0 0 0 hA8 ?_; intro w9 hw9 hf9; have HF9 : Hid _ := HFin9.out _ hf9; clear hf9)
    | fail)
  refine bodyPost_ret (results_c_row20 rfl _ _ _ A _ rfl (load_ev hw9.out)) rfl ?_
  exact ⟨s', n, sh, ct, by rw [HK.out.1, HK.out.2, HMa.out], HF9.out, HNx.out⟩
end
end Go.Proofs.YtakbodlicfmkjaaGreat

/- A replica steps, is fed. Conditions as each names them. -/
import Derived.Test.YtakbodlicfmkjaaGreatRe20
namespace Go.Proofs.YtakbodlicfmkjaaGreat
open Go.ChangeShapes Go.WideShapes Go.ChangeAt Go.RowKit Go.Lib Go.Maps
set_option linter.unusedVariables false
set_option linter.unusedSimpArgs false
section
variable {w0 w w' : World} {p : Nat} {c : Cf} {T : List Tx} {Z : Lay} {s : Ms}
theorem results_ct20 {fn : Func} {p q : Tmp} {ty : TypeId} (h : fn.results = #[.cell p ty, .tmp q]) (tmps : Array Value) (P : Program) (w : World) (g : Nat) (v : Value) (hp : tmps.getD p undef = .pointer (some ⟨g, 0, none⟩)) (hld : (loadVar ty ⟨g, 0, none⟩).run P w = .ok v w) :
    (results fn tmps).run P w = .ok (.tuple #[v, tmps.getD q undef]) w := by
  simp only [results, h]
  simp [Sem.run_bind, Result.andThen, ← Array.getD_eq_getD_getElem?, hp, asAddr, hld]
/-- What a step answers and leaves. -/
def SpP (w0 : World) (c : Cf) (T : List Tx) (w : World) (Z : Lay) (s : Ms) (e : Ending) (w' : World) : Prop := ∃ t k n sh ct m s', e = .returned (.tuple #[evV t k n sh ct m, .int .i64 0]) ∧ (∃ Z', Dn w0 c T w Z s w' Z' s' ∧ Z'.nr = s'.d) ∧ Nxt c T s s'
set_option maxHeartbeats 4000000 in
set_option maxRecDepth 100000 in
theorem pstep_any (h : RP w0 w p c T Z s) (hnr : Z.nr = s.d) (hW : Wf c T s) (hk : s.k < 16000000) {q : Nat} (hq : q < c.l.toNat + c.s.toNat + 2) (hne : canT c s q ≠ 0) : Calls Tryz.prog 19 #[.pointer (some ⟨p, 0, none⟩), .int .i64 (q : Int)] w fun e w' => SpP w0 c T w Z s e w' := by
  obtain ⟨w1, HW1⟩ : ∃ w1, Hid (w.alloc (.cells #[.int .i64 0, .int .u8 0, .int .i64 0, .int .i64 0, .int .i64 0, .int .i64 0] 35) = w1) := ⟨_, rfl⟩
  obtain ⟨A, HA⟩ : ∃ A, Hid (w.heap.size = A) := ⟨_, rfl⟩
  have hF1 : Fr [] w w1 := by rw [← HW1.out]; exact Fr.alloc _ _ _
  have hBx : Bx w0 c T w1 Z s A := by rw [← HW1.out, ← HA.out]; exact Bx.new h.m
  have h1 := h.quiet hF1
  have HT : Hid (Calls _ _ _ _ _) := wrong_any h1
  have HFd : Hid (Calls _ _ _ _ _) := find_any h1.m hq
  have c0 : w1.cell? ⟨p, 0, none⟩ = some (.pointer (some ⟨Z.z.mb, 0, none⟩)) := h1.c0
  obtain ⟨ty, hty⟩ : ∃ ty, tyT c q = ty := ⟨_, rfl⟩
  obtain ⟨b, hb⟩ : ∃ b, bT c Z.z q = b := ⟨_, rfl⟩
  obtain ⟨cf, hcf⟩ : ∃ f, canF c q = f := ⟨_, rfl⟩
  obtain ⟨k, hkk⟩ : ∃ k : Int, (canT c s q : Int) = k := ⟨_, rfl⟩
  have hk0 : ¬ k = 0 := by omega
  rw [taskV_eq, hty, hb] at HFd
  have MC : ∀ W, (method 609 ty (.pointer (some ⟨b, 0, none⟩)) "towpath/replica.can").run Tryz.prog W = .ok (cf, .pointer (some ⟨b, 0, none⟩)) W := fun W => by rw [← hty, ← hb, ← hcf]; exact m_can c Z.z q W
  have EC : ∀ args W, (callFunc cf args).run Tryz.prog W = .ok (.enter cf args) W := by rw [← hcf]; exact enter_can c q
  have HC1 : Hid (∀ W, Fr [] w1 W → W.cell? ⟨p, 0, none⟩ = some (.pointer (some ⟨Z.z.mb, 0, none⟩)) ∧ Hid (Calls Tryz.prog cf #[.pointer (some ⟨b, 0, none⟩)] W fun e w' => e = .returned (.int .u8 k) ∧ Fr [] W w')) := fun W hf => by
    refine ⟨(h1.quiet hf).c0, ?_⟩
    have := can_any (h1.m.quiet hf) hW hq
    rw [hcf, hb, hkk] at this
    exact this
  have HC2 : Hid (∀ W, Fr [] w1 W → W.cell? ⟨p, 0, none⟩ = some (.pointer (some ⟨Z.z.mb, 0, none⟩)) ∧ Hid (Calls Tryz.prog 36 #[.pointer (some ⟨Z.z.mb, 0, none⟩), .iface ty (.pointer (some ⟨b, 0, none⟩))] W fun e w3 => ∃ t k n sh ct m s', e = .returned (.agg #[.int .i64 t, .int .u8 k, .int .i64 n, .int .i64 sh, .int .i64 ct, .int .i64 m]) ∧ Evx w3 A 0 0 0 0 0 0 ∧ Hid ((∀ W', Fr [A] w3 W' → ∃ Z', Dn w0 c T w Z s W' Z' s' ∧ Z'.nr = s'.d) ∧ Nxt c T s s'))) := fun W hf => by
    refine ⟨(h1.quiet hf).c0, ?_⟩
    have := adv_any (h1.m.quiet hf) hnr hW hk hq hne
    rw [hty, hb] at this
    refine Calls.mono this ?_
    rintro e w3 ⟨s', n, sh, ct, rfl, ⟨Z', hD, hnr'⟩, hN⟩
    have hD1 := (h1.m.dn hf).trans hD
    exact ⟨_, _, _, _, _, _, s', rfl, (hBx.then hD1).box, fun W' hf' => ⟨Z', hD1.fin h.m hF1 (by rw [HA.out]; exact Nat.le_refl _) hBx hf', hnr'⟩, hN⟩
  clear h hnr hW hq hne hF1 hBx h1 hty hb hcf hkk
  go_enter Tryz.func19, Tryz.ntmps19
  go_upto_region 1 with fail
  rw [HW1.out, HA.out]
  clear HW1 HA
  go_wp2_with fail
  refine Calls.mono HT.out ?_
  rintro e w2 ⟨rfl, rfl⟩
  clear HT
  go_wp2_with fail
  refine Calls.mono HFd.out ?_
  rintro e w2 ⟨rfl, hf2⟩
  obtain ⟨d0, HCC⟩ := HC1.out w2 hf2
  have HF2 : Hid (Fr [] w1 w2) := hf2
  clear HFd HC1 hf2 c0
  go_wp2_with (simp [go_sem, MC, EC])
  refine Calls.mono HCC.out ?_
  rintro e w3 ⟨rfl, hf3⟩
  obtain ⟨e0, HCA⟩ := HC2.out w3 (HF2.out.then hf3)
  clear HC2 HF2 hf3 HCC MC EC d0
  go_wp2_with fail
  refine Calls.mono HCA.out ?_
  rintro e w4 ⟨t, k', n, sh, ct, m, s', rfl, hA, HR⟩
  clear HCA e0
  have hA : w4.heap[A]? = some (.cells #[.int .i64 0, .int .u8 0, .int .i64 0, .int .i64 0, .int .i64 0, .int .i64 0] 35 (0, 0)) := hA
  go_wp2_with (first
    | (refine wpList_storeEv20 rfl _ _ rfl A t k' n sh ct m rfl rfl 0 0 0 0 0 0 hA ?_; intro w5 hw5 hf5; have HF5 : Hid _ := HR.out.1 w5 hf5; clear hf5)
    | fail)
  refine bodyPost_ret (results_ct20 rfl _ _ _ A _ rfl (load_ev hw5.out)) rfl ?_
  exact ⟨t, k', n, sh, ct, m, s', rfl, HF5.out, HR.out.2⟩
end
end Go.Proofs.YtakbodlicfmkjaaGreat

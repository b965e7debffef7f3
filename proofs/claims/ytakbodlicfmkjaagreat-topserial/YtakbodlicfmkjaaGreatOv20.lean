/- Is a replica over? Where nothing can be done any more: yes. Conditions as each names them. -/
import Derived.Test.YtakbodlicfmkjaaGreatFg20
namespace Go.Proofs.YtakbodlicfmkjaaGreat
open Go.ChangeShapes Go.WideShapes Go.ChangeAt Go.RowKit Go.Lib Go.Maps
set_option linter.unusedVariables false
set_option linter.unusedSimpArgs false
section
variable {w0 w w' : World} {p : Nat} {c : Cf} {T : List Tx} {Z : Lay} {s : Ms}
/-- Nobody can do anything. -/
theorem idle_all (hW : Wf c T s) (hr : rdyL c s (c.l.toNat + c.s.toNat + 2) = []) : s.hv = false ∧ s.rd = s.fd ∧ s.d = s.fd ∧ s.ma = (s.fd : Int) ∧ (∀ n, ¬ Opn T s n) ∧ ∀ n, s.en n ↔ 1 ≤ n ∧ n ≤ (s.fd : Int) := by
  have hn := rdyL_nil hr
  refine hW.idle (shW_lt hW.may) ?_ (fun i hi => ?_) (fun j hj => ?_) ?_
  · have := hn 0 (by omega)
    unfold canT at this
    rwa [if_pos rfl] at this
  · have := hn (i + 1) (by omega)
    unfold canT at this
    rw [if_neg (by omega), if_pos (by omega)] at this
    simpa using this
  · have := hn (c.l.toNat + 1 + j) (by omega)
    unfold canT at this
    rw [if_neg (by omega), if_neg (by omega), if_pos (by omega), show c.l.toNat + 1 + j - c.l.toNat - 1 = j by omega] at this
    exact this
  · have := hn (c.l.toNat + c.s.toNat + 1) (by omega)
    unfold canT at this
    rw [if_neg (by omega), if_neg (by omega), if_neg (by omega)] at this
    exact this
set_option maxHeartbeats 4000000 in
set_option maxRecDepth 100000 in
theorem done_any (h : MaM w0 w c T Z s) (hW : Wf c T s) (hk : s.k < 16000000) (hr : rdyL c s (c.l.toNat + c.s.toNat + 2) = []) : Calls Tryz.prog 22 #[.pointer (some ⟨Z.z.mb, 0, none⟩)] w fun e w' => e = .returned (.bool true) ∧ Fr [] w w' := by
  obtain ⟨i1, i2, i3, i4, i5, i6⟩ := idle_all hW hr
  have hmay := h.may
  have hcan : canD c s = 0 := by unfold canD; rw [if_pos i1, if_neg (by omega)]
  have c5 : ∀ y : Wq w, y.W.cell? ⟨Z.z.mb, 5, none⟩ = some (.pointer (some ⟨Z.z.fb, 0, none⟩)) := fun y => (h.quiet y.h).mc rfl
  have c12 : ∀ y : Wq w, y.W.cell? ⟨Z.z.mb, 12, none⟩ = some (.pointer (some ⟨Z.z.gb, 0, none⟩)) := fun y => (h.quiet y.h).mc rfl
  have HM : ∀ y : Wq w, Calls Tryz.prog 23 #[.pointer (some ⟨Z.z.gb, 0, none⟩)] y.W fun e w' => e = .returned (.int .i64 s.ma) ∧ Fr [] y.W w' := fun y => gg_mark (h.quiet y.h).ga
  have HC : ∀ y : Wq w, Calls Tryz.prog 43 #[.pointer (some ⟨Z.z.fb, 0, none⟩), .int .i64 s.ma] y.W fun e w' => e = .returned (.int .u8 0) ∧ Fr [] y.W w' := fun y => by
    have := F.fCan_any (h.quiet y.h).fe.m s.ma
    rw [can_eq h.may, hcan] at this
    exact this
  have HH : ∀ y : Wq w, Calls Tryz.prog 42 #[.pointer (some ⟨Z.z.fb, 0, none⟩)] y.W fun e w' => e = .returned (.int .i64 0) ∧ Fr [] y.W w' := fun y => by
    refine (F.fHeld_any (h.quiet y.h).fe.m).mono ?_
    rintro e w' ⟨rfl, rfl⟩
    refine ⟨?_, Fr.refl _ _⟩
    simp [F.Fe.num, i1]
  have HO : ∀ y : Wq w, Calls Tryz.prog 44 #[.pointer (some ⟨Z.z.tb, 0, none⟩)] y.W fun e w' => ∃ so cc, e = .returned (.slice so 0 cc) ∧ Fr [] y.W w' := fun y => by
    have hM := h.quiet y.h
    refine (tl_open y.W hM.de (by have := hM.few.1; omega)).mono ?_
    rintro e w' ⟨so, N, cc, ys, rfl, hI, _, hmem, hf⟩
    have hy : ys = [] := List.eq_nil_iff_forall_not_mem.2 fun x hx => i5 x ((hmem x).1 hx)
    subst hy
    have hN : N = 0 := hI.len
    subst hN
    exact ⟨so, cc, rfl, hf⟩
  have HCx : Hid (∀ W, Fr [] w W → W.cell? ⟨Z.z.mb, 6, none⟩ = some (.pointer (some ⟨Z.z.tb, 0, none⟩)) ∧ W.cell? ⟨Z.z.mb, 14, none⟩ = some (.slice none 0 0)) := fun W hf => ⟨(h.quiet hf).mc rfl, (h.quiet hf).mc rfl⟩
  have HOx : Hid (∀ W, Fr [] w W → Calls Tryz.prog 44 #[.pointer (some ⟨Z.z.tb, 0, none⟩)] W fun e w' => ∃ so cc, e = .returned (.slice so 0 cc) ∧ Fr [] W w') := fun W hf => HO ⟨W, hf⟩
  clear HO
  clear h hW hr i1 i2 i3 i4 i5 i6 hcan
  go_enter Tryz.func22, Tryz.ntmps22
  go_wp2_with fail
  refine wp_region_wq (w1 := w) (by kernel_rfl) (by kernel_rfl) (Fr.refl _ _) ?_
  repeat (go_big_quiet_step (first
    | (go_at_call 23; with_reducible refine (HM _).mono ?_; exact fun e w3 hh => ⟨hh.1, ⟨_, Fr.then (Wq.h _) hh.2⟩, rfl⟩)
    | (go_at_call 42; with_reducible refine (HH _).mono ?_; exact fun e w3 hh => ⟨hh.1, ⟨_, Fr.then (Wq.h _) hh.2⟩, rfl⟩)
    | (go_at_call 43; with_reducible refine (HC _).mono ?_; exact fun e w3 hh => ⟨hh.1, ⟨_, Fr.then (Wq.h _) hh.2⟩, rfl⟩)
    | simp [go_sem, c5, c12]))
  refine wpQuiet_nil ?_
  rintro _ ⟨z, rfl⟩
  have HZ : Hid (Fr [] w z.W) := z.h
  obtain ⟨wz, HWZ⟩ : ∃ wz, wz = z.W := ⟨_, rfl⟩
  rw [← HWZ] at HZ ⊢
  clear HWZ z c5 c12 HM HC HH
  obtain ⟨c6, _⟩ := HCx.out wz HZ.out
  have HO1 : Hid (Calls _ _ _ _ _) := HOx.out wz HZ.out
  go_wp2_with fail
  refine Calls.mono HO1.out ?_
  rintro e w3 ⟨so, cc, rfl, hf3⟩
  obtain ⟨_, c14⟩ := HCx.out w3 (HZ.out.then hf3)
  have HF3 : Hid (Fr [] w w3) := HZ.out.then hf3
  clear hf3 HO1 HOx HCx c6 HZ
  go_wp2
  go_ret
  exact ⟨rfl, HF3.out⟩
theorem over_any (h : RP w0 w p c T Z s) (hW : Wf c T s) (hk : s.k < 16000000) (hr : rdyL c s (c.l.toNat + c.s.toNat + 2) = []) : Calls Tryz.prog 9 #[.pointer (some ⟨p, 0, none⟩)] w fun e w' => e = .returned (.bool true) ∧ Fr [] w w' := by
  have HT : Hid (Calls _ _ _ _ _) := there_any h
  have c0 := h.c0
  have c18 : w.cell? ⟨Z.z.mb, 18, none⟩ = some (.bool false) := h.m.mc rfl
  have HD : Hid (Calls _ _ _ _ _) := done_any h.m hW hk hr
  clear h hW hk hr
  go_enter Tryz.func9, Tryz.ntmps9
  go_wp2_with fail
  refine Calls.mono HT.out ?_
  rintro e w2 ⟨rfl, rfl⟩
  go_wp2_with fail
  refine Calls.mono HD.out ?_
  rintro e w3 ⟨rfl, hf⟩
  have HF : Hid (Fr [] w w3) := hf
  clear hf
  go_wp2
  go_ret
  exact ⟨rfl, HF.out⟩
end
end Go.Proofs.YtakbodlicfmkjaaGreat

/- Sent, All: of a task that is there, and of one that is not. Conditions as each names them. -/
import Derived.Test.YtpdkdgmaofhlkaaGreatDoorNs17
namespace Go.Proofs.YtpdkdgmaofhlkaaGreatDoor
open Go.ChangeShapes Go.WideShapes Go.ChangeAt Go.RowKit Go.Lib
set_option linter.unusedVariables false
set_option linter.unusedSimpArgs false

/-- What Sent answers. -/
def Tk.seE (T : Tk) : Int := if T.bg = true ∧ T.ak < T.nR then 0 else 9
theorem qSent_no {p : Value} {w : World} (h : NoT p w) : Calls Tryz.prog 9 #[p] w fun e w' => e = .returned (.int .i64 2) ∧ w = w' := by
  have HT : Hid (Calls _ _ _ _ _) := qthere_no h
  obtain ⟨o, rfl⟩ := h.ptr
  clear h
  go_enter Tryz.func9, Tryz.ntmps9
  go_wp2_with fail
  refine Calls.mono HT.out ?_
  rintro e w1 ⟨rfl, rfl⟩
  go_wp2
  go_ret
  exact ⟨rfl, rfl⟩
theorem Tk.nR_le (T : Tk) (hm : Cf.may ⟨T.l, T.s, T.x, T.q⟩) : T.nR ≤ 16 := by
  unfold Tk.nR
  have := hm.2.1.2
  simp only at this
  split <;> omega
set_option maxHeartbeats 800000 in
set_option maxRecDepth 100000 in
theorem qSent_any {w : World} {t : Nat} {T : Tk} (h : TkM w t T) (hn : T.n < 0) (hm : Cf.may ⟨T.l, T.s, T.x, T.q⟩) (hc : okC T.k T.key T.en) (hak : T.ak ≤ 16) :
    Calls Tryz.prog 9 #[.pointer (some ⟨t, 0, none⟩)] w fun e w' => e = .returned (.int .i64 T.seE) ∧ TkM w' t { T with ak := if T.bg = true ∧ T.ak < T.nR then T.ak + 1 else T.ak } ∧ Fr [t] w w' := by
  have HT : Hid (Calls _ _ _ _ _) := qthere_any h hn
  have hX := qnext_any h hn hm hc hak
  have HK : Hid (TkM w t T) := h
  by_cases hh : T.bg = true ∧ T.ak < T.nR
  · rw [show T.seE = 0 from if_pos hh, if_pos hh]
    rw [show T.nxB = true from decide_eq_true hh] at hX
    obtain ⟨S, hS⟩ : ∃ S, S = T.nxS := ⟨_, rfl⟩
    obtain ⟨r, hr⟩ : ∃ r, r = T.nxR := ⟨_, rfl⟩
    rw [← hS, ← hr] at hX
    obtain ⟨rk, rf, rn, rkey, ren, ro, rl, rc⟩ := r
    have HX : Hid (Calls Tryz.prog 24 #[.pointer (some ⟨t, 0, none⟩)] w fun e w' => e = .returned (.tuple #[.int .i64 S, .agg #[.int .u8 rk, .int .i64 rf, .int .i64 rn, .string ⟨#[]⟩, .string ⟨#[]⟩, .bool false, .string rkey, .string ren, .slice ro rl rc], .bool true]) ∧ Fr [] w w') := hX
    clear hX hS hr h hh hm hc
    go_enter Tryz.func9, Tryz.ntmps9
    go_wp2_with fail
    refine Calls.mono HT.out ?_
    rintro e w1 ⟨rfl, rfl⟩
    go_wp2_with fail
    refine Calls.mono HX.out ?_
    rintro e w1 ⟨rfl, hf1⟩
    have hk1 := (HK.out.keep hf1 (by simp)).keep (Fr.alloc [] w1 (.cells #[.int .u8 rk, .int .i64 rf, .int .i64 rn, .string ⟨#[]⟩, .string ⟨#[]⟩, .bool false, .string rkey, .string ren, .slice ro rl rc] 64)) (by simp)
    have hf2 := hf1.then (Fr.alloc [] w1 (.cells #[.int .u8 rk, .int .i64 rf, .int .i64 rn, .string ⟨#[]⟩, .string ⟨#[]⟩, .bool false, .string rkey, .string ren, .slice ro rl rc] 64))
    have c19 := hk1.c19
    have z19 := hk1.fz 19
    have HK1 : Hid (TkM _ t T ∧ Fr [] w _) := ⟨hk1, hf2⟩
    clear hk1 hf1 hf2 HX HT
    obtain ⟨ak, hakk⟩ : ∃ a, a = T.ak := ⟨_, rfl⟩
    rw [← hakk] at c19 hak
    have HAK : Hid (ak = T.ak) := hakk
    clear hakk
    go_wp2
    go_ret
    refine ⟨rfl, ?_, (HK1.out.2.mono (by intro x hx; simp at hx)).then (Fr.set _ _ _ (by simp))⟩
    have := row_put17 (j := 19) (.int .i64 ((ak : Int) + 1)) HK1.out.1
    rw [← HAK.out]
    exact this
  · rw [show T.seE = 9 from if_neg hh, if_neg hh]
    rw [show T.nxB = false from decide_eq_false hh, show T.nxS = 0 from if_neg hh, show T.nxR = Rv.zero from if_neg hh] at hX
    have HX : Hid (Calls Tryz.prog 24 #[.pointer (some ⟨t, 0, none⟩)] w fun e w' => e = .returned (.tuple #[.int .i64 0, .agg #[.int .u8 0, .int .i64 0, .int .i64 0, .string ⟨#[]⟩, .string ⟨#[]⟩, .bool false, .string ⟨#[]⟩, .string ⟨#[]⟩, .slice none 0 0], .bool false]) ∧ Fr [] w w') := hX
    clear hX h hh hm hc hak
    go_enter Tryz.func9, Tryz.ntmps9
    go_wp2_with fail
    refine Calls.mono HT.out ?_
    rintro e w1 ⟨rfl, rfl⟩
    go_wp2_with fail
    refine Calls.mono HX.out ?_
    rintro e w1 ⟨rfl, hf1⟩
    have HF1 : Hid (Fr [] w w1) := hf1
    clear hf1 HX HT
    go_wp2
    go_ret
    exact ⟨rfl, HK.out.keep (HF1.out.then (Fr.alloc [] w1 _)) (by simp), (HF1.out.then (Fr.alloc [] w1 _)).mono (by intro x hx; simp at hx)⟩
/-- What All answers. -/
def Tk.al (T : Tk) : Bool := decide (T.bg = true ∧ ¬ T.ak < T.nR ∧ T.rp = T.ak)
theorem qAll_no {p : Value} {w : World} (h : NoT p w) : Calls Tryz.prog 26 #[p] w fun e w' => e = .returned (.bool false) ∧ w = w' := by
  have HT : Hid (Calls _ _ _ _ _) := qthere_no h
  obtain ⟨o, rfl⟩ := h.ptr
  clear h
  go_enter Tryz.func26, Tryz.ntmps26
  go_wp2_with fail
  refine Calls.mono HT.out ?_
  rintro e w1 ⟨rfl, rfl⟩
  go_wp2
  go_ret
  exact ⟨rfl, rfl⟩
set_option maxHeartbeats 800000 in
set_option maxRecDepth 100000 in
theorem qAll_any {w : World} {t : Nat} {T : Tk} (h : TkM w t T) (hn : T.n < 0) (hm : Cf.may ⟨T.l, T.s, T.x, T.q⟩) (hc : okC T.k T.key T.en) (hak : T.ak ≤ 16) (hrp : T.rp ≤ 16) :
    Calls Tryz.prog 26 #[.pointer (some ⟨t, 0, none⟩)] w fun e w' => e = .returned (.bool T.al) ∧ Fr [] w w' := by
  have HT : Hid (Calls _ _ _ _ _) := qthere_any h hn
  have hX := qnext_any h hn hm hc hak
  have HK : Hid (TkM w t T) := h
  have c8 := h.c8
  cases hb : T.bg with
  | false =>
    rw [show T.al = false from decide_eq_false (fun hh => by rw [hb] at hh; cases hh.1)]
    rw [hb] at c8
    clear hX h
    go_enter Tryz.func26, Tryz.ntmps26
    go_wp2_with fail
    refine Calls.mono HT.out ?_
    rintro e w1 ⟨rfl, rfl⟩
    go_wp2
    go_ret
    exact ⟨rfl, Fr.refl _ _⟩
  | true =>
    rw [hb] at c8
    by_cases hlt : T.ak < T.nR
    · rw [show T.al = false from decide_eq_false (fun hh => hh.2.1 hlt)]
      rw [show T.nxB = true from decide_eq_true ⟨hb, hlt⟩] at hX
      obtain ⟨S, hS⟩ : ∃ S, S = T.nxS := ⟨_, rfl⟩
      obtain ⟨r, hr⟩ : ∃ r, r = T.nxR := ⟨_, rfl⟩
      rw [← hS, ← hr] at hX
      obtain ⟨rk, rf, rn, rkey, ren, ro, rl, rc⟩ := r
      have HX : Hid (Calls Tryz.prog 24 #[.pointer (some ⟨t, 0, none⟩)] w fun e w' => e = .returned (.tuple #[.int .i64 S, .agg #[.int .u8 rk, .int .i64 rf, .int .i64 rn, .string ⟨#[]⟩, .string ⟨#[]⟩, .bool false, .string rkey, .string ren, .slice ro rl rc], .bool true]) ∧ Fr [] w w') := hX
      clear hX hS hr h hm hc hlt hak hrp
      go_enter Tryz.func26, Tryz.ntmps26
      go_wp2_with fail
      refine Calls.mono HT.out ?_
      rintro e w1 ⟨rfl, rfl⟩
      go_wp2_with fail
      refine Calls.mono HX.out ?_
      rintro e w1 ⟨rfl, hf1⟩
      have HF1 : Hid (Fr [] w w1) := hf1
      clear hf1 HX HT
      go_wp2_with fail
      go_quiet (fail)
      go_wp2
      go_ret
      exact ⟨rfl, (HF1.out.then (Fr.alloc [] w1 _)).then (Fr.drewN _ _ _)⟩
    · have hno : ¬ (T.bg = true ∧ T.ak < T.nR) := fun hh => hlt hh.2
      rw [show T.nxB = false from decide_eq_false hno, show T.nxS = 0 from if_neg hno, show T.nxR = Rv.zero from if_neg hno] at hX
      have HX : Hid (Calls Tryz.prog 24 #[.pointer (some ⟨t, 0, none⟩)] w fun e w' => e = .returned (.tuple #[.int .i64 0, .agg #[.int .u8 0, .int .i64 0, .int .i64 0, .string ⟨#[]⟩, .string ⟨#[]⟩, .bool false, .string ⟨#[]⟩, .string ⟨#[]⟩, .slice none 0 0], .bool false]) ∧ Fr [] w w') := hX
      obtain ⟨ak, hakk⟩ : ∃ a, a = T.ak := ⟨_, rfl⟩
      obtain ⟨rp, hrpp⟩ : ∃ a, a = T.rp := ⟨_, rfl⟩
      have hal : T.al = decide (rp = ak) := by
        unfold Tk.al
        rw [hrpp, hakk, Bool.eq_iff_iff, decide_eq_true_eq, decide_eq_true_eq]
        exact ⟨fun h => h.2.2, fun h => ⟨hb, hlt, h⟩⟩
      rw [hal]
      have HQ : Hid (∀ W, Fr [] w W → W.cell? ⟨t, 19, none⟩ = some (.int .i64 (ak : Int)) ∧ W.cell? ⟨t, 20, none⟩ = some (.int .i64 (rp : Int))) := fun W hW => by
        rw [hakk, hrpp]
        exact ⟨(HK.out.keep hW (by simp)).c19, (HK.out.keep hW (by simp)).c20⟩
      rw [← hakk] at hak
      rw [← hrpp] at hrp
      clear hX h hm hc hlt hno hal hakk hrpp
      go_enter Tryz.func26, Tryz.ntmps26
      go_wp2_with fail
      refine Calls.mono HT.out ?_
      rintro e w1 ⟨rfl, rfl⟩
      go_wp2_with fail
      refine Calls.mono HX.out ?_
      rintro e w1 ⟨rfl, hf1⟩
      have HF1 : Hid (Fr [] w w1) := hf1
      obtain ⟨k1, k2⟩ := HQ.out _ (hf1.then (Fr.alloc [] w1 (.cells #[.int .u8 0, .int .i64 0, .int .i64 0, .string ⟨#[]⟩, .string ⟨#[]⟩, .bool false, .string ⟨#[]⟩, .string ⟨#[]⟩, .slice none 0 0] 64)))
      clear hf1 HX HT HQ
      have hqe : (((rp : Nat) : Int) == ((ak : Nat) : Int)) = decide (rp = ak) := by
        by_cases h : rp = ak
        · simp [h]
        · rw [decide_eq_false h, beq_eq_false_iff_ne]; omega
      go_wp2_with fail
      go_quiet (fail)
      go_wp2
      go_ret
      refine ⟨?_, (HF1.out.then (Fr.alloc [] w1 _)).then (Fr.drewN _ _ _)⟩
      first | rfl | (rw [hqe]) | (congr 2; exact hqe) | (simp [hqe])
end Go.Proofs.YtpdkdgmaofhlkaaGreatDoor

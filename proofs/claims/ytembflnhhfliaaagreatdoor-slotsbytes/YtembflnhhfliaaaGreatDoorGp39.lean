/- Contracts and plain lemmas of this claim. -/
import Derived.Test.YtembflnhhfliaaaGreatDoorGp38
set_option maxHeartbeats 4000000
set_option maxRecDepth 100000
namespace Go.Proofs.YtembflnhhfliaaaGreatDoor
open Go.ChangeShapes Go.WideShapes Go.ChangeAt Go.RowKit Go.Lib
theorem BArg.takeN {w : World} {ao : Option Addr} {L cap : Nat} {xs : List Nat} (h : BArg w ao L cap xs) (m : Nat) (hm : m <= L) : BArg w ao m cap (xs.take m) := by
  have hl := h.len
  refine ⟨by rw [List.length_take]; omega, fun x hx => h.low x (List.mem_of_mem_take hx), by have := h.fits; omega, by have := h.most; omega, fun h0 => ?_⟩
  obtain ⟨b, off, e, hb, hc⟩ := h.lies (by omega)
  refine ⟨b, off, e, hb, fun j hj => ?_⟩
  rw [hc j (by omega)]
  simp [List.getD, hj]
theorem BArg.dropN {w : World} {b off : Nat} {L cap : Nat} {xs : List Nat} (h : BArg w (some ⟨b, off, none⟩) L cap xs) (m : Nat) (hm : m <= L) : BArg w (some ⟨b, off + m, none⟩) (L - m) (cap - m) (xs.drop m) := by
  have hl := h.len
  refine ⟨by rw [List.length_drop]; omega, fun x hx => h.low x (List.mem_of_mem_drop hx), by have := h.fits; omega, by have := h.most; omega, fun h0 => ?_⟩
  obtain ⟨b', off', e, hb, hc⟩ := h.lies (by omega)
  cases e
  refine ⟨b, off + m, rfl, hb, fun j hj => ?_⟩
  rw [show off + m + j = off + (m + j) by omega, hc (m + j) (by omega)]
  simp [List.getD]
section
variable {w : World} {g : Nat} {v0 v1 : Value} {t t' : Sk}
theorem Rk.gS (_h : Rk w g v0 v1 t) : ∀ k ∈ [g], k ∈ dOwn g v0 v1 := by intro k hk; rw [List.mem_singleton] at hk; exact mem_dOwn.2 (Or.inl hk)
theorem zif (h : Rk w g v0 v1 t) (hl : t.l = 0) : Calls Tryz.prog 92 #[ptr g] w fun e w' => e = .returned (.int .i64 11) /\ Rk w' g v0 v1 t.dead /\ Fr [g] w w' := by
  have c3 := h.c3
  have c4 := h.c4
  have f4 := h.free 4
  have HX : Hid (Rk (w.setCell ⟨g, 4, none⟩ (.bool true)) g v0 v1 t.dead) := h.setD true
  rw [hl] at c3
  clear hl
  cases hd : t.dd with
  | true =>
    rw [hd] at c4
    clear hd
    go_enter Tryz.func92, Tryz.ntmps92
    go_wp2
    go_ret
    exact ⟨rfl, HX.out, Fr.set _ _ _ (by simp)⟩
  | false =>
    rw [hd] at c4
    clear hd
    go_enter Tryz.func92, Tryz.ntmps92
    go_wp2
    go_ret
    exact ⟨rfl, HX.out, Fr.set _ _ _ (by simp)⟩
theorem zki (h : Rk w g v0 v1 t) (hl : t.l ≠ 0) (ht : t.ok) (hn : t.n < 2^40) : Calls Tryz.prog 92 #[ptr g] w fun e w' => e = .returned (.int .i64 0) /\ Rk w' g v0 v1 t.next /\ Fr [g] w w' := by
  have c3 := h.c3
  have c4 := h.c4
  have c5 := h.c5
  have f3 := h.free 3
  have f5 := h.free 5
  have hd : t.dd = false := by
    cases hd : t.dd with
    | true => exact absurd (ht.dl hd) hl
    | false => rfl
  rw [hd] at c4
  by_cases h0 : 0 < t.l
  · have HX : Hid (Rk ((w.setCell ⟨g, 3, none⟩ (.int .i64 (t.l - 1))).setCell ⟨g, 5, none⟩ (.int .i64 ((t.n : Int) + 1))) g v0 v1 t.next) := by
      have e : t.next = { t with l := t.l - 1, n := t.n + 1 } := by simp [Sk.next, h0]
      rw [e]
      have := (h.setL (t.l - 1)).setN (t.n + 1)
      show Rk _ _ _ _ _
      simpa using this
    obtain ⟨l, hll⟩ : ∃ l, l = t.l := ⟨_, rfl⟩
    obtain ⟨n, hnn⟩ : ∃ n, n = t.n := ⟨_, rfl⟩
    have hl1 := ht.l1
    rw [<- hll] at c3 h0 HX hl1
    rw [<- hnn] at c5 HX hn
    have b1 : (l == 0) = false := by simp; omega
    clear hl hll hnn ht hd
    go_enter Tryz.func92, Tryz.ntmps92
    go_wp2
    go_ret
    exact ⟨rfl, HX.out, (Fr.set _ _ _ (by simp)).then (Fr.set _ _ _ (by simp))⟩
  · have hl1 : t.l = -1 := by have := ht.l0; omega
    have HX : Hid (Rk (w.setCell ⟨g, 5, none⟩ (.int .i64 ((t.n : Int) + 1))) g v0 v1 t.next) := by
      have e : t.next = { t with n := t.n + 1 } := by simp [Sk.next, h0]
      rw [e]
      have := h.setN (t.n + 1)
      show Rk _ _ _ _ _
      simpa using this
    obtain ⟨n, hnn⟩ : ∃ n, n = t.n := ⟨_, rfl⟩
    rw [hl1] at c3
    rw [<- hnn] at c5 HX hn
    clear hl hl1 h0 hnn ht hd
    go_enter Tryz.func92, Tryz.ntmps92
    go_wp2
    go_ret
    exact ⟨rfl, HX.out, Fr.set _ _ _ (by simp)⟩
theorem zux (h : Rk w g v0 v1 t) {b : Bool} (hb : t.dd = b) : Calls Tryz.prog 33 #[ptr g] w fun e w' => e = .returned (.bool b) /\ w = w' := by
  have c4 := h.c4
  rw [hb] at c4
  go_enter Tryz.func33, Tryz.ntmps33
  go_wp2
  go_ret
  exact ⟨rfl, rfl⟩
theorem zmj (h : Rk w g v0 v1 t) : Calls Tryz.prog 83 #[ptr g] w fun e w' => e = .returned (.int .i64 (t.C : Int)) /\ w = w' := by
  have c0 := h.c0
  go_enter Tryz.func83, Tryz.ntmps83
  go_wp2
  go_ret
  exact ⟨rfl, rfl⟩
theorem zpk (h : Rk w g v0 v1 t) : Calls Tryz.prog 35 #[ptr g] w fun e w' => e = .returned (.int .i64 (t.n : Int)) /\ w = w' := by
  have c5 := h.c5
  go_enter Tryz.func35, Tryz.ntmps35
  go_wp2
  go_ret
  exact ⟨rfl, rfl⟩
theorem zla (s : Int) (h : ¬ (s = 0 \/ s = 1)) : (s != 0) = true /\ (s != 1) = true := by
  simp only [bne_iff_ne]; omega
theorem zuy {s E : Int} {xs : List Nat} (h : Rk w g v0 v1 t) (ht : t.ok) (hc : Told t s E xs) : Calls Tryz.prog 37 #[ptr g, .int .i64 s] w fun e w' => ∃ ao n cap, e = .returned (.tuple #[.slice ao n cap, .int .i64 E]) /\ Rs w ao xs /\ n = xs.length /\ w = w' := by
  have hfew := hc.few ht
  cases hc with
  | noslot hs =>
    obtain ⟨n0, n1⟩ := zla s hs
    clear hs
    go_enter Tryz.func37, Tryz.ntmps37
    go_wp2
    go_ret2
    exact ⟨_, _, _, rfl, Rs.nil w _, rfl, rfl⟩
  | slot0 hs =>
    subst hs
    obtain ⟨ao, cap, hv⟩ := zad h.two.r0
    have HR : Hid (Rs w ao t.s0) := zkx (by have := h.two.r0; rw [hv] at this; exact this) (by omega)
    have c1 := h.c1
    rw [hv] at c1
    obtain ⟨L, hL⟩ : ∃ L, L = t.s0.length := ⟨_, rfl⟩
    rw [<- hL] at c1
    have HL : Hid (L = t.s0.length) := hL
    clear hL hv hfew
    go_enter Tryz.func37, Tryz.ntmps37
    go_wp2
    go_ret2
    exact ⟨_, _, _, rfl, HR.out, HL.out, rfl⟩
  | slot1 hs =>
    subst hs
    obtain ⟨ao, cap, hv⟩ := zad h.two.r1
    have HR : Hid (Rs w ao t.s1) := zkx (by have := h.two.r1; rw [hv] at this; exact this) (by omega)
    have c2 := h.c2
    rw [hv] at c2
    obtain ⟨L, hL⟩ : ∃ L, L = t.s1.length := ⟨_, rfl⟩
    rw [<- hL] at c2
    have HL : Hid (L = t.s1.length) := hL
    clear hL hv hfew
    go_enter Tryz.func37, Tryz.ntmps37
    go_wp2
    go_ret2
    exact ⟨_, _, _, rfl, HR.out, HL.out, rfl⟩
theorem zsj {s E : Int} (h : Rk w g v0 v1 t) (ht : t.ok) (hn : t.n < 2^40) (hc : Cleared t s E t') : Calls Tryz.prog 22 #[ptr g, .int .i64 s] w fun e w' => e = .returned (.int .i64 E) /\ ∃ u0 u1, Rk w' g u0 u1 t' /\ To (dOwn g v0 v1) (dOwn g u0 u1) w w' := by
  have hgS := h.gS
  cases hc with
  | noslot hs =>
    obtain ⟨n0, n1⟩ := zla s hs
    clear hs
    go_enter Tryz.func22, Tryz.ntmps22
    go_wp2
    go_ret
    exact ⟨rfl, v0, v1, h, To.refl _ _⟩
  | cut hs hl =>
    rcases hs with rfl | rfl
    · go_enter Tryz.func22, Tryz.ntmps22
      go_wp2_with fail
      refine (zif h hl).mono ?_
      rintro e w1 ⟨rfl, hX, hF⟩
      go_wp2
      go_ret
      exact ⟨rfl, v0, v1, hX, To.same hF hgS⟩
    · go_enter Tryz.func22, Tryz.ntmps22
      go_wp2_with fail
      refine (zif h hl).mono ?_
      rintro e w1 ⟨rfl, hX, hF⟩
      go_wp2
      go_ret
      exact ⟨rfl, v0, v1, hX, To.same hF hgS⟩
  | done0 hs hl =>
    subst hs
    go_enter Tryz.func22, Tryz.ntmps22
    go_wp2_with fail
    refine (zki h hl ht hn).mono ?_
    rintro e w1 ⟨rfl, hX, hF⟩
    have HR : Hid (_ /\ _) := hX.set0 (v := .slice none 0 0) (xs := []) (Fr.refl _ _) (zbk _) (Mv.nil _ _)
    have c1 := hX.c1
    have f1 := hX.free 1
    go_wp2
    go_ret
    exact ⟨rfl, _, _, HR.out.1, (To.same hF hgS).then HR.out.2⟩
  | done1 hs hl =>
    subst hs
    go_enter Tryz.func22, Tryz.ntmps22
    go_wp2_with fail
    refine (zki h hl ht hn).mono ?_
    rintro e w1 ⟨rfl, hX, hF⟩
    have HR : Hid (_ /\ _) := hX.set1 (v := .slice none 0 0) (xs := []) (Fr.refl _ _) (zbk _) (Mv.nil _ _)
    have c2 := hX.c2
    have f2 := hX.free 2
    go_wp2
    go_ret
    exact ⟨rfl, _, _, HR.out.1, (To.same hF hgS).then HR.out.2⟩
theorem zsk {s a E : Int} {bo : Option Addr} {M cb : Nat} {ys : List Nat} (h : Rk w g v0 v1 t) (ht : t.ok) (hn : t.n < 2^40) (ha : a <= 9223372036854775807) (hB : BArg w bo M cb ys) (hap : 0 < M -> ∀ a, bo = some a -> a.block ∉ dOwn g v0 v1) (hc : Wrote t s a ys E t') :
    Calls Tryz.prog 20 #[ptr g, .int .i64 s, .int .i64 a, .slice bo M cb] w fun e w' => e = .returned (.int .i64 E) /\ ∃ u0 u1, Rk w' g u0 u1 t' /\ To (dOwn g v0 v1) (dOwn g u0 u1) w w' := by
  have hgS := h.gS
  have HM : Hid (M = ys.length) := hB.len
  cases hc with
  | noslot hs =>
    obtain ⟨n0, n1⟩ := zla s hs
    clear hs
    go_enter Tryz.func20, Tryz.ntmps20
    go_wp2
    go_ret
    exact ⟨rfl, _, _, h, To.refl _ _⟩
  | noplace hs h2 =>
    rcases hs with rfl | rfl
    · go_enter Tryz.func20, Tryz.ntmps20
      go_wp2
      go_ret
      exact ⟨rfl, _, _, h, To.refl _ _⟩
    · go_enter Tryz.func20, Tryz.ntmps20
      go_wp2
      go_ret
      exact ⟨rfl, _, _, h, To.refl _ _⟩
  | much hs h2 h3 =>
    have h3' : (64 : Int) < M := by have := HM.out; omega
    clear h3
    rcases hs with rfl | rfl
    · go_enter Tryz.func20, Tryz.ntmps20
      go_wp2
      go_ret
      exact ⟨rfl, _, _, h, To.refl _ _⟩
    · go_enter Tryz.func20, Tryz.ntmps20
      go_wp2
      go_ret
      exact ⟨rfl, _, _, h, To.refl _ _⟩
  | order0 hs h2 h3 h4 =>
    rw [<- HM.out] at h3
    subst hs
    obtain ⟨k, rfl⟩ := Int.eq_ofNat_of_zero_le h2
    obtain ⟨ao, cap, hv⟩ := zad h.two.r0
    obtain ⟨L, hL⟩ : ∃ L, L = t.s0.length := ⟨_, rfl⟩
    rw [<- hL] at hv h4
    subst hv
    have hLC : L <= t.C := by have := ht.f0; omega
    have hCm := ht.cap
    have HL : Hid (L = t.s0.length) := hL
    have c1 := h.c1
    have c0 := h.c0
    have hyM : (M : Int) <= 64 := by omega
    clear hL
    go_enter Tryz.func20, Tryz.ntmps20
    go_wp2
    go_ret
    exact ⟨rfl, _, _, h, To.refl _ _⟩
  | order1 hs h2 h3 h4 =>
    rw [<- HM.out] at h3
    subst hs
    obtain ⟨k, rfl⟩ := Int.eq_ofNat_of_zero_le h2
    obtain ⟨ao, cap, hv⟩ := zad h.two.r1
    obtain ⟨L, hL⟩ : ∃ L, L = t.s1.length := ⟨_, rfl⟩
    rw [<- hL] at hv h4
    subst hv
    have hLC : L <= t.C := by have := ht.f1; omega
    have hCm := ht.cap
    have HL : Hid (L = t.s1.length) := hL
    have c2 := h.c2
    have c0 := h.c0
    have hyM : (M : Int) <= 64 := by omega
    clear hL
    go_enter Tryz.func20, Tryz.ntmps20
    go_wp2
    go_ret
    exact ⟨rfl, _, _, h, To.refl _ _⟩
  | space0 hs h2 h3 h4 h5 =>
    rw [<- HM.out] at h3 h5
    subst hs
    obtain ⟨k, rfl⟩ := Int.eq_ofNat_of_zero_le h2
    obtain ⟨ao, cap, hv⟩ := zad h.two.r0
    obtain ⟨L, hL⟩ : ∃ L, L = t.s0.length := ⟨_, rfl⟩
    rw [<- hL] at hv h4
    subst hv
    have hLC : L <= t.C := by have := ht.f0; omega
    have hCm := ht.cap
    have HL : Hid (L = t.s0.length) := hL
    have c1 := h.c1
    have c0 := h.c0
    have hyM : (M : Int) <= 64 := by omega
    clear hL
    go_enter Tryz.func20, Tryz.ntmps20
    go_wp2
    go_ret
    exact ⟨rfl, _, _, h, To.refl _ _⟩
  | space1 hs h2 h3 h4 h5 =>
    rw [<- HM.out] at h3 h5
    subst hs
    obtain ⟨k, rfl⟩ := Int.eq_ofNat_of_zero_le h2
    obtain ⟨ao, cap, hv⟩ := zad h.two.r1
    obtain ⟨L, hL⟩ : ∃ L, L = t.s1.length := ⟨_, rfl⟩
    rw [<- hL] at hv h4
    subst hv
    have hLC : L <= t.C := by have := ht.f1; omega
    have hCm := ht.cap
    have HL : Hid (L = t.s1.length) := hL
    have c2 := h.c2
    have c0 := h.c0
    have hyM : (M : Int) <= 64 := by omega
    clear hL
    go_enter Tryz.func20, Tryz.ntmps20
    go_wp2
    go_ret
    exact ⟨rfl, _, _, h, To.refl _ _⟩
  | cut0 hs h2 h3 h4 h5 hl =>
    rw [<- HM.out] at h3 h5
    subst hs
    obtain ⟨k, rfl⟩ := Int.eq_ofNat_of_zero_le h2
    obtain ⟨ao, cap, hv⟩ := zad h.two.r0
    obtain ⟨L, hL⟩ : ∃ L, L = t.s0.length := ⟨_, rfl⟩
    rw [<- hL] at hv h4
    subst hv
    have hLC : L <= t.C := by have := ht.f0; omega
    have hCm := ht.cap
    have HL : Hid (L = t.s0.length) := hL
    have c1 := h.c1
    have c0 := h.c0
    have hyM : (M : Int) <= 64 := by omega
    clear hL
    go_enter Tryz.func20, Tryz.ntmps20
    go_wp2_with fail
    refine (zif h hl).mono ?_
    rintro e w1 ⟨rfl, hX, hF⟩
    go_wp2
    go_ret
    exact ⟨rfl, _, _, hX, To.same hF hgS⟩
  | cut1 hs h2 h3 h4 h5 hl =>
    rw [<- HM.out] at h3 h5
    subst hs
    obtain ⟨k, rfl⟩ := Int.eq_ofNat_of_zero_le h2
    obtain ⟨ao, cap, hv⟩ := zad h.two.r1
    obtain ⟨L, hL⟩ : ∃ L, L = t.s1.length := ⟨_, rfl⟩
    rw [<- hL] at hv h4
    subst hv
    have hLC : L <= t.C := by have := ht.f1; omega
    have hCm := ht.cap
    have HL : Hid (L = t.s1.length) := hL
    have c2 := h.c2
    have c0 := h.c0
    have hyM : (M : Int) <= 64 := by omega
    clear hL
    go_enter Tryz.func20, Tryz.ntmps20
    go_wp2_with fail
    refine (zif h hl).mono ?_
    rintro e w1 ⟨rfl, hX, hF⟩
    go_wp2
    go_ret
    exact ⟨rfl, _, _, hX, To.same hF hgS⟩
  | done0 hs h2 h3 h4 h5 hl =>
    rw [<- HM.out] at h3 h5
    subst hs
    obtain ⟨k, rfl⟩ := Int.eq_ofNat_of_zero_le h2
    obtain ⟨ao, cap, hv⟩ := zad h.two.r0
    obtain ⟨L, hL⟩ : ∃ L, L = t.s0.length := ⟨_, rfl⟩
    rw [<- hL] at hv h4
    subst hv
    have hLC : L <= t.C := by have := ht.f0; omega
    have hCm := ht.cap
    have HL : Hid (L = t.s0.length) := hL
    have c1 := h.c1
    have c0 := h.c0
    have hyM : (M : Int) <= 64 := by omega
    clear hL
    go_enter Tryz.func20, Tryz.ntmps20
    go_wp2_with fail
    refine (zki h hl ht hn).mono ?_
    rintro e w1 ⟨rfl, hX, hF⟩
    have HB1 : Hid (BArg w1 bo M cb ys) := hB.keepS hF (fun h0 a ha hm => hap h0 a ha (hgS _ hm))
    have HX1 : Hid (Rk w1 g (.slice ao L cap) v1 t.next) := hX
    have HT1 : Hid (To (dOwn g (.slice ao L cap) v1) (dOwn g (.slice ao L cap) v1) w w1) := To.same hF hgS
    have HO1 : Hid (BArg w1 ao L cap t.s0) := zbr (by have := hX.two.r0; have e : t.next.s0.length = L := HL.out.symm; rw [e] at this; exact this) ht.b0 (by omega)
    have hLcap := HO1.out.fits
    have hcapm : cap <= maxLen := by
      have := hX.two.r0
      rcases this.2 with ⟨hh, _⟩ | ⟨_, _, _, hh, _, _, _, h2, _⟩
      · cases hh; exact Nat.zero_le _
      · cases hh; exact h2
    simp only [maxLen] at hcapm
    clear hB hap hX hF h
    by_cases hao : ao = none
    · subst hao
      have hL0 : L = 0 := by
        rcases Nat.eq_zero_or_pos L with h0 | h0
        · exact h0
        · obtain ⟨_, _, e, _⟩ := HO1.out.lies h0; cases e
      subst hL0
      obtain rfl : k = 0 := by omega
      have hcap0 : cap = 0 := by
        have := HX1.out.two.r0
        rcases this.2 with ⟨hh, _⟩ | ⟨_, _, _, hh, _⟩
        · cases hh; rfl
        · cases hh
      subst hcap0
      have hs0 : t.s0 = [] := List.eq_nil_of_length_eq_zero HL.out.symm
      go_wp2_with (at_builtin; refine zay w1 rfl (.tmp 53) (.tmp 56) rfl (.slice none 0 0) 0 [] rfl (zes w1) none 0 0 [] rfl (zqi w1) (by omega) ?_)
      intro bo1 n1 cap1 w2 hn1 hO1 hg1 hM1
      obtain rfl : 0 = n1 := by omega
      have hF2 : Fr [] w1 w2 := Fr.grown (S := []) hg1 (by intro k hk; simp [Value.ownBlock] at hk)
      have hb1 : ∀ k, (Value.slice bo1 0 cap1).ownBlock = some k -> w1.heap.size <= k := hM1.lt (Nat.le_refl _) (by intro k hk; simp [Value.ownBlock] at hk)
      have HB2 : Hid (BArg w2 bo M cb ys) := HB1.out.keep hF2
      have HF2 : Hid (Fr [] w1 w2) := hF2
      have hM0 : ((0 : Int) + M < 0) = False := by simp
      have hM00 : ¬ ((M : Int) < 0) := by omega
      clear hg1 hM1 hn1 hF2
      go_wp2_with (at_builtin; refine zay w2 rfl (.tmp 58) (.tmp 59) rfl (.slice bo1 0 cap1) 0 [] rfl (by simpa using hO1) bo M cb ys rfl HB2.out (by omega) ?_)
      intro bo2 n2 cap2 w3 hn2 hO2 hg2 hM2
      have HF3 : Hid (Fr [] w1 w3) := HF2.out.on (Fr.grown (S := (Value.slice bo1 0 cap1).ownBlock.toList) hg2 (by intro k hk _; rw [hk]; simp)) (by intro x hx; exact hb1 x (by simpa using hx))
      have hb2 : ∀ k, (Value.slice bo2 n2 cap2).ownBlock = some k -> w1.heap.size <= k := hM2.lt HF2.out.size hb1
      have HR := HX1.out.set0 (v := .slice bo2 n2 cap2) (xs := layB t.s0 (0 : Int).toNat ys) (HF3.out.mono (fun _ h _ => by cases h)) (by
        have e : layB t.s0 (0 : Int).toNat ys = [] ++ ys := by rw [hs0]; simp [layB]
        have e2 : ([] ++ ys : List Nat).length = n2 := by have := HM.out; simp; omega
        rw [e, e2]; exact hO2) (fun k hk => Or.inr (hb2 k hk))
      have HRR : Hid (_ /\ _) := HR
      have hb3 := HF3.out.keep HX1.out.box (by simp)
      have c' : w3.cell? ⟨g, 1, none⟩ = some (.slice none 0 0) := cell_of_row _ _ _ _ _ _ hb3
      have f' : w3.frozen? ⟨g, 1, none⟩ = false := by simp [World.frozen?, hb3]
      clear HR hO1 hO2 hg2 hM2 hn2 hb1 hb2 hb3 hs0
      go_wp2
      go_ret
      exact ⟨rfl, _, _, HRR.out.1, HT1.out.then HRR.out.2⟩
    · obtain ⟨rb, rfl⟩ : ∃ rb, ao = some ⟨rb, 0, none⟩ := by
        have := HX1.out.two.r0
        rcases this.2 with ⟨hh, _⟩ | ⟨rb, _, _, hh, _⟩
        · cases hh; exact absurd rfl hao
        · cases hh; exact ⟨rb, rfl⟩
      clear hao
      have hkc : k <= cap := by omega
      have hkL : k <= L := by omega
      go_wp2_with (at_builtin; refine zay w1 rfl (.tmp 53) (.tmp 56) rfl (.slice none 0 0) 0 [] rfl (zes w1) (some ⟨rb, 0, none⟩) k cap (t.s0.take k) rfl (HO1.out.takeN k hkL) (by omega) ?_)
      intro bo1 n1 cap1 w2 hn1 hO1 hg1 hM1
      have HN1 : Hid (n1 = k) := by show _ = _; omega
      have hF2 : Fr [] w1 w2 := Fr.grown (S := []) hg1 (by intro k hk; simp [Value.ownBlock] at hk)
      have hb1 : ∀ k, (Value.slice bo1 n1 cap1).ownBlock = some k -> w1.heap.size <= k := hM1.lt (Nat.le_refl _) (by intro k hk; simp [Value.ownBlock] at hk)
      have HB2 : Hid (BArg w2 bo M cb ys) := HB1.out.keep hF2
      have HF2 : Hid (Fr [] w1 w2) := hF2
      have HOw1 : Hid (w2.ownsRow 0 5 1 (.slice bo1 n1 cap1) n1 (bts (t.s0.take k))) := by show World.ownsRow _ _ _ _ _ _ _; simpa using hO1
      clear hg1 hM1 hn1 hF2 hO1
      go_wp2_with (at_builtin; refine zay w2 rfl (.tmp 58) (.tmp 59) rfl (.slice bo1 n1 cap1) n1 (t.s0.take k) rfl HOw1.out bo M cb ys rfl HB2.out (by have := HN1.out; omega) ?_)
      intro bo2 n2 cap2 w3 hn2 hO2 hg2 hM2
      have HF3 : Hid (Fr [] w1 w3) := HF2.out.on (Fr.grown (S := (Value.slice bo1 n1 cap1).ownBlock.toList) hg2 (by intro k hk _; rw [hk]; simp)) (by intro x hx; exact hb1 x (by simpa using hx))
      have hb2 : ∀ k, (Value.slice bo2 n2 cap2).ownBlock = some k -> w1.heap.size <= k := hM2.lt HF2.out.size hb1
      have HN2 : Hid (n2 = k + M) := by show _ = _; have := HN1.out; omega
      have HOw2 : Hid (w3.ownsRow 0 5 1 (.slice bo2 n2 cap2) n2 (bts (t.s0.take k ++ ys))) := hO2
      have HNew2 : Hid (∀ k, (Value.slice bo2 n2 cap2).ownBlock = some k -> w1.heap.size <= k) := hb2
      clear hg2 hM2 hn2 hb1 hb2 HOw1 hO2
      by_cases hlt : k + M < L
      · have hltI : (k : Int) + M < L := by omega
        have hBd := (HO1.out.keep HF3.out).dropN (k + M) (by omega)
        rw [Nat.zero_add] at hBd
        have HBd : Hid (BArg w3 (some ⟨rb, k + M, none⟩) (L - (k + M)) (cap - (k + M)) (t.s0.drop (k + M))) := hBd
        have hkMc : k + M < cap := by omega
        clear hBd
        go_wp2_with (at_builtin; refine zay w3 rfl (.tmp 68) (.tmp 74) rfl (.slice bo2 n2 cap2) n2 (t.s0.take k ++ ys) rfl HOw2.out (some ⟨rb, k + M, none⟩) (L - (k + M)) (cap - (k + M)) (t.s0.drop (k + M)) rfl HBd.out (by have := HN2.out; omega) ?_)
        intro bo3 n3 cap3 w4 hn3 hO3 hg3 hM3
        have HF4 : Hid (Fr [] w1 w4) := HF3.out.on (Fr.grown (S := (Value.slice bo2 n2 cap2).ownBlock.toList) hg3 (by intro k hk _; rw [hk]; simp)) (by intro x hx; exact HNew2.out x (by simpa using hx))
        have hb3 : ∀ k, (Value.slice bo3 n3 cap3).ownBlock = some k -> w1.heap.size <= k := hM3.lt HF3.out.size HNew2.out
        have HR := HX1.out.set0 (v := .slice bo3 n3 cap3) (xs := layB t.s0 (k : Int).toNat ys) (HF4.out.mono (fun _ h _ => by cases h)) (by
          have e : layB t.s0 (k : Int).toNat ys = t.s0.take k ++ (ys ++ t.s0.drop (k + M)) := by rw [Int.toNat_natCast, HM.out]; rfl
          have e2 : (layB t.s0 (k : Int).toNat ys).length = n3 := by rw [Int.toNat_natCast, zca _ _ _ (by rw [<- HL.out]; exact hkL)]; have := HM.out; have := HL.out; have := HN2.out; omega
          rw [e2, e]; exact hO3) (fun k hk => Or.inr (hb3 k hk))
        have HRR : Hid (_ /\ _) := HR
        have hb4 := HF4.out.keep HX1.out.box (by simp)
        have c' : w4.cell? ⟨g, 1, none⟩ = some (.slice (some ⟨rb, 0, none⟩) L cap) := cell_of_row _ _ _ _ _ _ hb4
        have f' : w4.frozen? ⟨g, 1, none⟩ = false := by simp [World.frozen?, hb4]
        clear HR hO3 hg3 hM3 hn3 hb3 hb4
        go_wp2
        go_ret
        exact ⟨rfl, _, _, HRR.out.1, HT1.out.then HRR.out.2⟩
      · have hltI : (L : Int) <= (k : Int) + M := by omega
        have HR := HX1.out.set0 (v := .slice bo2 n2 cap2) (xs := layB t.s0 (k : Int).toNat ys) (HF3.out.mono (fun _ h _ => by cases h)) (by
          have e : layB t.s0 (k : Int).toNat ys = t.s0.take k ++ ys := by rw [Int.toNat_natCast]; simp only [layB]; rw [List.drop_of_length_le (by have := HM.out; have := HL.out; omega), List.append_nil]
          have e2 : (layB t.s0 (k : Int).toNat ys).length = n2 := by rw [Int.toNat_natCast, zca _ _ _ (by rw [<- HL.out]; exact hkL)]; have := HM.out; have := HL.out; have := HN2.out; omega
          rw [e2, e]; exact HOw2.out) (fun k hk => Or.inr (HNew2.out k hk))
        have HRR : Hid (_ /\ _) := HR
        have hb4 := HF3.out.keep HX1.out.box (by simp)
        have c' : w3.cell? ⟨g, 1, none⟩ = some (.slice (some ⟨rb, 0, none⟩) L cap) := cell_of_row _ _ _ _ _ _ hb4
        have f' : w3.frozen? ⟨g, 1, none⟩ = false := by simp [World.frozen?, hb4]
        clear HR hb4
        go_wp2
        go_ret
        exact ⟨rfl, _, _, HRR.out.1, HT1.out.then HRR.out.2⟩
  | done1 hs h2 h3 h4 h5 hl =>
    rw [<- HM.out] at h3 h5
    subst hs
    obtain ⟨k, rfl⟩ := Int.eq_ofNat_of_zero_le h2
    obtain ⟨ao, cap, hv⟩ := zad h.two.r1
    obtain ⟨L, hL⟩ : ∃ L, L = t.s1.length := ⟨_, rfl⟩
    rw [<- hL] at hv h4
    subst hv
    have hLC : L <= t.C := by have := ht.f1; omega
    have hCm := ht.cap
    have HL : Hid (L = t.s1.length) := hL
    have c2 := h.c2
    have c0 := h.c0
    have hyM : (M : Int) <= 64 := by omega
    clear hL
    go_enter Tryz.func20, Tryz.ntmps20
    go_wp2_with fail
    refine (zki h hl ht hn).mono ?_
    rintro e w1 ⟨rfl, hX, hF⟩
    have HB1 : Hid (BArg w1 bo M cb ys) := hB.keepS hF (fun h0 a ha hm => hap h0 a ha (hgS _ hm))
    have HX1 : Hid (Rk w1 g v0 (.slice ao L cap) t.next) := hX
    have HT1 : Hid (To (dOwn g v0 (.slice ao L cap)) (dOwn g v0 (.slice ao L cap)) w w1) := To.same hF hgS
    have HO1 : Hid (BArg w1 ao L cap t.s1) := zbr (by have := hX.two.r1; have e : t.next.s1.length = L := HL.out.symm; rw [e] at this; exact this) ht.b1 (by omega)
    have hLcap := HO1.out.fits
    have hcapm : cap <= maxLen := by
      have := hX.two.r1
      rcases this.2 with ⟨hh, _⟩ | ⟨_, _, _, hh, _, _, _, h2, _⟩
      · cases hh; exact Nat.zero_le _
      · cases hh; exact h2
    simp only [maxLen] at hcapm
    clear hB hap hX hF h
    by_cases hao : ao = none
    · subst hao
      have hL0 : L = 0 := by
        rcases Nat.eq_zero_or_pos L with h0 | h0
        · exact h0
        · obtain ⟨_, _, e, _⟩ := HO1.out.lies h0; cases e
      subst hL0
      obtain rfl : k = 0 := by omega
      have hcap0 : cap = 0 := by
        have := HX1.out.two.r1
        rcases this.2 with ⟨hh, _⟩ | ⟨_, _, _, hh, _⟩
        · cases hh; rfl
        · cases hh
      subst hcap0
      have hs0 : t.s1 = [] := List.eq_nil_of_length_eq_zero HL.out.symm
      go_wp2_with (at_builtin; refine zay w1 rfl (.tmp 53) (.tmp 56) rfl (.slice none 0 0) 0 [] rfl (zes w1) none 0 0 [] rfl (zqi w1) (by omega) ?_)
      intro bo1 n1 cap1 w2 hn1 hO1 hg1 hM1
      obtain rfl : 0 = n1 := by omega
      have hF2 : Fr [] w1 w2 := Fr.grown (S := []) hg1 (by intro k hk; simp [Value.ownBlock] at hk)
      have hb1 : ∀ k, (Value.slice bo1 0 cap1).ownBlock = some k -> w1.heap.size <= k := hM1.lt (Nat.le_refl _) (by intro k hk; simp [Value.ownBlock] at hk)
      have HB2 : Hid (BArg w2 bo M cb ys) := HB1.out.keep hF2
      have HF2 : Hid (Fr [] w1 w2) := hF2
      have hM0 : ((0 : Int) + M < 0) = False := by simp
      have hM00 : ¬ ((M : Int) < 0) := by omega
      clear hg1 hM1 hn1 hF2
      go_wp2_with (at_builtin; refine zay w2 rfl (.tmp 58) (.tmp 59) rfl (.slice bo1 0 cap1) 0 [] rfl (by simpa using hO1) bo M cb ys rfl HB2.out (by omega) ?_)
      intro bo2 n2 cap2 w3 hn2 hO2 hg2 hM2
      have HF3 : Hid (Fr [] w1 w3) := HF2.out.on (Fr.grown (S := (Value.slice bo1 0 cap1).ownBlock.toList) hg2 (by intro k hk _; rw [hk]; simp)) (by intro x hx; exact hb1 x (by simpa using hx))
      have hb2 : ∀ k, (Value.slice bo2 n2 cap2).ownBlock = some k -> w1.heap.size <= k := hM2.lt HF2.out.size hb1
      have HR := HX1.out.set1 (v := .slice bo2 n2 cap2) (xs := layB t.s1 (0 : Int).toNat ys) (HF3.out.mono (fun _ h _ => by cases h)) (by
        have e : layB t.s1 (0 : Int).toNat ys = [] ++ ys := by rw [hs0]; simp [layB]
        have e2 : ([] ++ ys : List Nat).length = n2 := by have := HM.out; simp; omega
        rw [e, e2]; exact hO2) (fun k hk => Or.inr (hb2 k hk))
      have HRR : Hid (_ /\ _) := HR
      have hb3 := HF3.out.keep HX1.out.box (by simp)
      have c' : w3.cell? ⟨g, 2, none⟩ = some (.slice none 0 0) := cell_of_row _ _ _ _ _ _ hb3
      have f' : w3.frozen? ⟨g, 2, none⟩ = false := by simp [World.frozen?, hb3]
      clear HR hO1 hO2 hg2 hM2 hn2 hb1 hb2 hb3 hs0
      go_wp2
      go_ret
      exact ⟨rfl, _, _, HRR.out.1, HT1.out.then HRR.out.2⟩
    · obtain ⟨rb, rfl⟩ : ∃ rb, ao = some ⟨rb, 0, none⟩ := by
        have := HX1.out.two.r1
        rcases this.2 with ⟨hh, _⟩ | ⟨rb, _, _, hh, _⟩
        · cases hh; exact absurd rfl hao
        · cases hh; exact ⟨rb, rfl⟩
      clear hao
      have hkc : k <= cap := by omega
      have hkL : k <= L := by omega
      go_wp2_with (at_builtin; refine zay w1 rfl (.tmp 53) (.tmp 56) rfl (.slice none 0 0) 0 [] rfl (zes w1) (some ⟨rb, 0, none⟩) k cap (t.s1.take k) rfl (HO1.out.takeN k hkL) (by omega) ?_)
      intro bo1 n1 cap1 w2 hn1 hO1 hg1 hM1
      have HN1 : Hid (n1 = k) := by show _ = _; omega
      have hF2 : Fr [] w1 w2 := Fr.grown (S := []) hg1 (by intro k hk; simp [Value.ownBlock] at hk)
      have hb1 : ∀ k, (Value.slice bo1 n1 cap1).ownBlock = some k -> w1.heap.size <= k := hM1.lt (Nat.le_refl _) (by intro k hk; simp [Value.ownBlock] at hk)
      have HB2 : Hid (BArg w2 bo M cb ys) := HB1.out.keep hF2
      have HF2 : Hid (Fr [] w1 w2) := hF2
      have HOw1 : Hid (w2.ownsRow 0 5 1 (.slice bo1 n1 cap1) n1 (bts (t.s1.take k))) := by show World.ownsRow _ _ _ _ _ _ _; simpa using hO1
      clear hg1 hM1 hn1 hF2 hO1
      go_wp2_with (at_builtin; refine zay w2 rfl (.tmp 58) (.tmp 59) rfl (.slice bo1 n1 cap1) n1 (t.s1.take k) rfl HOw1.out bo M cb ys rfl HB2.out (by have := HN1.out; omega) ?_)
      intro bo2 n2 cap2 w3 hn2 hO2 hg2 hM2
      have HF3 : Hid (Fr [] w1 w3) := HF2.out.on (Fr.grown (S := (Value.slice bo1 n1 cap1).ownBlock.toList) hg2 (by intro k hk _; rw [hk]; simp)) (by intro x hx; exact hb1 x (by simpa using hx))
      have hb2 : ∀ k, (Value.slice bo2 n2 cap2).ownBlock = some k -> w1.heap.size <= k := hM2.lt HF2.out.size hb1
      have HN2 : Hid (n2 = k + M) := by show _ = _; have := HN1.out; omega
      have HOw2 : Hid (w3.ownsRow 0 5 1 (.slice bo2 n2 cap2) n2 (bts (t.s1.take k ++ ys))) := hO2
      have HNew2 : Hid (∀ k, (Value.slice bo2 n2 cap2).ownBlock = some k -> w1.heap.size <= k) := hb2
      clear hg2 hM2 hn2 hb1 hb2 HOw1 hO2
      by_cases hlt : k + M < L
      · have hltI : (k : Int) + M < L := by omega
        have hBd := (HO1.out.keep HF3.out).dropN (k + M) (by omega)
        rw [Nat.zero_add] at hBd
        have HBd : Hid (BArg w3 (some ⟨rb, k + M, none⟩) (L - (k + M)) (cap - (k + M)) (t.s1.drop (k + M))) := hBd
        have hkMc : k + M < cap := by omega
        clear hBd
        go_wp2_with (at_builtin; refine zay w3 rfl (.tmp 68) (.tmp 74) rfl (.slice bo2 n2 cap2) n2 (t.s1.take k ++ ys) rfl HOw2.out (some ⟨rb, k + M, none⟩) (L - (k + M)) (cap - (k + M)) (t.s1.drop (k + M)) rfl HBd.out (by have := HN2.out; omega) ?_)
        intro bo3 n3 cap3 w4 hn3 hO3 hg3 hM3
        have HF4 : Hid (Fr [] w1 w4) := HF3.out.on (Fr.grown (S := (Value.slice bo2 n2 cap2).ownBlock.toList) hg3 (by intro k hk _; rw [hk]; simp)) (by intro x hx; exact HNew2.out x (by simpa using hx))
        have hb3 : ∀ k, (Value.slice bo3 n3 cap3).ownBlock = some k -> w1.heap.size <= k := hM3.lt HF3.out.size HNew2.out
        have HR := HX1.out.set1 (v := .slice bo3 n3 cap3) (xs := layB t.s1 (k : Int).toNat ys) (HF4.out.mono (fun _ h _ => by cases h)) (by
          have e : layB t.s1 (k : Int).toNat ys = t.s1.take k ++ (ys ++ t.s1.drop (k + M)) := by rw [Int.toNat_natCast, HM.out]; rfl
          have e2 : (layB t.s1 (k : Int).toNat ys).length = n3 := by rw [Int.toNat_natCast, zca _ _ _ (by rw [<- HL.out]; exact hkL)]; have := HM.out; have := HL.out; have := HN2.out; omega
          rw [e2, e]; exact hO3) (fun k hk => Or.inr (hb3 k hk))
        have HRR : Hid (_ /\ _) := HR
        have hb4 := HF4.out.keep HX1.out.box (by simp)
        have c' : w4.cell? ⟨g, 2, none⟩ = some (.slice (some ⟨rb, 0, none⟩) L cap) := cell_of_row _ _ _ _ _ _ hb4
        have f' : w4.frozen? ⟨g, 2, none⟩ = false := by simp [World.frozen?, hb4]
        clear HR hO3 hg3 hM3 hn3 hb3 hb4
        go_wp2
        go_ret
        exact ⟨rfl, _, _, HRR.out.1, HT1.out.then HRR.out.2⟩
      · have hltI : (L : Int) <= (k : Int) + M := by omega
        have HR := HX1.out.set1 (v := .slice bo2 n2 cap2) (xs := layB t.s1 (k : Int).toNat ys) (HF3.out.mono (fun _ h _ => by cases h)) (by
          have e : layB t.s1 (k : Int).toNat ys = t.s1.take k ++ ys := by rw [Int.toNat_natCast]; simp only [layB]; rw [List.drop_of_length_le (by have := HM.out; have := HL.out; omega), List.append_nil]
          have e2 : (layB t.s1 (k : Int).toNat ys).length = n2 := by rw [Int.toNat_natCast, zca _ _ _ (by rw [<- HL.out]; exact hkL)]; have := HM.out; have := HL.out; have := HN2.out; omega
          rw [e2, e]; exact HOw2.out) (fun k hk => Or.inr (HNew2.out k hk))
        have HRR : Hid (_ /\ _) := HR
        have hb4 := HF3.out.keep HX1.out.box (by simp)
        have c' : w3.cell? ⟨g, 2, none⟩ = some (.slice (some ⟨rb, 0, none⟩) L cap) := cell_of_row _ _ _ _ _ _ hb4
        have f' : w3.frozen? ⟨g, 2, none⟩ = false := by simp [World.frozen?, hb4]
        clear HR hb4
        go_wp2
        go_ret
        exact ⟨rfl, _, _, HRR.out.1, HT1.out.then HRR.out.2⟩
end
end Go.Proofs.YtembflnhhfliaaaGreatDoor

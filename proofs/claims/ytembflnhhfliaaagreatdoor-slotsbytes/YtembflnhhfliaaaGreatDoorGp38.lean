/- Contracts and plain lemmas of this claim. -/
import Derived.Test.YtembflnhhfliaaaGreatDoorGp37
import Derived.Lib.SlBytesConst
set_option maxHeartbeats 4000000
set_option maxRecDepth 100000
namespace Go.Proofs.YtembflnhhfliaaaGreatDoor
open Go.ChangeShapes Go.WideShapes Go.ChangeAt Go.RowKit Go.Lib
theorem zwx (ao : Option Addr) (L cap k : Nat) (bo : Option Addr) (cb : Nat) (w : World) (hao : ao = none -> L = 0 /\ cap = 0) (hsp : ∀ a, ao = some a -> a.spot = none) (hk : k <= L) (hL : L <= 16777216) (hLc : L <= cap) (hcm : cap <= maxLen) :
    Calls Tryz.prog 91 #[.slice ao L cap, .int .i64 (k : Int), .slice bo 0 cb] w fun e w' => e = .returned (.slice ao L cap) /\ w = w' := by
  have hcp : ∀ dp dl dc, (Builtin.copy_ #[58, 58] 3 #[.slice dp dl dc, .slice bo 0 cb]).run Tryz.prog w = .ok (goInt (0 : Int)) w := fun dp dl dc => run_copy_none (P := Tryz.prog) w 58 58 3 5 dp bo dl dc 0 cb Tryz.undBs Tryz.sizeB (by simp)
  have hle : (k : Int) - L <= 0 := by omega
  have hkI : (k : Int) <= L := by omega
  simp only [maxLen] at hcm
  cases ao with
  | none =>
    obtain ⟨rfl, rfl⟩ := hao rfl
    obtain rfl : k = 0 := by omega
    clear hao hsp
    go_enter Tryz.func91, Tryz.ntmps91
    go_wp2
    all_goals (go_ret; exact ⟨rfl, rfl⟩)
  | some a =>
    obtain ⟨b, off, spot⟩ := a
    obtain rfl : spot = none := hsp _ rfl
    clear hao hsp
    by_cases hkc : k < cap
    · go_enter Tryz.func91, Tryz.ntmps91
      go_wp2
      all_goals (go_ret; exact ⟨rfl, rfl⟩)
    · have hkc' : cap <= k := by omega
      go_enter Tryz.func91, Tryz.ntmps91
      go_wp2
      all_goals (go_ret; exact ⟨rfl, rfl⟩)
theorem zzq (g L cap k : Nat) (xs : List Nat) (bo : Option Addr) (M cb : Nat) (ys : List Nat) (w : World) (hv : w.ownsRow 0 5 1 (.slice (some ⟨g, 0, none⟩) L cap) L (bts xs)) (hB : BArg w bo M cb ys) (hM0 : 0 < M) (hM : M <= 64) (hk : k + M <= L) (_hL : L <= 16777216) (hLc : L <= cap) (hcm : cap <= maxLen) :
    Calls Tryz.prog 91 #[.slice (some ⟨g, 0, none⟩) L cap, .int .i64 (k : Int), .slice bo M cb] w fun e w' => e = .returned (.slice (some ⟨g, 0, none⟩) L cap) /\ w'.ownsRow 0 5 1 (.slice (some ⟨g, 0, none⟩) L cap) L (bts (layB xs k ys)) /\ Fr [g] w w' := by
  obtain ⟨w2, hcp, hown2, hF2⟩ := zfc w (some ⟨g, k, none⟩) bo (L - k) (cap - k) M cb _ L xs hv k ys hB (by omega) (by omega) (fun _ => ⟨_, rfl, rfl⟩)
  have HO : Hid (w2.ownsRow 0 5 1 (.slice (some ⟨g, 0, none⟩) L cap) L (bts (layB xs k ys))) := hown2
  have HF : Hid (Fr [g] w w2) := hF2
  have hle : (k : Int) + M - L <= 0 := by omega
  have hkI : (k : Int) <= L := by omega
  have hkc : k < cap := by omega
  have hkL : k <= L := by omega
  simp only [maxLen] at hcm
  clear hown2 hF2 hv hB
  go_enter Tryz.func91, Tryz.ntmps91
  go_wp2
  go_ret
  exact ⟨rfl, HO.out, HF.out⟩
theorem zwy (ao : Option Addr) (L cap k : Nat) (xs : List Nat) (bo : Option Addr) (M cb : Nat) (ys : List Nat) (w : World) (hv : w.ownsRow 0 5 1 (.slice ao L cap) L (bts xs)) (hB : BArg w bo M cb ys) (hM0 : 0 < M) (hM : M <= 64) (hk : k <= L) (hg : L < k + M) (hL : L <= 16777216) (hap : ∀ a, bo = some a -> a.block ∉ (Value.slice ao L cap).ownBlock.toList) :
    Calls Tryz.prog 91 #[.slice ao L cap, .int .i64 (k : Int), .slice bo M cb] w fun e w' => ∃ ao' n cap', e = .returned (.slice ao' n cap') /\ n = k + M /\ w'.ownsRow 0 5 1 (.slice ao' n cap') n (bts (layB xs k ys)) /\ Fr (Value.slice ao L cap).ownBlock.toList w w' /\ Moved w.heap.size (.slice ao L cap) (.slice ao' n cap') := by
  obtain ⟨m, hm⟩ : ∃ m, m + L = k + M := ⟨k + M - L, by omega⟩
  obtain ⟨g', cap', w1, hr, hO1, hW⟩ := zus w 58 (.slice ao L cap) L xs hv m (by omega) (by omega) (by omega)
  have hF1 := hW.fr
  have hMv := hW.moved (n := L + m) (cap := cap')
  have hB1 := hB.keepS hF1 (fun _ => hap)
  obtain ⟨n, hn⟩ : ∃ n, n = L + m := ⟨_, rfl⟩
  rw [<- hn] at hr hO1 hMv
  have hcap : n <= cap' /\ cap' <= maxLen := by
    rcases hO1.2 with ⟨hh, _⟩ | ⟨_, _, _, hh, _, _, h1, h2, _⟩
    · cases hh
    · cases hh; exact ⟨h1, h2⟩
  obtain ⟨w2, hcp, hown2, hF2⟩ := zfc w1 (some ⟨g', k, none⟩) bo (n - k) (cap' - k) M cb _ n (xs ++ zs m) hO1 k ys hB1 (by omega) (by omega) (fun _ => ⟨_, rfl, rfl⟩)
  have hxl : xs.length = L := by have := hv.1; rw [zac] at this; omega
  have hyl : ys.length = M := hB.len.symm
  have HR : Hid (n = k + M /\ w2.ownsRow 0 5 1 (.slice (some ⟨g', 0, none⟩) n cap') n (bts (layB xs k ys)) /\ Fr (Value.slice ao L cap).ownBlock.toList w w2 /\ Moved w.heap.size (.slice ao L cap) (.slice (some ⟨g', 0, none⟩) n cap')) := by
    refine ⟨by omega, ?_, ?_, hMv⟩
    · rw [zyr xs k m ys (by omega) (by omega)] at hown2
      exact hown2
    · refine hF1.trans hF2 (fun _ h _ => h) ?_
      intro x hx hl
      rcases hMv with h | ⟨y, hy, hge⟩
      · rw [h] at hx; exact hx
      · rw [hy] at hx
        simp at hx
        omega
  have hmE : (k : Int) + M - L = (m : Int) := by omega
  have hm0 : (0 : Int) < m := by omega
  have hkn : k <= n := by omega
  have hkc : k < cap' := by omega
  have hkM : (k : Int) + M <= 16777280 := by omega
  have hcm := hcap.2
  simp only [maxLen] at hcm
  have hnc := hcap.1
  clear hown2 hF2 hv hB hB1 hO1 hW hF1 hMv hcap hap hn hm hg
  go_enter Tryz.func91, Tryz.ntmps91
  go_wp2_with (at_builtin; refine Lib.wpList_append_run _ rfl _ _ _ _ rfl _ _ rfl rfl _ _ hr ?_)
  go_ret
  exact ⟨_, _, _, rfl, HR.out⟩
theorem zqg (ao : Option Addr) (L cap k : Nat) (xs : List Nat) (bo : Option Addr) (M cb : Nat) (ys : List Nat) (w : World) (hv : w.ownsRow 0 5 1 (.slice ao L cap) L (bts xs)) (hB : BArg w bo M cb ys) (hM : M <= 64) (hk : k <= L) (hL : L <= 16777216) (hap : 0 < M -> ∀ a, bo = some a -> a.block ∉ (Value.slice ao L cap).ownBlock.toList) :
    Calls Tryz.prog 91 #[.slice ao L cap, .int .i64 (k : Int), .slice bo M cb] w fun e w' => ∃ ao' n cap', e = .returned (.slice ao' n cap') /\ n = (layB xs k ys).length /\ w'.ownsRow 0 5 1 (.slice ao' n cap') n (bts (layB xs k ys)) /\ Fr (Value.slice ao L cap).ownBlock.toList w w' /\ Moved w.heap.size (.slice ao L cap) (.slice ao' n cap') := by
  have hxl : xs.length = L := by have := hv.1; rw [zac] at this; omega
  have hyl : ys.length = M := hB.len.symm
  have hll := zca xs k ys (by omega)
  have hsh : (ao = none -> L = 0 /\ cap = 0) /\ (∀ a, ao = some a -> a.spot = none) /\ L <= cap /\ cap <= maxLen /\ (0 < L -> ∃ g, ao = some ⟨g, 0, none⟩) := by
    rcases hv.2 with ⟨hh, h0⟩ | ⟨g, cap', _, hh, _, _, h1, h2, _⟩
    · cases hh
      exact ⟨fun _ => ⟨rfl, rfl⟩, fun a ha => by (cases ha), Nat.le_refl _, Nat.zero_le _, fun h => by omega⟩
    · cases hh
      exact ⟨fun h => by (cases h), fun a ha => by (cases ha; rfl), h1, h2, fun _ => ⟨g, rfl⟩⟩
  by_cases hM0 : M = 0
  · subst hM0
    have hys : ys = [] := List.eq_nil_of_length_eq_zero hyl
    subst hys
    have e : layB xs k [] = xs := by simp [layB]
    rw [e]
    refine (zwx ao L cap k bo cb w hsh.1 hsh.2.1 hk hL hsh.2.2.1 hsh.2.2.2.1).mono ?_
    rintro e w' ⟨rfl, rfl⟩
    exact ⟨_, _, _, rfl, hxl.symm, hv, Fr.refl _ _, Moved.refl _ _⟩
  · by_cases hg : L < k + M
    · refine (zwy ao L cap k xs bo M cb ys w hv hB (by omega) hM hk hg hL (hap (by omega))).mono ?_
      rintro e w' ⟨ao', n, cap', rfl, hn, hO, hF, hMv⟩
      exact ⟨_, _, _, rfl, by omega, hO, hF, hMv⟩
    · obtain ⟨g, rfl⟩ := hsh.2.2.2.2 (by omega)
      refine (zzq g L cap k xs bo M cb ys w hv hB (by omega) hM (by omega) hL hsh.2.2.1 hsh.2.2.2.1).mono ?_
      rintro e w' ⟨rfl, hO, hF⟩
      exact ⟨_, _, _, rfl, by omega, hO, hF.mono (fun x hx _ => by simpa [Value.ownBlock] using hx), Moved.refl _ _⟩
section
variable {w : World} {g : Nat} {v0 v1 : Value} {t t' : Sk}
theorem zuv {s a E : Int} {bo : Option Addr} {M cb : Nat} {ys : List Nat} (h : Dk w g v0 v1 t) (ht : t.ok) (hn : t.n < 2^40) (ha : a <= 9223372036854775807) (hB : BArg w bo M cb ys) (hap : 0 < M -> ∀ a, bo = some a -> a.block ∉ dOwn g v0 v1) (hc : Wrote t s a ys E t') :
    Calls Tryz.prog 19 #[ptr g, .int .i64 s, .int .i64 a, .slice bo M cb] w fun e w' => e = .returned (.int .i64 E) /\ ∃ u0 u1, Dk w' g u0 u1 t' /\ To (dOwn g v0 v1) (dOwn g u0 u1) w w' := by
  have hgS := h.gS
  have HM : Hid (M = ys.length) := hB.len
  cases hc with
  | noslot hs =>
    go_enter Tryz.func19, Tryz.ntmps19
    go_wp2_with fail
    refine (zaj g _ h.c0).mono ?_
    rintro e w' ⟨rfl, rfl⟩
    go_wp2_with fail
    refine (zgw _ s _ hs).mono ?_
    rintro e w' ⟨rfl, rfl⟩
    go_wp2
    go_ret
    exact ⟨rfl, _, _, h, To.refl _ _⟩
  | noplace hs h2 =>
    go_enter Tryz.func19, Tryz.ntmps19
    go_wp2_with fail
    refine (zaj g _ h.c0).mono ?_
    rintro e w' ⟨rfl, rfl⟩
    go_wp2_with fail
    refine (zan _ s _ hs).mono ?_
    rintro e w' ⟨rfl, rfl⟩
    go_wp2
    go_ret
    exact ⟨rfl, _, _, h, To.refl _ _⟩
  | much hs h2 h3 =>
    have h3' : (64 : Int) < M := by have := HM.out; omega
    clear h3
    go_enter Tryz.func19, Tryz.ntmps19
    go_wp2_with fail
    refine (zaj g _ h.c0).mono ?_
    rintro e w' ⟨rfl, rfl⟩
    go_wp2_with fail
    refine (zan _ s _ hs).mono ?_
    rintro e w' ⟨rfl, rfl⟩
    go_wp2
    go_ret
    exact ⟨rfl, _, _, h, To.refl _ _⟩
  | order0 hs h2 h3 h4 =>
    rw [<- HM.out] at h3
    subst hs
    obtain ⟨k, rfl⟩ := Int.eq_ofNat_of_zero_le h2
    obtain ⟨ao, cap, hv⟩ := zad h.two.r0
    obtain ⟨L, hL⟩ : ∃ L, L = t.s0.length := ⟨_, rfl⟩
    rw [<- hL] at hv h4
    subst hv
    have hLC : L <= t.C := by have := ht.f0; omega
    have hCm := ht.cap
    have HL : Hid (L = t.s0.length) := hL
    have c2 := h.c2
    have c1 := h.c1
    have hyM : (M : Int) <= 64 := by omega
    clear hL
    go_enter Tryz.func19, Tryz.ntmps19
    go_wp2_with fail
    refine (zaj g _ h.c0).mono ?_
    rintro e w' ⟨rfl, rfl⟩
    go_wp2_with fail
    refine (zan _ 0 _ (Or.inl rfl)).mono ?_
    rintro e w' ⟨rfl, rfl⟩
    go_wp2
    go_ret
    exact ⟨rfl, _, _, h, To.refl _ _⟩
  | order1 hs h2 h3 h4 =>
    rw [<- HM.out] at h3
    subst hs
    obtain ⟨k, rfl⟩ := Int.eq_ofNat_of_zero_le h2
    obtain ⟨ao, cap, hv⟩ := zad h.two.r1
    obtain ⟨L, hL⟩ : ∃ L, L = t.s1.length := ⟨_, rfl⟩
    rw [<- hL] at hv h4
    subst hv
    have hLC : L <= t.C := by have := ht.f1; omega
    have hCm := ht.cap
    have HL : Hid (L = t.s1.length) := hL
    have c3 := h.c3
    have c1 := h.c1
    have hyM : (M : Int) <= 64 := by omega
    clear hL
    go_enter Tryz.func19, Tryz.ntmps19
    go_wp2_with fail
    refine (zaj g _ h.c0).mono ?_
    rintro e w' ⟨rfl, rfl⟩
    go_wp2_with fail
    refine (zan _ 1 _ (Or.inr rfl)).mono ?_
    rintro e w' ⟨rfl, rfl⟩
    go_wp2
    go_ret
    exact ⟨rfl, _, _, h, To.refl _ _⟩
  | space0 hs h2 h3 h4 h5 =>
    rw [<- HM.out] at h3 h5
    subst hs
    obtain ⟨k, rfl⟩ := Int.eq_ofNat_of_zero_le h2
    obtain ⟨ao, cap, hv⟩ := zad h.two.r0
    obtain ⟨L, hL⟩ : ∃ L, L = t.s0.length := ⟨_, rfl⟩
    rw [<- hL] at hv h4
    subst hv
    have hLC : L <= t.C := by have := ht.f0; omega
    have hCm := ht.cap
    have HL : Hid (L = t.s0.length) := hL
    have c2 := h.c2
    have c1 := h.c1
    have hyM : (M : Int) <= 64 := by omega
    clear hL
    go_enter Tryz.func19, Tryz.ntmps19
    go_wp2_with fail
    refine (zaj g _ h.c0).mono ?_
    rintro e w' ⟨rfl, rfl⟩
    go_wp2_with fail
    refine (zan _ 0 _ (Or.inl rfl)).mono ?_
    rintro e w' ⟨rfl, rfl⟩
    go_wp2
    go_ret
    exact ⟨rfl, _, _, h, To.refl _ _⟩
  | space1 hs h2 h3 h4 h5 =>
    rw [<- HM.out] at h3 h5
    subst hs
    obtain ⟨k, rfl⟩ := Int.eq_ofNat_of_zero_le h2
    obtain ⟨ao, cap, hv⟩ := zad h.two.r1
    obtain ⟨L, hL⟩ : ∃ L, L = t.s1.length := ⟨_, rfl⟩
    rw [<- hL] at hv h4
    subst hv
    have hLC : L <= t.C := by have := ht.f1; omega
    have hCm := ht.cap
    have HL : Hid (L = t.s1.length) := hL
    have c3 := h.c3
    have c1 := h.c1
    have hyM : (M : Int) <= 64 := by omega
    clear hL
    go_enter Tryz.func19, Tryz.ntmps19
    go_wp2_with fail
    refine (zaj g _ h.c0).mono ?_
    rintro e w' ⟨rfl, rfl⟩
    go_wp2_with fail
    refine (zan _ 1 _ (Or.inr rfl)).mono ?_
    rintro e w' ⟨rfl, rfl⟩
    go_wp2
    go_ret
    exact ⟨rfl, _, _, h, To.refl _ _⟩
  | cut0 hs h2 h3 h4 h5 hl =>
    rw [<- HM.out] at h3 h5
    subst hs
    obtain ⟨k, rfl⟩ := Int.eq_ofNat_of_zero_le h2
    obtain ⟨ao, cap, hv⟩ := zad h.two.r0
    obtain ⟨L, hL⟩ : ∃ L, L = t.s0.length := ⟨_, rfl⟩
    rw [<- hL] at hv h4
    subst hv
    have hLC : L <= t.C := by have := ht.f0; omega
    have hCm := ht.cap
    have HL : Hid (L = t.s0.length) := hL
    have c2 := h.c2
    have c1 := h.c1
    have hyM : (M : Int) <= 64 := by omega
    clear hL
    go_enter Tryz.func19, Tryz.ntmps19
    go_wp2_with fail
    refine (zaj g _ h.c0).mono ?_
    rintro e w' ⟨rfl, rfl⟩
    go_wp2_with fail
    refine (zan _ 0 _ (Or.inl rfl)).mono ?_
    rintro e w' ⟨rfl, rfl⟩
    go_wp2_with fail
    refine (zgx h hl).mono ?_
    rintro e w1 ⟨rfl, hX, hF⟩
    go_wp2
    go_ret
    exact ⟨rfl, _, _, hX, To.same hF hgS⟩
  | cut1 hs h2 h3 h4 h5 hl =>
    rw [<- HM.out] at h3 h5
    subst hs
    obtain ⟨k, rfl⟩ := Int.eq_ofNat_of_zero_le h2
    obtain ⟨ao, cap, hv⟩ := zad h.two.r1
    obtain ⟨L, hL⟩ : ∃ L, L = t.s1.length := ⟨_, rfl⟩
    rw [<- hL] at hv h4
    subst hv
    have hLC : L <= t.C := by have := ht.f1; omega
    have hCm := ht.cap
    have HL : Hid (L = t.s1.length) := hL
    have c3 := h.c3
    have c1 := h.c1
    have hyM : (M : Int) <= 64 := by omega
    clear hL
    go_enter Tryz.func19, Tryz.ntmps19
    go_wp2_with fail
    refine (zaj g _ h.c0).mono ?_
    rintro e w' ⟨rfl, rfl⟩
    go_wp2_with fail
    refine (zan _ 1 _ (Or.inr rfl)).mono ?_
    rintro e w' ⟨rfl, rfl⟩
    go_wp2_with fail
    refine (zgx h hl).mono ?_
    rintro e w1 ⟨rfl, hX, hF⟩
    go_wp2
    go_ret
    exact ⟨rfl, _, _, hX, To.same hF hgS⟩
  | done0 hs h2 h3 h4 h5 hl =>
    rw [<- HM.out] at h3 h5
    subst hs
    obtain ⟨k, rfl⟩ := Int.eq_ofNat_of_zero_le h2
    obtain ⟨ao, cap, hv⟩ := zad h.two.r0
    obtain ⟨L, hL⟩ : ∃ L, L = t.s0.length := ⟨_, rfl⟩
    rw [<- hL] at hv h4
    subst hv
    have hLC : L <= t.C := by have := ht.f0; omega
    have hCm := ht.cap
    have HL : Hid (L = t.s0.length) := hL
    have c2 := h.c2
    have c1 := h.c1
    have hyM : (M : Int) <= 64 := by omega
    clear hL
    go_enter Tryz.func19, Tryz.ntmps19
    go_wp2_with fail
    refine (zaj g _ h.c0).mono ?_
    rintro e w' ⟨rfl, rfl⟩
    go_wp2_with fail
    refine (zan _ 0 _ (Or.inl rfl)).mono ?_
    rintro e w' ⟨rfl, rfl⟩
    go_wp2_with fail
    refine (zfd h hl ht hn).mono ?_
    rintro e w1 ⟨rfl, hX, hF⟩
    have c2' := hX.c2
    have f2' := hX.free 2
    have r' := hX.two.r0
    have hB1 : BArg w1.drew bo M cb ys := (hB.keepS hF (fun h0 a ha hm => hap h0 a ha (hgS _ hm))).keep (Fr.drew [] w1)
    have hap1 : 0 < M -> ∀ a, bo = some a -> a.block ∉ (Value.slice ao L cap).ownBlock.toList := fun h0 a ha hm => hap h0 a ha (mem_dOwn.2 (Or.inr (Or.inl (by simpa using hm))))
    have HX1 : Hid (Dk w1.drew g (.slice ao L cap) v1 t.next) := hX.keep (Fr.drew [] w1) (by simp)
    have HT1 : Hid (To (dOwn g (.slice ao L cap) v1) (dOwn g (.slice ao L cap) v1) w w1.drew) := To.same (hF.then (Fr.drew [g] w1)) hgS
    have hlay := zqg ao L cap k t.s0 bo M cb ys w1.drew (by have := HX1.out.two.r0; have e : t.next.s0.length = L := HL.out.symm; rw [e] at this; exact this) hB1 (by omega) (by omega) (by omega) hap1
    clear hB hB1 hap hap1 hX hF r' h
    go_upto_region 12 with fail
    first
      | go_loud (go_region_with (first
          | (go_at_call 91; with_reducible refine hlay.mono ?_; rintro e w2 ⟨ao2, n2, cap2, rfl, hn2, hO2, hF2, hM2⟩; have hT2 := HX1.out.set0 (xs := layB t.s0 k ys) hF2 (by rw [<- hn2]; exact hO2) hM2.mv; have hD2 := HX1.out.box; have hb2 := hF2.keep hD2 HX1.out.n0; have k2 : w2.cell? ⟨g, 2, none⟩ = some (.slice ao L cap) := (cell_of_row _ _ _ _ _ _ hb2); have k3 : w2.frozen? ⟨g, 2, none⟩ = false := (by simp [World.frozen?, hb2]); clear hb2 hD2 hn2 hO2 hF2 hM2)))
      | fail
    all_goals (go_wp2; go_ret; exact ⟨rfl, _, _, hT2.1, HT1.out.then hT2.2⟩)
  | done1 hs h2 h3 h4 h5 hl =>
    rw [<- HM.out] at h3 h5
    subst hs
    obtain ⟨k, rfl⟩ := Int.eq_ofNat_of_zero_le h2
    obtain ⟨ao, cap, hv⟩ := zad h.two.r1
    obtain ⟨L, hL⟩ : ∃ L, L = t.s1.length := ⟨_, rfl⟩
    rw [<- hL] at hv h4
    subst hv
    have hLC : L <= t.C := by have := ht.f1; omega
    have hCm := ht.cap
    have HL : Hid (L = t.s1.length) := hL
    have c3 := h.c3
    have c1 := h.c1
    have hyM : (M : Int) <= 64 := by omega
    clear hL
    go_enter Tryz.func19, Tryz.ntmps19
    go_wp2_with fail
    refine (zaj g _ h.c0).mono ?_
    rintro e w' ⟨rfl, rfl⟩
    go_wp2_with fail
    refine (zan _ 1 _ (Or.inr rfl)).mono ?_
    rintro e w' ⟨rfl, rfl⟩
    go_wp2_with fail
    refine (zfd h hl ht hn).mono ?_
    rintro e w1 ⟨rfl, hX, hF⟩
    have c3' := hX.c3
    have f3' := hX.free 3
    have r' := hX.two.r1
    have hB1 : BArg w1.drew bo M cb ys := (hB.keepS hF (fun h0 a ha hm => hap h0 a ha (hgS _ hm))).keep (Fr.drew [] w1)
    have hap1 : 0 < M -> ∀ a, bo = some a -> a.block ∉ (Value.slice ao L cap).ownBlock.toList := fun h0 a ha hm => hap h0 a ha (mem_dOwn.2 (Or.inr (Or.inr (by simpa using hm))))
    have HX1 : Hid (Dk w1.drew g v0 (.slice ao L cap) t.next) := hX.keep (Fr.drew [] w1) (by simp)
    have HT1 : Hid (To (dOwn g v0 (.slice ao L cap)) (dOwn g v0 (.slice ao L cap)) w w1.drew) := To.same (hF.then (Fr.drew [g] w1)) hgS
    have hlay := zqg ao L cap k t.s1 bo M cb ys w1.drew (by have := HX1.out.two.r1; have e : t.next.s1.length = L := HL.out.symm; rw [e] at this; exact this) hB1 (by omega) (by omega) (by omega) hap1
    clear hB hB1 hap hap1 hX hF r' h
    go_upto_region 12 with fail
    first
      | go_loud (go_region_with (first
          | (go_at_call 91; with_reducible refine hlay.mono ?_; rintro e w2 ⟨ao2, n2, cap2, rfl, hn2, hO2, hF2, hM2⟩; have hT2 := HX1.out.set1 (xs := layB t.s1 k ys) hF2 (by rw [<- hn2]; exact hO2) hM2.mv; have hD2 := HX1.out.box; have hb2 := hF2.keep hD2 HX1.out.n1; have k2 : w2.cell? ⟨g, 3, none⟩ = some (.slice ao L cap) := (cell_of_row _ _ _ _ _ _ hb2); have k3 : w2.frozen? ⟨g, 3, none⟩ = false := (by simp [World.frozen?, hb2]); clear hb2 hD2 hn2 hO2 hF2 hM2)))
      | fail
    all_goals (go_wp2; go_ret; exact ⟨rfl, _, _, hT2.1, HT1.out.then hT2.2⟩)
end
structure LD (w0 w : World) (g : Nat) (S : List Nat) (t : Sk) : Prop where
  dk : ∃ v0 v1, Dk w g v0 v1 t /\ S = dOwn g v0 v1
  new : ∀ k ∈ S, w0.heap.size <= k
  ok : t.ok
  fr : Fr [] w0 w
section
variable {w0 w w' : World} {g : Nat} {S : List Nat} {t t' : Sk}
theorem LD.lt (h : LD w0 w g S t) : ∀ k ∈ S, k < w.heap.size := by
  obtain ⟨v0, v1, hD, rfl⟩ := h.dk
  exact hD.lt
theorem LD.keepS {T : List Nat} (h : LD w0 w g S t) (hf : Fr T w w') (hT : ∀ k ∈ T, k ∉ S) (hN : ∀ k ∈ T, w0.heap.size <= k) : LD w0 w' g S t := by
  obtain ⟨v0, v1, hD, rfl⟩ := h.dk
  exact ⟨⟨v0, v1, hD.keep hf hT, rfl⟩, h.new, h.ok, h.fr.on hf hN⟩
theorem LD.quiet (h : LD w0 w g S t) (hf : Fr [] w w') : LD w0 w' g S t := h.keepS hf (by simp) (by simp)
theorem LD.step {S' : List Nat} {v0 v1 : Value} (h : LD w0 w g S t) (hT : To S S' w w') (hD : Dk w' g v0 v1 t') (hS : S' = dOwn g v0 v1) (ht : t'.ok) : LD w0 w' g S' t' := by
  refine ⟨⟨v0, v1, hD, hS⟩, ?_, ht, h.fr.on hT.fr h.new⟩
  intro k hk
  rcases hT.grew k hk with h1 | h1
  · exact h.new k h1
  · exact Nat.le_trans h.fr.size h1
theorem LD.apart {bo : Option Addr} {M cb : Nat} {ys : List Nat} (h : LD w0 w g S t) (hB : BArg w0 bo M cb ys) : 0 < M -> ∀ a, bo = some a -> a.block ∉ S := by
  intro h0 a ha hm
  obtain ⟨b, off, e, hb, _⟩ := hB.lies h0
  rw [e] at ha
  cases ha
  have := h.new _ hm
  simp only at this
  omega
theorem zzr (C : Nat) (w0 w : World) (hf : Fr [] w0 w) (h : C <= 16777216) : Calls Tryz.prog 6 #[.int .i64 (C : Int)] w fun e w' => ∃ g S, e = .returned (.tuple #[ptr g, .int .i64 0]) /\ LD w0 w' g S (Sk.new C) /\ (∀ k ∈ S, w.heap.size <= k) /\ Fr [] w w' := by
  refine (new_ok C w h).mono ?_
  rintro e w' ⟨rfl, hD, hF⟩
  have hS : ∀ k ∈ dOwn w.heap.size (.slice none 0 0) (.slice none 0 0), w.heap.size <= k := by
    intro k hk
    rcases mem_dOwn.1 hk with rfl | hk | hk
    · exact Nat.le_refl _
    · simp [Value.ownBlock] at hk
    · simp [Value.ownBlock] at hk
  exact ⟨_, _, rfl, ⟨⟨_, _, hD, rfl⟩, fun k hk => Nat.le_trans hf.size (hS k hk), Sk.new_ok C h, hf.then hF⟩, hS, hF⟩
theorem zod {s a E : Int} {bo : Option Addr} {M cb : Nat} {ys : List Nat} (h : LD w0 w g S t) (hn : t.n < 2^40) (ha : a <= 9223372036854775807) (hB : BArg w bo M cb ys) (hap : 0 < M -> ∀ a, bo = some a -> a.block ∉ S) (hc : Wrote t s a ys E t') :
    Calls Tryz.prog 19 #[ptr g, .int .i64 s, .int .i64 a, .slice bo M cb] w fun e w' => e = .returned (.int .i64 E) /\ ∃ S', LD w0 w' g S' t' /\ To S S' w w' := by
  obtain ⟨v0, v1, hD, hS⟩ := h.dk
  refine (zuv hD h.ok hn ha hB (by rw [<- hS]; exact hap) hc).mono ?_
  rintro e w' ⟨rfl, u0, u1, hU, hT⟩
  rw [<- hS] at hT
  exact ⟨rfl, _, h.step hT hU rfl (hc.ok h.ok hB.low), hT⟩
theorem zwz {s E : Int} (h : LD w0 w g S t) (hn : t.n < 2^40) (hc : Cleared t s E t') :
    Calls Tryz.prog 21 #[ptr g, .int .i64 s] w fun e w' => e = .returned (.int .i64 E) /\ ∃ S', LD w0 w' g S' t' /\ To S S' w w' := by
  obtain ⟨v0, v1, hD, hS⟩ := h.dk
  refine (zuu hD h.ok hn hc).mono ?_
  rintro e w' ⟨rfl, u0, u1, hU, hT⟩
  rw [<- hS] at hT
  exact ⟨rfl, _, h.step hT hU rfl (hc.ok h.ok), hT⟩
theorem zqh {s E : Int} {xs : List Nat} (h : LD w0 w g S t) (hc : Told t s E xs) :
    Calls Tryz.prog 36 #[ptr g, .int .i64 s] w fun e w' => ∃ ao n cap, e = .returned (.tuple #[.slice ao n cap, .int .i64 E]) /\ Fre w w' ao n cap xs /\ LD w0 w' g S t := by
  obtain ⟨v0, v1, hD, hS⟩ := h.dk
  refine (zww hD h.ok hc).mono ?_
  rintro e w' ⟨ao, n, cap, rfl, hF⟩
  exact ⟨_, _, _, rfl, hF, h.quiet hF.fr⟩
theorem zys (h : LD w0 w g S t) {b : Bool} (hb : t.dd = b) : Calls Tryz.prog 32 #[ptr g] w fun e w' => e = .returned (.bool b) /\ w = w' := by
  obtain ⟨v0, v1, hD, hS⟩ := h.dk
  exact zwv hD hb
theorem zuw (h : LD w0 w g S t) {m : Nat} (hm : t.n = m) : Calls Tryz.prog 34 #[ptr g] w fun e w' => e = .returned (.int .i64 (m : Int)) /\ w = w' := by
  obtain ⟨v0, v1, hD, hS⟩ := h.dk
  rw [<- hm]
  exact zsi hD
theorem zpj (h : LD w0 w g S t) {m : Nat} (hm : t.C = m) : Calls Tryz.prog 77 #[ptr g] w fun e w' => e = .returned (.int .i64 (m : Int)) /\ w = w' := by
  obtain ⟨v0, v1, hD, hS⟩ := h.dk
  rw [<- hm]
  exact zoc hD
end
theorem zqi (w : World) : BArg w none 0 0 [] := ⟨rfl, by simp, Nat.le_refl _, by omega, fun h => by omega⟩
theorem LD.fresh {w0 w : World} {g : Nat} {S : List Nat} {t : Sk} (h : LD w0 w g S t) (M : Nat) : 0 < M -> ∀ a, (some ⟨w.heap.size, 0, none⟩ : Option Addr) = some a -> a.block ∉ S := by
  intro _ a ha hm
  cases ha
  have := h.lt _ hm
  simp only at this
  omega
end Go.Proofs.YtembflnhhfliaaaGreatDoor

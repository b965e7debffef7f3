/- The document's May and Load of keys. Conditions as each names them. -/
import Derived.Test.YtdojhkgnnbdfkaaGreatRc9
import Derived.Test.YtdojhkgnnbdfkaaGreatHl9
namespace Go.Proofs.YtdojhkgnnbdfkaaGreat
open BigFrame Go.ChangeShapes Go.WideShapes Go.ChangeAt Go.RowKit Go.Lib Go.Maps
set_option linter.unusedVariables false
set_option linter.unusedSimpArgs false

theorem LoOk.badAt {hs : List Hd} {i : Nat} (h : ¬ LoOk (hs.take i)) : ¬ LoOk hs := fun hl => h (hl.take i)
/-- One key more. -/
theorem LoOk.next9 {hs : List Hd} {i : Nat} (h : LoOk (hs.take i)) (hi : i < hs.length) : LoOk (hs.take (i + 1)) ↔ okK9 (hs.getD i Hd.zero).key ∧ (0 < i → Op.bytesLess (hs.getD (i - 1) Hd.zero).key.toList (hs.getD i Hd.zero).key.toList = true) ∧ (hs.getD i Hd.zero).vs ≠ [] ∧ okV (hs.getD i Hd.zero).vs := by
  rw [LoOk.step h hi]
  unfold okH
  constructor
  · rintro ⟨h1, h2, h3, h4⟩
    refine ⟨h2, fun h0 => ?_, h3, h4⟩
    unfold lastK at h1
    rw [if_neg (by omega)] at h1
    exact h1
  · rintro ⟨h2, h1, h3, h4⟩
    refine ⟨?_, h2, h3, h4⟩
    unfold lastK
    by_cases h0 : i = 0
    · rw [if_pos h0, noS_less]
      intro e
      have := h2.1
      rw [e] at this
      exact absurd this (by decide)
    · rw [if_neg h0]
      exact h1 (by omega)
set_option maxHeartbeats 16000000 in
set_option maxRecDepth 100000 in
theorem kmay_any (ao : Option Addr) (L cap : Nat) (hs : List Hd) (w : World) (hH : HRs w ao hs) (hL : L = hs.length) (A : Bool) (hA : A = true ↔ LoOk hs) :
    Calls Tryz.prog 33 #[.slice ao L cap] w fun e w' => e = .returned (.bool A) ∧ Fr [] w w' := by
  have HL : Hid (L = hs.length) := hL
  have HA : Hid (A = true ↔ LoOk hs) := hA
  have HV : Hid (∀ W, Fr [] w W → HRs W ao hs) := fun W hf => hH.keep hf
  have hLL : L ≤ 3518437208882 := by have := hH.few; omega
  clear hH hL hA
  go_enter Tryz.func33, Tryz.ntmps33
  go_wp2_with fail
  go_loopw [3] (fun ii wr => ∃ (i : Nat), ii = .int .i64 i ∧ i ≤ L ∧ Hid (LoOk (hs.take i)) ∧ Fr [] w wr) (fun ii _ => L - (RowKit.intOf ii).toNat)
  case atStart => exact ⟨0, rfl, Nat.zero_le _, ⟨by simp, by simp⟩, Fr.refl _ _⟩
  case round =>
    obtain ⟨i, rfl, hiL, HI, hF⟩ := hrel
    by_cases hi : i < L
    · have hi' : i < hs.length := by rw [← HL.out]; exact hi
      have hst := LoOk.next9 HI.out hi'
      have hR := HV.out _ hF
      have hE := hR.each _ (hgetD_mem hs i hi')
      obtain ⟨b, off, eao, hbl, hat⟩ := hR.lies (by omega)
      obtain ⟨c0, c1⟩ := hat i hi'
      obtain ⟨⟨key, vo, M, cm, vs⟩, hxx⟩ : ∃ x, x = hs.getD i Hd.zero := ⟨_, rfl⟩
      rw [← hxx] at hst hE c0 c1
      obtain ⟨la, hla⟩ : ∃ la, la = (hs.getD (i - 1) Hd.zero).key := ⟨_, rfl⟩
      rw [← hla] at hst
      simp only at hst c0 c1
      have hkz : key.size ≤ 140737488355328 := hE.k
      have HM : Hid (M = vs.length) := hE.len
      have HVr : Hid (∀ W, Fr [] wr W → VRs W vo vs) := fun W hf => hE.rs.keep hf
      have HS : Hid (LoOk (hs.take (i + 1)) ↔ okK9 key ∧ (0 < i → Op.bytesLess la.toList key.toList = true) ∧ vs ≠ [] ∧ okV vs) := hst
      have hp : 0 < i → wr.cell? ⟨b, off + (i - 1) * 2, none⟩ = some (.string la) := fun h0 => by rw [hla]; exact (hat (i - 1) (by omega)).1
      have HBad : Hid (¬ LoOk (hs.take (i + 1)) → A = false) := fun hn => by
        cases hA : A with
        | false => rfl
        | true => exact absurd (HA.out.1 hA) (LoOk.badAt hn)
      clear hst hE hxx hla hat hR
      have g0 : ∀ x : Wd8 wr, x.W.cell? ⟨b, off + i * 2, none⟩ = some (.string key) := fun x => (World.cell?_of_block (x.h.block b hbl (by simp))).trans c0
      have g1 : ∀ x : Wd8 wr, x.W.cell? ⟨b, off + i * 2 + 1, none⟩ = some (.slice vo M cm) := fun x => (World.cell?_of_block (x.h.block b hbl (by simp))).trans c1
      obtain ⟨B, HB⟩ : ∃ B : Bool, Hid (B = true ↔ 1 ≤ key.size ∧ key.size ≤ 64) := by classical exact ⟨decide (1 ≤ key.size ∧ key.size ≤ 64), by show _ ↔ _; simp⟩
      have HK : Hid (∀ W, Fr [] wr W → Calls Tryz.prog 56 #[.string key] W fun e w' => e = .returned (.bool B) ∧ Fr [] W w') := fun W _ => (xKey_any key B W hkz HB.out).mono fun e w3 hh => ⟨hh.1, by rw [← hh.2]; exact Fr.refl _ _⟩
      obtain ⟨c, hck⟩ := CkT.ex vs
      have HC : Hid (CkT vs c) := hck
      have HCk : Hid (∀ W, Fr [] wr W → Calls Tryz.prog 57 #[.slice vo M cm] W fun e w' => e = .returned (.int .i64 (c : Int)) ∧ Fr [] W w') := fun W hf => ucheck_any vo M cm c vs W (HVr.out W hf) HM.out HC.out
      subst eao
      clear hck
      cases B with
      | false =>
        obtain rfl : A = false := HBad.out (fun h => by have := HB.out.2 (HS.out.1 h).1; cases this)
        clear c0 c1 hp
        go_upto_region 4 with fail
        refine wp_region_wd8 (w1 := wr) (by kernel_rfl) (by kernel_rfl) (Fr.refl _ _) ?_
        repeat (go_big_quiet_step (first | exact (HK.out _ (Wd8.h _)).mono fun e w3 hh => ⟨hh.1, ⟨_, Fr.then (Wd8.h _) hh.2⟩, rfl⟩ | exact (HCk.out _ (Wd8.h _)).mono fun e w3 hh => ⟨hh.1, ⟨_, Fr.then (Wd8.h _) hh.2⟩, rfl⟩))
        refine wpQuiet_nil ?_
        rintro _ ⟨x, rfl⟩
        go_wp2
        go_ret
        exact ⟨rfl, hF.then x.h⟩
      | true =>
        by_cases hi0 : 0 < i
        · obtain ⟨i', rfl⟩ : ∃ i', i = i' + 1 := ⟨i - 1, by omega⟩
          have p0 := hp (by omega)
          rw [Nat.add_sub_cancel] at p0
          have g3 : ∀ x : Wd8 wr, x.W.cell? ⟨b, off + i' * 2, none⟩ = some (.string la) := fun x => (World.cell?_of_block (x.h.block b hbl (by simp))).trans p0
          have hd : decide ((0 : Int) < ((i' + 1 : Nat) : Int)) = true := by simp <;> omega
          have hd2 : ((i' + 1 : Nat) : Int) - 1 = (i' : Int) := by omega
          clear c0 c1 hp p0
          cases hQ : Op.bytesLess la.toList key.toList with
          | false =>
            obtain rfl : A = false := HBad.out (fun h => by have := (HS.out.1 h).2.1 (by omega); rw [hQ] at this; cases this)
            go_upto_region 4 with fail
            refine wp_region_wd8 (w1 := wr) (by kernel_rfl) (by kernel_rfl) (Fr.refl _ _) ?_
            repeat (go_big_quiet_step (first | exact (HK.out _ (Wd8.h _)).mono fun e w3 hh => ⟨hh.1, ⟨_, Fr.then (Wd8.h _) hh.2⟩, rfl⟩ | exact (HCk.out _ (Wd8.h _)).mono fun e w3 hh => ⟨hh.1, ⟨_, Fr.then (Wd8.h _) hh.2⟩, rfl⟩))
            refine wpQuiet_nil ?_
            rintro _ ⟨x, rfl⟩
            go_wp2
            go_ret
            exact ⟨rfl, hF.then x.h⟩
          | true =>
            by_cases hM0 : M = 0
            · obtain rfl : A = false := HBad.out (fun h => (HS.out.1 h).2.2.1 (List.eq_nil_of_length_eq_zero (by rw [← HM.out]; exact hM0)))
              subst hM0
              go_upto_region 4 with fail
              refine wp_region_wd8 (w1 := wr) (by kernel_rfl) (by kernel_rfl) (Fr.refl _ _) ?_
              repeat (go_big_quiet_step (first | exact (HK.out _ (Wd8.h _)).mono fun e w3 hh => ⟨hh.1, ⟨_, Fr.then (Wd8.h _) hh.2⟩, rfl⟩ | exact (HCk.out _ (Wd8.h _)).mono fun e w3 hh => ⟨hh.1, ⟨_, Fr.then (Wd8.h _) hh.2⟩, rfl⟩))
              refine wpQuiet_nil ?_
              rintro _ ⟨x, rfl⟩
              go_wp2
              go_ret
              exact ⟨rfl, hF.then x.h⟩
            · have hMp : ((M : Int) == 0) = false := by rw [beq_eq_false_iff_ne]; omega
              have HVn : Hid (vs ≠ []) := fun e => hM0 (by rw [HM.out, e]; rfl)
              rcases HC.out with ⟨rfl, hok⟩ | ⟨rfl, hok⟩
              · have HN : Hid (LoOk (hs.take (i' + 1 + 1))) := HS.out.2 ⟨HB.out.1 rfl, fun h0 => hQ, HVn.out, hok⟩
                clear hok
                go_upto_region 4 with fail
                refine wp_region_wd8 (w1 := wr) (by kernel_rfl) (by kernel_rfl) (Fr.refl _ _) ?_
                repeat (go_big_quiet_step (first | exact (HK.out _ (Wd8.h _)).mono fun e w3 hh => ⟨hh.1, ⟨_, Fr.then (Wd8.h _) hh.2⟩, rfl⟩ | exact (HCk.out _ (Wd8.h _)).mono fun e w3 hh => ⟨hh.1, ⟨_, Fr.then (Wd8.h _) hh.2⟩, rfl⟩))
                refine wpQuiet_nil ?_
                rintro _ ⟨x, rfl⟩
                have hFx := hF.then x.h
                go_wp2
                exact ⟨⟨i' + 1 + 1, by simp, by omega, HN, hFx⟩, by simp [RowKit.intOf]; omega⟩
              · obtain rfl : A = false := HBad.out (fun h => hok (HS.out.1 h).2.2.2)
                clear hok
                go_upto_region 4 with fail
                refine wp_region_wd8 (w1 := wr) (by kernel_rfl) (by kernel_rfl) (Fr.refl _ _) ?_
                repeat (go_big_quiet_step (first | exact (HK.out _ (Wd8.h _)).mono fun e w3 hh => ⟨hh.1, ⟨_, Fr.then (Wd8.h _) hh.2⟩, rfl⟩ | exact (HCk.out _ (Wd8.h _)).mono fun e w3 hh => ⟨hh.1, ⟨_, Fr.then (Wd8.h _) hh.2⟩, rfl⟩))
                refine wpQuiet_nil ?_
                rintro _ ⟨x, rfl⟩
                go_wp2
                go_ret
                exact ⟨rfl, hF.then x.h⟩
        · obtain rfl : i = 0 := by omega
          simp only [Nat.zero_mul, Nat.add_zero] at g0 g1
          clear c0 c1 hp
          by_cases hM0 : M = 0
          · obtain rfl : A = false := HBad.out (fun h => (HS.out.1 h).2.2.1 (List.eq_nil_of_length_eq_zero (by rw [← HM.out]; exact hM0)))
            subst hM0
            go_upto_region 4 with fail
            refine wp_region_wd8 (w1 := wr) (by kernel_rfl) (by kernel_rfl) (Fr.refl _ _) ?_
            repeat (go_big_quiet_step (first | exact (HK.out _ (Wd8.h _)).mono fun e w3 hh => ⟨hh.1, ⟨_, Fr.then (Wd8.h _) hh.2⟩, rfl⟩ | exact (HCk.out _ (Wd8.h _)).mono fun e w3 hh => ⟨hh.1, ⟨_, Fr.then (Wd8.h _) hh.2⟩, rfl⟩))
            refine wpQuiet_nil ?_
            rintro _ ⟨x, rfl⟩
            go_wp2
            go_ret
            exact ⟨rfl, hF.then x.h⟩
          · have hMp : ((M : Int) == 0) = false := by rw [beq_eq_false_iff_ne]; omega
            have HVn : Hid (vs ≠ []) := fun e => hM0 (by rw [HM.out, e]; rfl)
            rcases HC.out with ⟨rfl, hok⟩ | ⟨rfl, hok⟩
            · have HN : Hid (LoOk (hs.take (0 + 1))) := HS.out.2 ⟨HB.out.1 rfl, fun h0 => by omega, HVn.out, hok⟩
              clear hok
              go_upto_region 4 with fail
              refine wp_region_wd8 (w1 := wr) (by kernel_rfl) (by kernel_rfl) (Fr.refl _ _) ?_
              repeat (go_big_quiet_step (first | exact (HK.out _ (Wd8.h _)).mono fun e w3 hh => ⟨hh.1, ⟨_, Fr.then (Wd8.h _) hh.2⟩, rfl⟩ | exact (HCk.out _ (Wd8.h _)).mono fun e w3 hh => ⟨hh.1, ⟨_, Fr.then (Wd8.h _) hh.2⟩, rfl⟩))
              refine wpQuiet_nil ?_
              rintro _ ⟨x, rfl⟩
              have hFx := hF.then x.h
              go_wp2
              exact ⟨⟨0 + 1, by simp, by omega, HN, hFx⟩, by simp [RowKit.intOf]; omega⟩
            · obtain rfl : A = false := HBad.out (fun h => hok (HS.out.1 h).2.2.2)
              clear hok
              go_upto_region 4 with fail
              refine wp_region_wd8 (w1 := wr) (by kernel_rfl) (by kernel_rfl) (Fr.refl _ _) ?_
              repeat (go_big_quiet_step (first | exact (HK.out _ (Wd8.h _)).mono fun e w3 hh => ⟨hh.1, ⟨_, Fr.then (Wd8.h _) hh.2⟩, rfl⟩ | exact (HCk.out _ (Wd8.h _)).mono fun e w3 hh => ⟨hh.1, ⟨_, Fr.then (Wd8.h _) hh.2⟩, rfl⟩))
              refine wpQuiet_nil ?_
              rintro _ ⟨x, rfl⟩
              go_wp2
              go_ret
              exact ⟨rfl, hF.then x.h⟩
    · obtain rfl : A = true := HA.out.2 (by
        have hok := HI.out
        rw [List.take_of_length_le (by have := HL.out; omega)] at hok
        exact hok)
      go_wp2
      go_ret
      exact ⟨rfl, hF⟩
end Go.Proofs.YtdojhkgnnbdfkaaGreat

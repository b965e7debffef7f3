/- Texts of this claim laid together, one behind the other: contracts and plain lemmas; conditions as each names them. -/
import Derived.Test.YtomajifklajilaaGreatGp32
import Derived.Test.YtomajifklajilaaGreatGp36
import Derived.Test.YtomajifklajilaaGreatGp31
import Derived.Test.YtomajifklajilaaGreatGp19
/- The document's May and Load of keys. Conditions as each names them. -/
namespace Go.Proofs.YtomajifklajilaaGreat
open BigFrame Go.ChangeShapes Go.WideShapes Go.ChangeAt Go.RowKit Go.Lib Go.Maps
set_option linter.unusedVariables false
set_option linter.unusedSimpArgs false

theorem LoOk.badAt {hs : List Hd} {i : Nat} (h : ¬ LoOk (hs.take i)) : ¬ LoOk hs := fun hl => h (hl.take i)
/-- One key more. -/
theorem LoOk.next9 {hs : List Hd} {i : Nat} (h : LoOk (hs.take i)) (hi : i < hs.length) : LoOk (hs.take (i + 1)) ↔ okK9 (hs.getD i Hd.zero).key ∧ (0 < i → Op.bytesLess (hs.getD (i - 1) Hd.zero).key.toList (hs.getD i Hd.zero).key.toList = true) ∧ (hs.getD i Hd.zero).vs ≠ [] ∧ okV (hs.getD i Hd.zero).vs := by
  rw [LoOk.step h hi]
  unfold okH
  constructor
  · rintro ⟨h1, h2, h3, h4⟩
    refine ⟨h2, fun h0 => ?_, h3, h4⟩
    unfold lastK at h1
    rw [if_neg (by omega)] at h1
    exact h1
  · rintro ⟨h2, h1, h3, h4⟩
    refine ⟨?_, h2, h3, h4⟩
    unfold lastK
    by_cases h0 : i = 0
    · rw [if_pos h0, noS_less]
      intro e
      have := h2.1
      rw [e] at this
      exact absurd this (by decide)
    · rw [if_neg h0]
      exact h1 (by omega)
set_option maxHeartbeats 16000000 in
set_option maxRecDepth 100000 in
theorem kmay_any (ao : Option Addr) (L cap : Nat) (hs : List Hd) (w : World) (hH : HRs w ao hs) (hL : L = hs.length) (A : Bool) (hA : A = true ↔ LoOk hs) :
    Calls Tryz.prog 54 #[.slice ao L cap] w fun e w' => e = .returned (.bool A) ∧ Fr [] w w' := by
  have HL : Hid (L = hs.length) := hL
  have HA : Hid (A = true ↔ LoOk hs) := hA
  have HV : Hid (∀ W, Fr [] w W → HRs W ao hs) := fun W hf => hH.keep hf
  have hLL : L ≤ 3518437208882 := by have := hH.few; omega
  clear hH hL hA
  go_enter Tryz.func54, Tryz.ntmps54
  go_wp2_with fail
  go_loopw [3] (fun ii wr => ∃ (i : Nat), ii = .int .i64 i ∧ i ≤ L ∧ Hid (LoOk (hs.take i)) ∧ Fr [] w wr) (fun ii _ => L - (RowKit.intOf ii).toNat)
  case atStart => exact ⟨0, rfl, Nat.zero_le _, ⟨by simp, by simp⟩, Fr.refl _ _⟩
  case round =>
    obtain ⟨i, rfl, hiL, HI, hF⟩ := hrel
    by_cases hi : i < L
    · have hi' : i < hs.length := by rw [← HL.out]; exact hi
      have hst := LoOk.next9 HI.out hi'
      have hR := HV.out _ hF
      have hE := hR.each _ (hgetD_mem hs i hi')
      obtain ⟨b, off, eao, hbl, hat⟩ := hR.lies (by omega)
      obtain ⟨c0, c1⟩ := hat i hi'
      obtain ⟨⟨key, vo, M, cm, vs⟩, hxx⟩ : ∃ x, x = hs.getD i Hd.zero := ⟨_, rfl⟩
      rw [← hxx] at hst hE c0 c1
      obtain ⟨la, hla⟩ : ∃ la, la = (hs.getD (i - 1) Hd.zero).key := ⟨_, rfl⟩
      rw [← hla] at hst
      simp only at hst c0 c1
      have hkz : key.size ≤ 140737488355328 := hE.k
      have HM : Hid (M = vs.length) := hE.len
      have HVr : Hid (∀ W, Fr [] wr W → VRs W vo vs) := fun W hf => hE.rs.keep hf
      have HS : Hid (LoOk (hs.take (i + 1)) ↔ okK9 key ∧ (0 < i → Op.bytesLess la.toList key.toList = true) ∧ vs ≠ [] ∧ okV vs) := hst
      have hp : 0 < i → wr.cell? ⟨b, off + (i - 1) * 2, none⟩ = some (.string la) := fun h0 => by rw [hla]; exact (hat (i - 1) (by omega)).1
      have HBad : Hid (¬ LoOk (hs.take (i + 1)) → A = false) := fun hn => by
        cases hA : A with
        | false => rfl
        | true => exact absurd (HA.out.1 hA) (LoOk.badAt hn)
      clear hst hE hxx hla hat hR
      have g0 : ∀ x : Wd8 wr, x.W.cell? ⟨b, off + i * 2, none⟩ = some (.string key) := fun x => (World.cell?_of_block (x.h.block b hbl (by simp))).trans c0
      have g1 : ∀ x : Wd8 wr, x.W.cell? ⟨b, off + i * 2 + 1, none⟩ = some (.slice vo M cm) := fun x => (World.cell?_of_block (x.h.block b hbl (by simp))).trans c1
      obtain ⟨B, HB⟩ : ∃ B : Bool, Hid (B = true ↔ 1 ≤ key.size ∧ key.size ≤ 64) := by classical exact ⟨decide (1 ≤ key.size ∧ key.size ≤ 64), by show _ ↔ _; simp⟩
      have HK : Hid (∀ W, Fr [] wr W → Calls Tryz.prog 93 #[.string key] W fun e w' => e = .returned (.bool B) ∧ Fr [] W w') := fun W _ => (xKey_any key B W hkz HB.out).mono fun e w3 hh => ⟨hh.1, by rw [← hh.2]; exact Fr.refl _ _⟩
      obtain ⟨c, hck⟩ := CkT.ex vs
      have HC : Hid (CkT vs c) := hck
      have HCk : Hid (∀ W, Fr [] wr W → Calls Tryz.prog 94 #[.slice vo M cm] W fun e w' => e = .returned (.int .i64 (c : Int)) ∧ Fr [] W w') := fun W hf => ucheck_any vo M cm c vs W (HVr.out W hf) HM.out HC.out
      subst eao
      clear hck
      cases B with
      | false =>
        obtain rfl : A = false := HBad.out (fun h => by have := HB.out.2 (HS.out.1 h).1; cases this)
        clear c0 c1 hp
        go_upto_region 4 with fail
        refine wp_region_wd8 (w1 := wr) (by kernel_rfl) (by kernel_rfl) (Fr.refl _ _) ?_
        repeat (go_big_quiet_step (first | exact (HK.out _ (Wd8.h _)).mono fun e w3 hh => ⟨hh.1, ⟨_, Fr.then (Wd8.h _) hh.2⟩, rfl⟩ | exact (HCk.out _ (Wd8.h _)).mono fun e w3 hh => ⟨hh.1, ⟨_, Fr.then (Wd8.h _) hh.2⟩, rfl⟩))
        refine wpQuiet_nil ?_
        rintro _ ⟨x, rfl⟩
        go_wp2
        go_ret
        exact ⟨rfl, hF.then x.h⟩
      | true =>
        by_cases hi0 : 0 < i
        · obtain ⟨i', rfl⟩ : ∃ i', i = i' + 1 := ⟨i - 1, by omega⟩
          have p0 := hp (by omega)
          rw [Nat.add_sub_cancel] at p0
          have g3 : ∀ x : Wd8 wr, x.W.cell? ⟨b, off + i' * 2, none⟩ = some (.string la) := fun x => (World.cell?_of_block (x.h.block b hbl (by simp))).trans p0
          have hd : decide ((0 : Int) < ((i' + 1 : Nat) : Int)) = true := by simp <;> omega
          have hd2 : ((i' + 1 : Nat) : Int) - 1 = (i' : Int) := by omega
          clear c0 c1 hp p0
          cases hQ : Op.bytesLess la.toList key.toList with
          | false =>
            obtain rfl : A = false := HBad.out (fun h => by have := (HS.out.1 h).2.1 (by omega); rw [hQ] at this; cases this)
            go_upto_region 4 with fail
            refine wp_region_wd8 (w1 := wr) (by kernel_rfl) (by kernel_rfl) (Fr.refl _ _) ?_
            repeat (go_big_quiet_step (first | exact (HK.out _ (Wd8.h _)).mono fun e w3 hh => ⟨hh.1, ⟨_, Fr.then (Wd8.h _) hh.2⟩, rfl⟩ | exact (HCk.out _ (Wd8.h _)).mono fun e w3 hh => ⟨hh.1, ⟨_, Fr.then (Wd8.h _) hh.2⟩, rfl⟩))
            refine wpQuiet_nil ?_
            rintro _ ⟨x, rfl⟩
            go_wp2
            go_ret
            exact ⟨rfl, hF.then x.h⟩
          | true =>
            by_cases hM0 : M = 0
            · obtain rfl : A = false := HBad.out (fun h => (HS.out.1 h).2.2.1 (List.eq_nil_of_length_eq_zero (by rw [← HM.out]; exact hM0)))
              subst hM0
              go_upto_region 4 with fail
              refine wp_region_wd8 (w1 := wr) (by kernel_rfl) (by kernel_rfl) (Fr.refl _ _) ?_
              repeat (go_big_quiet_step (first | exact (HK.out _ (Wd8.h _)).mono fun e w3 hh => ⟨hh.1, ⟨_, Fr.then (Wd8.h _) hh.2⟩, rfl⟩ | exact (HCk.out _ (Wd8.h _)).mono fun e w3 hh => ⟨hh.1, ⟨_, Fr.then (Wd8.h _) hh.2⟩, rfl⟩))
              refine wpQuiet_nil ?_
              rintro _ ⟨x, rfl⟩
              go_wp2
              go_ret
              exact ⟨rfl, hF.then x.h⟩
            · have hMp : ((M : Int) == 0) = false := by rw [beq_eq_false_iff_ne]; omega
              have HVn : Hid (vs ≠ []) := fun e => hM0 (by rw [HM.out, e]; rfl)
              rcases HC.out with ⟨rfl, hok⟩ | ⟨rfl, hok⟩
              · have HN : Hid (LoOk (hs.take (i' + 1 + 1))) := HS.out.2 ⟨HB.out.1 rfl, fun h0 => hQ, HVn.out, hok⟩
                clear hok
                go_upto_region 4 with fail
                refine wp_region_wd8 (w1 := wr) (by kernel_rfl) (by kernel_rfl) (Fr.refl _ _) ?_
                repeat (go_big_quiet_step (first | exact (HK.out _ (Wd8.h _)).mono fun e w3 hh => ⟨hh.1, ⟨_, Fr.then (Wd8.h _) hh.2⟩, rfl⟩ | exact (HCk.out _ (Wd8.h _)).mono fun e w3 hh => ⟨hh.1, ⟨_, Fr.then (Wd8.h _) hh.2⟩, rfl⟩))
                refine wpQuiet_nil ?_
                rintro _ ⟨x, rfl⟩
                have hFx := hF.then x.h
                go_wp2
                exact ⟨⟨i' + 1 + 1, by simp, by omega, HN, hFx⟩, by simp [RowKit.intOf]; omega⟩
              · obtain rfl : A = false := HBad.out (fun h => hok (HS.out.1 h).2.2.2)
                clear hok
                go_upto_region 4 with fail
                refine wp_region_wd8 (w1 := wr) (by kernel_rfl) (by kernel_rfl) (Fr.refl _ _) ?_
                repeat (go_big_quiet_step (first | exact (HK.out _ (Wd8.h _)).mono fun e w3 hh => ⟨hh.1, ⟨_, Fr.then (Wd8.h _) hh.2⟩, rfl⟩ | exact (HCk.out _ (Wd8.h _)).mono fun e w3 hh => ⟨hh.1, ⟨_, Fr.then (Wd8.h _) hh.2⟩, rfl⟩))
                refine wpQuiet_nil ?_
                rintro _ ⟨x, rfl⟩
                go_wp2
                go_ret
                exact ⟨rfl, hF.then x.h⟩
        · obtain rfl : i = 0 := by omega
          simp only [Nat.zero_mul, Nat.add_zero] at g0 g1
          clear c0 c1 hp
          by_cases hM0 : M = 0
          · obtain rfl : A = false := HBad.out (fun h => (HS.out.1 h).2.2.1 (List.eq_nil_of_length_eq_zero (by rw [← HM.out]; exact hM0)))
            subst hM0
            go_upto_region 4 with fail
            refine wp_region_wd8 (w1 := wr) (by kernel_rfl) (by kernel_rfl) (Fr.refl _ _) ?_
            repeat (go_big_quiet_step (first | exact (HK.out _ (Wd8.h _)).mono fun e w3 hh => ⟨hh.1, ⟨_, Fr.then (Wd8.h _) hh.2⟩, rfl⟩ | exact (HCk.out _ (Wd8.h _)).mono fun e w3 hh => ⟨hh.1, ⟨_, Fr.then (Wd8.h _) hh.2⟩, rfl⟩))
            refine wpQuiet_nil ?_
            rintro _ ⟨x, rfl⟩
            go_wp2
            go_ret
            exact ⟨rfl, hF.then x.h⟩
          · have hMp : ((M : Int) == 0) = false := by rw [beq_eq_false_iff_ne]; omega
            have HVn : Hid (vs ≠ []) := fun e => hM0 (by rw [HM.out, e]; rfl)
            rcases HC.out with ⟨rfl, hok⟩ | ⟨rfl, hok⟩
            · have HN : Hid (LoOk (hs.take (0 + 1))) := HS.out.2 ⟨HB.out.1 rfl, fun h0 => by omega, HVn.out, hok⟩
              clear hok
              go_upto_region 4 with fail
              refine wp_region_wd8 (w1 := wr) (by kernel_rfl) (by kernel_rfl) (Fr.refl _ _) ?_
              repeat (go_big_quiet_step (first | exact (HK.out _ (Wd8.h _)).mono fun e w3 hh => ⟨hh.1, ⟨_, Fr.then (Wd8.h _) hh.2⟩, rfl⟩ | exact (HCk.out _ (Wd8.h _)).mono fun e w3 hh => ⟨hh.1, ⟨_, Fr.then (Wd8.h _) hh.2⟩, rfl⟩))
              refine wpQuiet_nil ?_
              rintro _ ⟨x, rfl⟩
              have hFx := hF.then x.h
              go_wp2
              exact ⟨⟨0 + 1, by simp, by omega, HN, hFx⟩, by simp [RowKit.intOf]; omega⟩
            · obtain rfl : A = false := HBad.out (fun h => hok (HS.out.1 h).2.2.2)
              clear hok
              go_upto_region 4 with fail
              refine wp_region_wd8 (w1 := wr) (by kernel_rfl) (by kernel_rfl) (Fr.refl _ _) ?_
              repeat (go_big_quiet_step (first | exact (HK.out _ (Wd8.h _)).mono fun e w3 hh => ⟨hh.1, ⟨_, Fr.then (Wd8.h _) hh.2⟩, rfl⟩ | exact (HCk.out _ (Wd8.h _)).mono fun e w3 hh => ⟨hh.1, ⟨_, Fr.then (Wd8.h _) hh.2⟩, rfl⟩))
              refine wpQuiet_nil ?_
              rintro _ ⟨x, rfl⟩
              go_wp2
              go_ret
              exact ⟨rfl, hF.then x.h⟩
    · obtain rfl : A = true := HA.out.2 (by
        have hok := HI.out
        rw [List.take_of_length_le (by have := HL.out; omega)] at hok
        exact hok)
      go_wp2
      go_ret
      exact ⟨rfl, hF⟩
end Go.Proofs.YtomajifklajilaaGreat
/- The document's Load. Conditions as it names them. -/
namespace Go.Proofs.YtomajifklajilaaGreat
open BigFrame Go.ChangeShapes Go.WideShapes Go.ChangeAt Go.RowKit Go.Lib Go.Maps
set_option linter.unusedVariables false
set_option linter.unusedSimpArgs false

/-- Where versions lie makes no difference. -/
theorem LoOk.kv {hs gs : List Hd} (h : LoOk hs) (e : gs.map Hd.kv = hs.map Hd.kv) : LoOk gs ∧ mOf gs = mOf hs := by
  have hto : ∀ x ∈ gs, ∃ y ∈ hs, y.key = x.key ∧ y.vs = x.vs := fun x hx => by
    have h1 : Hd.kv x ∈ gs.map Hd.kv := List.mem_map.2 ⟨x, hx, rfl⟩
    rw [e] at h1
    obtain ⟨y, hy, e2⟩ := List.mem_map.1 h1
    simp only [Hd.kv, Prod.mk.injEq] at e2
    exact ⟨y, hy, e2.1, e2.2⟩
  have hfr : ∀ y ∈ hs, ∃ x ∈ gs, x.key = y.key ∧ x.vs = y.vs := fun y hy => by
    have h1 : Hd.kv y ∈ hs.map Hd.kv := List.mem_map.2 ⟨y, hy, rfl⟩
    rw [← e] at h1
    obtain ⟨x, hx, e2⟩ := List.mem_map.1 h1
    simp only [Hd.kv, Prod.mk.injEq] at e2
    exact ⟨x, hx, e2.1, e2.2⟩
  have hL : LoOk gs := by
    refine ⟨?_, fun x hx => ?_⟩
    · have h1 : (gs.map Hd.kv).Pairwise fun a b => Op.bytesLess a.1.toList b.1.toList = true := by
        rw [e, List.pairwise_map]
        exact h.1
      rw [List.pairwise_map] at h1
      exact h1
    · obtain ⟨y, hy, e1, e2⟩ := hto x hx
      have ho := h.2 y hy
      exact ⟨by rw [← e1]; exact ho.1, by rw [← e2]; exact ho.2.1, by rw [← e2]; exact ho.2.2⟩
  refine ⟨hL, mOf_is hL (fun x hx => ?_) (fun k hk => ?_)⟩
  · obtain ⟨y, hy, e1, e2⟩ := hto x hx
    rw [← e1, mOf_mem h hy, e2]
  · exact mOf_off fun y hy e1 => by
      obtain ⟨x, hx, e2, _⟩ := hfr y hy
      exact hk x hx (e2.trans e1)
set_option maxHeartbeats 4000000 in
set_option maxRecDepth 100000 in
theorem kload_any (ao : Option Addr) (L cap : Nat) (hs : List Hd) (w : World) (hH : HRs w ao hs) (hL : L = hs.length) :
    Calls Tryz.prog 29 #[.slice ao L cap] w fun e w' => (LoOk hs ∧ ∃ g lc lo gs, e = .returned (.tuple #[.pointer (some ⟨g, 0, none⟩), .int .i64 0]) ∧ KSh w w' g L lc lo gs ∧ mOf gs = mOf hs ∧ (∀ x ∈ gs, ∀ j, VB x j → w.heap.size ≤ j) ∧ Fr [] w w') ∨ (¬ LoOk hs ∧ e = .returned (.tuple #[.pointer none, .int .i64 1]) ∧ Fr [] w w') := by
  have HL : Hid (L = hs.length) := hL
  have hLL : Hid (L ≤ 3518437208882) := by show _ ≤ _; have := hH.few; omega
  have HV : Hid (∀ W, Fr [] w W → HRs W ao hs) := fun W hf => hH.keep hf
  clear hL hH
  by_cases hok : LoOk hs
  · have HOk : Hid (LoOk hs) := hok
    clear hok
    go_enter Tryz.func29, Tryz.ntmps29
    go_wp2_with fail
    refine (kmay_any ao L cap hs w (HV.out _ (Fr.refl _ _)) HL.out true (by simp [HOk.out])).mono ?_
    rintro e w1 ⟨rfl, hF1⟩
    go_wp2_with fail
    refine (kown_any ao L cap hs w1 (HV.out _ hF1) HL.out).mono ?_
    rintro e w2 ⟨ro, rc, gs, rfl, hO, hG, hF2⟩
    have hk := HOk.out.kv hG
    have hR : HRo w w2 ro L rc gs := (hO.ro hk.1).later hF1.size
    have hF3 : Fr [] w2 (w2.alloc (.cells #[.slice ro L rc] 103)) := Fr.alloc _ _ _
    have hb := heap_alloc_new w2 (.cells #[.slice ro L rc] 103)
    have HR : Hid (KSh w (w2.alloc (.cells #[.slice ro L rc] 103)) w2.heap.size L rc ro gs ∧ mOf gs = mOf hs ∧ (∀ x ∈ gs, ∀ j, VB x j → w.heap.size ≤ j) ∧ Fr [] w (w2.alloc (.cells #[.slice ro L rc] 103))) := ⟨⟨hb, hR.keep hF3, hk.1, hLL.out, Nat.le_trans hF1.size hF2.size⟩, hk.2, (fun x hx j hj => by obtain ⟨_, a, e, rfl⟩ := hj; have := ((hO.each x hx).blk a.block (by rw [e]; simp [Value.ownBlock])).1; exact Nat.le_trans hF1.size this), (hF1.then hF2).then hF3⟩
    clear hO hG hk hR hF3 hb hF1 hF2
    go_wp2
    go_ret2
    exact Or.inl ⟨HOk.out, _, _, _, _, rfl, HR.out⟩
  · have HOk : Hid (¬ LoOk hs) := hok
    clear hok
    go_enter Tryz.func29, Tryz.ntmps29
    go_wp2_with fail
    refine (kmay_any ao L cap hs w (HV.out _ (Fr.refl _ _)) HL.out false (by simp [HOk.out])).mono ?_
    rintro e w1 ⟨rfl, hF1⟩
    go_wp2
    go_ret2
    exact Or.inr ⟨HOk.out, rfl, hF1⟩
end Go.Proofs.YtomajifklajilaaGreat
/- The document's owner: All, Serve of an empty queue, New. Conditions as each names them. -/
namespace Go.Proofs.YtomajifklajilaaGreat
open Go.ChangeShapes Go.WideShapes Go.ChangeAt Go.RowKit Go.Lib Go.Maps
set_option linter.unusedVariables false
set_option linter.unusedSimpArgs false
section
variable {w0 w w' : World} {yb C n c g N lc : Nat} {s lo : Option Addr} {xs : List Rv} {so : Option Addr} {hs : List Hd}
theorem yoall_any (h : YoM w yb (some ⟨g, 0, none⟩) C lo n c xs) (hK : KSh w0 w g N lc so hs) : Calls Tryz.prog 26 #[.pointer (some ⟨yb, 0, none⟩)] w fun e w' => ∃ ro rc gs, e = .returned (.slice ro N rc) ∧ HOut w w' ro N rc gs ∧ gs.map Hd.kv = hs.map Hd.kv ∧ Fr [] w w' := by
  have c0 := h.c0
  have HA : Hid (Calls _ _ _ _ _) := kall_any hK
  clear h hK
  go_enter Tryz.func26, Tryz.ntmps26
  go_wp2_with fail
  refine Calls.mono HA.out ?_
  rintro e w1 ⟨ro, rc, gs, rfl, h1, h2, h3⟩
  go_wp2
  go_ret
  exact ⟨ro, rc, gs, rfl, h1, h2, h3⟩
set_option maxHeartbeats 1000000 in
theorem yoserve_idle (h : YoM w yb s C lo n c []) : Calls Tryz.prog 14 #[.pointer (some ⟨yb, 0, none⟩)] w fun e w' => e = .returned (.tuple #[.agg #[.int .i64 0, .bool false, .slice none 0 0, .slice none 0 0, .int .i64 0], .int .i64 9]) ∧ Fr [] w w' := by
  have hn : n = 0 := by have := h.q.len; simpa using this
  subst hn
  have hF0 := Fr.alloc [] w (.cells #[.int .i64 0, .bool false, .slice none 0 0, .slice none 0 0, .int .i64 0] 56)
  have hr := heap_alloc_new w (.cells #[.int .i64 0, .bool false, .slice none 0 0, .slice none 0 0, .int .i64 0] 56)
  have c2 := (h.same hF0).c2
  have HF0 := (show Hid _ from hF0)
  have hself := setRow_self _ _ _ _ _ hr
  have hld := load_resp hr
  clear hF0 h
  go_enter Tryz.func14, Tryz.ntmps14
  go_wp2_with (first
    | (refine wpList_store_row rfl 56 _ _ rfl w.heap.size #[.int .i64 0, .bool false, .slice none 0 0, .slice none 0 0, .int .i64 0] rfl rfl _ _ hr (by kernel_rfl) rfl (rs_one _ _ _ _ _ _ _ _ _) ?_; rw [hself]; go_frame)
    | fail)
  refine bodyPost_ret (results_ct_row rfl _ _ _ _ _ rfl hld) rfl ?_
  exact ⟨rfl, HF0.out⟩
theorem yonew_arg (sh qu : Int) (hi : -9223372036854775808 ≤ sh ∧ sh ≤ 9223372036854775807 ∧ -9223372036854775808 ≤ qu ∧ qu ≤ 9223372036854775807) (ao : Option Addr) (L cap : Nat) (w : World) (h : sh < 0 ∨ 16 ≤ sh ∨ qu < 1 ∨ 16 < qu) : Calls Tryz.prog 11 #[.int .i64 sh, .int .i64 qu, .slice ao L cap] w fun e w' => e = .returned (.tuple #[.pointer none, .int .i64 1]) ∧ Fr [] w w' := by
  have hW : (sh < 0) ∨ (¬ sh < 0 ∧ 16 ≤ sh) ∨ (¬ sh < 0 ∧ ¬ 16 ≤ sh ∧ qu < 1) ∨ (¬ sh < 0 ∧ ¬ 16 ≤ sh ∧ ¬ qu < 1 ∧ 16 < qu) := by omega
  clear h
  rcases hW with h1 | ⟨h1, h2⟩ | ⟨h1, h2, h3⟩ | ⟨h1, h2, h3, h4⟩
  all_goals (
    go_enter Tryz.func11, Tryz.ntmps11
    go_wp2
    go_ret2
    exact ⟨rfl, Fr.refl _ _⟩)
set_option maxHeartbeats 2000000 in
/-- New: the document's shard, nobody waits. -/
theorem yonew_any (sh qu : Int) (h : 0 ≤ sh ∧ sh < 16 ∧ 1 ≤ qu ∧ qu ≤ 16) (ao : Option Addr) (L cap : Nat) (os : List Hd) (w : World) (hH : HRs w ao os) (hL : L = os.length) : Calls Tryz.prog 11 #[.int .i64 sh, .int .i64 qu, .slice ao L cap] w fun e w' =>
    (LoOk os ∧ ∃ yb g lc lo gs, e = .returned (.tuple #[.pointer (some ⟨yb, 0, none⟩), .int .i64 0]) ∧ YoM w' yb (some ⟨g, 0, none⟩) qu.toNat none 0 0 [] ∧ KSh w w' g L lc lo gs ∧ mOf gs = mOf os ∧ (∀ x ∈ gs, ∀ j, VB x j → w.heap.size ≤ j) ∧ w.heap.size ≤ yb ∧ yb ≠ g ∧ Fr [] w w') ∨ (¬ LoOk os ∧ e = .returned (.tuple #[.pointer none, .int .i64 1]) ∧ Fr [] w w') := by
  obtain ⟨h1, h2, h3, h4⟩ := h
  have a1 : ¬ sh < 0 := by omega
  have a2 : ¬ 16 ≤ sh := by omega
  have a3 : ¬ qu < 1 := by omega
  have a4 : ¬ 16 < qu := by omega
  have HK : Hid (Calls _ _ _ _ _) := kload_any ao L cap os w hH hL
  clear hH hL h1 h2 h3 h4
  go_enter Tryz.func11, Tryz.ntmps11
  go_wp2_with fail
  refine Calls.mono HK.out ?_
  rintro e w1 (⟨hok, g, lc, lo, gs, rfl, hS, hM, hV, hF⟩ | ⟨hno, rfl, hF⟩)
  · have HO : Hid (LoOk os ∧ KSh w w1 g L lc lo gs ∧ mOf gs = mOf os ∧ (∀ x ∈ gs, ∀ j, VB x j → w.heap.size ≤ j) ∧ Fr [] w w1) := ⟨hok, hS, hM, hV, hF⟩
    clear hok hS hM hV hF HK
    go_wp2
    go_ret2
    obtain ⟨hok, hS, hM, hV, hF⟩ := HO.out
    have e1 : ((qu.toNat : Nat) : Int) = qu := Int.toNat_of_nonneg (by omega)
    have hr := heap_alloc_new w1 (.cells #[.pointer (some ⟨g, 0, none⟩), .int .i64 qu, .slice none 0 0] 78)
    have hgl := hS.lt
    refine Or.inl ⟨hok, w1.heap.size, g, lc, lo, gs, rfl, ⟨?_, ⟨rfl, Nat.le_refl _, Or.inl ⟨rfl, rfl⟩⟩, by simp [qb], by omega, by omega⟩, hS.keep (Fr.alloc _ _ _), hM, hV, hF.size, by omega, hF.then (Fr.alloc _ _ _)⟩
    rw [e1]
    exact hr
  · clear HK
    go_wp2
    go_ret2
    exact Or.inr ⟨hno, rfl, hF⟩
end
end Go.Proofs.YtomajifklajilaaGreat
/- Rows of keys cut and laid behind one another. Conditions as each names them. -/
namespace Go.Proofs.YtomajifklajilaaGreat
open BigFrame Go.ChangeShapes Go.WideShapes Go.ChangeAt Go.RowKit Go.Lib Go.Maps
set_option linter.unusedVariables false
set_option linter.unusedSimpArgs false

theorem HRs.cells {w : World} {ao : Option Addr} {hs : List Hd} (h : HRs w ao hs) {j : Nat} {u : Value} (hu : (hdsC hs)[j]? = some u) : ∃ b off, ao = some ⟨b, off, none⟩ ∧ w.cell? ⟨b, off + j, none⟩ = some u := by
  have hj : j < hs.length * 2 := by
    rw [← hdsC_length]
    rcases Nat.lt_or_ge j (hdsC hs).length with h1 | h1
    · exact h1
    · rw [List.getElem?_eq_none h1] at hu; cases hu
  have hq : j / 2 < hs.length := by omega
  obtain ⟨b, off, e, _, hc⟩ := h.lies (by omega)
  obtain ⟨c0, c1⟩ := hc _ hq
  obtain ⟨g0, g1⟩ := hdsC_get hs _ hq
  refine ⟨b, off, e, ?_⟩
  by_cases he : j % 2 = 0
  · have ej : j = j / 2 * 2 := by omega
    rw [ej] at hu ⊢
    rw [g0] at hu
    cases hu
    exact c0
  · have ej : j = j / 2 * 2 + 1 := by omega
    rw [ej] at hu ⊢
    rw [g1] at hu
    cases hu
    exact c1
theorem hdsC_one (hs : List Hd) : ∀ u ∈ hdsC hs, u.oneCell' = true := by
  intro u hu
  obtain ⟨x, _, hx⟩ := List.mem_flatMap.1 hu
  exact hdC_one x u hx
/-- Many keys more. -/
theorem wpList_appMany (w0 w : World) {ops : Array Oper} {rest : List Oper} {o : Oper} {a : Act} {Q : Exit → Act → World → Prop} (hgd : o.guard = none) (s x : Operand)
    (ho : o.op = .call { callee := .builtin .append, args := #[s, x], argTypes := #[22, 22] })
    (so : Option Addr) (N c : Nat) (hs : List Hd) (hsv : a.eval s = .slice so N c) (hK : HRo w0 w so N c hs) (xo : Option Addr) (M xc : Nat) (gs : List Hd) (hx : a.eval x = .slice xo M xc) (hX : HRs w xo gs) (hT : ∀ y ∈ gs, HTy w y) (hM : M = gs.length) (hN : N + M < 3518437208883) (h0 : w0.heap.size ≤ w.heap.size)
    (h : ∀ so' c' w', HRo w0 w' so' (N + M) c' (hs ++ gs) → Fr (Value.slice so N c).ownBlock.toList w w' → wpList Tryz.prog ops Q rest (a.put o.dst (.slice so' (N + M) c')) w') : wpList Tryz.prog ops Q (o :: rest) a w := by
  obtain ⟨i0, hi, hz0, hz1, hz2⟩ := infoHd_parts
  have hmx : 3518437208884 ≤ maxLen := by unfold maxLen; omega
  by_cases hM0 : M = 0
  · have hgs : gs = [] := List.eq_nil_of_length_eq_zero (by omega)
    subst hgs
    subst hM0
    have hh := h so c w (by simpa using hK) (Fr.refl _ _)
    rw [Nat.add_zero] at hh
    refine wpList_plain hgd fun K hKK => ?_
    have hl : ∀ (x : Addr), (loadCells x 0).run Tryz.prog w = .ok #[] w := fun x => by simpa using run_loadCells_list (P := Tryz.prog) w x [] (by simp)
    have hcap : N ≤ c ∧ (so = none → N = 0 ∧ c = 0) := by
      rcases hK.row.2 with ⟨e, hn⟩ | ⟨g, cap, cur, e, _, _, hc, _⟩
      · cases e; exact ⟨Nat.le_refl _, fun _ => ⟨rfl, rfl⟩⟩
      · cases e; exact ⟨hc, fun e => by cases e⟩
    have hrun : (Builtin.append_ #[22, 22] o.type #[.slice so N c, .slice xo 0 xc]).run Tryz.prog w = .ok (.slice so N c) w := by
      cases so with
      | none =>
        obtain ⟨rfl, rfl⟩ := hcap.2 rfl
        cases xo <;> simp [Builtin.append_, run_underlying Tryz.undHds, sizeOf, typeInfo, hi, Builtin.lenOf, Builtin.firstCells, hl, storeCells]
      | some b =>
        cases xo <;> simp [Builtin.append_, run_underlying Tryz.undHds, sizeOf, typeInfo, hi, Builtin.lenOf, Builtin.firstCells, hl, storeCells, hcap.1]
    unfold Oper.wp
    simp [execOp, ho, resolve, invoke, builtin, hsv, hx, hrun, Result.andThen]
    exact hKK _ _ hh
  · obtain ⟨b, off, e, _, _⟩ := hX.lies (by omega)
    subst e
    refine wpList_append_own w hgd s x 22 ho w0.heap.size 70 i0 _ 2 40 Tryz.undHds hi hz0 hz1 hz2 rfl (by decide) (.slice so N c) N (hdsC hs) hsv hK.row ⟨b, off, none⟩ M xc (hdsC gs) hx (by rw [hdsC_length, hM]) (fun j u hu => ?_) (hdsC_one gs) (by omega) (by omega) h0 ?_
    · obtain ⟨b', off', e, hc⟩ := hX.cells hu
      cases e
      rw [Addr.add_lit]
      exact hc
    · intro v' w' hown' hg' _
      obtain ⟨bo, cap', rfl⟩ : ∃ bo cap', v' = .slice bo (N + M) cap' := by
        rcases hown'.2 with ⟨_, h1⟩ | ⟨g, cap, _, rfl, _⟩
        · omega
        · exact ⟨_, cap, rfl⟩
      have hcat : hdsC hs ++ hdsC gs = hdsC (hs ++ gs) := by simp [hdsC]
      rw [hcat] at hown'
      have hF : Fr (Value.slice so N c).ownBlock.toList w w' := Fr.grown (S := (Value.slice so N c).ownBlock.toList) hg' (fun y hy _ => Option.mem_toList.2 hy)
      have hall : ∀ y ∈ hs ++ gs, HEach w y ∧ HTy w y := fun y hy => by
        rcases List.mem_append.1 hy with h1 | h1
        · exact ⟨hK.each y h1, hK.ty y h1⟩
        · exact ⟨hX.each y h1, hT y h1⟩
      have hap : ∀ y ∈ hs ++ gs, ∀ j, VB y j → j ∉ (Value.slice so N c).ownBlock.toList := fun y hy j hj hm => by
        obtain ⟨c1, e1⟩ := (hall y hy).2 j hj
        obtain ⟨_, c2, e2⟩ := owns_cells hK.row (Option.mem_toList.1 hm)
        rw [e1] at e2
        simp only [Option.some.injEq, Obj.cells.injEq] at e2
        exact absurd e2.2.1 (by decide)
      exact h bo cap' w' ⟨by rw [hK.len, hM]; simp, hown', fun y hy => (hall y hy).1.keepS hF (hap y hy), fun y hy => (hall y hy).2.keepS hF (hap y hy)⟩ hF
theorem Tryz.undHdsE : Tryz.prog.underlying 22 = some (.slice (Tryz.prog.elem 22)) := by kernel_rfl
theorem Tryz.elemHds : Tryz.prog.elem 22 = 70 := by kernel_rfl
theorem Tryz.sizeOfHd (w : World) : (Go.sizeOf 70).run Tryz.prog w = .ok 2 w := by kernel_rfl
def fromH (ro : Option Addr) (rc K : Nat) : Option Addr := if rc = K then ro else ro.map (·.add (K * 2))
theorem slH_h (ro : Option Addr) (N rc i : Nat) (h1 : i ≤ rc) (w : World) : (Instr.sliceAt 22 (.slice ro N rc) none (some (.int .i64 (i : Int))) none).run Tryz.prog w = .ok (.slice ro i rc) w := by
  rw [run_sliceAt_slice w 22 _ _ _ _ Tryz.undHdsE, run_slice_h w 22 _ _ _ Tryz.undHdsE .i64 (i : Int) (by omega) (by omega), Tryz.elemHds, Tryz.sizeOfHd]
  cases ro <;> simp [Result.andThen, sliced, Addr.add]
theorem slH_l (ro : Option Addr) (N rc K : Nat) (h1 : K ≤ N) (w : World) : (Instr.sliceAt 22 (.slice ro N rc) (some (.int .i64 (K : Int))) none none).run Tryz.prog w = .ok (.slice (fromH ro rc K) (N - K) (rc - K)) w := by
  rw [run_sliceAt_slice w 22 _ _ _ _ Tryz.undHdsE, run_slice_l w 22 _ _ _ Tryz.undHdsE .i64 (K : Int) (by omega) (by omega), Tryz.elemHds, Tryz.sizeOfHd]
  simp [Result.andThen, sliced, fromH]
theorem HRs.take {w : World} {ao : Option Addr} {hs : List Hd} (h : HRs w ao hs) (i : Nat) : HRs w ao (hs.take i) := by
  refine ⟨fun h0 => ?_, Nat.le_trans (by simp; omega) h.few, fun x hx => h.each x (List.mem_of_mem_take hx)⟩
  rw [List.length_take] at h0
  obtain ⟨b, off, e, hb, hc⟩ := h.lies (by omega)
  refine ⟨b, off, e, hb, fun j hj => ?_⟩
  rw [List.length_take] at hj
  have e2 : (hs.take i).getD j Hd.zero = hs.getD j Hd.zero := by simp [List.getD, List.getElem?_take, show j < i by omega]
  rw [e2]
  exact hc j (by omega)
theorem HRs.from {w : World} {ao : Option Addr} {hs : List Hd} (h : HRs w ao hs) (rc i : Nat) (hi : i ≤ hs.length) (hrc : hs.length ≤ rc) : HRs w (fromH ao rc i) (hs.drop i) := by
  refine ⟨fun h0 => ?_, Nat.le_trans (by simp) h.few, fun x hx => h.each x (List.mem_of_mem_drop hx)⟩
  rw [List.length_drop] at h0
  obtain ⟨b, off, rfl, hb, hc⟩ := h.lies (by omega)
  refine ⟨b, off + i * 2, ?_, hb, fun j hj => ?_⟩
  · unfold fromH
    rw [if_neg (by omega)]
    simp [Addr.add_lit]
  · rw [List.length_drop] at hj
    have e2 : (hs.drop i).getD j Hd.zero = hs.getD (i + j) Hd.zero := by simp [List.getD]
    rw [e2]
    have h1 := hc (i + j) (by omega)
    rw [show off + i * 2 + j * 2 = off + (i + j) * 2 by omega]
    exact h1
end Go.Proofs.YtomajifklajilaaGreat

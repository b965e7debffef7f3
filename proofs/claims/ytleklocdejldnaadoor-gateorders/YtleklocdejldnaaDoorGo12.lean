/- The walk of the law GateOrders. Conditions: how its argument lies in memory. -/
import Derived.Test.YtleklocdejldnaaDoorGq12
import Derived.Deep.CutRange
namespace Go.Proofs.YtleklocdejldnaaDoor
open Go.ChangeShapes Go.WideShapes Go.ChangeAt Go.RowKit Go.Lib Go.Maps
set_option linter.unusedVariables false
set_option linter.unusedSimpArgs false

/-- What the law keeps: who is there, by the gate and by the row. -/
structure Osg (L i : Nat) (m : Int) (us : List Int) (rs : List Bool) : Prop where
  len : rs.length = L + 2
  z : rs.getD 0 false = false
  cnt : cf (fun j => rs.getD j false) (L + 1) + i = L + 1
  th : ∀ q : Nat, 1 ≤ q → q ≤ L → (rs.getD q false = true ↔ ((q : Int) ≤ m ∨ (q : Int) ∈ us))
  top : m ≤ L
  few : ∀ x ∈ us, x ≤ L
  ok : Gok m us
theorem ok0 : Gok 0 [] := ⟨⟨by omega, by omega, List.Pairwise.nil, by simp⟩, by simp⟩
theorem Osg.zero (L : Nat) : Osg L 0 0 [] (List.replicate (L + 2) false) := by
  have hg : ∀ j, (List.replicate (L + 2) false).getD j false = false := fun j => by
    by_cases h : j < L + 2
    · simp [List.getD, List.getElem?_replicate, h]
    · simp [List.getD, List.getElem?_replicate, h]
  refine ⟨by simp, hg 0, ?_, fun q h1 h2 => ?_, by omega, by simp, ok0⟩
  · rw [cf_congr (g := fun _ => false) (fun j _ => hg j), cf_none]
  · rw [hg]; simp; omega
theorem Osg.step {L i : Nat} {m up m' : Int} {us us' : List Int} {rs : List Bool} {q : Nat} (h : Osg L i m us rs) (h1 : 1 ≤ q) (h2 : q ≤ L) (hq : rs.getD q false = false) (hd : DoT m us (q : Int) up 0 m' us') : Osg L (i + 1) m' us' (rs.set q true) := by
  have hlen : q < rs.length := by rw [h.len]; omega
  have hth := (hd.there h.ok).2.2
  have hs : ∀ j, (rs.set q true).getD j false = if j = q then true else rs.getD j false := fun j => getD_setB rs q j hlen
  refine ⟨by simp [h.len], ?_, ?_, fun p p1 p2 => ?_, ?_, fun x hx => ?_, hd.ok⟩
  · rw [hs, if_neg (by omega)]; exact h.z
  · have := cf_set (f := fun j => rs.getD j false) (g := fun j => (rs.set q true).getD j false) (q := q) hq hs (p := L + 1) (by omega)
    have := h.cnt
    omega
  · rw [hs, hth]
    by_cases e : p = q
    · subst e; simp
    · rw [if_neg e, h.th p p1 p2]
      constructor
      · exact Or.inr
      · rintro (h3 | h3)
        · omega
        · exact h3
  · by_cases h0 : m' ≤ 0
    · omega
    · rcases (hth m').1 (Or.inl (Int.le_refl _)) with e | e | e
      · omega
      · have := h.top; omega
      · exact h.few _ e
  · rcases (hth x).1 (Or.inr hx) with e | e | e
    · omega
    · have := h.top; omega
    · exact h.few _ e
theorem Osg.gap {L i : Nat} {m : Int} {us : List Int} {rs : List Bool} (h : Osg L i m us rs) (h1 : m < L) : rs.getD (m.toNat + 1) false = false := by
  have h0 := h.ok.1.low
  cases hc : rs.getD (m.toNat + 1) false with
  | false => rfl
  | true =>
    rcases (h.th (m.toNat + 1) (by omega) (by omega)).1 hc with e | e
    · omega
    · rw [show ((m.toNat + 1 : Nat) : Int) = m + 1 by omega] at e
      exact absurd e h.ok.2
theorem Osg.full {L : Nat} {m : Int} {us : List Int} {rs : List Bool} (h : Osg L L m us rs) : m = L ∧ us = [] := by
  have hall := cf_all (f := fun j => rs.getD j false) (n := L) h.z (by have := h.cnt; omega)
  have hm : m = L := by
    have := h.top
    by_cases e : m < L
    · have h1 := h.gap e
      have h2 := hall (m.toNat + 1) (by omega) (by have := h.ok.1.low; omega)
      rw [show rs.getD (m.toNat + 1) false = true from h2] at h1
      cases h1
    · omega
  refine ⟨hm, ?_⟩
  cases us with
  | nil => rfl
  | cons x r =>
    have h1 := h.few x (by simp)
    have h2 := h.ok.1.bey x (by simp)
    omega
set_option maxHeartbeats 32000000 in
set_option maxRecDepth 100000 in
theorem gor (ao : Option Addr) (L cap : Nat) (xs : List Nat) (w : World) (hA : BArg w ao L cap xs) (hT : Tz w) :
    Calls Tryd.prog 4 #[.slice ao L cap] w fun e w' => e = .returned (.bool true) ∧ Fr [] w w' := by
  have HTz : Hid (∀ W, Fr [] w W → Tz W) := fun W hf => hT.keep hf (by simp)
  have HAl : Hid (∀ W, Fr [] w W → Calls Tryd.prog 21 #[] W fun e w' => e = .returned (.bool true) ∧ Fr [] w w') := fun W hf => (alive12_any W (hT.keep hf (by simp))).mono (fun e w' h => ⟨h.1, hf.then h.2⟩)
  have HA : Hid (BArg w ao L cap xs) := hA
  have hLm := hA.most
  clear hT hA
  by_cases hb1 : 120 < L
  · go_enter Tryd.func4, Tryd.ntmps4
    go_wp2_with fail
    refine Calls.mono (HAl.out _ (Fr.refl _ _)) ?_
    rintro e w1 ⟨rfl, hF1⟩
    go_wp2_with fail
    refine Calls.mono (HAl.out _ hF1) ?_
    rintro e w2 ⟨rfl, hF2⟩
    go_wp2
    go_ret
    exact ⟨rfl, hF2⟩
  have hL : L ≤ 120 := by omega
  clear hb1 hLm
  obtain ⟨iB, hiB, hzB, hszB, hbB⟩ := info_parts Tryd.infoBl
  go_enter Tryd.func4, Tryd.ntmps4
  go_wp2_with fail
  refine Calls.mono (HAl.out _ (Fr.refl _ _)) ?_
  rintro e w1 ⟨rfl, hF1⟩
  have q1 : decide ((120 : Int) < (L : Int)) = false := by simp; omega
  have HN : Hid (Calls _ _ _ _ _) := gg_new 0 none 0 0 [] w1 ⟨fun h => by simp at h, by simp⟩ rfl ok0
  have HF1 : Hid (Fr [] w w1) := hF1
  clear hF1 HAl
  go_wp2_with fail
  refine Calls.mono HN.out ?_
  rintro e w2 ⟨g, rfl, hg, hG2, hF2⟩
  have hgw : w.heap.size ≤ g := by have := HF1.out.size; omega
  have hg2 := hG2.lt
  have HG2 : Hid (GG w2 g 0 []) := hG2
  have HF2 : Hid (Fr [] w w2) := HF1.out.then hF2
  clear hG2 hF2 HF1 HN hg
  go_wp2_with (at_make; refine wpList_make_full _ rfl (.tmp 38) (.tmp 38) 59 rfl 0 4 iB _ 1 Tryd.undBools hiB hzB hszB .i64 .i64 ((L : Int) + 2) ((L : Int) + 2) (L + 2) rfl rfl (by omega) (by omega) ?b2 ?b3 ?b4 ?_)
  case b2 => rw [hbB]; omega
  case b3 => unfold maxLen; omega
  case b4 => exact Nat.zero_le _
  intro w3 hown hgrow
  rw [made_bools] at hown
  have hrow : BR w3 w2.heap.size (List.replicate (L + 2) false) := bools_full hown
  have hF3 : Fr [] w2 w3 := Fr.grown (S := []) hgrow (by simp)
  obtain ⟨t, ht⟩ : ∃ t, t = w2.heap.size := ⟨_, rfl⟩
  rw [← ht] at hrow ⊢
  have hgt : g ≠ t := by omega
  have htg : t ≠ g := by omega
  have htw : w.heap.size ≤ t := by rw [ht]; exact HF2.out.size
  have HG3 : Hid (GG w3 g 0 []) := HG2.out.keep hF3 (by simp)
  have HR3 : Hid (BR w3 t (List.replicate (L + 2) false)) := hrow
  have HF3 : Hid (Fr [] w w3) := HF2.out.then hF3
  clear hown hgrow hrow hF3 ht HG2 HF2 q1 hiB hzB hszB hbB hg2
  go_wp2_with fail
  go_loopw [7] (fun ii wr => ∃ (i : Nat) (m : Int) (us : List Int) (rs : List Bool), ii = .int .i64 i ∧ i ≤ L ∧ Hid (Osg L i m us rs) ∧ Hid (GG wr g m us) ∧ Hid (BR wr t rs) ∧ Hid (Fr [] w wr)) (fun ii _ => L - (RowKit.intOf ii).toNat)
  case atStart => exact ⟨0, 0, [], _, rfl, Nat.zero_le _, Osg.zero L, HG3, HR3, HF3⟩
  case round =>
    clear HG3 HR3 HF3
    obtain ⟨i, m, us, rs, rfl, hi1, HOs, HG, HR, HF⟩ := hrel
    by_cases hi : i < L
    · obtain ⟨b, off, rfl, hbl, hat⟩ := HA.out.lies (by omega)
      obtain ⟨x, hx⟩ : ∃ x : Nat, x = xs.getD i 0 := ⟨_, rfl⟩
      have c0 : wr.cell? ⟨b, off + i, none⟩ = some (.int .u8 (x : Int)) := by rw [hx]; exact (World.cell?_of_block (HF.out.block b hbl (by simp))).trans (hat i hi)
      have hx256 : x < 256 := by rw [hx]; exact HA.out.low _ (by have := HA.out.len; simp [List.getD]; rw [List.getElem?_eq_getElem (by omega)]; simp)
      clear hat hx
      obtain ⟨wo, hwo⟩ : ∃ wo, wo = wr := ⟨_, rfl⟩
      rw [← hwo] at HG HR HF c0 ⊢
      clear hwo
      have hdd : decide ((i : Int) < (L : Int)) = true := by simp; omega
      have hLi : (L : Int) - (i : Int) ≠ 0 := by omega
      obtain ⟨D, hD⟩ : ∃ D : Nat, D = L - i := ⟨_, rfl⟩
      have hDD : (L : Int) - (i : Int) = (D : Int) := by omega
      have hD0 : 0 < D := by omega
      have hDz : (D : Int) ≠ 0 := by omega
      have HD0 : Hid (D = L - i) := hD
      obtain ⟨K0, hK0⟩ : ∃ K0 : Nat, K0 = x % D := ⟨_, rfl⟩
      have hKD : K0 < D := by rw [hK0]; exact Nat.mod_lt _ hD0
      have hrem : (x : Int) % (D : Int) = (K0 : Int) := by rw [hK0]; omega
      have htm : Int.tmod (x : Int) (D : Int) = (K0 : Int) := by rw [Int.tmod_eq_emod_of_nonneg (by omega)]; exact hrem
      have HK00 : Hid (K0 = x % D) := hK0
      clear hD hK0
      go_wp2_with fail
      clear hdd hDD hLi hDz hrem htm c0
      have HK0 : Hid (K0 < L - i) := by show _ < _; have := HD0.out; omega
      have hKb : K0 < 256 := by rw [HK00.out]; exact Nat.lt_of_le_of_lt (Nat.mod_le _ _) hx256
      have HOl : Hid (rs.length = L + 2) := HOs.out.len
      clear HK00 HD0 hKD
      obtain ⟨f, hf⟩ : ∃ f : Nat → Bool, f = fun j => rs.getD j false := ⟨_, rfl⟩
      have HC : Hid (∀ W j, Fr [g] wo W → j < L + 2 → W.cell? ⟨t, j, none⟩ = some (.bool (f j))) := fun W j hfr hj => by rw [hf]; exact (HR.out.keep hfr (by simpa using htg)).cell j (by rw [HOl.out]; exact hj)
      have HFd : Hid (f = fun j => rs.getD j false) := hf
      have HCf : Hid (cf f (L + 1) + i = L + 1 ∧ f 0 = false) := by rw [hf]; exact ⟨HOs.out.cnt, HOs.out.z⟩
      clear hf
      go_loopw [8, 9] (fun kk nn wr => ∃ (k q : Nat), kk = .int .i64 k ∧ nn = .int .i64 q ∧ 1 ≤ q ∧ q ≤ L + 1 ∧ k ≤ 255 ∧ Hid (k + cf f q = K0 + 1) ∧ Hid (wo = wr)) (fun _ nn _ => L + 1 - (RowKit.intOf nn).toNat)
      case atStart => exact ⟨K0, 1, rfl, rfl, Nat.le_refl _, by omega, by omega, (by show _ = _; have := HCf.out.2; simp [cf, this]), rfl⟩
      case round =>
        obtain ⟨k, q, rfl, rfl, hq1, hq2, hk, HK, HWq⟩ := hrel
        obtain rfl := HWq.out
        clear HWq
        have hqL : q ≤ L := by
          apply Nat.le_of_not_lt
          intro h
          obtain rfl : q = L + 1 := by omega
          have := HK.out
          have := HCf.out.1
          have := HK0.out
          omega
        have c1 := HC.out wo q (Fr.refl _ _) (by omega)
        have HCs : Hid (cf f (q + 1) = cf f q + (if f q then 0 else 1)) := rfl
        have HQf : Hid (rs.getD q false = f q) := by rw [HFd.out]; rfl
        cases hfq : f q with
        | true =>
          rw [hfq] at c1 HCs HQf
          have HK2 : Hid (k + cf f (q + 1) = K0 + 1) := by show _ = _; have := HCs.out; have := HK.out; simp at *; omega
          clear hfq HCs HK
          go_wp2
          go_roundw
          case rel => exact ⟨k, q + 1, rfl, by simp, by omega, by omega, by omega, HK2, trivial⟩
          case measure => simp [RowKit.intOf]; omega
        | false =>
          rw [hfq] at c1 HCs HQf
          by_cases hk0 : 0 < k
          · have HK2 : Hid ((k - 1) + cf f (q + 1) = K0 + 1) := by show _ = _; have := HCs.out; have := HK.out; simp at *; omega
            have hkz : (0 : Int) < (k : Int) := by omega
            clear hfq HCs HK
            go_wp2
            go_roundw
            case rel => exact ⟨k - 1, q + 1, by congr 1; omega, by simp, by omega, by omega, by omega, HK2, trivial⟩
            case measure => simp [RowKit.intOf]; omega
          · obtain rfl : k = 0 := by omega
            have HQ : Hid (rs.getD q false = false) := HQf
            have hkz : decide ((0 : Int) < ((0 : Nat) : Int)) = false := by simp
            have hqn : ¬ ((q : Int) ≤ m ∨ (q : Int) ∈ us) := fun e => by
              have := (HOs.out.th q hq1 hqL).2 e
              rw [HQ.out] at this
              cases this
            obtain ⟨up, er, m2, us2, hd⟩ := DoT.ex m us (q : Int) HOs.out.ok
            have her : er = 0 := by
              rcases hd.or with ⟨h, _⟩ | ⟨_, _, h, _⟩
              · exact absurd ⟨by omega, by omega, hqn⟩ h
              · exact h
            subst her
            have HD : Hid (DoT m us (q : Int) up 0 m2 us2) := hd
            have hth := hd.there HOs.out.ok
            have hmm := hth.1
            have hup : up = m2 - m := hth.2.1
            have HO2 : Hid (Osg L (i + 1) m2 us2 (rs.set q true)) := HOs.out.step hq1 hqL HQ.out hd
            have hm0 := HOs.out.ok.1.low
            have hm2L : m2 ≤ L := HO2.out.top
            clear hfq HCs HK hd hth hqn HQf HCf HK0
            have HM : Hid (Calls _ _ _ _ _) := gg_mark HG.out
            go_wp2_with fail
            refine Calls.mono HM.out ?_
            rintro e w4 ⟨rfl, hF4⟩
            have HD4 : Hid (Calls _ _ _ _ _) := gg_done (HG.out.keep hF4 (by simp)) HD.out
            clear hkz HM c1
            go_wp2_with fail
            refine Calls.mono HD4.out ?_
            rintro e w5 ⟨rfl, hG5, hF5⟩
            have hR5 : BR w5 t rs := (HR.out.keep hF4 (by simp)).keep hF5 (by simpa using htg)
            have c5 := hR5.cell q (by rw [HOl.out]; omega)
            have f5 := hR5.free q
            have hR6 := hR5.put q true
            have hF6 : Fr [t] w5 (w5.setCell ⟨t, q, none⟩ (.bool true)) := Fr.set _ _ _ (by simp)
            obtain ⟨w6, HW6⟩ : ∃ w6, Hid (w5.setCell ⟨t, q, none⟩ (.bool true) = w6) := ⟨_, rfl⟩
            rw [HW6.out] at hR6 hF6
            have HR6 : Hid (BR w6 t (rs.set q true)) := hR6
            have HG6 : Hid (GG w6 g m2 us2) := hG5.keep hF6 (by simpa using hgt)
            have HF6 : Hid (Fr [] w w6) := ((HF.out.then hF4).on hF5 (by simpa using hgw)).on hF6 (by simpa using htw)
            clear hG5 hF5 hR5 hR6 hF6 hF4 HD4 HD HR HG HF HC
            obtain ⟨ss, hss⟩ : ∃ ss, ss = rs.set q true := ⟨_, rfl⟩
            rw [← hss] at HO2 HR6
            clear hss HOs HOl HFd
            have HSl : Hid (ss.length = L + 2) := HO2.out.len
            have HC6 : Hid (∀ W j, Fr [] w6 W → j < L + 2 → W.cell? ⟨t, j, none⟩ = some (.bool (ss.getD j false))) := fun W j hfr hj => (HR6.out.keep hfr (by simp)).cell j (by rw [HSl.out]; exact hj)
            have hcv : decide (((q : Int)) < ((L + 2 : Nat) : Int)) = true := by simp; omega
            go_wp2_with fail
            rw [HW6.out]
            clear hcv c5 f5
            go_loopw [13] (fun kk wr => ∃ (k : Nat), kk = .int .i64 k ∧ (k : Int) ≤ m2 ∧ Hid (w6 = wr)) (fun kk _ => L - (RowKit.intOf kk).toNat)
            case atStart => exact ⟨0, rfl, by omega, rfl⟩
            case round =>
              obtain ⟨k, rfl, hkm, HWq⟩ := hrel
              obtain rfl := HWq.out
              clear HWq
              by_cases hk2 : (k : Int) < m2
              · have c7 := HC6.out w6 (k + 1) (Fr.refl _ _) (by omega)
                rw [(HO2.out.th (k + 1) (by omega) (by omega)).2 (Or.inl (by omega))] at c7
                have hkL : (k : Int) < (L : Int) := by omega
                go_wp2
                go_roundw
                case rel => exact ⟨k + 1, by simp, by omega, trivial⟩
                case measure => simp [RowKit.intOf]; omega
              have hke : (k : Int) = m2 := by omega
              subst hke
              go_upto_region 21 with fail
              go_cut [91] from 82 to 93 (fun v wx => v = .bool false ∧ Hid (w6 = wx))
              case first =>
                by_cases hkL : (k : Int) < (L : Int)
                · have c7 := HC6.out w6 (k + 1) (Fr.refl _ _) (by omega)
                  have hgap := HO2.out.gap (by omega)
                  rw [show ((k : Int)).toNat = k by omega] at hgap
                  rw [hgap] at c7
                  clear hgap hk2 hkm
                  go_wp2
                  go_meet
                  case rel => exact ⟨rfl, rfl⟩
                · clear hk2 hkm
                  go_wp2
                  go_meet
                  case rel => exact ⟨rfl, rfl⟩
              case rest =>
                obtain ⟨rfl, HWq⟩ := hcut
                obtain rfl := HWq.out
                clear HWq hk2 hkm
                obtain ⟨m2, hm2⟩ : ∃ m2 : Int, m2 = (k : Int) := ⟨_, rfl⟩
                rw [← hm2] at HO2 HG6 hup hmm hm2L ⊢
                clear hm2
                have HM7 : Hid (Calls _ _ _ _ _) := gg_mark HG6.out
                have q3 : (m2 != m2) = false := by simp
                have q4 : (up != m2 - m) = false := by rw [hup]; simp
                have q5 : decide (up < 0) = false := by simp; omega
                have HUp : Hid (up = m2 - m) := hup
                have hm2z : 0 ≤ m2 := by omega
                clear hup
                go_wp2_with fail
                refine Calls.mono HM7.out ?_
                rintro e w7 ⟨rfl, hF7⟩
                have HBy : Hid (Calls _ _ _ _ _) := gg_beyond (HG6.out.keep hF7 (by simp)) (HTz.out _ (HF6.out.then hF7))
                clear HM7
                go_wp2_with fail
                refine Calls.mono HBy.out ?_
                rintro e w8 ⟨o, N, c, rfl, hO8, hF8⟩
                have hF8 := hF7.then hF8
                have HN8 : Hid (N = us2.length) := hO8.len
                have hN8 : N ≤ 65536 := by rw [hO8.len]; exact HO2.out.ok.1.few
                have HO8 : Hid (∀ W, Fr [] w8 W → IOw w7.heap.size W o N c us2) := fun W hf => hO8.keep hf
                have HF8 : Hid (Fr [] w6 w8) := hF8
                have HG8 : Hid (∀ W, Fr [] w8 W → GG W g m2 us2) := fun W hf => HG6.out.keep (HF8.out.then hf) (by simp)
                have HC8 : Hid (∀ W j, Fr [] w8 W → j < L + 2 → W.cell? ⟨t, j, none⟩ = some (.bool (ss.getD j false))) := fun W j hf hj => HC6.out W j (HF8.out.then hf) hj
                have HR8 : Hid (∀ W, Fr [] w8 W → BR W t ss) := fun W hf => HR6.out.keep (HF8.out.then hf) (by simp)
                have HFw : Hid (Fr [] w w8) := HF6.out.then hF8
                clear HBy hO8 hF7 hF8 HG6 HC6 HR6 HF6 HF8 q3 q4 q5
                go_wp2_with fail
                go_loopw [15, 16] (fun ll qq wr => ∃ (q : Nat) (la : Int), ll = .int .i64 la ∧ qq = .int .i64 q ∧ q ≤ N ∧ Hid (∀ j, q ≤ j → j < us2.length → la < us2.getD j 0) ∧ Hid (w8 = wr)) (fun _ qq _ => N - (RowKit.intOf qq).toNat)
                case atStart => exact ⟨0, m2, rfl, rfl, Nat.zero_le _, (fun j _ hj => (HO2.out.ok.1.bey _ (by simp [List.getD, hj])).1 : ∀ j, 0 ≤ j → j < us2.length → m2 < us2.getD j 0), rfl⟩
                case round =>
                  obtain ⟨p, la, rfl, rfl, hp, HLa, HWq⟩ := hrel
                  obtain rfl := HWq.out
                  clear HWq
                  by_cases hp2 : p < N
                  · have hpl : p < us2.length := by rw [← HN8.out]; exact hp2
                    obtain ⟨gb, rfl, _, c8⟩ := (HO8.out _ (Fr.refl _ _)).at p hpl
                    have hmem : us2.getD p 0 ∈ us2 := by simp [List.getD, hpl]
                    have hb1 := HO2.out.ok.1.bey _ hmem
                    have hb2 := HO2.out.few _ hmem
                    have hb3 := HLa.out p (Nat.le_refl _) hpl
                    have HLa2 : Hid (∀ j, p + 1 ≤ j → j < us2.length → us2.getD p 0 < us2.getD j 0) := by
                      intro j h1 h2
                      have := List.pairwise_iff_getElem.1 HO2.out.ok.1.ris p j hpl h2 (by omega)
                      simpa [List.getD, hpl, h2] using this
                    obtain ⟨Y, hY⟩ : ∃ Y : Nat, us2.getD p 0 = (Y : Int) := ⟨(us2.getD p 0).toNat, by omega⟩
                    rw [hY] at c8 hmem hb1 hb2 hb3 HLa2
                    have ct := HC8.out w8 Y (Fr.refl _ _) (by omega)
                    rw [(HO2.out.th Y (by omega) (by omega)).2 (Or.inr hmem)] at ct
                    have hnl : ¬ (Y : Int) ≤ la := by omega
                    have hnL : ¬ (L : Int) < (Y : Int) := by omega
                    clear hY hmem hb1 hb3 HLa hpl
                    go_wp2
                    go_roundw
                    case rel => exact ⟨p + 1, (Y : Int), rfl, by simp, by omega, HLa2, trivial⟩
                    case measure => simp [RowKit.intOf]; omega
                  · clear HLa
                    have hpp : ¬ (p : Int) < (N : Int) := by omega
                    go_wp2_with fail
                    clear hpp hp2 hp
                    go_loopw [17, 18] (fun cc qq wr => ∃ (k q : Nat), cc = .int .i64 k ∧ qq = .int .i64 q ∧ 1 ≤ q ∧ q ≤ L + 1 ∧ k ≤ q ∧ Hid ((upTo us2 ((q : Int) - 1)).length = k) ∧ Hid (Fr [] w8 wr)) (fun _ qq _ => L + 1 - (RowKit.intOf qq).toNat)
                    case atStart => exact ⟨0, 1, rfl, rfl, Nat.le_refl _, by omega, by omega, (by show _ = _; rw [upTo_none (fun x hx => by have := HO2.out.ok.1.bey x hx; omega)]; rfl), Fr.refl _ _⟩
                    case round =>
                      obtain ⟨k, q, rfl, rfl, hq1, hq2, hkq, HU, HF9⟩ := hrel
                      by_cases hqL : q ≤ L
                      · have hqi : (q : Int) ≤ (L : Int) := by omega
                        have ct := HC8.out wr q HF9.out (by omega)
                        have hth := HO2.out.th q hq1 hqL
                        cases hb : ss.getD q false with
                        | true =>
                          rw [hb] at ct hth
                          have HHq : Hid (∀ n, Calls Tryd.prog 22 #[.pointer (some ⟨g, 0, none⟩), .int .i64 (q : Int)] (wr.drewN n) fun e w' => e = .returned (.bool true) ∧ ∃ k, w' = wr.drewN k) := fun n => gg_hasq (HG8.out _ HF9.out) (q : Int) true ⟨fun _ => ⟨by omega, hth.1 rfl⟩, fun _ => rfl⟩ n
                          by_cases hmq : m2 < (q : Int)
                          · have hqm : (q : Int) ∈ us2 := (hth.1 rfl).resolve_left (by omega)
                            have HU2 : Hid ((upTo us2 (((q + 1 : Nat) : Int) - 1)).length = k + 1) := by
                              show _ = _
                              rw [show ((q + 1 : Nat) : Int) - 1 = (q : Int) by omega, upTo_snoc HO2.out.ok.1.ris (a := (q : Int) - 1) hqm (by omega) (by omega) (fun x _ h1 h2 => by omega), List.length_append, HU.out]
                              rfl
                            clear hth hqm hb
                            go_wp2_with fail
                            go_quiet ((go_at_call 22; exact HHq.out _))
                            have HF10 : Hid (Fr [] w8 (wr.drewN nq)) := HF9.out.then (Fr.drewN _ _ _)
                            go_wp2
                            go_roundw
                            case rel => exact ⟨k + 1, q + 1, by simp, by simp, by omega, by omega, by omega, HU2, HF10⟩
                            case measure => simp [RowKit.intOf]; omega
                          · have HU2 : Hid ((upTo us2 (((q + 1 : Nat) : Int) - 1)).length = k) := by
                              show _ = _
                              rw [show ((q + 1 : Nat) : Int) - 1 = (q : Int) by omega, upTo_same (a := (q : Int) - 1) (by omega) (fun x hx h1 h2 => by have := HO2.out.ok.1.bey x hx; omega), HU.out]
                            clear hth hb
                            go_wp2_with fail
                            go_quiet ((go_at_call 22; exact HHq.out _))
                            have HF10 : Hid (Fr [] w8 (wr.drewN nq)) := HF9.out.then (Fr.drewN _ _ _)
                            go_wp2
                            go_roundw
                            case rel => exact ⟨k, q + 1, rfl, by simp, by omega, by omega, by omega, HU2, HF10⟩
                            case measure => simp [RowKit.intOf]; omega
                        | false =>
                          rw [hb] at ct hth
                          have hno : ¬ ((q : Int) ≤ m2 ∨ (q : Int) ∈ us2) := fun e => by have := hth.2 e; cases this
                          have HHq : Hid (∀ n, Calls Tryd.prog 22 #[.pointer (some ⟨g, 0, none⟩), .int .i64 (q : Int)] (wr.drewN n) fun e w' => e = .returned (.bool false) ∧ ∃ k, w' = wr.drewN k) := fun n => gg_hasq (HG8.out _ HF9.out) (q : Int) false ⟨fun e => (by cases e), fun e => absurd e.2 hno⟩ n
                          have HU2 : Hid ((upTo us2 (((q + 1 : Nat) : Int) - 1)).length = k) := by
                            show _ = _
                            rw [show ((q + 1 : Nat) : Int) - 1 = (q : Int) by omega, upTo_same (a := (q : Int) - 1) (by omega) (fun x hx h1 h2 => by
                              obtain rfl : x = (q : Int) := by omega
                              exact hno (Or.inr hx)), HU.out]
                          clear hth hb hno
                          go_wp2_with fail
                          go_quiet ((go_at_call 22; exact HHq.out _))
                          have HF10 : Hid (Fr [] w8 (wr.drewN nq)) := HF9.out.then (Fr.drewN _ _ _)
                          go_wp2
                          go_roundw
                          case rel => exact ⟨k, q + 1, rfl, by simp, by omega, by omega, by omega, HU2, HF10⟩
                          case measure => simp [RowKit.intOf]; omega
                      · have hkN : k = N := by
                          have := HU.out
                          rw [upTo_all (fun x hx => by have := HO2.out.few x hx; omega)] at this
                          rw [← this, HN8.out]
                        subst hkN
                        have hqi : ¬ (q : Int) ≤ (L : Int) := by omega
                        have HM9 : Hid (Calls _ _ _ _ _) := gg_mark (HG8.out _ HF9.out)
                        clear hqL HU hkq
                        go_wp2_with fail
                        refine Calls.mono HM9.out ?_
                        rintro e x1 ⟨rfl, hX1⟩
                        have hX1 := HF9.out.then hX1
                        have HN1 : Hid (Calls _ _ _ _ _) := gg_new m2 o k c us2 x1 ((HO8.out _ hX1).rs (by omega)) HN8.out HO2.out.ok
                        clear HM9
                        go_wp2_with fail
                        refine Calls.mono HN1.out ?_
                        rintro e x2 ⟨h, rfl, hh, hH2, hX2⟩
                        have hX2 := hX1.then hX2
                        have HH2 : Hid (∀ W, Fr [] x2 W → GG W h m2 us2) := fun W hf => hH2.keep hf (by simp)
                        have HX2 : Hid (Fr [] w8 x2) := hX2
                        have HHa : Hid (Calls _ _ _ _ _) := gg_has (HG8.out _ hX2) (m2 + 1) false ⟨fun e => (by cases e), fun e => absurd e.2 (by
                          rintro (e | e)
                          · omega
                          · exact HO2.out.ok.2 e)⟩
                        have q6 : ((k : Int) != (k : Int)) = false := by simp
                        have q7 : (m2 != m2) = false := by simp
                        clear hX1 hX2 hH2 hh HN1 HF9
                        go_wp2_with fail
                        refine Calls.mono HHa.out ?_
                        rintro e x3 ⟨rfl, hX3⟩
                        go_wp2_with fail
                        refine Calls.mono (gg_mark (HH2.out _ hX3)) ?_
                        rintro e x4 ⟨rfl, hX4⟩
                        have hX4 := hX3.then hX4
                        go_wp2_with fail
                        refine Calls.mono (gg_beyond (HH2.out _ hX4) (HTz.out _ (HFw.out.then (HX2.out.then hX4)))) ?_
                        rintro e x5 ⟨o5, N5, c5, rfl, hO5, hX5⟩
                        have hX5 := hX4.then hX5
                        obtain rfl : N5 = k := by have := hO5.len; have := HN8.out; omega
                        have HS : Hid (Calls _ _ _ _ _) := same12 o5 o N5 c5 c us2 x5 (hO5.rs (by omega)) ((HO8.out _ (HX2.out.then hX5)).rs (by omega)) hO5.len (by omega)
                        clear hO5 hX3 hX4 HHa
                        go_wp2_with fail
                        refine Calls.mono HS.out ?_
                        rintro e x6 ⟨rfl, hX6⟩
                        have hX6 := HX2.out.then (hX5.then hX6)
                        have HG9 : Hid (GG x6 g m2 us2) := HG8.out _ hX6
                        have HR9 : Hid (BR x6 t ss) := HR8.out _ hX6
                        have HF9 : Hid (Fr [] w x6) := HFw.out.then hX6
                        clear hX5 hX6 HS HX2 HG8 HR8 HFw HC8 HO8 HH2 q6 q7
                        go_wp2
                        go_roundw
                        case rel => exact ⟨i + 1, m2, us2, ss, by simp, by omega, HO2, HG9, HR9, HF9⟩
                        case measure => simp [RowKit.intOf]; omega
    · obtain rfl : i = L := by omega
      obtain ⟨rfl, rfl⟩ := HOs.out.full
      have HM9 : Hid (Calls _ _ _ _ _) := gg_mark HG.out
      clear hi hi1
      go_wp2_with fail
      refine Calls.mono HM9.out ?_
      rintro e x1 ⟨rfl, hX1⟩
      have HBy : Hid (Calls _ _ _ _ _) := gg_beyond (HG.out.keep hX1 (by simp)) (HTz.out _ (HF.out.then hX1))
      have HF1 : Hid (Fr [] w x1) := HF.out.then hX1
      clear HM9 hX1
      have q6 : ((i : Int) == (i : Int)) = true := by simp
      go_wp2_with fail
      refine Calls.mono HBy.out ?_
      rintro e x2 ⟨o, N, c, rfl, hO, hX2⟩
      obtain rfl : N = 0 := hO.len
      clear hO HBy
      go_wp2
      go_ret
      exact ⟨rfl, HF1.out.then hX2⟩
end Go.Proofs.YtleklocdejldnaaDoor

/- Texts of this claim laid together, one behind the other: contracts and plain lemmas; conditions as each names them. -/
import Derived.Test.YtomajifklajilaaGreatGp42
import Derived.Test.YtomajifklajilaaGreatGp39
import Derived.Test.YtomajifklajilaaGreatGp32
/- The document's shard: a key's versions are written; contract of Collect. Conditions as each names them. -/
namespace Go.Proofs.YtomajifklajilaaGreat
open Go.ChangeShapes Go.WideShapes Go.ChangeAt Go.RowKit Go.Lib Go.Maps
set_option linter.unusedVariables false
set_option linter.unusedSimpArgs false

theorem krow_setCell {w : World} {b j : Nat} {cs : Array Value} {t : TypeId} (x : Value) (h : w.heap[b]? = some (.cells cs t (0, 0))) : (w.setCell ⟨b, j, none⟩ x).heap[b]? = some (.cells (cs.setIfInBounds j x) t (0, 0)) := by
  have hlt := lt_of_block h
  have h' : w.heap[b] = .cells cs t (0, 0) := by simpa [Array.getElem?_eq_getElem hlt] using h
  show (w.heap.modify b _)[b]? = _
  rw [Array.getElem?_eq_getElem (by simpa using hlt), Array.getElem_modify_self, h']
  rfl
theorem kfrz {w : World} {b : Nat} {cur : Array Value} {t : TypeId} (h : w.heap[b]? = some (.cells cur t (0, 0))) (i : Nat) : w.frozen? ⟨b, i, none⟩ = false := by
  unfold World.frozen?
  simp [h]
theorem hdsC_set : ∀ (hs : List Hd) (i : Nat) (x : Hd), i < hs.length → x.key = (hs.getD i Hd.zero).key → (hdsC hs).set (i * 2 + 1) (.slice x.vo x.L x.cap) = hdsC (hs.set i x)
  | [], i, x, h, _ => by simp at h
  | p :: ps, 0, x, _, hk => by
    have hk' : x.key = p.key := by simpa [List.getD] using hk
    simp [hdsC, hdC, hk']
  | p :: ps, i + 1, x, h, hk => by
    have ih := hdsC_set ps i x (by simpa using h) (by simpa [List.getD] using hk)
    have e : hdsC (p :: ps) = .string p.key :: .slice p.vo p.L p.cap :: hdsC ps := by simp [hdsC, hdC]
    have e2 : hdsC ((p :: ps).set (i + 1) x) = .string p.key :: .slice p.vo p.L p.cap :: hdsC (ps.set i x) := by simp [hdsC, hdC]
    rw [e, e2, ← ih, show (i + 1) * 2 + 1 = (i * 2 + 1) + 1 + 1 by omega]
    rfl
/-- Where the versions lie is new, or lay there. -/
def KNw (w : World) (hs gs : List Hd) : Prop := ∀ x ∈ gs, ∀ j, VB x j → w.heap.size ≤ j ∨ ∃ y ∈ hs, VB y j
theorem KNw.refl (w : World) (hs : List Hd) : KNw w hs hs := fun x hx j hj => Or.inr ⟨x, hx, hj⟩
section
variable {w0 w : World} {g N lc : Nat} {lo : Option Addr} {hs : List Hd}
theorem KSh.lies (h : KSh w0 w g N lc lo hs) (h0 : 0 < N) : ∃ b cur, lo = some ⟨b, 0, none⟩ ∧ w.heap[b]? = some (.cells cur 70 (0, 0)) ∧ b ≠ g := by
  rcases h.log.row.2 with ⟨_, h1⟩ | ⟨b, cap, cur, hv, _, hg, _⟩
  · omega
  · cases hv
    refine ⟨b, cur, rfl, hg, fun e => ?_⟩
    have := h.box
    rw [← e, hg] at this
    simp only [Option.some.injEq, Obj.cells.injEq] at this
    exact absurd this.2.1 (by decide)
theorem KSh.setV {b : Nat} (h : KSh w0 w g N lc (some ⟨b, 0, none⟩) hs) {i : Nat} {x : Hd} (hi : i < N) (hk : x.key = (hs.getD i Hd.zero).key) (hE : HEach w x) (hT : HTy w x) (hok : LoOk (hs.set i x)) :
    KSh w0 (w.setCell ⟨b, i * 2 + 1, none⟩ (.slice x.vo x.L x.cap)) g N lc (some ⟨b, 0, none⟩) (hs.set i x) ∧ Fr [b] w (w.setCell ⟨b, i * 2 + 1, none⟩ (.slice x.vo x.L x.cap)) := by
  have hF : Fr [b] w (w.setCell ⟨b, i * 2 + 1, none⟩ (.slice x.vo x.L x.cap)) := Fr.set _ _ _ (by simp)
  obtain ⟨b', cur0, e0, hg0, hne⟩ := h.lies (by omega)
  cases e0
  have hall : ∀ y ∈ hs.set i x, HEach w y ∧ HTy w y := fun y hy => by
    rcases List.mem_or_eq_of_mem_set hy with h1 | h1
    · exact ⟨h.log.each y h1, h.log.ty y h1⟩
    · rw [h1]; exact ⟨hE, hT⟩
  have hap : ∀ y ∈ hs.set i x, ∀ j, VB y j → j ∉ [b] := fun y hy j hj hm => by
    obtain ⟨c1, e1⟩ := (hall y hy).2 j hj
    simp at hm
    rw [hm, hg0] at e1
    simp only [Option.some.injEq, Obj.cells.injEq] at e1
    exact absurd e1.2.1 (by decide)
  refine ⟨⟨hF.keep h.box (by simpa using hne.symm), ⟨by rw [List.length_set]; exact h.log.len, ⟨by rw [hdsC_length, List.length_set, ← h.log.len], ?_⟩, fun y hy => (hall y hy).1.keepS hF (hap y hy), fun y hy => (hall y hy).2.keepS hF (hap y hy)⟩, hok, h.few, h.gn⟩, hF⟩
  rcases h.log.row.2 with ⟨hh, _⟩ | ⟨b', cap, cur, hv, h0, hg, h1, h2, h3, ht⟩
  · cases hh
  · cases hv
    refine .inr ⟨b, lc, cur.setIfInBounds (i * 2 + 1) (.slice x.vo x.L x.cap), rfl, h0, krow_setCell _ hg, h1, h2, by simpa using h3, ?_⟩
    rw [Array.toList_setIfInBounds, List.take_set, ht]
    exact hdsC_set hs i x (by rw [← h.log.len]; exact hi) hk
theorem goH_le (hs : List Hd) (k : Int) (h : ∀ x ∈ hs, x.vs ≠ []) : goH hs k ≤ szH hs := by
  induction hs with
  | nil => simp [goH, szH]
  | cons a r ih =>
    have h1 := ih (fun x hx => h x (List.mem_cons_of_mem _ hx))
    have h2 := colN_lt k (h a (by simp))
    simp only [goH, szH, List.map_cons, List.sum_cons] at h1 ⊢
    omega
set_option maxHeartbeats 4000000 in
set_option maxRecDepth 100000 in
theorem kcollect_any (h : KSh w0 w g N lc lo hs) (k : Int) : Calls Tryz.prog 37 #[.pointer (some ⟨g, 0, none⟩), .int .i64 k] w fun e w' => ∃ gs, e = .returned (.int .i64 (goH hs k : Int)) ∧ KSh w0 w' g N lc lo gs ∧ ColI hs gs k hs.length ∧ KNw w hs gs ∧ Fr (Value.slice lo N lc).ownBlock.toList w w' := by
  have HK : Hid (KSh w0 w g N lc lo hs) := h
  have HN : Hid (N = hs.length) := h.log.len
  have hfew := h.few
  have HB : Hid (∀ i, goH (hs.take i) k ≤ 1152921504606846976) := fun i => by
    have h0 := goH_le (hs.take i) k (fun x hx => (h.ok.2 x (List.mem_of_mem_take hx)).2.1)
    have h1 := szH_le (hs.take i) (fun x hx => okV_few (h.ok.2 x (List.mem_of_mem_take hx)).2.2)
    have h2 : (hs.take i).length ≤ 3518437208882 := by rw [List.length_take]; have := h.log.len; omega
    omega
  obtain ⟨S, HS⟩ : ∃ S, Hid (S = (Value.slice lo N lc).ownBlock.toList) := ⟨_, rfl⟩
  rw [← HS.out]
  have c0 := h.c0
  clear h
  go_enter Tryz.func37, Tryz.ntmps37
  go_wp2_with fail
  go_loopw [5, 6] (fun nn ii wr => ∃ (i n : Nat) (gs : List Hd), nn = .int .i64 n ∧ ii = .int .i64 i ∧ i ≤ N ∧ Hid (n = goH (hs.take i) k) ∧ Hid (KSh w0 wr g N lc lo gs) ∧ Hid (ColI hs gs k i) ∧ Hid (KNw w hs gs) ∧ Fr S w wr) (fun _ ii _ => N - (RowKit.intOf ii).toNat)
  case atStart => exact ⟨0, 0, hs, rfl, rfl, Nat.zero_le _, rfl, HK, ColI.refl _ _, KNw.refl _ _, Fr.refl _ _⟩
  case round =>
    clear c0
    obtain ⟨i, n, gs, rfl, rfl, hiN, HS1, HKr, HCo, HNw, hFr⟩ := hrel
    have c0 := HKr.out.c0
    by_cases hi : i < N
    · have hi' : i < hs.length := by rw [← HN.out]; exact hi
      obtain ⟨b, cur, e9, hcur, hbg⟩ := HKr.out.lies (by omega)
      have HSb : Hid (S = [b]) := by show _ = _; rw [HS.out, e9]; rfl
      have HcF : Hid (∃ cur, wr.heap[b]? = some (.cells cur 70 (0, 0))) := ⟨cur, hcur⟩
      clear hcur
      subst e9
      have hR := HKr.out.rs
      have hgl : i < gs.length := by rw [HCo.out.len]; exact hi'
      obtain ⟨b2, off, e8, hbl, hc⟩ := hR.lies (by omega)
      cases e8
      obtain ⟨d0, d1⟩ := hc i hgl
      rw [Nat.zero_add] at d0 d1
      have hE := hR.each _ (hgetD_mem gs i hgl)
      have HGm : Hid (gs.getD i Hd.zero ∈ gs) := hgetD_mem gs i hgl
      have HGe : Hid (gs.getD i Hd.zero = hs.getD i Hd.zero) := HCo.out.rest i (Nat.le_refl _) hi'
      have HOk : Hid (okH (hs.getD i Hd.zero)) := HK.out.ok.2 _ (hgetD_mem hs i hi')
      have HTy0 : Hid (HTy wr (gs.getD i Hd.zero)) := HKr.out.log.ty _ (hgetD_mem gs i hgl)
      have HHm : Hid (hs.getD i Hd.zero ∈ hs) := hgetD_mem hs i hi'
      have HT : Hid (goH (hs.take (i + 1)) k = goH (hs.take i) k + colN (hs.getD i Hd.zero).vs k) := by show _ = _; rw [htake_snoc hs i hi', goH_snoc]
      have hb2 := HB.out (i + 1)
      rw [HT.out, ← HS1.out] at hb2
      obtain ⟨x, hx⟩ : ∃ x, x = gs.getD i Hd.zero := ⟨_, rfl⟩
      rw [← HGe.out] at HOk HT hb2
      rw [← hx] at d0 d1 hE HOk HT hb2 HTy0
      have HX : Hid (x = gs.getD i Hd.zero) := hx
      clear hc hx hR
      obtain ⟨key, vo, M, cm, vs⟩ := x
      simp only at d0 d1 hb2
      have HM2 : Hid (M = vs.length) := hE.len
      have HV : Hid (VRs wr vo vs) := hE.rs
      have HKz : Hid (key.size ≤ 140737488355328) := hE.k
      have HCp : Hid (M ≤ cm) := hE.cp
      clear hE
      go_wp2_with fail
      refine (ucollect_any vo M cm k vs wr HV.out HM2.out HCp.out).mono ?_
      rintro e w4 ⟨uo, U, uc, us, m, cc, rfl, hD, hUl, hUr, hF4, hNr⟩
      have hcol : us = colV vs k ∧ m = colN vs k := by
        rcases hD with ⟨_, hno, _⟩ | ⟨_, _, d, hd, hm, hu⟩
        · exact absurd HOk.out.2.2 hno
        · have e := colN_upTo hd
          exact ⟨by rw [hu, hm, ← e]; rfl, by rw [hm, e]⟩
      have HUs : Hid (us = colV vs k) := hcol.1
      obtain rfl : m = colN vs k := hcol.2
      have hKr4 := HKr.out.keep hF4
      have e0 := hKr4.c0
      obtain ⟨cur4, hcur4⟩ := HcF.out
      have hcu4 : w4.heap[b]? = some (.cells cur4 70 (0, 0)) := hF4.keep hcur4 (by simp)
      have hfz : w4.frozen? ⟨b, i * 2 + 1, none⟩ = false := kfrz hcu4 _
      have e1 : w4.cell? ⟨b, i * 2 + 1, none⟩ = some (.slice vo M cm) := (World.cell?_of_block (hF4.block b hbl (by simp))).trans d1
      have hOn : okH ⟨key, uo, U, uc, us⟩ := ⟨HOk.out.1, by show us ≠ []; rw [HUs.out]; exact (colV_ne k).2 HOk.out.2.1, by show okV us; rw [HUs.out]; exact colV_ok HOk.out.2.2 k⟩
      have hkk : key = (gs.getD i Hd.zero).key := by rw [← HX.out]
      have hTn : HTy w4 ⟨key, uo, U, uc, us⟩ := fun j hj => by
        obtain ⟨_, a, ea, rfl⟩ := hj
        rcases hNr.2 a ea with h1 | ⟨c, h1, h2⟩
        · exact h1.2
        · obtain ⟨cu, hcu⟩ := HTy0.out a.block ⟨List.length_pos_iff.2 HOk.out.2.1, c, h1, h2⟩
          exact ⟨cu, hF4.keep hcu (by simp)⟩
      have hst := hKr4.setV (x := ⟨key, uo, U, uc, us⟩) hi hkk ⟨HKz.out, hUl, hNr.1, hUr⟩ hTn (HKr.out.ok.set hgl hkk hOn).1
      have HSt : Hid (KSh w0 (w4.setCell ⟨b, i * 2 + 1, none⟩ (.slice uo U uc)) g N lc (some ⟨b, 0, none⟩) (gs.set i ⟨key, uo, U, uc, us⟩)) := hst.1
      have HFs : Hid (Fr S w (w4.setCell ⟨b, i * 2 + 1, none⟩ (.slice uo U uc))) := (hFr.then (hF4.mono (by simp))).then (by rw [HSb.out]; exact hst.2)
      have HC2 : Hid (ColI hs (gs.set i ⟨key, uo, U, uc, us⟩) k (i + 1)) := HCo.out.next hi' _ (by show key = _; rw [hkk, HGe.out]) (by show us = _; rw [HUs.out, ← HGe.out, ← HX.out])
      have HN2 : Hid (KNw w hs (gs.set i ⟨key, uo, U, uc, us⟩)) := fun y hy j hj => by
        rcases List.mem_or_eq_of_mem_set hy with h1 | h1
        · exact HNw.out y h1 j hj
        · subst h1
          obtain ⟨_, a, ea, rfl⟩ := hj
          rcases hNr.2 a ea with h1 | ⟨c, h1, h2⟩
          · exact Or.inl (Nat.le_trans hFr.size h1.1)
          · exact HNw.out _ HGm.out _ (by rw [← HX.out]; exact ⟨List.length_pos_iff.2 HOk.out.2.1, c, h1, h2⟩)
      have HS2 : Hid (n + colN vs k = goH (hs.take (i + 1)) k) := by show _ = _; rw [HT.out, ← HS1.out]
      obtain ⟨cn, hcn⟩ : ∃ cn, cn = colN vs k := ⟨_, rfl⟩
      rw [← hcn] at hb2 HS2 ⊢
      clear hD hUl hUr hNr hF4 hcol hKr4 hcur4 hcu4 hOn hkk hTn hst hFr HCo HNw HS1 HT HX d0 d1 hcn c0 HcF
      go_wp2
      go_roundw
      case rel => exact ⟨i + 1, n + cn, _, by simp, by simp, by omega, HS2, HSt, HC2, HN2, HFs.out⟩
      case measure => simp [RowKit.intOf]; omega
    · obtain rfl : i = N := by omega
      have HG2 : Hid (n = goH hs k) := by show _ = _; rw [HS1.out, List.take_of_length_le (by rw [← HN.out]; omega)]
      have HC2 : Hid (ColI hs gs k hs.length) := by show ColI _ _ _ _; rw [← HN.out]; exact HCo.out
      go_wp2
      go_ret
      have e := HG2.out
      subst e
      exact ⟨gs, by first | rfl | simp, HKr.out, HC2.out, HNw.out, hFr⟩
end
end Go.Proofs.YtomajifklajilaaGreat
/- The document's May and Load of keys. Conditions as each names them. -/
namespace Go.Proofs.YtomajifklajilaaGreat
open BigFrame Go.ChangeShapes Go.WideShapes Go.ChangeAt Go.RowKit Go.Lib Go.Maps
set_option linter.unusedVariables false
set_option linter.unusedSimpArgs false

theorem LoOk.badAt {hs : List Hd} {i : Nat} (h : ¬ LoOk (hs.take i)) : ¬ LoOk hs := fun hl => h (hl.take i)
/-- One key more. -/
theorem LoOk.next9 {hs : List Hd} {i : Nat} (h : LoOk (hs.take i)) (hi : i < hs.length) : LoOk (hs.take (i + 1)) ↔ okK9 (hs.getD i Hd.zero).key ∧ (0 < i → Op.bytesLess (hs.getD (i - 1) Hd.zero).key.toList (hs.getD i Hd.zero).key.toList = true) ∧ (hs.getD i Hd.zero).vs ≠ [] ∧ okV (hs.getD i Hd.zero).vs := by
  rw [LoOk.step h hi]
  unfold okH
  constructor
  · rintro ⟨h1, h2, h3, h4⟩
    refine ⟨h2, fun h0 => ?_, h3, h4⟩
    unfold lastK at h1
    rw [if_neg (by omega)] at h1
    exact h1
  · rintro ⟨h2, h1, h3, h4⟩
    refine ⟨?_, h2, h3, h4⟩
    unfold lastK
    by_cases h0 : i = 0
    · rw [if_pos h0, noS_less]
      intro e
      have := h2.1
      rw [e] at this
      exact absurd this (by decide)
    · rw [if_neg h0]
      exact h1 (by omega)
set_option maxHeartbeats 16000000 in
set_option maxRecDepth 100000 in
theorem kmay_any (ao : Option Addr) (L cap : Nat) (hs : List Hd) (w : World) (hH : HRs w ao hs) (hL : L = hs.length) (A : Bool) (hA : A = true ↔ LoOk hs) :
    Calls Tryz.prog 54 #[.slice ao L cap] w fun e w' => e = .returned (.bool A) ∧ Fr [] w w' := by
  have HL : Hid (L = hs.length) := hL
  have HA : Hid (A = true ↔ LoOk hs) := hA
  have HV : Hid (∀ W, Fr [] w W → HRs W ao hs) := fun W hf => hH.keep hf
  have hLL : L ≤ 3518437208882 := by have := hH.few; omega
  clear hH hL hA
  go_enter Tryz.func54, Tryz.ntmps54
  go_wp2_with fail
  go_loopw [3] (fun ii wr => ∃ (i : Nat), ii = .int .i64 i ∧ i ≤ L ∧ Hid (LoOk (hs.take i)) ∧ Fr [] w wr) (fun ii _ => L - (RowKit.intOf ii).toNat)
  case atStart => exact ⟨0, rfl, Nat.zero_le _, ⟨by simp, by simp⟩, Fr.refl _ _⟩
  case round =>
    obtain ⟨i, rfl, hiL, HI, hF⟩ := hrel
    by_cases hi : i < L
    · have hi' : i < hs.length := by rw [← HL.out]; exact hi
      have hst := LoOk.next9 HI.out hi'
      have hR := HV.out _ hF
      have hE := hR.each _ (hgetD_mem hs i hi')
      obtain ⟨b, off, eao, hbl, hat⟩ := hR.lies (by omega)
      obtain ⟨c0, c1⟩ := hat i hi'
      obtain ⟨⟨key, vo, M, cm, vs⟩, hxx⟩ : ∃ x, x = hs.getD i Hd.zero := ⟨_, rfl⟩
      rw [← hxx] at hst hE c0 c1
      obtain ⟨la, hla⟩ : ∃ la, la = (hs.getD (i - 1) Hd.zero).key := ⟨_, rfl⟩
      rw [← hla] at hst
      simp only at hst c0 c1
      have hkz : key.size ≤ 140737488355328 := hE.k
      have HM : Hid (M = vs.length) := hE.len
      have HVr : Hid (∀ W, Fr [] wr W → VRs W vo vs) := fun W hf => hE.rs.keep hf
      have HS : Hid (LoOk (hs.take (i + 1)) ↔ okK9 key ∧ (0 < i → Op.bytesLess la.toList key.toList = true) ∧ vs ≠ [] ∧ okV vs) := hst
      have hp : 0 < i → wr.cell? ⟨b, off + (i - 1) * 2, none⟩ = some (.string la) := fun h0 => by rw [hla]; exact (hat (i - 1) (by omega)).1
      have HBad : Hid (¬ LoOk (hs.take (i + 1)) → A = false) := fun hn => by
        cases hA : A with
        | false => rfl
        | true => exact absurd (HA.out.1 hA) (LoOk.badAt hn)
      clear hst hE hxx hla hat hR
      have g0 : ∀ x : Wd8 wr, x.W.cell? ⟨b, off + i * 2, none⟩ = some (.string key) := fun x => (World.cell?_of_block (x.h.block b hbl (by simp))).trans c0
      have g1 : ∀ x : Wd8 wr, x.W.cell? ⟨b, off + i * 2 + 1, none⟩ = some (.slice vo M cm) := fun x => (World.cell?_of_block (x.h.block b hbl (by simp))).trans c1
      obtain ⟨B, HB⟩ : ∃ B : Bool, Hid (B = true ↔ 1 ≤ key.size ∧ key.size ≤ 64) := by classical exact ⟨decide (1 ≤ key.size ∧ key.size ≤ 64), by show _ ↔ _; simp⟩
      have HK : Hid (∀ W, Fr [] wr W → Calls Tryz.prog 93 #[.string key] W fun e w' => e = .returned (.bool B) ∧ Fr [] W w') := fun W _ => (xKey_any key B W hkz HB.out).mono fun e w3 hh => ⟨hh.1, by rw [← hh.2]; exact Fr.refl _ _⟩
      obtain ⟨c, hck⟩ := CkT.ex vs
      have HC : Hid (CkT vs c) := hck
      have HCk : Hid (∀ W, Fr [] wr W → Calls Tryz.prog 94 #[.slice vo M cm] W fun e w' => e = .returned (.int .i64 (c : Int)) ∧ Fr [] W w') := fun W hf => ucheck_any vo M cm c vs W (HVr.out W hf) HM.out HC.out
      subst eao
      clear hck
      cases B with
      | false =>
        obtain rfl : A = false := HBad.out (fun h => by have := HB.out.2 (HS.out.1 h).1; cases this)
        clear c0 c1 hp
        go_upto_region 4 with fail
        refine wp_region_wd8 (w1 := wr) (by kernel_rfl) (by kernel_rfl) (Fr.refl _ _) ?_
        repeat (go_big_quiet_step (first | exact (HK.out _ (Wd8.h _)).mono fun e w3 hh => ⟨hh.1, ⟨_, Fr.then (Wd8.h _) hh.2⟩, rfl⟩ | exact (HCk.out _ (Wd8.h _)).mono fun e w3 hh => ⟨hh.1, ⟨_, Fr.then (Wd8.h _) hh.2⟩, rfl⟩))
        refine wpQuiet_nil ?_
        rintro _ ⟨x, rfl⟩
        go_wp2
        go_ret
        exact ⟨rfl, hF.then x.h⟩
      | true =>
        by_cases hi0 : 0 < i
        · obtain ⟨i', rfl⟩ : ∃ i', i = i' + 1 := ⟨i - 1, by omega⟩
          have p0 := hp (by omega)
          rw [Nat.add_sub_cancel] at p0
          have g3 : ∀ x : Wd8 wr, x.W.cell? ⟨b, off + i' * 2, none⟩ = some (.string la) := fun x => (World.cell?_of_block (x.h.block b hbl (by simp))).trans p0
          have hd : decide ((0 : Int) < ((i' + 1 : Nat) : Int)) = true := by simp <;> omega
          have hd2 : ((i' + 1 : Nat) : Int) - 1 = (i' : Int) := by omega
          clear c0 c1 hp p0
          cases hQ : Op.bytesLess la.toList key.toList with
          | false =>
            obtain rfl : A = false := HBad.out (fun h => by have := (HS.out.1 h).2.1 (by omega); rw [hQ] at this; cases this)
            go_upto_region 4 with fail
            refine wp_region_wd8 (w1 := wr) (by kernel_rfl) (by kernel_rfl) (Fr.refl _ _) ?_
            repeat (go_big_quiet_step (first | exact (HK.out _ (Wd8.h _)).mono fun e w3 hh => ⟨hh.1, ⟨_, Fr.then (Wd8.h _) hh.2⟩, rfl⟩ | exact (HCk.out _ (Wd8.h _)).mono fun e w3 hh => ⟨hh.1, ⟨_, Fr.then (Wd8.h _) hh.2⟩, rfl⟩))
            refine wpQuiet_nil ?_
            rintro _ ⟨x, rfl⟩
            go_wp2
            go_ret
            exact ⟨rfl, hF.then x.h⟩
          | true =>
            by_cases hM0 : M = 0
            · obtain rfl : A = false := HBad.out (fun h => (HS.out.1 h).2.2.1 (List.eq_nil_of_length_eq_zero (by rw [← HM.out]; exact hM0)))
              subst hM0
              go_upto_region 4 with fail
              refine wp_region_wd8 (w1 := wr) (by kernel_rfl) (by kernel_rfl) (Fr.refl _ _) ?_
              repeat (go_big_quiet_step (first | exact (HK.out _ (Wd8.h _)).mono fun e w3 hh => ⟨hh.1, ⟨_, Fr.then (Wd8.h _) hh.2⟩, rfl⟩ | exact (HCk.out _ (Wd8.h _)).mono fun e w3 hh => ⟨hh.1, ⟨_, Fr.then (Wd8.h _) hh.2⟩, rfl⟩))
              refine wpQuiet_nil ?_
              rintro _ ⟨x, rfl⟩
              go_wp2
              go_ret
              exact ⟨rfl, hF.then x.h⟩
            · have hMp : ((M : Int) == 0) = false := by rw [beq_eq_false_iff_ne]; omega
              have HVn : Hid (vs ≠ []) := fun e => hM0 (by rw [HM.out, e]; rfl)
              rcases HC.out with ⟨rfl, hok⟩ | ⟨rfl, hok⟩
              · have HN : Hid (LoOk (hs.take (i' + 1 + 1))) := HS.out.2 ⟨HB.out.1 rfl, fun h0 => hQ, HVn.out, hok⟩
                clear hok
                go_upto_region 4 with fail
                refine wp_region_wd8 (w1 := wr) (by kernel_rfl) (by kernel_rfl) (Fr.refl _ _) ?_
                repeat (go_big_quiet_step (first | exact (HK.out _ (Wd8.h _)).mono fun e w3 hh => ⟨hh.1, ⟨_, Fr.then (Wd8.h _) hh.2⟩, rfl⟩ | exact (HCk.out _ (Wd8.h _)).mono fun e w3 hh => ⟨hh.1, ⟨_, Fr.then (Wd8.h _) hh.2⟩, rfl⟩))
                refine wpQuiet_nil ?_
                rintro _ ⟨x, rfl⟩
                have hFx := hF.then x.h
                go_wp2
                exact ⟨⟨i' + 1 + 1, by simp, by omega, HN, hFx⟩, by simp [RowKit.intOf]; omega⟩
              · obtain rfl : A = false := HBad.out (fun h => hok (HS.out.1 h).2.2.2)
                clear hok
                go_upto_region 4 with fail
                refine wp_region_wd8 (w1 := wr) (by kernel_rfl) (by kernel_rfl) (Fr.refl _ _) ?_
                repeat (go_big_quiet_step (first | exact (HK.out _ (Wd8.h _)).mono fun e w3 hh => ⟨hh.1, ⟨_, Fr.then (Wd8.h _) hh.2⟩, rfl⟩ | exact (HCk.out _ (Wd8.h _)).mono fun e w3 hh => ⟨hh.1, ⟨_, Fr.then (Wd8.h _) hh.2⟩, rfl⟩))
                refine wpQuiet_nil ?_
                rintro _ ⟨x, rfl⟩
                go_wp2
                go_ret
                exact ⟨rfl, hF.then x.h⟩
        · obtain rfl : i = 0 := by omega
          simp only [Nat.zero_mul, Nat.add_zero] at g0 g1
          clear c0 c1 hp
          by_cases hM0 : M = 0
          · obtain rfl : A = false := HBad.out (fun h => (HS.out.1 h).2.2.1 (List.eq_nil_of_length_eq_zero (by rw [← HM.out]; exact hM0)))
            subst hM0
            go_upto_region 4 with fail
            refine wp_region_wd8 (w1 := wr) (by kernel_rfl) (by kernel_rfl) (Fr.refl _ _) ?_
            repeat (go_big_quiet_step (first | exact (HK.out _ (Wd8.h _)).mono fun e w3 hh => ⟨hh.1, ⟨_, Fr.then (Wd8.h _) hh.2⟩, rfl⟩ | exact (HCk.out _ (Wd8.h _)).mono fun e w3 hh => ⟨hh.1, ⟨_, Fr.then (Wd8.h _) hh.2⟩, rfl⟩))
            refine wpQuiet_nil ?_
            rintro _ ⟨x, rfl⟩
            go_wp2
            go_ret
            exact ⟨rfl, hF.then x.h⟩
          · have hMp : ((M : Int) == 0) = false := by rw [beq_eq_false_iff_ne]; omega
            have HVn : Hid (vs ≠ []) := fun e => hM0 (by rw [HM.out, e]; rfl)
            rcases HC.out with ⟨rfl, hok⟩ | ⟨rfl, hok⟩
            · have HN : Hid (LoOk (hs.take (0 + 1))) := HS.out.2 ⟨HB.out.1 rfl, fun h0 => by omega, HVn.out, hok⟩
              clear hok
              go_upto_region 4 with fail
              refine wp_region_wd8 (w1 := wr) (by kernel_rfl) (by kernel_rfl) (Fr.refl _ _) ?_
              repeat (go_big_quiet_step (first | exact (HK.out _ (Wd8.h _)).mono fun e w3 hh => ⟨hh.1, ⟨_, Fr.then (Wd8.h _) hh.2⟩, rfl⟩ | exact (HCk.out _ (Wd8.h _)).mono fun e w3 hh => ⟨hh.1, ⟨_, Fr.then (Wd8.h _) hh.2⟩, rfl⟩))
              refine wpQuiet_nil ?_
              rintro _ ⟨x, rfl⟩
              have hFx := hF.then x.h
              go_wp2
              exact ⟨⟨0 + 1, by simp, by omega, HN, hFx⟩, by simp [RowKit.intOf]; omega⟩
            · obtain rfl : A = false := HBad.out (fun h => hok (HS.out.1 h).2.2.2)
              clear hok
              go_upto_region 4 with fail
              refine wp_region_wd8 (w1 := wr) (by kernel_rfl) (by kernel_rfl) (Fr.refl _ _) ?_
              repeat (go_big_quiet_step (first | exact (HK.out _ (Wd8.h _)).mono fun e w3 hh => ⟨hh.1, ⟨_, Fr.then (Wd8.h _) hh.2⟩, rfl⟩ | exact (HCk.out _ (Wd8.h _)).mono fun e w3 hh => ⟨hh.1, ⟨_, Fr.then (Wd8.h _) hh.2⟩, rfl⟩))
              refine wpQuiet_nil ?_
              rintro _ ⟨x, rfl⟩
              go_wp2
              go_ret
              exact ⟨rfl, hF.then x.h⟩
    · obtain rfl : A = true := HA.out.2 (by
        have hok := HI.out
        rw [List.take_of_length_le (by have := HL.out; omega)] at hok
        exact hok)
      go_wp2
      go_ret
      exact ⟨rfl, hF⟩
end Go.Proofs.YtomajifklajilaaGreat
/- The document's Load. Conditions as it names them. -/
namespace Go.Proofs.YtomajifklajilaaGreat
open BigFrame Go.ChangeShapes Go.WideShapes Go.ChangeAt Go.RowKit Go.Lib Go.Maps
set_option linter.unusedVariables false
set_option linter.unusedSimpArgs false

/-- Where versions lie makes no difference. -/
theorem LoOk.kv {hs gs : List Hd} (h : LoOk hs) (e : gs.map Hd.kv = hs.map Hd.kv) : LoOk gs ∧ mOf gs = mOf hs := by
  have hto : ∀ x ∈ gs, ∃ y ∈ hs, y.key = x.key ∧ y.vs = x.vs := fun x hx => by
    have h1 : Hd.kv x ∈ gs.map Hd.kv := List.mem_map.2 ⟨x, hx, rfl⟩
    rw [e] at h1
    obtain ⟨y, hy, e2⟩ := List.mem_map.1 h1
    simp only [Hd.kv, Prod.mk.injEq] at e2
    exact ⟨y, hy, e2.1, e2.2⟩
  have hfr : ∀ y ∈ hs, ∃ x ∈ gs, x.key = y.key ∧ x.vs = y.vs := fun y hy => by
    have h1 : Hd.kv y ∈ hs.map Hd.kv := List.mem_map.2 ⟨y, hy, rfl⟩
    rw [← e] at h1
    obtain ⟨x, hx, e2⟩ := List.mem_map.1 h1
    simp only [Hd.kv, Prod.mk.injEq] at e2
    exact ⟨x, hx, e2.1, e2.2⟩
  have hL : LoOk gs := by
    refine ⟨?_, fun x hx => ?_⟩
    · have h1 : (gs.map Hd.kv).Pairwise fun a b => Op.bytesLess a.1.toList b.1.toList = true := by
        rw [e, List.pairwise_map]
        exact h.1
      rw [List.pairwise_map] at h1
      exact h1
    · obtain ⟨y, hy, e1, e2⟩ := hto x hx
      have ho := h.2 y hy
      exact ⟨by rw [← e1]; exact ho.1, by rw [← e2]; exact ho.2.1, by rw [← e2]; exact ho.2.2⟩
  refine ⟨hL, mOf_is hL (fun x hx => ?_) (fun k hk => ?_)⟩
  · obtain ⟨y, hy, e1, e2⟩ := hto x hx
    rw [← e1, mOf_mem h hy, e2]
  · exact mOf_off fun y hy e1 => by
      obtain ⟨x, hx, e2, _⟩ := hfr y hy
      exact hk x hx (e2.trans e1)
set_option maxHeartbeats 4000000 in
set_option maxRecDepth 100000 in
theorem kload_any (ao : Option Addr) (L cap : Nat) (hs : List Hd) (w : World) (hH : HRs w ao hs) (hL : L = hs.length) :
    Calls Tryz.prog 29 #[.slice ao L cap] w fun e w' => (LoOk hs ∧ ∃ g lc lo gs, e = .returned (.tuple #[.pointer (some ⟨g, 0, none⟩), .int .i64 0]) ∧ KSh w w' g L lc lo gs ∧ mOf gs = mOf hs ∧ (∀ x ∈ gs, ∀ j, VB x j → w.heap.size ≤ j) ∧ Fr [] w w') ∨ (¬ LoOk hs ∧ e = .returned (.tuple #[.pointer none, .int .i64 1]) ∧ Fr [] w w') := by
  have HL : Hid (L = hs.length) := hL
  have hLL : Hid (L ≤ 3518437208882) := by show _ ≤ _; have := hH.few; omega
  have HV : Hid (∀ W, Fr [] w W → HRs W ao hs) := fun W hf => hH.keep hf
  clear hL hH
  by_cases hok : LoOk hs
  · have HOk : Hid (LoOk hs) := hok
    clear hok
    go_enter Tryz.func29, Tryz.ntmps29
    go_wp2_with fail
    refine (kmay_any ao L cap hs w (HV.out _ (Fr.refl _ _)) HL.out true (by simp [HOk.out])).mono ?_
    rintro e w1 ⟨rfl, hF1⟩
    go_wp2_with fail
    refine (kown_any ao L cap hs w1 (HV.out _ hF1) HL.out).mono ?_
    rintro e w2 ⟨ro, rc, gs, rfl, hO, hG, hF2⟩
    have hk := HOk.out.kv hG
    have hR : HRo w w2 ro L rc gs := (hO.ro hk.1).later hF1.size
    have hF3 : Fr [] w2 (w2.alloc (.cells #[.slice ro L rc] 103)) := Fr.alloc _ _ _
    have hb := heap_alloc_new w2 (.cells #[.slice ro L rc] 103)
    have HR : Hid (KSh w (w2.alloc (.cells #[.slice ro L rc] 103)) w2.heap.size L rc ro gs ∧ mOf gs = mOf hs ∧ (∀ x ∈ gs, ∀ j, VB x j → w.heap.size ≤ j) ∧ Fr [] w (w2.alloc (.cells #[.slice ro L rc] 103))) := ⟨⟨hb, hR.keep hF3, hk.1, hLL.out, Nat.le_trans hF1.size hF2.size⟩, hk.2, (fun x hx j hj => by obtain ⟨_, a, e, rfl⟩ := hj; have := ((hO.each x hx).blk a.block (by rw [e]; simp [Value.ownBlock])).1; exact Nat.le_trans hF1.size this), (hF1.then hF2).then hF3⟩
    clear hO hG hk hR hF3 hb hF1 hF2
    go_wp2
    go_ret2
    exact Or.inl ⟨HOk.out, _, _, _, _, rfl, HR.out⟩
  · have HOk : Hid (¬ LoOk hs) := hok
    clear hok
    go_enter Tryz.func29, Tryz.ntmps29
    go_wp2_with fail
    refine (kmay_any ao L cap hs w (HV.out _ (Fr.refl _ _)) HL.out false (by simp [HOk.out])).mono ?_
    rintro e w1 ⟨rfl, hF1⟩
    go_wp2
    go_ret2
    exact Or.inr ⟨HOk.out, rfl, hF1⟩
end Go.Proofs.YtomajifklajilaaGreat
/- The document's owner: All, Serve of an empty queue, New. Conditions as each names them. -/
namespace Go.Proofs.YtomajifklajilaaGreat
open Go.ChangeShapes Go.WideShapes Go.ChangeAt Go.RowKit Go.Lib Go.Maps
set_option linter.unusedVariables false
set_option linter.unusedSimpArgs false
section
variable {w0 w w' : World} {yb C n c g N lc : Nat} {s lo : Option Addr} {xs : List Rv} {so : Option Addr} {hs : List Hd}
theorem yoall_any (h : YoM w yb (some ⟨g, 0, none⟩) C lo n c xs) (hK : KSh w0 w g N lc so hs) : Calls Tryz.prog 26 #[.pointer (some ⟨yb, 0, none⟩)] w fun e w' => ∃ ro rc gs, e = .returned (.slice ro N rc) ∧ HOut w w' ro N rc gs ∧ gs.map Hd.kv = hs.map Hd.kv ∧ Fr [] w w' := by
  have c0 := h.c0
  have HA : Hid (Calls _ _ _ _ _) := kall_any hK
  clear h hK
  go_enter Tryz.func26, Tryz.ntmps26
  go_wp2_with fail
  refine Calls.mono HA.out ?_
  rintro e w1 ⟨ro, rc, gs, rfl, h1, h2, h3⟩
  go_wp2
  go_ret
  exact ⟨ro, rc, gs, rfl, h1, h2, h3⟩
set_option maxHeartbeats 1000000 in
theorem yoserve_idle (h : YoM w yb s C lo n c []) : Calls Tryz.prog 14 #[.pointer (some ⟨yb, 0, none⟩)] w fun e w' => e = .returned (.tuple #[.agg #[.int .i64 0, .bool false, .slice none 0 0, .slice none 0 0, .int .i64 0], .int .i64 9]) ∧ Fr [] w w' := by
  have hn : n = 0 := by have := h.q.len; simpa using this
  subst hn
  have hF0 := Fr.alloc [] w (.cells #[.int .i64 0, .bool false, .slice none 0 0, .slice none 0 0, .int .i64 0] 56)
  have hr := heap_alloc_new w (.cells #[.int .i64 0, .bool false, .slice none 0 0, .slice none 0 0, .int .i64 0] 56)
  have c2 := (h.same hF0).c2
  have HF0 := (show Hid _ from hF0)
  have hself := setRow_self _ _ _ _ _ hr
  have hld := load_resp hr
  clear hF0 h
  go_enter Tryz.func14, Tryz.ntmps14
  go_wp2_with (first
    | (refine wpList_store_row rfl 56 _ _ rfl w.heap.size #[.int .i64 0, .bool false, .slice none 0 0, .slice none 0 0, .int .i64 0] rfl rfl _ _ hr (by kernel_rfl) rfl (rs_one _ _ _ _ _ _ _ _ _) ?_; rw [hself]; go_frame)
    | fail)
  refine bodyPost_ret (results_ct_row rfl _ _ _ _ _ rfl hld) rfl ?_
  exact ⟨rfl, HF0.out⟩
theorem yonew_arg (sh qu : Int) (hi : -9223372036854775808 ≤ sh ∧ sh ≤ 9223372036854775807 ∧ -9223372036854775808 ≤ qu ∧ qu ≤ 9223372036854775807) (ao : Option Addr) (L cap : Nat) (w : World) (h : sh < 0 ∨ 16 ≤ sh ∨ qu < 1 ∨ 16 < qu) : Calls Tryz.prog 11 #[.int .i64 sh, .int .i64 qu, .slice ao L cap] w fun e w' => e = .returned (.tuple #[.pointer none, .int .i64 1]) ∧ Fr [] w w' := by
  have hW : (sh < 0) ∨ (¬ sh < 0 ∧ 16 ≤ sh) ∨ (¬ sh < 0 ∧ ¬ 16 ≤ sh ∧ qu < 1) ∨ (¬ sh < 0 ∧ ¬ 16 ≤ sh ∧ ¬ qu < 1 ∧ 16 < qu) := by omega
  clear h
  rcases hW with h1 | ⟨h1, h2⟩ | ⟨h1, h2, h3⟩ | ⟨h1, h2, h3, h4⟩
  all_goals (
    go_enter Tryz.func11, Tryz.ntmps11
    go_wp2
    go_ret2
    exact ⟨rfl, Fr.refl _ _⟩)
set_option maxHeartbeats 2000000 in
/-- New: the document's shard, nobody waits. -/
theorem yonew_any (sh qu : Int) (h : 0 ≤ sh ∧ sh < 16 ∧ 1 ≤ qu ∧ qu ≤ 16) (ao : Option Addr) (L cap : Nat) (os : List Hd) (w : World) (hH : HRs w ao os) (hL : L = os.length) : Calls Tryz.prog 11 #[.int .i64 sh, .int .i64 qu, .slice ao L cap] w fun e w' =>
    (LoOk os ∧ ∃ yb g lc lo gs, e = .returned (.tuple #[.pointer (some ⟨yb, 0, none⟩), .int .i64 0]) ∧ YoM w' yb (some ⟨g, 0, none⟩) qu.toNat none 0 0 [] ∧ KSh w w' g L lc lo gs ∧ mOf gs = mOf os ∧ (∀ x ∈ gs, ∀ j, VB x j → w.heap.size ≤ j) ∧ w.heap.size ≤ yb ∧ yb ≠ g ∧ Fr [] w w') ∨ (¬ LoOk os ∧ e = .returned (.tuple #[.pointer none, .int .i64 1]) ∧ Fr [] w w') := by
  obtain ⟨h1, h2, h3, h4⟩ := h
  have a1 : ¬ sh < 0 := by omega
  have a2 : ¬ 16 ≤ sh := by omega
  have a3 : ¬ qu < 1 := by omega
  have a4 : ¬ 16 < qu := by omega
  have HK : Hid (Calls _ _ _ _ _) := kload_any ao L cap os w hH hL
  clear hH hL h1 h2 h3 h4
  go_enter Tryz.func11, Tryz.ntmps11
  go_wp2_with fail
  refine Calls.mono HK.out ?_
  rintro e w1 (⟨hok, g, lc, lo, gs, rfl, hS, hM, hV, hF⟩ | ⟨hno, rfl, hF⟩)
  · have HO : Hid (LoOk os ∧ KSh w w1 g L lc lo gs ∧ mOf gs = mOf os ∧ (∀ x ∈ gs, ∀ j, VB x j → w.heap.size ≤ j) ∧ Fr [] w w1) := ⟨hok, hS, hM, hV, hF⟩
    clear hok hS hM hV hF HK
    go_wp2
    go_ret2
    obtain ⟨hok, hS, hM, hV, hF⟩ := HO.out
    have e1 : ((qu.toNat : Nat) : Int) = qu := Int.toNat_of_nonneg (by omega)
    have hr := heap_alloc_new w1 (.cells #[.pointer (some ⟨g, 0, none⟩), .int .i64 qu, .slice none 0 0] 78)
    have hgl := hS.lt
    refine Or.inl ⟨hok, w1.heap.size, g, lc, lo, gs, rfl, ⟨?_, ⟨rfl, Nat.le_refl _, Or.inl ⟨rfl, rfl⟩⟩, by simp [qb], by omega, by omega⟩, hS.keep (Fr.alloc _ _ _), hM, hV, hF.size, by omega, hF.then (Fr.alloc _ _ _)⟩
    rw [e1]
    exact hr
  · clear HK
    go_wp2
    go_ret2
    exact Or.inr ⟨hno, rfl, hF⟩
end
end Go.Proofs.YtomajifklajilaaGreat
/- Rows of keys cut and laid behind one another. Conditions as each names them. -/
namespace Go.Proofs.YtomajifklajilaaGreat
open BigFrame Go.ChangeShapes Go.WideShapes Go.ChangeAt Go.RowKit Go.Lib Go.Maps
set_option linter.unusedVariables false
set_option linter.unusedSimpArgs false

theorem HRs.cells {w : World} {ao : Option Addr} {hs : List Hd} (h : HRs w ao hs) {j : Nat} {u : Value} (hu : (hdsC hs)[j]? = some u) : ∃ b off, ao = some ⟨b, off, none⟩ ∧ w.cell? ⟨b, off + j, none⟩ = some u := by
  have hj : j < hs.length * 2 := by
    rw [← hdsC_length]
    rcases Nat.lt_or_ge j (hdsC hs).length with h1 | h1
    · exact h1
    · rw [List.getElem?_eq_none h1] at hu; cases hu
  have hq : j / 2 < hs.length := by omega
  obtain ⟨b, off, e, _, hc⟩ := h.lies (by omega)
  obtain ⟨c0, c1⟩ := hc _ hq
  obtain ⟨g0, g1⟩ := hdsC_get hs _ hq
  refine ⟨b, off, e, ?_⟩
  by_cases he : j % 2 = 0
  · have ej : j = j / 2 * 2 := by omega
    rw [ej] at hu ⊢
    rw [g0] at hu
    cases hu
    exact c0
  · have ej : j = j / 2 * 2 + 1 := by omega
    rw [ej] at hu ⊢
    rw [g1] at hu
    cases hu
    exact c1
theorem hdsC_one (hs : List Hd) : ∀ u ∈ hdsC hs, u.oneCell' = true := by
  intro u hu
  obtain ⟨x, _, hx⟩ := List.mem_flatMap.1 hu
  exact hdC_one x u hx
/-- Many keys more. -/
theorem wpList_appMany (w0 w : World) {ops : Array Oper} {rest : List Oper} {o : Oper} {a : Act} {Q : Exit → Act → World → Prop} (hgd : o.guard = none) (s x : Operand)
    (ho : o.op = .call { callee := .builtin .append, args := #[s, x], argTypes := #[22, 22] })
    (so : Option Addr) (N c : Nat) (hs : List Hd) (hsv : a.eval s = .slice so N c) (hK : HRo w0 w so N c hs) (xo : Option Addr) (M xc : Nat) (gs : List Hd) (hx : a.eval x = .slice xo M xc) (hX : HRs w xo gs) (hT : ∀ y ∈ gs, HTy w y) (hM : M = gs.length) (hN : N + M < 3518437208883) (h0 : w0.heap.size ≤ w.heap.size)
    (h : ∀ so' c' w', HRo w0 w' so' (N + M) c' (hs ++ gs) → Fr (Value.slice so N c).ownBlock.toList w w' → wpList Tryz.prog ops Q rest (a.put o.dst (.slice so' (N + M) c')) w') : wpList Tryz.prog ops Q (o :: rest) a w := by
  obtain ⟨i0, hi, hz0, hz1, hz2⟩ := infoHd_parts
  have hmx : 3518437208884 ≤ maxLen := by unfold maxLen; omega
  by_cases hM0 : M = 0
  · have hgs : gs = [] := List.eq_nil_of_length_eq_zero (by omega)
    subst hgs
    subst hM0
    have hh := h so c w (by simpa using hK) (Fr.refl _ _)
    rw [Nat.add_zero] at hh
    refine wpList_plain hgd fun K hKK => ?_
    have hl : ∀ (x : Addr), (loadCells x 0).run Tryz.prog w = .ok #[] w := fun x => by simpa using run_loadCells_list (P := Tryz.prog) w x [] (by simp)
    have hcap : N ≤ c ∧ (so = none → N = 0 ∧ c = 0) := by
      rcases hK.row.2 with ⟨e, hn⟩ | ⟨g, cap, cur, e, _, _, hc, _⟩
      · cases e; exact ⟨Nat.le_refl _, fun _ => ⟨rfl, rfl⟩⟩
      · cases e; exact ⟨hc, fun e => by cases e⟩
    have hrun : (Builtin.append_ #[22, 22] o.type #[.slice so N c, .slice xo 0 xc]).run Tryz.prog w = .ok (.slice so N c) w := by
      cases so with
      | none =>
        obtain ⟨rfl, rfl⟩ := hcap.2 rfl
        cases xo <;> simp [Builtin.append_, run_underlying Tryz.undHds, sizeOf, typeInfo, hi, Builtin.lenOf, Builtin.firstCells, hl, storeCells]
      | some b =>
        cases xo <;> simp [Builtin.append_, run_underlying Tryz.undHds, sizeOf, typeInfo, hi, Builtin.lenOf, Builtin.firstCells, hl, storeCells, hcap.1]
    unfold Oper.wp
    simp [execOp, ho, resolve, invoke, builtin, hsv, hx, hrun, Result.andThen]
    exact hKK _ _ hh
  · obtain ⟨b, off, e, _, _⟩ := hX.lies (by omega)
    subst e
    refine wpList_append_own w hgd s x 22 ho w0.heap.size 70 i0 _ 2 40 Tryz.undHds hi hz0 hz1 hz2 rfl (by decide) (.slice so N c) N (hdsC hs) hsv hK.row ⟨b, off, none⟩ M xc (hdsC gs) hx (by rw [hdsC_length, hM]) (fun j u hu => ?_) (hdsC_one gs) (by omega) (by omega) h0 ?_
    · obtain ⟨b', off', e, hc⟩ := hX.cells hu
      cases e
      rw [Addr.add_lit]
      exact hc
    · intro v' w' hown' hg' _
      obtain ⟨bo, cap', rfl⟩ : ∃ bo cap', v' = .slice bo (N + M) cap' := by
        rcases hown'.2 with ⟨_, h1⟩ | ⟨g, cap, _, rfl, _⟩
        · omega
        · exact ⟨_, cap, rfl⟩
      have hcat : hdsC hs ++ hdsC gs = hdsC (hs ++ gs) := by simp [hdsC]
      rw [hcat] at hown'
      have hF : Fr (Value.slice so N c).ownBlock.toList w w' := Fr.grown (S := (Value.slice so N c).ownBlock.toList) hg' (fun y hy _ => Option.mem_toList.2 hy)
      have hall : ∀ y ∈ hs ++ gs, HEach w y ∧ HTy w y := fun y hy => by
        rcases List.mem_append.1 hy with h1 | h1
        · exact ⟨hK.each y h1, hK.ty y h1⟩
        · exact ⟨hX.each y h1, hT y h1⟩
      have hap : ∀ y ∈ hs ++ gs, ∀ j, VB y j → j ∉ (Value.slice so N c).ownBlock.toList := fun y hy j hj hm => by
        obtain ⟨c1, e1⟩ := (hall y hy).2 j hj
        obtain ⟨_, c2, e2⟩ := owns_cells hK.row (Option.mem_toList.1 hm)
        rw [e1] at e2
        simp only [Option.some.injEq, Obj.cells.injEq] at e2
        exact absurd e2.2.1 (by decide)
      exact h bo cap' w' ⟨by rw [hK.len, hM]; simp, hown', fun y hy => (hall y hy).1.keepS hF (hap y hy), fun y hy => (hall y hy).2.keepS hF (hap y hy)⟩ hF
theorem Tryz.undHdsE : Tryz.prog.underlying 22 = some (.slice (Tryz.prog.elem 22)) := by kernel_rfl
theorem Tryz.elemHds : Tryz.prog.elem 22 = 70 := by kernel_rfl
theorem Tryz.sizeOfHd (w : World) : (Go.sizeOf 70).run Tryz.prog w = .ok 2 w := by kernel_rfl
def fromH (ro : Option Addr) (rc K : Nat) : Option Addr := if rc = K then ro else ro.map (·.add (K * 2))
theorem slH_h (ro : Option Addr) (N rc i : Nat) (h1 : i ≤ rc) (w : World) : (Instr.sliceAt 22 (.slice ro N rc) none (some (.int .i64 (i : Int))) none).run Tryz.prog w = .ok (.slice ro i rc) w := by
  rw [run_sliceAt_slice w 22 _ _ _ _ Tryz.undHdsE, run_slice_h w 22 _ _ _ Tryz.undHdsE .i64 (i : Int) (by omega) (by omega), Tryz.elemHds, Tryz.sizeOfHd]
  cases ro <;> simp [Result.andThen, sliced, Addr.add]
theorem slH_l (ro : Option Addr) (N rc K : Nat) (h1 : K ≤ N) (w : World) : (Instr.sliceAt 22 (.slice ro N rc) (some (.int .i64 (K : Int))) none none).run Tryz.prog w = .ok (.slice (fromH ro rc K) (N - K) (rc - K)) w := by
  rw [run_sliceAt_slice w 22 _ _ _ _ Tryz.undHdsE, run_slice_l w 22 _ _ _ Tryz.undHdsE .i64 (K : Int) (by omega) (by omega), Tryz.elemHds, Tryz.sizeOfHd]
  simp [Result.andThen, sliced, fromH]
theorem HRs.take {w : World} {ao : Option Addr} {hs : List Hd} (h : HRs w ao hs) (i : Nat) : HRs w ao (hs.take i) := by
  refine ⟨fun h0 => ?_, Nat.le_trans (by simp; omega) h.few, fun x hx => h.each x (List.mem_of_mem_take hx)⟩
  rw [List.length_take] at h0
  obtain ⟨b, off, e, hb, hc⟩ := h.lies (by omega)
  refine ⟨b, off, e, hb, fun j hj => ?_⟩
  rw [List.length_take] at hj
  have e2 : (hs.take i).getD j Hd.zero = hs.getD j Hd.zero := by simp [List.getD, List.getElem?_take, show j < i by omega]
  rw [e2]
  exact hc j (by omega)
theorem HRs.from {w : World} {ao : Option Addr} {hs : List Hd} (h : HRs w ao hs) (rc i : Nat) (hi : i ≤ hs.length) (hrc : hs.length ≤ rc) : HRs w (fromH ao rc i) (hs.drop i) := by
  refine ⟨fun h0 => ?_, Nat.le_trans (by simp) h.few, fun x hx => h.each x (List.mem_of_mem_drop hx)⟩
  rw [List.length_drop] at h0
  obtain ⟨b, off, rfl, hb, hc⟩ := h.lies (by omega)
  refine ⟨b, off + i * 2, ?_, hb, fun j hj => ?_⟩
  · unfold fromH
    rw [if_neg (by omega)]
    simp [Addr.add_lit]
  · rw [List.length_drop] at hj
    have e2 : (hs.drop i).getD j Hd.zero = hs.getD (i + j) Hd.zero := by simp [List.getD]
    rw [e2]
    have h1 := hc (i + j) (by omega)
    rw [show off + i * 2 + j * 2 = off + (i + j) * 2 by omega]
    exact h1
end Go.Proofs.YtomajifklajilaaGreat

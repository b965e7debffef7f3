/- Texts of this claim laid together, one behind the other: contracts and plain lemmas; conditions as each names them. -/
import Derived.Test.YtomajifklajilaaGreatGp34
import Derived.Test.YtomajifklajilaaGreatGp35
/- The document's shard: contracts of Scan, Dump, Collect. Conditions as each names them. -/
namespace Go.Proofs.YtomajifklajilaaGreat
open Go.ChangeShapes Go.WideShapes Go.ChangeAt Go.RowKit Go.Lib Go.Maps
set_option linter.unusedVariables false
set_option linter.unusedSimpArgs false

set_option maxHeartbeats 1000000 in
theorem zIn_any (s key en : ByteArray) (B : Bool) (w : World) (hB : B = inS key en s) : Calls Tryz.prog 74 #[.string s, .string key, .string en] w fun e w' => e = .returned (.bool B) ∧ Fr [] w w' := by
  obtain ⟨G, hG⟩ : ∃ G, Op.bytesLess s.toList key.toList = G := ⟨_, rfl⟩
  obtain ⟨K, hK⟩ : ∃ K, Op.bytesLess s.toList en.toList = K := ⟨_, rfl⟩
  by_cases hz : en.size = 0
  · have hE : (en.toList == ([] : List UInt8)) = true := by simp [(tl_nil en).2 hz]
    have hz1 : ((en.size : Int) == 0) = true := by rw [beq_iff_eq]; omega
    unfold inS at hB
    rw [hG, hE, hK] at hB
    simp only [Bool.true_or, Bool.and_true] at hB
    subst hB
    cases G <;>
    · go_enter Tryz.func74, Tryz.ntmps74
      go_wp2
      all_goals (go_ret; exact ⟨rfl, Fr.refl _ _⟩)
  · have hE : (en.toList == ([] : List UInt8)) = false := by rw [beq_eq_false_iff_ne]; exact fun h => hz ((tl_nil en).1 h)
    have hz1 : ((en.size : Int) == 0) = false := by rw [beq_eq_false_iff_ne]; omega
    unfold inS at hB
    rw [hG, hE, hK] at hB
    simp only [Bool.false_or] at hB
    subst hB
    cases G <;> cases K <;>
    · go_enter Tryz.func74, Tryz.ntmps74
      go_wp2
      all_goals (go_ret; exact ⟨rfl, Fr.refl _ _⟩)
/-- What at tells is the value at the mark. -/
theorem AtW.is {vs : List Vn} {mk : Int} {r : ByteArray} {o : Bool} (h : AtW vs mk r o) (hok : okV vs) : o = (valAt vs mk).isSome ∧ r = (valAt vs mk).getD noS := by
  obtain ⟨x, ok, c, hA, rfl, rfl⟩ := h
  obtain ⟨h1, h2, _⟩ := get_told hok hA
  refine ⟨h1, ?_⟩
  cases hv : valAt vs mk with
  | none => rw [hv] at h1; rw [if_neg (by rw [h1]; simp)]; rfl
  | some v => rw [hv] at h1 h2; rw [if_pos (by rw [h1]; rfl)]; exact h2
section
variable {w0 w : World} {g N lc : Nat} {lo : Option Addr} {hs : List Hd}
/-- One more key and its versions. -/
theorem wpList_appR (w0 w : World) {ops : Array Oper} {rest : List Oper} {o : Oper} {a : Act} {Q : Exit → Act → World → Prop} (hgd : o.guard = none) (s x : Operand)
    (ho : o.op = .call { callee := .builtin .append, args := #[s, x], argTypes := #[22, 22] })
    (so : Option Addr) (N c : Nat) (hs : List Hd) (hsv : a.eval s = .slice so N c) (hK : HRo w0 w so N c hs) (hN : N < 3518437208883) (h0 : w0.heap.size ≤ w.heap.size) (p : Hd) (hV : HEach w p) (hT : HTy w p) (hx : a.eval x = .slice (some ⟨w.heap.size, 0, none⟩) 1 1)
    (h : ∀ so' c' w', HRo w0 w' so' (N + 1) c' (hs ++ [p]) → Fr (Value.slice so N c).ownBlock.toList w w' → wpList Tryz.prog ops Q rest (a.put o.dst (.slice so' (N + 1) c')) w') : wpList Tryz.prog ops Q (o :: rest) a (w.alloc (.cells #[.string p.key, .slice p.vo p.L p.cap] 70)) := by
  obtain ⟨i0, hi, hz0, hz1, hz2⟩ := infoHd_parts
  have hmx : 3518437208884 ≤ maxLen := by unfold maxLen; omega
  refine wpList_append_own (w.alloc (.cells #[.string p.key, .slice p.vo p.L p.cap] 70)) hgd s x 22 ho w0.heap.size 70 i0 _ 2 40 Tryz.undHds hi hz0 hz1 hz2 rfl (by decide) (.slice so N c) N (hdsC hs) hsv (owns_keepB hK.row (Fr.alloc [] w _) (by simp)) ⟨w.heap.size, 0, none⟩ 1 1 (hdC p) hx rfl ?_ (hdC_one p) (by omega) (by omega) (by simp; omega) ?_
  · intro j u hu
    have hr := heap_alloc_new w (.cells #[.string p.key, .slice p.vo p.L p.cap] 70)
    rw [Addr.add_lit, cell_of_row _ _ _ _ _ _ hr, Nat.zero_add]
    simpa [hdC] using hu
  · intro v' w' hown' hg' _
    obtain ⟨bo, cap', rfl⟩ : ∃ bo cap', v' = .slice bo (N + 1) cap' := by
      rcases hown'.2 with ⟨_, h1⟩ | ⟨g, cap, _, rfl, _⟩
      · omega
      · exact ⟨_, cap, rfl⟩
    rw [← hdsC_snoc] at hown'
    have hF : Fr (Value.slice so N c).ownBlock.toList w w' := ((Fr.alloc [] w _).mono (by simp)).then (Fr.grown (S := (Value.slice so N c).ownBlock.toList) hg' (fun y hy _ => Option.mem_toList.2 hy))
    have hall : ∀ y ∈ hs ++ [p], HEach w y ∧ HTy w y := fun y hy => by
      rcases List.mem_append.1 hy with h1 | h1
      · exact ⟨hK.each y h1, hK.ty y h1⟩
      · simp at h1; subst h1; exact ⟨hV, hT⟩
    have hap : ∀ y ∈ hs ++ [p], ∀ j, VB y j → j ∉ (Value.slice so N c).ownBlock.toList := fun y hy j hj hm => by
      obtain ⟨c1, e1⟩ := (hall y hy).2 j hj
      obtain ⟨_, c2, e2⟩ := owns_cells hK.row (Option.mem_toList.1 hm)
      rw [e1] at e2
      simp only [Option.some.injEq, Obj.cells.injEq] at e2
      exact absurd e2.2.1 (by decide)
    exact h bo cap' w' ⟨by rw [hK.len]; simp, hown', fun y hy => (hall y hy).1.keepS hF (hap y hy), fun y hy => (hall y hy).2.keepS hF (hap y hy)⟩ hF
set_option maxHeartbeats 4000000 in
set_option maxRecDepth 100000 in
theorem kdump_any (h : KSh w0 w g N lc lo hs) (k : Int) (bo : Option Addr) (Mn cb : Nat) (ns : List Int) (hI : IRs w bo ns) (hM : Mn = ns.length) : Calls Tryz.prog 38 #[.pointer (some ⟨g, 0, none⟩), .int .i64 k, .slice bo Mn cb] w fun e w' => ∃ ro R rc gs, e = .returned (.slice ro R rc) ∧ HRo w w' ro R rc gs ∧ R ≤ N ∧ gs.map hkv = hs.filterMap (duOf k ns) ∧ Fr [] w w' := by
  have HK : Hid (∀ W, Fr [] w W → KSh w0 W g N lc lo hs) := fun W hf => h.keep hf
  have HI : Hid (∀ W, Fr [] w W → IRs W bo ns) := fun W hf => hI.keep hf
  have HM : Hid (Mn = ns.length) := hM
  have HN : Hid (N = hs.length) := h.log.len
  have hfew := h.few
  have HOk : Hid (LoOk hs) := h.ok
  clear h hI hM
  go_enter Tryz.func38, Tryz.ntmps38
  have c0 := (HK.out _ (Fr.refl _ _)).c0
  go_wp2_with fail
  go_loopw [7, 8] (fun vv ii wr => ∃ (i R rc : Nat) (ro : Option Addr) (gs : List Hd), vv = .slice ro R rc ∧ ii = .int .i64 i ∧ i ≤ N ∧ R ≤ i ∧ Hid (HRo w wr ro R rc gs) ∧ Hid (gs.map hkv = (hs.take i).filterMap (duOf k ns)) ∧ Fr [] w wr) (fun _ ii _ => N - (RowKit.intOf ii).toNat)
  case atStart => exact ⟨0, 0, 0, none, [], rfl, rfl, Nat.zero_le _, Nat.le_refl _, ⟨rfl, World.ownsRow_nil _ _ _ _, by simp, by simp⟩, rfl, Fr.refl _ _⟩
  case round =>
    clear c0
    obtain ⟨i, R, rc, ro, gs, rfl, rfl, hiN, hRi, HO, HG, hFr⟩ := hrel
    have c0 := (HK.out _ hFr).c0
    by_cases hi : i < N
    · have hi' : i < hs.length := by rw [← HN.out]; exact hi
      have hR := (HK.out _ hFr).rs
      obtain ⟨b, off, e9, hbl, hc⟩ := hR.lies (by omega)
      obtain ⟨d0, d1⟩ := hc i hi'
      have hE := hR.each _ (hgetD_mem hs i hi')
      have HT : Hid ((hs.take (i + 1)).filterMap (duOf k ns) = (hs.take i).filterMap (duOf k ns) ++ (duOf k ns (hs.getD i Hd.zero)).toList) := by
        show _ = _
        rw [htake_snoc hs i hi', List.filterMap_append]
        congr 1
      have HX : Hid (okV (hs.getD i Hd.zero).vs) := (HOk.out.2 _ (hgetD_mem hs i hi')).2.2
      obtain ⟨x, hx⟩ : ∃ x, x = hs.getD i Hd.zero := ⟨_, rfl⟩
      rw [← hx] at d0 d1 hE HT HX
      clear hc hx hR
      obtain ⟨key, vo, M, cm, vs⟩ := x
      simp only at d0 d1
      have HM2 : Hid (M = vs.length) := hE.len
      have HV : Hid (VRs wr vo vs) := hE.rs
      have HKz : Hid (key.size ≤ 140737488355328) := hE.k
      have HC : Hid (∀ W, Fr [] wr W → W.cell? ⟨b, off + i * 2, none⟩ = some (.string key)) := fun W hf => (World.cell?_of_block (hf.block b hbl (by simp))).trans d0
      subst e9
      clear hE
      go_wp2_with fail
      refine (udump_any vo M cm k vs bo Mn cb ns wr HV.out HM2.out (HI.out _ hFr) HM.out).mono ?_
      rintro e w4 ⟨uo, U, uc, us, cc, rfl, hD, hUl, hUr, hF4, hNr⟩
      have HUs : Hid (us = dmp vs k ns) := dmp_told HX.out hD
      have HUl : Hid (U = us.length) := hUl
      have HUr : Hid (VRs w4 uo us) := hUr
      have HNr : Hid (Nr9 wr w4 none uo U uc) := hNr
      have hG4 := hFr.then hF4
      have e0 := (HK.out _ hG4).c0
      have e1 := HC.out _ hF4
      have HO4 : Hid (HRo w w4 ro R rc gs) := HO.out.keep hF4
      clear hD hUl hUr hNr hF4 hFr HO HC d0 d1 c0 HV
      by_cases hU : U = 0
      · subst hU
        have HG2 : Hid (gs.map hkv = (hs.take (i + 1)).filterMap (duOf k ns)) := by
          show _ = _
          have hz : us = [] := List.eq_nil_of_length_eq_zero HUl.out.symm
          rw [HT.out, HG.out]
          unfold duOf
          rw [if_pos (by rw [← HUs.out]; exact hz)]
          simp
        go_wp2
        go_roundw
        case rel => exact ⟨i + 1, R, rc, ro, gs, rfl, by simp, by omega, by omega, HO4, HG2, hG4⟩
        case measure => simp [RowKit.intOf]; omega
      · have HG2 : Hid ((gs ++ [(⟨key, uo, U, uc, us⟩ : Hd)]).map hkv = (hs.take (i + 1)).filterMap (duOf k ns)) := by
          show _ = _
          have hz : dmp vs k ns ≠ [] := fun e => hU (by rw [HUl.out, HUs.out, e]; rfl)
          rw [HT.out, List.map_append, HG.out]
          unfold duOf
          rw [if_neg hz, ← HUs.out]
          rfl
        have HEn : Hid (HEach w4 ⟨key, uo, U, uc, us⟩ ∧ HTy w4 ⟨key, uo, U, uc, us⟩) := by
          refine ⟨⟨HKz.out, HUl.out, HNr.out.1, HUr.out⟩, fun j hj => ?_⟩
          obtain ⟨_, a, ea, rfl⟩ := hj
          rcases HNr.out.2 a ea with h1 | ⟨c, h1, _⟩
          · exact h1.2
          · cases h1
        have hsz : w.heap.size ≤ w4.heap.size := hG4.size
        have HOn : Hid (∀ w8, Fr (Value.slice ro R rc).ownBlock.toList w4 w8 → Fr [] w w8) := fun w8 hF8 => hG4.on hF8 (fun x hx => (owns_cells HO4.out.row (Option.mem_toList.1 hx)).1)
        clear HNr HUr HUl HUs
        go_wp2_with (at_builtin; refine wpList_appR w w4 rfl _ _ rfl ro R rc gs rfl HO4.out (by omega) hsz ⟨key, uo, U, uc, us⟩ HEn.out.1 HEn.out.2 rfl ?_)
        intro so3 c3 w8 hK8 hF8
        have HK8 : Hid (HRo w w8 so3 (R + 1) c3 (gs ++ [⟨key, uo, U, uc, us⟩])) := hK8
        have hG8 := HOn.out _ hF8
        clear hK8 hF8 HO4 HEn HOn
        go_wp2
        go_roundw
        case rel => exact ⟨i + 1, R + 1, c3, so3, _, rfl, by simp, by omega, by omega, HK8, HG2, hG8⟩
        case measure => simp [RowKit.intOf]; omega
    · obtain rfl : i = N := by omega
      have HG2 : Hid (gs.map hkv = hs.filterMap (duOf k ns)) := by show _ = _; rw [HG.out, List.take_of_length_le (by rw [← HN.out]; omega)]
      go_wp2
      go_ret
      exact ⟨ro, R, rc, gs, rfl, HO.out, hRi, HG2.out, hFr⟩
end
end Go.Proofs.YtomajifklajilaaGreat
/- The document's shard: a key's versions are written; contract of Collect. Conditions as each names them. -/
namespace Go.Proofs.YtomajifklajilaaGreat
open Go.ChangeShapes Go.WideShapes Go.ChangeAt Go.RowKit Go.Lib Go.Maps
set_option linter.unusedVariables false
set_option linter.unusedSimpArgs false

theorem krow_setCell {w : World} {b j : Nat} {cs : Array Value} {t : TypeId} (x : Value) (h : w.heap[b]? = some (.cells cs t (0, 0))) : (w.setCell ⟨b, j, none⟩ x).heap[b]? = some (.cells (cs.setIfInBounds j x) t (0, 0)) := by
  have hlt := lt_of_block h
  have h' : w.heap[b] = .cells cs t (0, 0) := by simpa [Array.getElem?_eq_getElem hlt] using h
  show (w.heap.modify b _)[b]? = _
  rw [Array.getElem?_eq_getElem (by simpa using hlt), Array.getElem_modify_self, h']
  rfl
theorem kfrz {w : World} {b : Nat} {cur : Array Value} {t : TypeId} (h : w.heap[b]? = some (.cells cur t (0, 0))) (i : Nat) : w.frozen? ⟨b, i, none⟩ = false := by
  unfold World.frozen?
  simp [h]
theorem hdsC_set : ∀ (hs : List Hd) (i : Nat) (x : Hd), i < hs.length → x.key = (hs.getD i Hd.zero).key → (hdsC hs).set (i * 2 + 1) (.slice x.vo x.L x.cap) = hdsC (hs.set i x)
  | [], i, x, h, _ => by simp at h
  | p :: ps, 0, x, _, hk => by
    have hk' : x.key = p.key := by simpa [List.getD] using hk
    simp [hdsC, hdC, hk']
  | p :: ps, i + 1, x, h, hk => by
    have ih := hdsC_set ps i x (by simpa using h) (by simpa [List.getD] using hk)
    have e : hdsC (p :: ps) = .string p.key :: .slice p.vo p.L p.cap :: hdsC ps := by simp [hdsC, hdC]
    have e2 : hdsC ((p :: ps).set (i + 1) x) = .string p.key :: .slice p.vo p.L p.cap :: hdsC (ps.set i x) := by simp [hdsC, hdC]
    rw [e, e2, ← ih, show (i + 1) * 2 + 1 = (i * 2 + 1) + 1 + 1 by omega]
    rfl
/-- Where the versions lie is new, or lay there. -/
def KNw (w : World) (hs gs : List Hd) : Prop := ∀ x ∈ gs, ∀ j, VB x j → w.heap.size ≤ j ∨ ∃ y ∈ hs, VB y j
theorem KNw.refl (w : World) (hs : List Hd) : KNw w hs hs := fun x hx j hj => Or.inr ⟨x, hx, hj⟩
section
variable {w0 w : World} {g N lc : Nat} {lo : Option Addr} {hs : List Hd}
theorem KSh.lies (h : KSh w0 w g N lc lo hs) (h0 : 0 < N) : ∃ b cur, lo = some ⟨b, 0, none⟩ ∧ w.heap[b]? = some (.cells cur 70 (0, 0)) ∧ b ≠ g := by
  rcases h.log.row.2 with ⟨_, h1⟩ | ⟨b, cap, cur, hv, _, hg, _⟩
  · omega
  · cases hv
    refine ⟨b, cur, rfl, hg, fun e => ?_⟩
    have := h.box
    rw [← e, hg] at this
    simp only [Option.some.injEq, Obj.cells.injEq] at this
    exact absurd this.2.1 (by decide)
theorem KSh.setV {b : Nat} (h : KSh w0 w g N lc (some ⟨b, 0, none⟩) hs) {i : Nat} {x : Hd} (hi : i < N) (hk : x.key = (hs.getD i Hd.zero).key) (hE : HEach w x) (hT : HTy w x) (hok : LoOk (hs.set i x)) :
    KSh w0 (w.setCell ⟨b, i * 2 + 1, none⟩ (.slice x.vo x.L x.cap)) g N lc (some ⟨b, 0, none⟩) (hs.set i x) ∧ Fr [b] w (w.setCell ⟨b, i * 2 + 1, none⟩ (.slice x.vo x.L x.cap)) := by
  have hF : Fr [b] w (w.setCell ⟨b, i * 2 + 1, none⟩ (.slice x.vo x.L x.cap)) := Fr.set _ _ _ (by simp)
  obtain ⟨b', cur0, e0, hg0, hne⟩ := h.lies (by omega)
  cases e0
  have hall : ∀ y ∈ hs.set i x, HEach w y ∧ HTy w y := fun y hy => by
    rcases List.mem_or_eq_of_mem_set hy with h1 | h1
    · exact ⟨h.log.each y h1, h.log.ty y h1⟩
    · rw [h1]; exact ⟨hE, hT⟩
  have hap : ∀ y ∈ hs.set i x, ∀ j, VB y j → j ∉ [b] := fun y hy j hj hm => by
    obtain ⟨c1, e1⟩ := (hall y hy).2 j hj
    simp at hm
    rw [hm, hg0] at e1
    simp only [Option.some.injEq, Obj.cells.injEq] at e1
    exact absurd e1.2.1 (by decide)
  refine ⟨⟨hF.keep h.box (by simpa using hne.symm), ⟨by rw [List.length_set]; exact h.log.len, ⟨by rw [hdsC_length, List.length_set, ← h.log.len], ?_⟩, fun y hy => (hall y hy).1.keepS hF (hap y hy), fun y hy => (hall y hy).2.keepS hF (hap y hy)⟩, hok, h.few, h.gn⟩, hF⟩
  rcases h.log.row.2 with ⟨hh, _⟩ | ⟨b', cap, cur, hv, h0, hg, h1, h2, h3, ht⟩
  · cases hh
  · cases hv
    refine .inr ⟨b, lc, cur.setIfInBounds (i * 2 + 1) (.slice x.vo x.L x.cap), rfl, h0, krow_setCell _ hg, h1, h2, by simpa using h3, ?_⟩
    rw [Array.toList_setIfInBounds, List.take_set, ht]
    exact hdsC_set hs i x (by rw [← h.log.len]; exact hi) hk
theorem goH_le (hs : List Hd) (k : Int) (h : ∀ x ∈ hs, x.vs ≠ []) : goH hs k ≤ szH hs := by
  induction hs with
  | nil => simp [goH, szH]
  | cons a r ih =>
    have h1 := ih (fun x hx => h x (List.mem_cons_of_mem _ hx))
    have h2 := colN_lt k (h a (by simp))
    simp only [goH, szH, List.map_cons, List.sum_cons] at h1 ⊢
    omega
set_option maxHeartbeats 4000000 in
set_option maxRecDepth 100000 in
theorem kcollect_any (h : KSh w0 w g N lc lo hs) (k : Int) : Calls Tryz.prog 37 #[.pointer (some ⟨g, 0, none⟩), .int .i64 k] w fun e w' => ∃ gs, e = .returned (.int .i64 (goH hs k : Int)) ∧ KSh w0 w' g N lc lo gs ∧ ColI hs gs k hs.length ∧ KNw w hs gs ∧ Fr (Value.slice lo N lc).ownBlock.toList w w' := by
  have HK : Hid (KSh w0 w g N lc lo hs) := h
  have HN : Hid (N = hs.length) := h.log.len
  have hfew := h.few
  have HB : Hid (∀ i, goH (hs.take i) k ≤ 1152921504606846976) := fun i => by
    have h0 := goH_le (hs.take i) k (fun x hx => (h.ok.2 x (List.mem_of_mem_take hx)).2.1)
    have h1 := szH_le (hs.take i) (fun x hx => okV_few (h.ok.2 x (List.mem_of_mem_take hx)).2.2)
    have h2 : (hs.take i).length ≤ 3518437208882 := by rw [List.length_take]; have := h.log.len; omega
    omega
  obtain ⟨S, HS⟩ : ∃ S, Hid (S = (Value.slice lo N lc).ownBlock.toList) := ⟨_, rfl⟩
  rw [← HS.out]
  have c0 := h.c0
  clear h
  go_enter Tryz.func37, Tryz.ntmps37
  go_wp2_with fail
  go_loopw [5, 6] (fun nn ii wr => ∃ (i n : Nat) (gs : List Hd), nn = .int .i64 n ∧ ii = .int .i64 i ∧ i ≤ N ∧ Hid (n = goH (hs.take i) k) ∧ Hid (KSh w0 wr g N lc lo gs) ∧ Hid (ColI hs gs k i) ∧ Hid (KNw w hs gs) ∧ Fr S w wr) (fun _ ii _ => N - (RowKit.intOf ii).toNat)
  case atStart => exact ⟨0, 0, hs, rfl, rfl, Nat.zero_le _, rfl, HK, ColI.refl _ _, KNw.refl _ _, Fr.refl _ _⟩
  case round =>
    clear c0
    obtain ⟨i, n, gs, rfl, rfl, hiN, HS1, HKr, HCo, HNw, hFr⟩ := hrel
    have c0 := HKr.out.c0
    by_cases hi : i < N
    · have hi' : i < hs.length := by rw [← HN.out]; exact hi
      obtain ⟨b, cur, e9, hcur, hbg⟩ := HKr.out.lies (by omega)
      have HSb : Hid (S = [b]) := by show _ = _; rw [HS.out, e9]; rfl
      have HcF : Hid (∃ cur, wr.heap[b]? = some (.cells cur 70 (0, 0))) := ⟨cur, hcur⟩
      clear hcur
      subst e9
      have hR := HKr.out.rs
      have hgl : i < gs.length := by rw [HCo.out.len]; exact hi'
      obtain ⟨b2, off, e8, hbl, hc⟩ := hR.lies (by omega)
      cases e8
      obtain ⟨d0, d1⟩ := hc i hgl
      rw [Nat.zero_add] at d0 d1
      have hE := hR.each _ (hgetD_mem gs i hgl)
      have HGm : Hid (gs.getD i Hd.zero ∈ gs) := hgetD_mem gs i hgl
      have HGe : Hid (gs.getD i Hd.zero = hs.getD i Hd.zero) := HCo.out.rest i (Nat.le_refl _) hi'
      have HOk : Hid (okH (hs.getD i Hd.zero)) := HK.out.ok.2 _ (hgetD_mem hs i hi')
      have HTy0 : Hid (HTy wr (gs.getD i Hd.zero)) := HKr.out.log.ty _ (hgetD_mem gs i hgl)
      have HHm : Hid (hs.getD i Hd.zero ∈ hs) := hgetD_mem hs i hi'
      have HT : Hid (goH (hs.take (i + 1)) k = goH (hs.take i) k + colN (hs.getD i Hd.zero).vs k) := by show _ = _; rw [htake_snoc hs i hi', goH_snoc]
      have hb2 := HB.out (i + 1)
      rw [HT.out, ← HS1.out] at hb2
      obtain ⟨x, hx⟩ : ∃ x, x = gs.getD i Hd.zero := ⟨_, rfl⟩
      rw [← HGe.out] at HOk HT hb2
      rw [← hx] at d0 d1 hE HOk HT hb2 HTy0
      have HX : Hid (x = gs.getD i Hd.zero) := hx
      clear hc hx hR
      obtain ⟨key, vo, M, cm, vs⟩ := x
      simp only at d0 d1 hb2
      have HM2 : Hid (M = vs.length) := hE.len
      have HV : Hid (VRs wr vo vs) := hE.rs
      have HKz : Hid (key.size ≤ 140737488355328) := hE.k
      have HCp : Hid (M ≤ cm) := hE.cp
      clear hE
      go_wp2_with fail
      refine (ucollect_any vo M cm k vs wr HV.out HM2.out HCp.out).mono ?_
      rintro e w4 ⟨uo, U, uc, us, m, cc, rfl, hD, hUl, hUr, hF4, hNr⟩
      have hcol : us = colV vs k ∧ m = colN vs k := by
        rcases hD with ⟨_, hno, _⟩ | ⟨_, _, d, hd, hm, hu⟩
        · exact absurd HOk.out.2.2 hno
        · have e := colN_upTo hd
          exact ⟨by rw [hu, hm, ← e]; rfl, by rw [hm, e]⟩
      have HUs : Hid (us = colV vs k) := hcol.1
      obtain rfl : m = colN vs k := hcol.2
      have hKr4 := HKr.out.keep hF4
      have e0 := hKr4.c0
      obtain ⟨cur4, hcur4⟩ := HcF.out
      have hcu4 : w4.heap[b]? = some (.cells cur4 70 (0, 0)) := hF4.keep hcur4 (by simp)
      have hfz : w4.frozen? ⟨b, i * 2 + 1, none⟩ = false := kfrz hcu4 _
      have e1 : w4.cell? ⟨b, i * 2 + 1, none⟩ = some (.slice vo M cm) := (World.cell?_of_block (hF4.block b hbl (by simp))).trans d1
      have hOn : okH ⟨key, uo, U, uc, us⟩ := ⟨HOk.out.1, by show us ≠ []; rw [HUs.out]; exact (colV_ne k).2 HOk.out.2.1, by show okV us; rw [HUs.out]; exact colV_ok HOk.out.2.2 k⟩
      have hkk : key = (gs.getD i Hd.zero).key := by rw [← HX.out]
      have hTn : HTy w4 ⟨key, uo, U, uc, us⟩ := fun j hj => by
        obtain ⟨_, a, ea, rfl⟩ := hj
        rcases hNr.2 a ea with h1 | ⟨c, h1, h2⟩
        · exact h1.2
        · obtain ⟨cu, hcu⟩ := HTy0.out a.block ⟨List.length_pos_iff.2 HOk.out.2.1, c, h1, h2⟩
          exact ⟨cu, hF4.keep hcu (by simp)⟩
      have hst := hKr4.setV (x := ⟨key, uo, U, uc, us⟩) hi hkk ⟨HKz.out, hUl, hNr.1, hUr⟩ hTn (HKr.out.ok.set hgl hkk hOn).1
      have HSt : Hid (KSh w0 (w4.setCell ⟨b, i * 2 + 1, none⟩ (.slice uo U uc)) g N lc (some ⟨b, 0, none⟩) (gs.set i ⟨key, uo, U, uc, us⟩)) := hst.1
      have HFs : Hid (Fr S w (w4.setCell ⟨b, i * 2 + 1, none⟩ (.slice uo U uc))) := (hFr.then (hF4.mono (by simp))).then (by rw [HSb.out]; exact hst.2)
      have HC2 : Hid (ColI hs (gs.set i ⟨key, uo, U, uc, us⟩) k (i + 1)) := HCo.out.next hi' _ (by show key = _; rw [hkk, HGe.out]) (by show us = _; rw [HUs.out, ← HGe.out, ← HX.out])
      have HN2 : Hid (KNw w hs (gs.set i ⟨key, uo, U, uc, us⟩)) := fun y hy j hj => by
        rcases List.mem_or_eq_of_mem_set hy with h1 | h1
        · exact HNw.out y h1 j hj
        · subst h1
          obtain ⟨_, a, ea, rfl⟩ := hj
          rcases hNr.2 a ea with h1 | ⟨c, h1, h2⟩
          · exact Or.inl (Nat.le_trans hFr.size h1.1)
          · exact HNw.out _ HGm.out _ (by rw [← HX.out]; exact ⟨List.length_pos_iff.2 HOk.out.2.1, c, h1, h2⟩)
      have HS2 : Hid (n + colN vs k = goH (hs.take (i + 1)) k) := by show _ = _; rw [HT.out, ← HS1.out]
      obtain ⟨cn, hcn⟩ : ∃ cn, cn = colN vs k := ⟨_, rfl⟩
      rw [← hcn] at hb2 HS2 ⊢
      clear hD hUl hUr hNr hF4 hcol hKr4 hcur4 hcu4 hOn hkk hTn hst hFr HCo HNw HS1 HT HX d0 d1 hcn c0 HcF
      go_wp2
      go_roundw
      case rel => exact ⟨i + 1, n + cn, _, by simp, by simp, by omega, HS2, HSt, HC2, HN2, HFs.out⟩
      case measure => simp [RowKit.intOf]; omega
    · obtain rfl : i = N := by omega
      have HG2 : Hid (n = goH hs k) := by show _ = _; rw [HS1.out, List.take_of_length_le (by rw [← HN.out]; omega)]
      have HC2 : Hid (ColI hs gs k hs.length) := by show ColI _ _ _ _; rw [← HN.out]; exact HCo.out
      go_wp2
      go_ret
      have e := HG2.out
      subst e
      exact ⟨gs, by first | rfl | simp, HKr.out, HC2.out, HNw.out, hFr⟩
end
end Go.Proofs.YtomajifklajilaaGreat

/- Texts of this claim laid together, one behind the other: contracts and plain lemmas; conditions as each names them. -/
import Derived.Test.YtomajifklajilaaGreatGp39
import Derived.Test.YtomajifklajilaaGreatGp9
import Derived.Maps.AppendAt
/- What the document's Put of versions answers. Conditions as each names them. -/
namespace Go.Proofs.YtomajifklajilaaGreat
open BigFrame Go.ChangeShapes Go.WideShapes Go.ChangeAt Go.RowKit Go.Lib
set_option linter.unusedVariables false
set_option linter.unusedSimpArgs false

/-- The first i with the new one in its place, if it came. -/
def insAt (vs : List Vn) (v : Vn) (d i : Nat) : List Vn := if d < i then vs.take d ++ [v] ++ (vs.take i).drop d else vs.take i
theorem insAt_step (vs : List Vn) (v : Vn) (d i : Nat) (hi : i < vs.length) : insAt vs v d (i + 1) = (if i = d then insAt vs v d i ++ [v] else insAt vs v d i) ++ [vs.getD i Vn.zero] := by
  unfold insAt
  rw [vtake_snoc vs i hi]
  by_cases h : i = d
  · subst h
    rw [if_pos (by omega), if_pos rfl, if_neg (by omega)]
    rw [List.drop_append_of_le_length (by simp; omega)]
    simp
  · rw [if_neg h]
    by_cases hd : d < i
    · rw [if_pos (by omega), if_pos hd, List.drop_append_of_le_length (by simp; omega)]
      simp
    · rw [if_neg (by omega), if_neg hd]
theorem insAt_length (vs : List Vn) (v : Vn) (d i : Nat) (hi : i ≤ vs.length) : (insAt vs v d i).length ≤ i + 1 := by
  unfold insAt
  split
  · simp; omega
  · simp; omega
/-- A row of versions of one's own, made since a world, with its room. -/
structure VOw (w0 w : World) (ro : Option Addr) (N rc : Nat) (vs : List Vn) : Prop where
  len : N = vs.length
  row : w.ownsRow w0.heap.size 110 3 (.slice ro N rc) N (vnsC vs)
theorem VOw.keep {w0 w w' : World} {ro : Option Addr} {N rc : Nat} {vs : List Vn} (h : VOw w0 w ro N rc vs) (hf : Fr [] w w') : VOw w0 w' ro N rc vs := by
  refine ⟨h.len, h.row.1, ?_⟩
  rcases h.row.2 with h0 | ⟨g, cap, cur, hv, hb, hg, hr⟩
  · exact Or.inl h0
  · exact Or.inr ⟨g, cap, cur, hv, hb, hf.keep hg (by simp), hr⟩
theorem VOw.rs {w0 w : World} {ro : Option Addr} {N rc : Nat} {vs : List Vn} (h : VOw w0 w ro N rc vs) (hl : vs.length ≤ 4398046511104) (he : ∀ x ∈ vs, VEach x) : VRs w ro vs := VRs.of_own h.row h.len hl he
theorem VOw.nr {w w0 w' : World} {ao ro : Option Addr} {N rc : Nat} {vs : List Vn} (h : VOw w0 w' ro N rc vs) (hs : w.heap.size ≤ w0.heap.size) : Nr9 w w' ao ro N rc := by
  rcases h.row.2 with ⟨e, hn⟩ | ⟨g, cap, cur, e, hb, hg, hc, _⟩
  · cases e; exact ⟨Nat.le_refl _, fun a ha => by cases ha⟩
  · cases e; exact ⟨hc, fun a ha => by cases ha; exact Or.inl ⟨Nat.le_trans hs hb, cur, hg⟩⟩
/-- One version more. -/
theorem wpList_appV1 (w0 w : World) {ops : Array Oper} {rest : List Oper} {o : Oper} {a : Act} {Q : Exit → Act → World → Prop} (hgd : o.guard = none) (s x : Operand)
    (ho : o.op = .call { callee := .builtin .append, args := #[s, x], argTypes := #[68, 68] })
    (so : Option Addr) (N c : Nat) (us : List Vn) (hs : a.eval s = .slice so N c) (hK : VOw w0 w so N c us) (hN : N < 1000000) (h0 : w0.heap.size ≤ w.heap.size) (n : Int) (val : ByteArray) (drop : Bool) (hx : a.eval x = .slice (some ⟨w.heap.size, 0, none⟩) 1 1)
    (h : ∀ so' c' w', VOw w0 w' so' (N + 1) c' (us ++ [⟨n, val, drop⟩]) → Fr [] w0 w' → wpList Tryz.prog ops Q rest (a.put o.dst (.slice so' (N + 1) c')) w') (hF : Fr [] w0 w) : wpList Tryz.prog ops Q (o :: rest) a (w.alloc (.cells #[.int .i64 n, .string val, .bool drop] 110)) := by
  obtain ⟨i0, hi, hz0, hz1, hz2⟩ := infoVn_parts
  have hK1 := hK.keep (Fr.alloc [] w (.cells #[.int .i64 n, .string val, .bool drop] 110))
  refine wpList_append_own (w.alloc (.cells #[.int .i64 n, .string val, .bool drop] 110)) hgd s x 68 ho w0.heap.size 110 i0 _ 3 32 Tryz.undVns' hi hz0 hz1 hz2 rfl (by decide) (.slice so N c) N (vnsC us) hs hK1.row ⟨w.heap.size, 0, none⟩ 1 1 (vnC ⟨n, val, drop⟩) hx rfl ?_ (fun u hu => vnsC_oneCell [⟨n, val, drop⟩] u (by simpa [vnsC] using hu)) (by unfold maxLen; omega) (by omega) (by simp; omega) ?_
  · intro j u hu
    have hr := heap_alloc_new w (.cells #[.int .i64 n, .string val, .bool drop] 110)
    rw [Addr.add_lit, cell_of_row _ _ _ _ _ _ hr, Nat.zero_add]
    simpa [vnC] using hu
  · intro v' w' hown' hg' _
    obtain ⟨bo, cap', rfl⟩ := own_shapeV hown'
    have hst : vnsC (us ++ [⟨n, val, drop⟩]) = vnsC us ++ vnC ⟨n, val, drop⟩ := by rw [vnsC_append]; simp [vnsC]
    rw [← hst] at hown'
    refine h bo cap' w' ⟨by rw [hK.len]; simp, hown'⟩ ?_
    refine (hF.then (Fr.alloc [] w _)).on (Fr.grown (S := (Value.slice so N c).ownBlock.toList) hg' (fun y hy _ => Option.mem_toList.2 hy)) (fun y hy => ?_)
    have hy' : (Value.slice so N c).ownBlock = some y := Option.mem_toList.1 hy
    rcases hK.row.2 with ⟨e, _⟩ | ⟨g, cap, cur, e, hb, _⟩
    · cases e; simp [Value.ownBlock] at hy'
    · cases e; simp [Value.ownBlock] at hy'; omega
set_option maxHeartbeats 8000000 in
set_option maxRecDepth 100000 in
theorem uput_any (ao : Option Addr) (L cap : Nat) (n0 : Int) (v0 : ByteArray) (p0 : Bool) (vs : List Vn) (w : World) (hV : VRs w ao vs) (hL : L = vs.length) (hv : VEach ⟨n0, v0, p0⟩) (hcap : L ≤ cap) :
    Calls Tryz.prog 72 #[.slice ao L cap, .agg #[.int .i64 n0, .string v0, .bool p0]] w fun e w' => ∃ ro N rc us ok c, e = .returned (.tuple #[.slice ro N rc, .bool ok, .int .i64 ((c : Nat) : Int)]) ∧ PuTold vs ⟨n0, v0, p0⟩ us ok c ∧ N = us.length ∧ VRs w' ro us ∧ Fr [] w w' ∧ Nr9 w w' ao ro N rc := by
  have HCp : Hid (L ≤ cap) := hcap
  clear hcap
  have hvz : v0.size ≤ 140737488355328 := hv.v
  have HVe : Hid (VEach ⟨n0, v0, p0⟩) := hv
  obtain ⟨W0, HW0⟩ : ∃ W0, Hid (w.alloc (.cells #[.int .i64 n0, .string v0, .bool p0] 110) = W0) := ⟨_, rfl⟩
  have hF0 : Fr [] w W0 := by rw [← HW0.out]; exact Fr.alloc [] w _
  have hb0 : W0.heap[w.heap.size]? = some (.cells #[.int .i64 n0, .string v0, .bool p0] 110 (0, 0)) := by rw [← HW0.out]; exact heap_alloc_new w _
  obtain ⟨bx, Hbx⟩ : ∃ bx, Hid (bx = w.heap.size) := ⟨_, rfl⟩
  rw [← Hbx.out] at hb0
  have HZ : Hid (∀ W, Fr [] W0 W → W.cell? ⟨bx, 0, none⟩ = some (.int .i64 n0) ∧ W.cell? ⟨bx, 1, none⟩ = some (.string v0) ∧ W.cell? ⟨bx, 2, none⟩ = some (.bool p0)) := fun W hf => by
    have h1 := hf.keep hb0 (by simp)
    exact ⟨by rw [cell_of_row _ _ _ _ _ _ h1]; rfl, by rw [cell_of_row _ _ _ _ _ _ h1]; rfl, by rw [cell_of_row _ _ _ _ _ _ h1]; rfl⟩
  have HV : Hid (∀ W, Fr [] W0 W → VRs W ao vs) := fun W hf => hV.keep (hF0.then hf)
  have HL : Hid (L = vs.length) := hL
  have hLL : L ≤ 4398046511104 := by have := hV.few; omega
  obtain ⟨c, hck⟩ := CkT.ex vs
  have HC : Hid (Calls _ _ _ _ _) := ucheck_any ao L cap c vs W0 (HV.out _ (Fr.refl _ _)) hL hck
  obtain ⟨B, hB⟩ : ∃ B : Bool, B = true ↔ okX ⟨n0, v0, p0⟩ := by classical exact ⟨decide (okX ⟨n0, v0, p0⟩), by simp⟩
  have HBx : Hid (B = true ↔ okX ⟨n0, v0, p0⟩) := hB
  have HM : Hid (∀ W, Calls Tryz.prog 102 #[.agg #[.int .i64 n0, .string v0, .bool p0]] W fun e w' => e = .returned (.bool B) ∧ Fr [] W w') := fun W => umay_any n0 v0 p0 B W hvz hB
  clear hV hL hb0 hv hB
  rcases hck with ⟨rfl, hok⟩ | ⟨rfl, hok⟩
  · have HO : Hid (okV vs) := hok
    have hL2 : L ≤ 65536 := by have := okV_few hok; have := HL.out; omega
    clear hok
    go_enter Tryz.func72, Tryz.ntmps72
    go_upto_region 1 with fail
    rw [HW0.out, ← Hbx.out]
    go_wp2_with fail
    refine Calls.mono HC.out ?_
    rintro e w1 ⟨rfl, hG1⟩
    obtain ⟨z0, z1, z2⟩ := HZ.out _ hG1
    clear HC
    go_wp2_with fail
    refine Calls.mono (HM.out _) ?_
    rintro e w2 ⟨rfl, hG2⟩
    have hF2 := hG1.then hG2
    clear hG1 hG2 z0 z1 z2 HM
    cases B with
    | false =>
      have HN : Hid (¬ okX ⟨n0, v0, p0⟩) := fun h => by have := HBx.out.2 h; cases this
      go_wp2
      refine bodyPost_ret (results_tmp3 rfl _ _ _) rfl ?_
      exact ⟨none, 0, 0, [], false, 1, rfl, Or.inl ⟨rfl, fun h => HN.out h.2, rfl, rfl⟩, rfl, VRs.nil _ _, hF0.then hF2, Nr9.none _ _ _⟩
    | true =>
      have HX : Hid (okX ⟨n0, v0, p0⟩) := HBx.out.1 rfl
      obtain ⟨d, hd⟩ := UpTo.ex HO.out.2 n0
      have HD : Hid (UpTo vs n0 d) := hd
      have hdL : d ≤ L := by have := hd.le; have := HL.out; omega
      clear hd HBx
      go_wp2_with fail
      go_loopw [7, 8, 9] (fun oo pp ii wr => ∃ (i N rc : Nat) (ro : Option Addr) (P : Bool), oo = .slice ro N rc ∧ pp = .bool P ∧ ii = .int .i64 i ∧ i ≤ L ∧ N ≤ i + 1 ∧ Hid (P = decide (d < i)) ∧ Hid (VOw W0 wr ro N rc (insAt vs ⟨n0, v0, p0⟩ d i)) ∧ Hid (∀ j, j < i → (vs.getD j Vn.zero).num ≠ n0) ∧ Fr [] W0 wr) (fun _ _ ii _ => L - (RowKit.intOf ii).toNat)
      case atStart => exact ⟨0, 0, 0, none, false, rfl, rfl, rfl, Nat.zero_le _, by omega, (by show _ = _; simp), ⟨by simp [insAt], ⟨by simp [insAt, vnsC], .inl ⟨rfl, rfl⟩⟩⟩, (by show ∀ _, _; intro j hj; omega), hF2⟩
      case round =>
        clear hF2
        obtain ⟨i, N, rc, ro, P, rfl, rfl, rfl, hiL, hNi, HP, HOw, HNe, hFr⟩ := hrel
        by_cases hi : i < L
        · have hi' : i < vs.length := by rw [← HL.out]; exact hi
          have hVr := HV.out _ hFr
          obtain ⟨b, off, eao, hbl, hat⟩ := hVr.lies (by omega)
          obtain ⟨c0, c1, c2⟩ := hat i hi'
          have hstep := insAt_step vs ⟨n0, v0, p0⟩ d i hi'
          have hlo := HD.out.lo i
          have hhi := HD.out.hi i
          have HGi : Hid (∀ x, x = vs.getD i Vn.zero → x.num = n0 → There vs ⟨n0, v0, p0⟩ d) := fun x hx e => by
            have hid : i < d := by
              rcases Nat.lt_or_ge i d with h | h
              · exact h
              · have := HD.out.hi i h hi'; rw [← hx] at this; omega
            have hde : i = d - 1 := by
              rcases Nat.lt_or_ge i (d - 1) with h | h
              · have h1 := ris_get HO.out.2 h (by have := HD.out.le; omega)
                have h2 := HD.out.lo (d - 1) (by omega)
                rw [← hx] at h1
                omega
              · omega
            exact ⟨by omega, by show (vs.getD (d - 1) Vn.zero).num = n0; rw [← hde, ← hx]; exact e⟩
          obtain ⟨⟨n, val, drop⟩, hxx⟩ : ∃ x, x = vs.getD i Vn.zero := ⟨_, rfl⟩
          rw [← hxx] at c0 c1 c2 hstep hlo hhi
          have HGe := HGi.out _ hxx
          have HX1 : Hid (⟨n, val, drop⟩ = vs.getD i Vn.zero) := hxx
          simp only at c0 c1 c2 hlo hhi HGe
          have HSt : Hid (insAt vs ⟨n0, v0, p0⟩ d (i + 1) = (if i = d then insAt vs ⟨n0, v0, p0⟩ d i ++ [⟨n0, v0, p0⟩] else insAt vs ⟨n0, v0, p0⟩ d i) ++ [⟨n, val, drop⟩]) := hstep
          have HGe2 : Hid (n = n0 → There vs ⟨n0, v0, p0⟩ d) := HGe
          have Hlo : Hid (i < d → n ≤ n0) := hlo
          have Hhi : Hid (d ≤ i → n0 < n) := fun h => hhi h hi'
          clear hat hxx hstep hlo hhi HGe HGi hVr
          obtain ⟨z0, z1, z2⟩ := HZ.out _ hFr
          have HCe : Hid (∀ W, Fr [] W0 W → W.cell? ⟨bx, 0, none⟩ = some (.int .i64 n0) ∧ W.cell? ⟨bx, 1, none⟩ = some (.string v0) ∧ W.cell? ⟨bx, 2, none⟩ = some (.bool p0)) := HZ.out
          have HCl : Hid (∀ W, Fr [] W0 W → W.cell? ⟨b, off + i * 3, none⟩ = some (.int .i64 n) ∧ W.cell? ⟨b, off + i * 3 + 1, none⟩ = some (.string val) ∧ W.cell? ⟨b, off + i * 3 + 2, none⟩ = some (.bool drop)) := fun W hf => by
            obtain ⟨b', off', e', _, hat'⟩ := (HV.out W hf).lies (by omega)
            rw [eao] at e'
            cases e'
            have h1 := hat' i hi'
            rw [← HX1.out] at h1
            exact ⟨h1.c0, h1.c1, h1.c2⟩
          subst eao
          by_cases hn : n = n0
          · have heq : (n == n0) = true := by simp [hn]
            have hTh := HGe2.out hn
            have HTh : Hid (There vs ⟨n0, v0, p0⟩ d) := hTh
            clear hTh
            go_wp2_with fail
            go_quiet (fail)
            have hFw : Fr [] w (wr.drewN nq) := (hF0.then hFr).then (Fr.drewN _ _ _)
            have HRf : Hid (VRs (wr.drewN nq) (some ⟨b, off, none⟩) vs) := HV.out _ (hFr.then (Fr.drewN _ _ _))
            go_wp2
            refine bodyPost_ret (results_tmp3 rfl _ _ _) rfl ?_
            exact ⟨_, L, cap, vs, false, 0, rfl, Or.inr ⟨rfl, HO.out, HX.out, d, HD.out, Or.inl ⟨HTh.out, rfl, rfl⟩⟩, HL.out, HRf.out, hFw, Nr9.same HCp.out⟩
          · have heq : (n == n0) = false := by rw [beq_eq_false_iff_ne]; exact hn
            have HNe2 : Hid (∀ j, j < i + 1 → (vs.getD j Vn.zero).num ≠ n0) := by
              intro j hj
              by_cases hji : j = i
              · subst hji; rw [← HX1.out]; exact hn
              · exact HNe.out j (by omega)
            clear HNe HGe2
            go_wp2_with fail
            go_quiet (fail)
            obtain ⟨wq, HWq⟩ : ∃ wq, Hid (wr.drewN nq = wq) := ⟨_, rfl⟩
            have hFq : Fr [] wr wq := by rw [← HWq.out]; exact Fr.drewN _ _ _
            rw [HWq.out]
            have hF1 := hFr.then hFq
            have HO1 : Hid (VOw W0 wq ro N rc (insAt vs ⟨n0, v0, p0⟩ d i)) := HOw.out.keep hFq
            clear HWq c0 c1 c2 z0 z1 z2 hFq hFr HOw
            obtain ⟨c0, c1, c2⟩ := HCl.out _ hF1
            obtain ⟨z0, z1, z2⟩ := HCe.out _ hF1
            by_cases hdi : d < i
            · have hPt : P = true := by rw [HP.out]; simp [hdi]
              subst hPt
              have HIn : Hid (insAt vs ⟨n0, v0, p0⟩ d (i + 1) = insAt vs ⟨n0, v0, p0⟩ d i ++ [⟨n, val, drop⟩]) := by show _ = _; rw [HSt.out, if_neg (by omega)]
              go_wp2_with fail
              go_quiet (fail)
              obtain ⟨wp, HWp⟩ : ∃ wp, Hid (wq.drewN nq = wp) := ⟨_, rfl⟩
              have hFp : Fr [] wq wp := by rw [← HWp.out]; exact Fr.drewN _ _ _
              rw [HWp.out]
              have hF2 := hF1.then hFp
              have HO2 : Hid (VOw W0 wp ro N rc (insAt vs ⟨n0, v0, p0⟩ d i)) := HO1.out.keep hFp
              clear HWp c0 c1 c2 z0 z1 z2 hFp hF1 HO1
              obtain ⟨c0, c1, c2⟩ := HCl.out _ hF2
              have hsz := hF2.size
              go_upto_region 13 with fail
              go_wp2_with (first
                | (at_builtin; refine wpList_appV1 W0 wp rfl _ _ rfl ro N rc _ rfl HO2.out (by omega) hsz n val drop rfl ?_ hF2
                   intro so3 c3 w8 hK8 hF8
                   go_frame))
              have HK8 : Hid (VOw W0 w8 so3 (N + 1) c3 (insAt vs ⟨n0, v0, p0⟩ d (i + 1))) := by show VOw _ _ _ _ _ _; rw [HIn.out]; exact hK8
              clear hK8
              go_roundw
              case rel => exact ⟨i + 1, N + 1, c3, so3, true, rfl, rfl, by simp, by omega, by omega, (by show _ = _; simp; omega), HK8, HNe2, hF8⟩
              case measure => simp [RowKit.intOf]; omega
            · have hPf : P = false := by rw [HP.out]; simp; omega
              subst hPf
              by_cases hde : i = d
              · have hgt : n0 < n := Hhi.out (by omega)
                have HIn : Hid (insAt vs ⟨n0, v0, p0⟩ d (i + 1) = insAt vs ⟨n0, v0, p0⟩ d i ++ [⟨n0, v0, p0⟩] ++ [⟨n, val, drop⟩]) := by show _ = _; rw [HSt.out, if_pos hde]
                have Hde : Hid (i = d) := hde
                clear hde
                go_wp2_with fail
                go_quiet (fail)
                obtain ⟨wp, HWp⟩ : ∃ wp, Hid (wq.drewN nq = wp) := ⟨_, rfl⟩
                have hFp : Fr [] wq wp := by rw [← HWp.out]; exact Fr.drewN _ _ _
                rw [HWp.out]
                have hF2 := hF1.then hFp
                have HO2 : Hid (VOw W0 wp ro N rc (insAt vs ⟨n0, v0, p0⟩ d i)) := HO1.out.keep hFp
                clear HWp c0 c1 c2 z0 z1 z2 hFp hF1 HO1
                obtain ⟨z0, z1, z2⟩ := HCe.out _ hF2
                have hsz := hF2.size
                go_upto_region 11 with fail
                go_upto_region 13 with (first
                  | (at_builtin; refine wpList_appV1 W0 wp rfl _ _ rfl ro N rc _ rfl HO2.out (by omega) hsz n0 v0 p0 rfl ?_ hF2
                     intro so3 c3 w8 hK8 hF8
                     go_frame))
                have HK8 : Hid (VOw W0 w8 so3 (N + 1) c3 (insAt vs ⟨n0, v0, p0⟩ d i ++ [⟨n0, v0, p0⟩])) := hK8
                clear hK8 z0 z1 z2 hsz HO2
                obtain ⟨c0, c1, c2⟩ := HCl.out _ hF8
                have hsz := hF8.size
                go_wp2_with (first
                  | (at_builtin; refine wpList_appV1 W0 w8 rfl _ _ rfl so3 (N + 1) c3 _ rfl HK8.out (by omega) hsz n val drop rfl ?_ hF8
                     intro so4 c4 w9 hK9 hF9
                     go_frame))
                have HK9 : Hid (VOw W0 w9 so4 (N + 1 + 1) c4 (insAt vs ⟨n0, v0, p0⟩ d (i + 1))) := by show VOw _ _ _ _ _ _; rw [HIn.out]; exact hK9
                have HNl : Hid (N ≤ i) := by show N ≤ i; have h1 := HK8.out.len; have h2 := Hde.out; rw [List.length_append] at h1; unfold insAt at h1; rw [if_neg (by omega)] at h1; simp at h1; omega
                clear hK9
                go_roundw
                case rel => exact ⟨i + 1, N + 1 + 1, c4, so4, true, rfl, rfl, by simp, by omega, by have := HNl.out; omega, (by show _ = _; have := Hde.out; simp; omega), HK9, HNe2, hF9⟩
                case measure => simp [RowKit.intOf]; omega
              · have hle : ¬ n0 < n := by have := Hlo.out (by omega); omega
                have HIn : Hid (insAt vs ⟨n0, v0, p0⟩ d (i + 1) = insAt vs ⟨n0, v0, p0⟩ d i ++ [⟨n, val, drop⟩]) := by show _ = _; rw [HSt.out, if_neg hde]
                go_wp2_with fail
                go_quiet (fail)
                obtain ⟨wp, HWp⟩ : ∃ wp, Hid (wq.drewN nq = wp) := ⟨_, rfl⟩
                have hFp : Fr [] wq wp := by rw [← HWp.out]; exact Fr.drewN _ _ _
                rw [HWp.out]
                have hF2 := hF1.then hFp
                have HO2 : Hid (VOw W0 wp ro N rc (insAt vs ⟨n0, v0, p0⟩ d i)) := HO1.out.keep hFp
                clear HWp c0 c1 c2 z0 z1 z2 hFp hF1 HO1
                obtain ⟨c0, c1, c2⟩ := HCl.out _ hF2
                have hsz := hF2.size
                go_upto_region 13 with fail
                go_wp2_with (first
                  | (at_builtin; refine wpList_appV1 W0 wp rfl _ _ rfl ro N rc _ rfl HO2.out (by omega) hsz n val drop rfl ?_ hF2
                     intro so3 c3 w8 hK8 hF8
                     go_frame))
                have HK8 : Hid (VOw W0 w8 so3 (N + 1) c3 (insAt vs ⟨n0, v0, p0⟩ d (i + 1))) := by show VOw _ _ _ _ _ _; rw [HIn.out]; exact hK8
                clear hK8
                go_roundw
                case rel => exact ⟨i + 1, N + 1, c3, so3, false, rfl, rfl, by simp, by omega, by omega, (by show _ = _; simp; omega), HK8, HNe2, hF8⟩
                case measure => simp [RowKit.intOf]; omega
        · have HNT : Hid (¬ There vs ⟨n0, v0, p0⟩ d) := fun h => HNe.out (d - 1) (by have := h.1; omega) h.2
          have HEa : Hid (∀ x ∈ vs.take d ++ [⟨n0, v0, p0⟩] ++ vs.drop d, VEach x) := fun x hx => by
            simp only [List.mem_append, List.mem_singleton] at hx
            rcases hx with (hx | hx) | hx
            · exact (HV.out _ (Fr.refl _ _)).each x (List.mem_of_mem_take hx)
            · rw [hx]; exact HVe.out
            · exact (HV.out _ (Fr.refl _ _)).each x (List.mem_of_mem_drop hx)
          have HLa : Hid ((vs.take d ++ [(⟨n0, v0, p0⟩ : Vn)] ++ vs.drop d).length ≤ 4398046511104) := by show _ ≤ _; have := HL.out; simp; omega
          by_cases hdi : d < i
          · have hPt : P = true := by rw [HP.out]; simp [hdi]
            subst hPt
            have HIn : Hid (insAt vs ⟨n0, v0, p0⟩ d i = vs.take d ++ [⟨n0, v0, p0⟩] ++ vs.drop d) := by
              show _ = _
              unfold insAt
              rw [if_pos hdi, show vs.take i = vs from List.take_of_length_le (by rw [← HL.out]; omega)]
            have HOf : Hid (VOw W0 wr ro N rc (vs.take d ++ [⟨n0, v0, p0⟩] ++ vs.drop d)) := by show VOw _ _ _ _ _ _; rw [← HIn.out]; exact HOw.out
            clear HOw HNe HP
            go_wp2
            refine bodyPost_ret (results_tmp3 rfl _ _ _) rfl ?_
            exact ⟨ro, N, rc, _, true, 0, rfl, Or.inr ⟨rfl, HO.out, HX.out, d, HD.out, Or.inr ⟨HNT.out, rfl, rfl⟩⟩, HOf.out.len, HOf.out.rs HLa.out HEa.out, hF0.then hFr, HOf.out.nr hF0.size⟩
          · have hPf : P = false := by rw [HP.out]; simp; omega
            subst hPf
            have HIn : Hid (insAt vs ⟨n0, v0, p0⟩ d i ++ [⟨n0, v0, p0⟩] = vs.take d ++ [⟨n0, v0, p0⟩] ++ vs.drop d) := by
              show _ = _
              unfold insAt
              have hl := HL.out
              have hd2 := HD.out.le
              rw [if_neg hdi, show d = i by omega, List.drop_eq_nil_of_le (by omega)]
              simp
            have hsz := hFr.size
            obtain ⟨z0, z1, z2⟩ := HZ.out _ hFr
            have HO2 : Hid (VOw W0 wr ro N rc (insAt vs ⟨n0, v0, p0⟩ d i)) := HOw
            clear HOw HNe HP
            go_upto_region 15 with fail
            go_wp2_with (first
              | (at_builtin; refine wpList_appV1 W0 wr rfl _ _ rfl ro N rc _ rfl HO2.out (by omega) hsz n0 v0 p0 rfl ?_ hFr
                 intro so3 c3 w8 hK8 hF8
                 go_frame))
            have HOf : Hid (VOw W0 w8 so3 (N + 1) c3 (vs.take d ++ [⟨n0, v0, p0⟩] ++ vs.drop d)) := by show VOw _ _ _ _ _ _; rw [← HIn.out]; exact hK8
            clear hK8
            refine bodyPost_ret (results_tmp3 rfl _ _ _) rfl ?_
            exact ⟨so3, N + 1, c3, _, true, 0, rfl, Or.inr ⟨rfl, HO.out, HX.out, d, HD.out, Or.inr ⟨HNT.out, rfl, rfl⟩⟩, HOf.out.len, HOf.out.rs HLa.out HEa.out, hF0.then hF8, HOf.out.nr hF0.size⟩
  · have HO : Hid (¬ okV vs) := hok
    clear hok
    go_enter Tryz.func72, Tryz.ntmps72
    go_upto_region 1 with fail
    rw [HW0.out, ← Hbx.out]
    go_wp2_with fail
    refine Calls.mono HC.out ?_
    rintro e w1 ⟨rfl, hG1⟩
    obtain ⟨z0, z1, z2⟩ := HZ.out _ hG1
    clear HC
    go_wp2
    refine bodyPost_ret (results_tmp3 rfl _ _ _) rfl ?_
    exact ⟨none, 0, 0, [], false, 1, rfl, Or.inl ⟨rfl, fun h => HO.out h.1, rfl, rfl⟩, rfl, VRs.nil _ _, hF0.then hG1, Nr9.none _ _ _⟩
end Go.Proofs.YtomajifklajilaaGreat

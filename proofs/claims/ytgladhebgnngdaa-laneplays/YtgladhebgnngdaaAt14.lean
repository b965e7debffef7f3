/- The law's helper asked at a Take: the transaction's twin is taken, and written over. Conditions: the transaction came in, of at most 2^20 writes. -/
import Derived.Test.YtgladhebgnngdaaPp14
import Derived.Test.YtgladhebgnngdaaTwW
namespace Go.Proofs.Ytgladhebgnngdaa
open Go.ChangeShapes Go.WideShapes Go.ChangeAt Go.RowKit Go.Lib Go.Maps
set_option linter.unusedVariables false
set_option linter.unusedSimpArgs false

set_option maxHeartbeats 16000000 in
set_option maxRecDepth 100000 in
theorem asked14_take {p r : Option Addr} {c : Lc} {st : Option (Option Hl)} {O1 O2 : List Nat} (n : Int) (wo : Option Addr) (M mc : Nat) (ws : List Wt) (w0 w : World) (P : Pp w0 w p r c st st O1 O2) (hT : ∀ W, Fr [] w0 W → TArg W n wo M mc ws) (hM : M ≤ 1048576) :
    Calls Try.prog 9 #[.pointer p, .pointer r, .agg #[.int .u8 1, .int .i64 n, .slice wo M mc]] w fun e w' => AkT w0 w w' p r c O1 O2 e := by
  have f1 : Fr [] w (w.alloc (.cells #[.int .u8 1, .int .i64 n, .slice wo M mc] 42)) := Fr.alloc _ _ _
  have hrow1 := heap_alloc_new w (.cells #[.int .u8 1, .int .i64 n, .slice wo M mc] 42)
  have P1 := P.quiet f1
  have HT : Hid (∀ W, Fr [] w0 W → TArg W n wo M mc ws) := hT
  have hlow1 := P.low1
  have hlow2 := P.low2
  have hs0 := P.fr.size
  obtain ⟨w1, HW1⟩ : ∃ w1, Hid (w.alloc (.cells #[.int .u8 1, .int .i64 n, .slice wo M mc] 42) = w1) := ⟨_, rfl⟩
  obtain ⟨B, HB⟩ : ∃ B, Hid (w.heap.size = B) := ⟨_, rfl⟩
  rw [HW1.out] at f1 hrow1 P1
  rw [HB.out] at hrow1 hlow1 hlow2
  have hB1 : B < w1.heap.size := lt_of_block hrow1
  have c0 : w1.cell? ⟨B, 0, none⟩ = some (.int .u8 1) := by rw [cell_of_row _ _ _ _ _ _ hrow1]; rfl
  have c1 : w1.cell? ⟨B, 1, none⟩ = some (.int .i64 n) := by rw [cell_of_row _ _ _ _ _ _ hrow1]; rfl
  have c2 : w1.cell? ⟨B, 2, none⟩ = some (.slice wo M mc) := by rw [cell_of_row _ _ _ _ _ _ hrow1]; rfl
  have hA1 := hT w1 P1.fr
  have HTw : Hid (Calls _ _ _ _ _) := twinTxn_any n wo M mc ws w1 hA1.rs hA1.len (by omega)
  have HLen : Hid (M = ws.length) := hA1.len
  have HNb : Hid (-9223372036854775808 ≤ n ∧ n ≤ 9223372036854775807) := ⟨hA1.n0, hA1.n1⟩
  have HEa : Hid (∀ y ∈ ws, y.key.size ≤ 140737488355328 ∧ y.val.size ≤ 140737488355328) := hA1.rs.each
  have HWo : Hid (0 < ws.length → ∀ a, wo = some a → a.block < w0.heap.size) := by
    intro h0 a ha
    obtain ⟨b, off, e, hb, _⟩ := (hT w0 (Fr.refl _ _)).rs.lies h0
    rw [e] at ha
    cases ha
    exact hb
  have HW1f : Hid (Fr (O1 ++ O2) w w1) := f1.mono (by simp)
  have HBw : Hid (w.heap.size = B) := HB
  clear P f1 hA1 hT
  go_enter Try.func9, Try.ntmps9
  go_upto_region 1 with fail
  rw [HW1.out, HB.out]
  clear HW1 HB
  go_wp2_with fail
  refine Calls.mono HTw.out ?_
  rintro e w2 ⟨tb, rfl, htb, hrowt, hF2⟩
  have fu := Fr.alloc [] w2 (.cells #[.int .i64 n, .slice (some ⟨tb, 0, none⟩) M (M + 1)] 40)
  have hrowT := heap_alloc_new w2 (.cells #[.int .i64 n, .slice (some ⟨tb, 0, none⟩) M (M + 1)] 40)
  have hrowB := (hF2.then fu).keep hrow1 (by simp)
  have hrowtu := fu.keep hrowt (by simp)
  have htb2 := lt_of_block hrowt
  have Pu := P1.quiet (hF2.then fu)
  obtain ⟨u, HU⟩ : ∃ u, Hid (w2.alloc (.cells #[.int .i64 n, .slice (some ⟨tb, 0, none⟩) M (M + 1)] 40) = u) := ⟨_, rfl⟩
  obtain ⟨T8, HT8⟩ : ∃ T8, Hid (w2.heap.size = T8) := ⟨_, rfl⟩
  have hWu : Fr (O1 ++ O2) w u := by rw [← HU.out]; exact HW1f.out.then ((hF2.then fu).mono (by simp))
  rw [HU.out] at hrowT hrowB hrowtu Pu
  rw [HT8.out] at hrowT htb2
  have hT8u : T8 < u.heap.size := lt_of_block hrowT
  have hnB : B ∉ O1 ++ O2 := by
    intro hk
    rcases List.mem_append.1 hk with h | h
    · have := (hlow1 B h).2; omega
    · have := (hlow2 B h).2; omega
  have hnT : T8 ∉ O1 ++ O2 := by
    intro hk
    rcases List.mem_append.1 hk with h | h
    · have := (hlow1 T8 h).2; omega
    · have := (hlow2 T8 h).2; omega
  have hnt : tb ∉ O1 ++ O2 := by
    intro hk
    rcases List.mem_append.1 hk with h | h
    · have := (hlow1 tb h).2; omega
    · have := (hlow2 tb h).2; omega
  have HAll : Hid (∀ W, Fr (O1 ++ O2) u W → W.cell? ⟨T8, 0, none⟩ = some (.int .i64 n) ∧ W.cell? ⟨T8, 1, none⟩ = some (.slice (some ⟨tb, 0, none⟩) M (M + 1)) ∧ W.cell? ⟨B, 1, none⟩ = some (.int .i64 n) ∧ W.cell? ⟨B, 2, none⟩ = some (.slice wo M mc)) := fun W hf => by
    have h1 := hf.keep hrowT hnT
    have h2 := hf.keep hrowB hnB
    exact ⟨by rw [cell_of_row _ _ _ _ _ _ h1]; rfl, by rw [cell_of_row _ _ _ _ _ _ h1]; rfl, by rw [cell_of_row _ _ _ _ _ _ h2]; rfl, by rw [cell_of_row _ _ _ _ _ _ h2]; rfl⟩
  have HRt : Hid (∀ W, Fr (O1 ++ O2) u W → W.heap[tb]? = some (.cells (wtsC (ws ++ [spW])).toArray 55 (0, 0))) := fun W hf => hf.keep hrowtu hnt
  have HTg : Hid (∀ W, Fr (O1 ++ O2) u W → TArg W n (some ⟨tb, 0, none⟩) M (M + 1) ws) := fun W hf => by
    have hr := HRt.out W hf
    rw [wtsC_append] at hr
    have hl : ws.length ≤ 140737488355328 := by rw [← HLen.out]; omega
    exact ⟨WRs.of_row hr hl HEa.out, HLen.out, HNb.out.1, HNb.out.2⟩
  have HPu : Hid (Pp w0 u p r c st st O1 O2) := Pu
  have HTk : Hid (∀ W, Fr [] u W → Calls Try.prog 14 #[.pointer p, .agg #[.int .i64 n, .slice (some ⟨tb, 0, none⟩) M (M + 1)]] W fun e w' => ∃ O', e = .returned (.int .i64 (takeE2 n ws st)) ∧ Pp w0 w' p r c (takeS2 n ws st) st O' O2 ∧ Nw14 W w' O1 O' ∧ Fr O1 W w') := fun W hf => (ls_take n (some ⟨tb, 0, none⟩) M (M + 1) ws (HPu.out.quiet hf).l (HTg.out W (hf.mono (by simp)))).mono fun e w' h => by
    obtain ⟨O', e1, e2, e3, e4⟩ := h
    exact ⟨O', e1, (HPu.out.quiet hf).stepL e4 e2 e3, e3, e4⟩
  have HRk : Hid (∀ W O', Pp w0 W p r c (takeS2 n ws st) st O' O2 → Calls Try.prog 27 #[.pointer r, .agg #[.int .i64 n, .slice wo M mc]] W fun e w' => ∃ O2', e = .returned (.int .i64 (takeE2 n ws st)) ∧ Pp w0 w' p r c (takeS2 n ws st) (takeS2 n ws st) O' O2' ∧ Nw14 W w' O2 O2' ∧ Fr O2 W w') := fun W O' PW => (rs_take n wo M mc ws PW.r (HT.out W PW.fr) (fun h0 a ha hk => by have := HWo.out h0 a ha; have := (PW.low2 _ hk).1; omega)).mono fun e w' h => by
    obtain ⟨O2', e1, e2, e3, e4⟩ := h
    exact ⟨O2', e1, PW.stepR e4 e2 e3, e3, e4⟩
  have HLf : Hid (∀ W, Fr (O1 ++ O2) u W → Fr [] w0 W → Calls Try.prog 28 #[.agg #[.int .i64 n, .slice (some ⟨tb, 0, none⟩) M (M + 1)], .agg #[.int .i64 n, .slice wo M mc]] W fun e w' => e = .returned (.bool true) ∧ Fr [] W w') := fun W hf h0 => leftTxn_any n tb wo M mc ws W (HT.out W h0).rs HLen.out (by omega) (HRt.out W hf)
  obtain ⟨ev, HEv⟩ : ∃ ev, Hid (takeE2 n ws st = ev) := ⟨_, rfl⟩
  obtain ⟨t5, HT5⟩ : ∃ t5, Hid (takeS2 n ws st = t5) := ⟨_, rfl⟩
  rw [HEv.out, HT5.out] at HTk HRk
  have hee : (ev == ev) = true := by simp
  clear fu hF2 P1 Pu hrow1 hrowT hrowB hrowtu hrowt c1 c2 HTw HEv HT5 HTg
  go_upto_region 5 with fail
  rw [HU.out, HT8.out]
  clear HU HT8 c0
  obtain ⟨x0, x1, x2, x3⟩ := HAll.out u (Fr.refl _ _)
  obtain ⟨x0', x1', x2', x3'⟩ := HAll.out u.drew (Fr.drew _ _)
  go_region_held3 (fun W => W.cell? ⟨T8, 0, none⟩ = some (.int .i64 n) ∧ W.cell? ⟨T8, 1, none⟩ = some (.slice (some ⟨tb, 0, none⟩) M (M + 1)) ∧ W.cell? ⟨B, 1, none⟩ = some (.int .i64 n) ∧ W.cell? ⟨B, 2, none⟩ = some (.slice wo M mc)) (go_keep)
    (first
      | (go_at_call 14; with_reducible refine Calls.mono (HTk.out _ (Fr.drew [] _)) ?_; rintro e wa ⟨A1, rfl, Pa, hNa, hFa⟩; have hUa : Fr (O1 ++ O2) u wa := (Fr.drew _ _).then (hFa.mono (fun k hk _ => List.mem_append_left _ hk)); obtain ⟨j0, j1, j2, j3⟩ := HAll.out wa hUa)
      | (go_at_call 27; with_reducible refine Calls.mono (HRk.out _ _ Pa) ?_; rintro e wb ⟨A2, rfl, Pb, hNb, hFb⟩; have hUb : Fr (O1 ++ O2) u wb := hUa.then (hFb.mono (fun k hk _ => List.mem_append_right _ hk)); obtain ⟨k0, k1, k2, k3⟩ := HAll.out wb hUb)
      | (go_at_call 28; with_reducible refine Calls.mono (HLf.out _ hUb Pb.fr) ?_; rintro e wc ⟨rfl, hFc⟩; have hUc : Fr (O1 ++ O2) u wc := hUb.then (hFc.mono (by simp)); obtain ⟨m0, m1, m2, m3⟩ := HAll.out wc hUc))
  have HN5 : Hid (∀ k ∈ A1 ++ A2, k ∈ O1 ++ O2 ∨ w.heap.size ≤ k) := by
    have hsu := hWu.size
    have hsa := hUa.size
    intro k hk
    rcases List.mem_append.1 hk with h | h
    · rcases hNa k h with h | h
      · exact .inl (List.mem_append_left _ h)
      · refine .inr ?_
        have : u.heap.size ≤ k := h.1
        omega
    · rcases hNb k h with h | h
      · exact .inl (List.mem_append_right _ h)
      · refine .inr ?_
        have := h.1
        omega
  have HnA : Hid (tb ∉ A1 ∧ tb ∉ A2 ∧ w0.heap.size ≤ tb) := by
    have h1 : tb < u.heap.size := by omega
    refine ⟨hNa.not h1 (fun h => hnt (List.mem_append_left _ h)), hNb.not (by have := hUa.size; omega) (fun h => hnt (List.mem_append_right _ h)), by have := HBw.out; omega⟩
  have HPc : Hid (Pp w0 wc p r c t5 t5 A1 A2) := Pb.quiet hFc
  have HWc : Hid (Fr (O1 ++ O2) w wc) := hWu.then hUc
  have HRc : Hid (∃ cs, wc.heap[tb]? = some (.cells cs 55 (0, 0)) ∧ cs.size = 3 * (M + 1)) := ⟨_, HRt.out wc hUc, by simp [wtsC_length, HLen.out]; omega⟩
  have htw : w.heap.size ≤ tb := by rw [HBw.out]; omega
  have htT : tb ≠ T8 := by omega
  have HTc : Hid (wc.cell? ⟨T8, 1, none⟩ = some (.slice (some ⟨tb, 0, none⟩) M (M + 1))) := m1
  have hT8c : T8 < wc.heap.size := by have := hUc.size; omega
  clear x0 x1 x2 x3 x0' x1' x2' x3' j0 j1 j2 j3 k0 k1 k2 k3 m0 m1 m2 m3 HAll HTk HRk HLf HRt HPu Pa Pb hNa hNb hFa hFb hFc hUa hUb hUc hWu HT HWo HEa HNb
  go_wp2_with fail
  go_loopw [9] (fun ii wr => ∃ (i : Nat), ii = .int .i64 i ∧ i ≤ M ∧ Hid (∃ cs, wr.heap[tb]? = some (.cells cs 55 (0, 0)) ∧ cs.size = 3 * (M + 1)) ∧ Hid (Pp w0 wr p r c t5 t5 A1 A2) ∧ Hid (Fr (O1 ++ O2) w wr) ∧ Hid (wr.cell? ⟨T8, 1, none⟩ = some (.slice (some ⟨tb, 0, none⟩) M (M + 1))) ∧ T8 < wr.heap.size) (fun ii _ => M - (intOf ii).toNat)
  case atStart => exact ⟨0, rfl, Nat.zero_le _, HRc, HPc, HWc, HTc, hT8c⟩
  case round =>
    clear HRc HPc HWc HTc hT8c
    obtain ⟨i, rfl, hiM, HRr, HPr, HWr, HTr, hT8r⟩ := hrel
    have t1 := HTr.out
    by_cases hi : i < M
    · have hi' : (i : Int) < (M : Int) := by omega
      obtain ⟨cs, hrow, hsz⟩ := HRr.out
      have zf : ∀ j, wr.frozen? ⟨tb, j, none⟩ = false := fun j => by simp [World.frozen?, hrow]
      obtain ⟨v0, e0⟩ : ∃ v0, wr.cell? ⟨tb, i * 3, none⟩ = some v0 := ⟨cs[i * 3]'(by omega), by rw [cell_of_row _ _ _ _ _ _ hrow]; simp⟩
      obtain ⟨v1, e1⟩ : ∃ v1, wr.cell? ⟨tb, i * 3 + 1, none⟩ = some v1 := ⟨cs[i * 3 + 1]'(by omega), by rw [cell_of_row _ _ _ _ _ _ hrow]; simp⟩
      obtain ⟨v2, e2⟩ : ∃ v2, wr.cell? ⟨tb, i * 3 + 2, none⟩ = some v2 := ⟨cs[i * 3 + 2]'(by omega), by rw [cell_of_row _ _ _ _ _ _ hrow]; simp⟩
      have HS3 : Hid (∀ a b d j0 j1 j2, (∃ cs, (((wr.setCell ⟨tb, j0, none⟩ a).setCell ⟨tb, j1, none⟩ b).setCell ⟨tb, j2, none⟩ d).heap[tb]? = some (.cells cs 55 (0, 0)) ∧ cs.size = 3 * (M + 1)) ∧ Fr [tb] wr (((wr.setCell ⟨tb, j0, none⟩ a).setCell ⟨tb, j1, none⟩ b).setCell ⟨tb, j2, none⟩ d)) := fun a b d j0 j1 j2 => ⟨⟨_, vrow_setCell d (vrow_setCell b (vrow_setCell a hrow)), by simp [hsz]⟩, (((Fr.refl _ _).set1 j0 a).set1 j1 b).set1 j2 d⟩
      have HNx : Hid (∀ W, Fr [tb] wr W → Pp w0 W p r c t5 t5 A1 A2 ∧ Fr (O1 ++ O2) w W ∧ W.cell? ⟨T8, 1, none⟩ = some (.slice (some ⟨tb, 0, none⟩) M (M + 1)) ∧ T8 < W.heap.size) := fun W hf => ⟨HPr.out.off hf (by intro k hk; simp at hk; rw [hk]; exact HnA.out), HWr.out.trans hf (fun _ x _ => x) (fun k hk hl => by simp at hk; omega), (World.cell?_of_block (a := ⟨T8, 1, none⟩) (hf.block T8 hT8r (by simpa using fun e => htT e.symm))).trans HTr.out, Nat.lt_of_lt_of_le hT8r hf.size⟩
      clear hrow hsz HRr HPr HWr HTr
      go_wp2_with fail
      obtain ⟨hq1, hq2⟩ := HS3.out (.string ⟨#[122, 122]⟩) (.string ⟨#[115, 112, 111, 105, 108, 116]⟩) (.bool false) (i * 3) (i * 3 + 1) (i * 3 + 2)
      obtain ⟨m1, m2, m3, m4⟩ := HNx.out _ hq2
      go_roundw
      case rel => exact ⟨i + 1, by simp, by omega, hq1, m1, m2, m3, m4⟩
      case measure => simp [intOf]; omega
    · have hi' : ¬ ((i : Int) < (M : Int)) := by omega
      obtain ⟨w5, hw5⟩ : ∃ w5, w5 = wr := ⟨_, rfl⟩
      rw [← hw5] at t1 HPr HWr ⊢
      have P5 : Hid _ := HPr.out
      have HW5 : Hid (Fr (O1 ++ O2) w w5) := HWr.out
      clear hw5 HRr HTr HPr HWr hT8r
      obtain ⟨sv, HSv⟩ : ∃ sv, Hid (nextS2 c t5 = sv) := ⟨_, rfl⟩
      obtain ⟨bv, HBv⟩ : ∃ bv, Hid (nextB2 t5 = bv) := ⟨_, rfl⟩
      obtain ⟨rq, HRq⟩ : ∃ rq, Hid (nextR2 c t5 = rq) := ⟨_, rfl⟩
      obtain ⟨hv, HHv⟩ : ∃ hv, Hid (holds2 t5 = hv) := ⟨_, rfl⟩
      obtain ⟨rv, HRv⟩ : ∃ rv, Hid (ready2 t5 = rv) := ⟨_, rfl⟩
      obtain ⟨k, f, m, ky, vl, dp⟩ := rq
      have HXl : Hid (Calls _ _ _ _ _) := ls_next P5.out.l
      rw [HSv.out, HBv.out, HRq.out] at HXl
      simp only [Rq.v] at HXl
      have hss : (sv == sv) = true := by simp
      have hbb : (bv == bv) = true := by simp
      have hhh : (hv == hv) = true := by simp
      have hrr : (rv == rv) = true := by simp
      go_wp2_with fail
      refine Calls.mono HXl.out ?_
      rintro e wA ⟨rfl, hFA⟩
      have fA := Fr.alloc [] wA (.cells #[.int .u8 k, .int .i64 f, .int .i64 m, .string ky, .string vl, .bool dp, .string ⟨#[]⟩, .string ⟨#[]⟩, .slice none 0 0] 59)
      have hrowA := heap_alloc_new wA (.cells #[.int .u8 k, .int .i64 f, .int .i64 m, .string ky, .string vl, .bool dp, .string ⟨#[]⟩, .string ⟨#[]⟩, .slice none 0 0] 59)
      have P6 : Hid _ := P5.out.quiet (hFA.then fA)
      have HXr : Hid (Calls _ _ _ _ _) := rs_next P6.out.r
      rw [HSv.out, HBv.out, HRq.out] at HXr
      simp only [Rq.v] at HXr
      clear HXl HSv HBv HRq
      go_wp2_with fail
      refine Calls.mono HXr.out ?_
      rintro e wB ⟨rfl, hFB⟩
      have fB := Fr.alloc [] wB (.cells #[.int .u8 k, .int .i64 f, .int .i64 m, .string ky, .string vl, .bool dp, .string ⟨#[]⟩, .string ⟨#[]⟩, .slice none 0 0] 59)
      have hrowB := heap_alloc_new wB (.cells #[.int .u8 k, .int .i64 f, .int .i64 m, .string ky, .string vl, .bool dp, .string ⟨#[]⟩, .string ⟨#[]⟩, .slice none 0 0] 59)
      have hrowA7 := (hFB.then fB).keep hrowA (by simp)
      have P7 : Hid _ := P6.out.quiet (hFB.then fB)
      have hG7 := (hFA.then fA).then (hFB.then fB)
      obtain ⟨w7, HW7⟩ : ∃ w7, Hid (wB.alloc (.cells #[.int .u8 k, .int .i64 f, .int .i64 m, .string ky, .string vl, .bool dp, .string ⟨#[]⟩, .string ⟨#[]⟩, .slice none 0 0] 59) = w7) := ⟨_, rfl⟩
      obtain ⟨R1, HR1⟩ : ∃ R1, Hid (wA.heap.size = R1) := ⟨_, rfl⟩
      obtain ⟨R2, HR2⟩ : ∃ R2, Hid (wB.heap.size = R2) := ⟨_, rfl⟩
      rw [HW7.out] at hrowB hrowA7 P7 hG7
      rw [HR1.out] at hrowA7
      rw [HR2.out] at hrowB
      clear hFA fA hFB fB hrowA HXr P6 P5
      have a0 : w7.cell? ⟨R1, 0, none⟩ = some (.int .u8 k) := by rw [cell_of_row _ _ _ _ _ _ hrowA7]; rfl
      have a1 : w7.cell? ⟨R1, 1, none⟩ = some (.int .i64 f) := by rw [cell_of_row _ _ _ _ _ _ hrowA7]; rfl
      have a2 : w7.cell? ⟨R1, 2, none⟩ = some (.int .i64 m) := by rw [cell_of_row _ _ _ _ _ _ hrowA7]; rfl
      have a3 : w7.cell? ⟨R1, 3, none⟩ = some (.string ky) := by rw [cell_of_row _ _ _ _ _ _ hrowA7]; rfl
      have a4 : w7.cell? ⟨R1, 4, none⟩ = some (.string vl) := by rw [cell_of_row _ _ _ _ _ _ hrowA7]; rfl
      have a5 : w7.cell? ⟨R1, 5, none⟩ = some (.bool dp) := by rw [cell_of_row _ _ _ _ _ _ hrowA7]; rfl
      have a6 : w7.cell? ⟨R1, 6, none⟩ = some (.string ⟨#[]⟩) := by rw [cell_of_row _ _ _ _ _ _ hrowA7]; rfl
      have a7 : w7.cell? ⟨R1, 7, none⟩ = some (.string ⟨#[]⟩) := by rw [cell_of_row _ _ _ _ _ _ hrowA7]; rfl
      have a8 : w7.cell? ⟨R1, 8, none⟩ = some (.slice none 0 0) := by rw [cell_of_row _ _ _ _ _ _ hrowA7]; rfl
      have b0 : w7.cell? ⟨R2, 0, none⟩ = some (.int .u8 k) := by rw [cell_of_row _ _ _ _ _ _ hrowB]; rfl
      have b1 : w7.cell? ⟨R2, 1, none⟩ = some (.int .i64 f) := by rw [cell_of_row _ _ _ _ _ _ hrowB]; rfl
      have b2 : w7.cell? ⟨R2, 2, none⟩ = some (.int .i64 m) := by rw [cell_of_row _ _ _ _ _ _ hrowB]; rfl
      have b3 : w7.cell? ⟨R2, 3, none⟩ = some (.string ky) := by rw [cell_of_row _ _ _ _ _ _ hrowB]; rfl
      have b4 : w7.cell? ⟨R2, 4, none⟩ = some (.string vl) := by rw [cell_of_row _ _ _ _ _ _ hrowB]; rfl
      have b5 : w7.cell? ⟨R2, 5, none⟩ = some (.bool dp) := by rw [cell_of_row _ _ _ _ _ _ hrowB]; rfl
      have b6 : w7.cell? ⟨R2, 6, none⟩ = some (.string ⟨#[]⟩) := by rw [cell_of_row _ _ _ _ _ _ hrowB]; rfl
      have b7 : w7.cell? ⟨R2, 7, none⟩ = some (.string ⟨#[]⟩) := by rw [cell_of_row _ _ _ _ _ _ hrowB]; rfl
      have b8 : w7.cell? ⟨R2, 8, none⟩ = some (.slice none 0 0) := by rw [cell_of_row _ _ _ _ _ _ hrowB]; rfl
      have HQ7 : Calls Try.prog 24 #[.agg #[.int .u8 k, .int .i64 f, .int .i64 m, .string ky, .string vl, .bool dp, .string ⟨#[]⟩, .string ⟨#[]⟩, .slice none 0 0], .agg #[.int .u8 k, .int .i64 f, .int .i64 m, .string ky, .string vl, .bool dp, .string ⟨#[]⟩, .string ⟨#[]⟩, .slice none 0 0]] w7 fun e w' => e = .returned (.bool true) ∧ Fr [] w7 w' := sameReq_any ⟨k, f, m, ky, vl, dp⟩ w7
      go_upto_region 20 with fail
      rw [HW7.out, HR1.out, HR2.out]
      clear HW7 HR1 HR2 hrowA7 hrowB
      go_wp2_with fail
      refine HQ7.mono ?_
      rintro e w8 ⟨rfl, hF8⟩
      have P8 : Hid _ := P7.out.quiet hF8
      have HH8 : Hid (Calls _ _ _ _ _) := ls_holds P8.out.l
      rw [HHv.out] at HH8
      clear a0 b0 a1 b1 a2 b2 a3 b3 a4 b4 a5 b5 a6 b6 a7 b7 a8 b8 HQ7 P7
      go_wp2_with fail
      refine Calls.mono HH8.out ?_
      rintro e w9 ⟨rfl, hF9⟩
      have P9 : Hid _ := P8.out.quiet hF9
      have HH9 : Hid (Calls _ _ _ _ _) := rs_holds P9.out.r
      rw [HHv.out] at HH9
      clear P8 HH8
      go_wp2_with fail
      refine Calls.mono HH9.out ?_
      rintro e w10 ⟨rfl, hF10⟩
      have P10 : Hid _ := P9.out.quiet hF10
      have HH10 : Hid (Calls _ _ _ _ _) := ls_ready P10.out.l
      rw [HRv.out] at HH10
      clear P9 HH9
      go_wp2_with fail
      refine Calls.mono HH10.out ?_
      rintro e w11 ⟨rfl, hF11⟩
      have P11 : Hid _ := P10.out.quiet hF11
      have HH11 : Hid (Calls _ _ _ _ _) := rs_ready P11.out.r
      rw [HRv.out] at HH11
      clear P10 HH10
      go_wp2_with fail
      refine Calls.mono HH11.out ?_
      rintro e w12 ⟨rfl, hF12⟩
      have P12 : Hid _ := P11.out.quiet hF12
      have HFf : Hid (Fr (O1 ++ O2) w w12) := HW5.out.then ((hG7.then (hF8.then (hF9.then (hF10.then (hF11.then hF12))))).mono (by simp))
      clear P11 HH11
      go_wp2_with fail
      go_ret
      exact ⟨rfl, _, _, _, P12.out, HN5.out, HFf.out⟩
end Go.Proofs.Ytgladhebgnngdaa

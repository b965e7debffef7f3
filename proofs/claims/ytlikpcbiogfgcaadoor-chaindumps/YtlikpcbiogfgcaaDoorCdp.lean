/- The walk of the law ChainDumps. Conditions: how its arguments lie in memory. -/
import Derived.Test.YtlikpcbiogfgcaaDoorCpt
import Derived.Test.YtlikpcbiogfgcaaDoorUd8
import Derived.Test.YtlikpcbiogfgcaaDoorTwI
namespace Go.Proofs.YtlikpcbiogfgcaaDoor.Bq
open BigFrame Go.ChangeShapes Go.WideShapes Go.ChangeAt Go.RowKit Go.Lib
set_option linter.unusedVariables false
section
variable {w0 w : World} {bk T : Nat} {rB rI : Value} {hB hI : List HB}
theorem ints_any (h : B2 w0 w bk T rB rI hB hI) (ao : Option Addr) (L cap : Nat) (hp : P0 kInt w ⟨.slice ao L cap, .slice none 0 0, T + 1⟩) (hal : ∀ k, (Value.slice ao L cap).ownBlock = some k → k ∉ lbs hI) (hT2 : T < 2097150) :
    Calls Tryd.prog 25 #[.pointer (some ⟨bk, 0, none⟩), .slice ao L cap] w fun e w' => e = .returned (.tuple #[]) ∧ ∃ rv', B2 w0 w' bk (T + 1) rB rv' hB (hI ++ [⟨.slice ao L cap, .slice none 0 0, T + 1⟩]) ∧ Fr (bk :: rI.ownBlock.toList) w w' ∧ Moved w.heap.size rI rv' := by
  have HC : Hid _ := tellInt_any h ao L cap hp hal hT2
  clear h hp hal
  go_enter Tryd.func25, Tryd.ntmps25
  go_wp2_with fail
  refine Calls.mono HC.out ?_
  rintro e w' ⟨rfl, R⟩
  have HR : Hid _ := R
  clear R HC
  go_wp2_with fail
  go_end0
  exact ⟨rfl, HR.out⟩
end
end Go.Proofs.YtlikpcbiogfgcaaDoor.Bq
namespace Go.Proofs.YtlikpcbiogfgcaaDoor
open BigFrame Go.ChangeShapes Go.WideShapes Go.ChangeAt Go.RowKit Go.Lib
set_option linter.unusedVariables false
set_option linter.unusedSimpArgs false

theorem DuTold.one {vs : List Vn} {k : Int} {ns : List Int} {us us' : List Vn} {c c' : Nat} (h : DuTold vs k ns us c) (g : DuTold vs k ns us' c') : us = us' ∧ c = c' := by
  rcases h with ⟨rfl, h1, rfl⟩ | ⟨rfl, h1, d, hd, rfl⟩ <;> rcases g with ⟨rfl, g1, rfl⟩ | ⟨rfl, g1, d', hd', rfl⟩
  · exact ⟨rfl, rfl⟩
  · exact absurd g1 h1
  · exact absurd h1 g1
  · rw [hd.one hd']; exact ⟨rfl, rfl⟩
theorem DuTold.sub {vs : List Vn} {k : Int} {ns : List Int} {us : List Vn} {c : Nat} (h : DuTold vs k ns us c) : us.length ≤ vs.length + 1 ∧ ∀ x ∈ us, x ∈ vs := by
  rcases h with ⟨_, _, rfl⟩ | ⟨_, _, d, hd, rfl⟩
  · simp
  · refine ⟨?_, fun x hx => ?_⟩
    · have := dump_len vs ns d (vs.drop d).length
      rw [List.take_of_length_le (Nat.le_refl _), List.length_drop] at this
      have := hd.le
      omega
    · rcases List.mem_append.1 hx with h | h
      · exact headD_sub vs d hd.le x h
      · exact List.mem_of_mem_drop (List.mem_filter.1 h).1
theorem twinI_own {w : World} {b L : Nat} {ns : List Int} (hL : L = ns.length) (hLs : L < 2^21) (hrow : w.heap[b]? = some (.cells (intsC (ns ++ [7777])).toArray 3 (0, 0))) : w.ownsRow 0 3 1 (.slice (some ⟨b, 0, none⟩) L (L + 1)) L (intsC ns) := by
  refine ⟨by rw [intsC_length, hL]; omega, .inr ⟨b, L + 1, (intsC (ns ++ [7777])).toArray, rfl, Nat.zero_le _, hrow, by omega, by simp only [maxLen]; omega, by simp [intsC_length, hL], ?_⟩⟩
  simp only [intsC, List.map_append]
  rw [Nat.mul_one, List.take_append_of_le_length (by simp; omega), List.take_of_length_le (by simp; omega)]
set_option maxHeartbeats 8000000 in
set_option maxRecDepth 100000 in
theorem cdp (ao : Option Addr) (L cap : Nat) (vs : List Vn) (mk : Int) (bo : Option Addr) (M cb : Nat) (ns : List Int) (w : World) (hV : VRs w ao vs) (hLe : L = vs.length) (hcap : L ≤ cap) (h1 : -9223372036854775808 ≤ mk ∧ mk ≤ 9223372036854775807) (hN : IRs w bo ns) (hMe : M = ns.length) :
    Calls Tryd.prog 5 #[.slice ao L cap, .int .i64 mk, .slice bo M cb] w fun e w' => e = .returned (.bool true) ∧ Fr [] w w' := by
  have HL : Hid (L = vs.length) := hLe
  have HM : Hid (M = ns.length) := hMe
  have HV : Hid (∀ W, Fr [] w W → VRs W ao vs) := fun W hf => hV.keep hf
  have HN : Hid (∀ W, Fr [] w W → IRs W bo ns) := fun W hf => hN.keep hf
  have hMM : M ≤ 17592186044416 := by have := hN.few; omega
  clear hV hLe hN hMe
  have HBy : Hid (∀ (N : Nat) (V : World) (k : Nat), N ≤ 9007199254740992 → V.heap[k]? = some (.cells #[.int .i64 (N : Int), .int .i64 (M : Int)] 3 (0, 0)) → Calls Tryd.prog 6 #[.slice (some ⟨k, 0, none⟩) 2 2] V fun e w' => e = .returned (.bool (decide (1048576 < N + M))) ∧ V = w') := fun N V k hN hb =>
    beyond2_any k N M _ hN (by omega) (by rw [cell_of_row _ _ _ _ _ _ hb]; rfl) (by rw [cell_of_row _ _ _ _ _ _ hb]; rfl)
  go_enter Tryd.func5, Tryd.ntmps5
  go_wp2_with fail
  refine (vsize_any ao L cap vs _ (HV.out _ (Fr.refl _ _)) HL.out).mono ?_
  rintro e w1 ⟨N0, rfl, hLN, hNb, rfl⟩
  go_wp2_with fail
  refine Calls.mono (HBy.out N0 _ _ hNb (heap_alloc_new w _)) ?_
  rintro e w2 ⟨rfl, rfl⟩
  have hG2 : Fr [] w (w.alloc (.cells #[.int .i64 (N0 : Int), .int .i64 (M : Int)] 3)) := Fr.alloc _ _ _
  obtain ⟨w2, HW2⟩ : ∃ w2, Hid (w.alloc (.cells #[.int .i64 (N0 : Int), .int .i64 (M : Int)] 3) = w2) := ⟨_, rfl⟩
  rw [HW2.out] at hG2 ⊢
  by_cases hbig : 1048576 < N0 + M
  · have hbd : decide (1048576 < N0 + M) = true := by simpa using hbig
    rw [hbd]
    go_wp2
    go_ret
    exact ⟨rfl, hG2⟩
  · have hbd : decide (1048576 < N0 + M) = false := by simpa using hbig
    rw [hbd]
    have hLs : L < 1048577 := by omega
    have hMs : M < 1048577 := by omega
    clear hbig hbd HW2 hLN hNb HBy
    go_wp2_with fail
    refine (twinVs_any ao L cap vs _ (HV.out _ hG2) HL.out (by omega)).mono ?_
    rintro e w3 ⟨b, rfl, hb, hrow3, hF3⟩
    have hG3 := hG2.then hF3
    have hwb : w.heap.size ≤ b := by have := hG2.size; omega
    have hb3 : b < w3.heap.size := lt_of_block hrow3
    go_wp2_with fail
    refine (twinIs_any bo M cb ns _ (HN.out _ hG3) HM.out (by omega)).mono ?_
    rintro e w4 ⟨ib, rfl, hib, hirow4, hF4⟩
    have hG4 := hG3.then hF4
    have HG4 : Hid (Fr [] w w4) := hG4
    have hrow4 := hF4.keep hrow3 (by simp)
    have hib4 : ib < w4.heap.size := lt_of_block hirow4
    have hwi : w.heap.size ≤ ib := by have := hG3.size; omega
    have hb4 : b < w4.heap.size := lt_of_block hrow4
    have HRow : Hid (∀ W, Fr [] w4 W → W.heap[b]? = some (.cells (vnsC (vs ++ [spV])).toArray 24 (0, 0))) := fun W hf => hf.keep hrow4 (by simp)
    have HIRow : Hid (∀ W, Fr [] w4 W → W.heap[ib]? = some (.cells (intsC (ns ++ [7777])).toArray 3 (0, 0))) := fun W hf => hf.keep hirow4 (by simp)
    have HX : Hid (∀ W, Fr [] w4 W → VRs W (some ⟨b, 0, none⟩) vs) := fun W hf => VRs.of_own (twin_own HL.out (by omega) (HRow.out W hf)) HL.out (HV.out _ (Fr.refl _ _)).few (HV.out _ (Fr.refl _ _)).each
    have HXi : Hid (∀ W, Fr [] w4 W → IRs W (some ⟨ib, 0, none⟩) ns) := fun W hf => by
      refine ⟨fun h0 => ⟨ib, 0, rfl, by have := hf.size; omega, fun i hi => ?_⟩, (HN.out _ (Fr.refl _ _)).few⟩
      rw [cell_of_row _ _ _ _ _ _ (HIRow.out W hf), List.getElem?_toArray, Nat.zero_add, intsC_get _ _ (by simp; omega)]
      have e : (ns ++ [7777]).getD i 0 = ns.getD i 0 := by simp [List.getD, List.getElem?_append_left hi]
      rw [e]
    have HI4 : Hid (∀ W, Fr [] w4 W → VRs W ao vs ∧ IRs W bo ns) := fun W hf => ⟨HV.out W (HG4.out.then hf), HN.out W (HG4.out.then hf)⟩
    clear hrow3 hrow4 hirow4 hF3 hF4 hG2 hG3 hG4 hb hib hb3
    go_wp2_with fail
    refine (dump_any (some ⟨b, 0, none⟩) L (L + 1) mk vs (some ⟨ib, 0, none⟩) M (M + 1) ns _ (HX.out _ (Fr.refl _ _)) HL.out (by omega) (HXi.out _ (Fr.refl _ _)) HM.out).mono ?_
    rintro e w7 ⟨ro, N, rc, us, d1, rfl, hC1, hO7, hF7⟩
    have hG7 : Fr [] w4 w7 := hF7
    go_wp2_with fail
    refine (udump_any ao L cap mk vs bo M cb ns _ (HI4.out _ hG7).1 HL.out (HI4.out _ hG7).2 HM.out).mono ?_
    rintro e w8 ⟨ro2, N2, rc2, us2, d2, rfl, hC2, hN2, hR8, hF8⟩
    obtain ⟨rfl, rfl⟩ := hC1.one hC2
    have hG8 := hG7.then hF8
    obtain ⟨hsl, hsm⟩ := hC1.sub
    have HUe : Hid (us.length ≤ L + 1 ∧ ∀ x ∈ us, VEach x) := ⟨by rw [HL.out]; exact hsl, fun x hx => (HV.out _ (Fr.refl _ _)).each x (hsm x hx)⟩
    have HO7 : Hid (∀ W, Fr [] w8 W → VOut w4 W ro N rc us) := fun W hf => by
      have h1 := hO7.later (Nat.le_refl _)
      obtain ⟨rf, h3, h4⟩ := h1.own
      refine ⟨⟨rf, h3, h4.1, ?_⟩, h1.len, h1.cap⟩
      rcases h4.2 with h5 | ⟨g, cp, cur, hv, hb, hg, hr⟩
      · exact Or.inl h5
      · exact Or.inr ⟨g, cp, cur, hv, hb, (hF8.then hf).keep hg (by simp), hr⟩
    have hNu : N = us.length := hO7.len
    have HNu : Hid (N = us.length) := hNu
    have hNL : N ≤ L + 1 := by rw [hNu]; exact HUe.out.1
    have HS1 : Hid (∀ W, Fr [] w8 W → Calls _ _ _ _ _) := fun W hf => sameVs_any ro ro2 N N2 rc rc2 true us us W ((HO7.out _ hf).rs (by have := HUe.out.1; omega) HUe.out.2) (hR8.keep hf) hNu hN2 (by simp)
    have HLf : Hid (∀ W, Fr [] w8 W → Calls Tryd.prog 14 #[.slice (some ⟨b, 0, none⟩) L (L + 1), .slice ao L cap] W fun e w' => e = .returned (.bool true) ∧ Fr [] W w') := fun W hf => leftVs_any b ao L cap vs W (HI4.out _ (hG8.then hf)).1 HL.out (by omega) (HRow.out _ (hG8.then hf))
    have HLi : Hid (∀ W, Fr [] w8 W → Calls Tryd.prog 24 #[.slice (some ⟨ib, 0, none⟩) M (M + 1), .slice bo M cb] W fun e w' => e = .returned (.bool true) ∧ Fr [] W w') := fun W hf => leftIs_any ib bo M cb ns W (HI4.out _ (hG8.then hf)).2 HM.out (by omega) (HIRow.out _ (hG8.then hf))
    have q1 : ((d1 : Int) != d1) = false := by simp
    have HR : Hid (Fr [] w4 w8) := hG8
    clear hC1 hC2 hN2 hR8 hF7 hF8 hG7 hG8 hO7 hsl hsm hNu
    go_wp2_with fail
    refine Calls.mono (HS1.out _ (Fr.refl _ _)) ?_
    rintro e x1 ⟨rfl, hf1⟩
    go_wp2_with fail
    refine (HLf.out _ hf1).mono ?_
    rintro e x2 ⟨rfl, hf2⟩
    have hf2 := hf1.then hf2
    go_wp2_with fail
    refine (HLi.out _ hf2).mono ?_
    rintro e w9 ⟨rfl, hf4⟩
    have HG9 : Hid (Fr [] w8 w9) := hf2.then hf4
    obtain ⟨bk, HBk⟩ : ∃ bk, Hid (bk = w9.heap.size) := ⟨_, rfl⟩
    obtain ⟨wl, HWl⟩ : ∃ wl, Hid (wl = w9.alloc (Obj.cells #[.int .i64 0, .slice none 0 0, .slice none 0 0, .slice none 0 0, .slice none 0 0, .slice none 0 0, .slice none 0 0, .slice none 0 0, .slice none 0 0, .slice none 0 0, .slice none 0 0, .slice none 0 0] 45)) := ⟨_, rfl⟩
    clear HS1 HLf HLi hf1 hf2 hf4 q1
    go_upto_region 10 with fail
    rw [← HWl.out, ← HBk.out]
    have HFl : Hid (Fr [] w9 wl) := by rw [HWl.out]; exact Fr.alloc _ _ _
    have hBl : wl.heap[bk]? = some (.cells Bq.newBk 45 (0, 0)) := by rw [HWl.out, HBk.out]; exact heap_alloc_new w9 _
    have HG8l : Hid (Fr [] w8 wl) := HG9.out.then HFl.out
    have HG4l : Hid (Fr [] w4 wl) := HR.out.then HG8l.out
    have hbk1 : w4.heap.size ≤ bk := by rw [HBk.out]; exact (HR.out.then HG9.out).size
    have hs4 : w.heap.size ≤ w4.heap.size := HG4.out.size
    have HB0 : Hid (Bq.B2 w wl bk 0 (.slice none 0 0) (.slice none 0 0) [] []) := Bq.B2.new hBl (by omega)
    have HC1 : Hid _ := Bq.versions_any HB0.out (some ⟨b, 0, none⟩) L (L + 1) ⟨L, vnsC vs, Bq.Cut.of (twin_own HL.out (by omega) (HRow.out _ HG4l.out)), by omega⟩ (fun k hk hm => by simp [Bq.lbs] at hm) (by omega)
    clear hBl
    go_wp2_with fail
    refine Calls.mono HC1.out ?_
    rintro e wa ⟨rfl, rB1, hBa, hFa, hMa⟩
    have HBa : Hid (Bq.B2 w wa bk (0 + 1) rB1 (.slice none 0 0) ([] ++ [⟨.slice (some ⟨b, 0, none⟩) L (L + 1), .slice none 0 0, 0 + 1⟩]) []) := hBa
    have HFa : Hid (Fr [bk] wl wa) := hFa
    have HMB1 : Hid (∀ k, rB1.ownBlock = some k → bk < k) := fun k hk => by
      rcases hMa with e | ⟨k', e, hk'⟩
      · rw [e] at hk; simp [Value.ownBlock] at hk
      · rw [e] at hk
        cases hk
        have h1 : bk < wl.heap.size := by rw [HWl.out, HBk.out]; simp
        omega
    have HPi : Hid (Bq.P0 Bq.kInt wa ⟨.slice (some ⟨ib, 0, none⟩) M (M + 1), .slice none 0 0, 0 + 1 + 1⟩) := by
      have hr := HFa.out.keep (HIRow.out _ HG4l.out) (by simp; omega)
      exact ⟨M, intsC ns, Bq.Cut.of (twinI_own HM.out (by omega) hr), by omega⟩
    have HC2 : Hid _ := Bq.ints_any HBa.out (some ⟨ib, 0, none⟩) M (M + 1) HPi.out (fun k hk hm => by simp [Bq.lbs] at hm) (by omega)
    clear hBa hFa hMa HC1 HB0
    go_wp2_with fail
    refine Calls.mono HC2.out ?_
    rintro e wb ⟨rfl, rI1, hBb, hFb, hMb⟩
    have HBb : Hid (Bq.B2 w wb bk (0 + 1 + 1) rB1 rI1 ([] ++ [⟨.slice (some ⟨b, 0, none⟩) L (L + 1), .slice none 0 0, 0 + 1⟩]) ([] ++ [⟨.slice (some ⟨ib, 0, none⟩) M (M + 1), .slice none 0 0, 0 + 1 + 1⟩])) := hBb
    have HFb : Hid (Fr [bk] wa wb) := hFb
    have HOx : Hid (VOut w4 wl ro N rc us) := HO7.out _ HG8l.out
    have Hbl : Hid (∀ k, (Value.slice ro N rc).ownBlock = some k → w4.heap.size ≤ k ∧ k < bk) := fun k hk => by
      obtain ⟨rf, h3, h4⟩ := (HO7.out _ HG9.out).own
      have hk2 : (Value.slice ro N rf).ownBlock = some k := by rw [Bq.ownBlock_cap ro N N rf rc]; exact hk
      rcases h4.2 with ⟨e, _⟩ | ⟨g, cp, cur, e, hb, hg, _⟩
      · cases e; simp [Value.ownBlock] at hk2
      · cases e
        simp [Value.ownBlock] at hk2
        subst hk2
        exact ⟨hb, by rw [HBk.out]; exact lt_of_block hg⟩
    have HPx : Hid (Bq.P0 Bq.kVersion wb ⟨.slice ro N rc, .slice none 0 0, 0 + 1 + 1 + 1⟩) := ((Bq.P0.of_out HOx.out (by omega)).keep HFa.out (fun k hk hm => by have := (Hbl.out k hk).2; simp at hm; omega)).keep HFb.out (fun k hk hm => by have := (Hbl.out k hk).2; simp at hm; omega)
    have HC3 : Hid _ := Bq.versions_any HBb.out ro N rc HPx.out (fun k hk hm => by
      obtain ⟨h, hh, hk1⟩ := Bq.mem_lbs.1 hm
      simp at hh
      subst hh
      simp [Value.ownBlock] at hk1
      have := (Hbl.out k hk).1
      omega) (by omega)
    clear hBb hFb hMb HC2 HBa
    go_wp2_with fail
    refine Calls.mono HC3.out ?_
    rintro e wc ⟨rfl, rB2, hBc, hFc, hMc⟩
    have hGc : Fr [] w wc := by
      refine (((HG4.out.then HG4l.out).on HFa.out (by intro x hx; simp at hx; omega)).on HFb.out (by intro x hx; simp at hx; omega)).on hFc ?_
      intro x hx
      rcases List.mem_cons.1 hx with h | h
      · omega
      · have := HMB1.out x (by simpa using h); omega
    have HC4 : Hid _ := hBc.apart (by
        intro k hk
        obtain ⟨h, hh, hk1⟩ := Bq.mem_lbs.1 hk
        simp at hh
        rcases hh with rfl | rfl
        · simp [Value.ownBlock] at hk1; omega
        · have := (Hbl.out k hk1).1; omega) (by
        intro k hk
        obtain ⟨h, hh, hk1⟩ := Bq.mem_lbs.1 hk
        simp at hh
        subst hh
        simp [Value.ownBlock] at hk1
        omega) hGc
    clear hBc hFc hMc HC3 HBb hGc
    go_wp2_with fail
    refine Calls.mono HC4.out ?_
    rintro e wd ⟨rfl, hFd⟩
    clear HC4
    go_wp2
    go_ret
    exact ⟨rfl, hFd⟩
end Go.Proofs.YtlikpcbiogfgcaaDoor

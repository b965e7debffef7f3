/- TopSerial's walk: whatever the picks, the store is the fold when nothing can be done any more. Conditions: the log and the picks can be read. -/
import Derived.Test.YtakbodlicfmkjaaGreatKx21
import Derived.Test.YtakbodlicfmkjaaGreatTp20
namespace Go.Proofs.YtakbodlicfmkjaaGreat.Ap
open Go.ChangeShapes Go.WideShapes Go.ChangeAt Go.RowKit Go.Lib Go.Maps
set_option linter.unusedVariables false
set_option linter.unusedSimpArgs false
/-- Where the picks are. -/
def TsS (w : World) (p : Nat) (c : Cf) (T : List Tx) (F : Nat) (n : Nat) (w' : World) : Prop := ∃ (w0 : World) (Z : Lay) (s : Ms), Fr [] w w0 ∧ RP w0 w' p c T Z s ∧ Z.nr = s.d ∧ Wf c T s ∧ s.fd = F ∧ s.k = n ∧ mu c s + n ≤ 69 * F
theorem ts_first {w w' : World} {p : Nat} {c : Cf} {T : List Tx} {fd : Int} {w0 : World} {Z : Lay} (hc : c.may) (hok : okL 1 T) (hf : Fr [] w w0) (h : RP w0 w' p c T Z { ms0 with fd := fedTo T 0 fd }) (hn : Z.nr = 0) : TsS w p c T (fedTo T 0 fd) 0 w' :=
  ⟨w0, Z, _, hf, h, hn, (Wf.zero hc hok).feed fd, rfl, rfl, by rw [mu_fed]; exact Nat.le_refl _⟩
theorem TsS.fr {w w1 : World} {p n F : Nat} {c : Cf} {T : List Tx} (h : TsS w p c T F n w1) : Fr [] w w1 := by
  obtain ⟨w0, Z, s, h1, h2, h3⟩ := h
  exact h1.then h2.m.fr
theorem TsS.quiet {w w1 w2 : World} {p n F : Nat} {c : Cf} {T : List Tx} (h : TsS w p c T F n w1) (hf : Fr [] w1 w2) : TsS w p c T F n w2 := by
  obtain ⟨w0, Z, s, h1, h2, h3⟩ := h
  exact ⟨w0, Z, s, h1, h2.quiet hf, h3⟩
theorem TsS.le {w w1 : World} {p n F : Nat} {c : Cf} {T : List Tx} (h : TsS w p c T F n w1) : n ≤ 69 * F ∧ F ≤ T.length := by
  obtain ⟨w0, Z, s, h1, h2, h3, h4, h5, h6, h7⟩ := h
  have := h4.fdl.2
  exact ⟨by omega, by omega⟩
/-- A pick: one more step, or none can do anything any more. -/
theorem ts_pick {w w' : World} {p n F : Nat} {c : Cf} {T : List Tx} (h : TsS w p c T F n w') (hF : F ≤ 65536) {m : Int} (hm : i64 m) : Calls Tryz.prog 6 #[.pointer (some ⟨p, 0, none⟩), .int .i64 m] w' fun e w2 =>
    (∃ t k m sh ct ma, e = .returned (.tuple #[.agg #[.int .i64 t, .int .u8 k, .int .i64 m, .int .i64 sh, .int .i64 ct, .int .i64 ma], .int .i64 0]) ∧ TsS w p c T F (n + 1) w2) ∨
    (e = .returned (.tuple #[.agg #[.int .i64 0, .int .u8 0, .int .i64 0, .int .i64 0, .int .i64 0, .int .i64 0], .int .i64 9]) ∧ Hid (Fr [] w w2 ∧ ∃ (w0 : World) (Z : Lay) (s : Ms), RP w0 w2 p c T Z s ∧ Wf c T s ∧ s.fd = F ∧ s.k = n ∧ rdyL c s (c.l.toNat + c.s.toNat + 2) = [])) := by
  have hle := h.le
  obtain ⟨w0, Z, s, h1, h2, h3, h4, h5, h6, h7⟩ := h
  by_cases hr : rdyL c s (c.l.toNat + c.s.toNat + 2) = []
  · refine Calls.mono (pick_idle h2 h4 m hr) ?_
    rintro e w2 ⟨rfl, hf⟩
    exact Or.inr ⟨rfl, h1.then (h2.m.fr.then hf), w0, Z, s, h2.quiet hf, h4, h5, h6, hr⟩
  · refine Calls.mono (pick_on h2 h3 h4 (by omega) m hm hr) ?_
    rintro e w2 ⟨t, k, m, sh, ct, ma, s', rfl, ⟨Z', hD, hn'⟩, hN⟩
    refine Or.inl ⟨t, k, m, sh, ct, ma, rfl, w0, Z', s', h1, h2.dn hD, hn', hN.wf, by rw [hN.fd]; exact h5, by rw [hN.k, h6], ?_⟩
    have := hN.mu
    omega
/-- What is asked at the end. -/
structure EndC (w1 w : World) (p F : Nat) (T : List Tx) : Prop where
  over : ∀ W, Fr [] w W → Calls Tryz.prog 9 #[.pointer (some ⟨p, 0, none⟩)] W fun e w' => e = .returned (.bool true) ∧ Fr [] W w'
  mark : ∀ W, Fr [] w W → Calls Tryz.prog 10 #[.pointer (some ⟨p, 0, none⟩)] W fun e w' => e = .returned (.int .i64 (F : Int)) ∧ Fr [] W w'
  store : ∀ W, Fr [] w W → Calls Tryz.prog 12 #[.pointer (some ⟨p, 0, none⟩)] W fun e w' => ∃ ro N rc ps, e = .returned (.slice ro N rc) ∧ Hid (N = ps.length ∧ Fo.Is (Fo.fo (T.take F)) ps ∧ O.ERs w' ro ps ∧ Fr [] W w')
theorem end_c {w1 w : World} {p n F : Nat} {c : Cf} {T : List Tx} {w0 : World} {Z : Lay} {s : Ms} (h : RP w0 w p c T Z s) (hW : Wf c T s) (hfd : s.fd = F) (hk : s.k = n) (hn : n < 16000000) (hr : rdyL c s (c.l.toNat + c.s.toNat + 2) = []) : EndC w1 w p F T := by
  refine ⟨fun W hf => over_any (h.quiet hf) hW (by omega) hr, fun W hf => ?_, fun W hf => ?_⟩
  · have := rmark_any (h.quiet hf)
    rw [(idle_all hW hr).2.2.2.1, hfd] at this
    exact this
  · refine Calls.mono (idle_store (h.quiet hf) hW (by omega) hr) ?_
    rintro e w' ⟨ro, N, rc, ps, rfl, h1, h2, h3, h4, h5, h6⟩
    rw [hfd] at h2
    exact ⟨ro, N, rc, ps, rfl, h1, h2, h4, h6⟩
section
variable {w : World} {l s x q C fd : Int} {ao po : Option Addr} {L cap P pc : Nat} {ts : List Tm} {xs : List Int}
set_option maxHeartbeats 8000000 in
set_option maxRecDepth 100000 in
theorem topSerial_any (hT : TRs w ao ts) (hL : L = ts.length) (hcap : L ≤ cap) (hP : Pks w po xs) (hPl : P = xs.length) (hpc : P ≤ pc) (hfd : i64 fd) :
    Calls Tryz.prog 3 #[.agg (wdC l s x q ao L cap C fd po P pc)] w fun e w' => e = .returned (.bool true) ∧ Fr [] w w' := by
  obtain ⟨w1, HW1⟩ : ∃ w1, Hid (w.alloc (.cells (wdC l s x q ao L cap C fd po P pc) 27) = w1) := ⟨_, rfl⟩
  obtain ⟨A, HA⟩ : ∃ A, Hid (w.heap.size = A) := ⟨_, rfl⟩
  have hF1 : Fr [] w w1 := by rw [← HW1.out]; exact Fr.alloc [] w _
  have hb1 : w1.heap[A]? = some (.cells (wdC l s x q ao L cap C fd po P pc) 27 (0, 0)) := by rw [← HW1.out, ← HA.out]; exact heap_alloc_new _ _
  have HBx : Hid (∀ W, Fr [] w1 W → W.cell? ⟨A, 0, none⟩ = some (.int .i64 l) ∧ W.cell? ⟨A, 1, none⟩ = some (.int .i64 s) ∧ W.cell? ⟨A, 2, none⟩ = some (.int .i64 x) ∧ W.cell? ⟨A, 3, none⟩ = some (.int .i64 q) ∧ W.cell? ⟨A, 4, none⟩ = some (.slice ao L cap) ∧ W.cell? ⟨A, 5, none⟩ = some (.int .i64 C) ∧ W.cell? ⟨A, 6, none⟩ = some (.int .i64 fd) ∧ W.cell? ⟨A, 7, none⟩ = some (.slice po P pc)) := fun W hf => by
    have hr := hf.keep hb1 (by simp)
    refine ⟨?_, ?_, ?_, ?_, ?_, ?_, ?_, ?_⟩ <;> (rw [cell_of_row _ _ _ _ _ _ hr]; rfl)
  have HT : Hid (∀ W, Fr [] w1 W → TRs W ao ts ∧ Pks W po xs) := fun W hf => ⟨hT.keep (hF1.then hf), hP.keep (hF1.then hf)⟩
  have HF1 : Hid (Fr [] w w1) := hF1
  have HL : Hid (L = ts.length ∧ P = xs.length) := ⟨hL, hPl⟩
  obtain ⟨f0, f1, f2, f3, f4, f5, f6, f7⟩ := HBx.out _ (Fr.refl _ _)
  by_cases hgood : okL 1 (txs ts) ∧ (0 ≤ C ∧ C ≤ 16777216) ∧ Cf.may ⟨l, s, x, q⟩
  · have hSt := started_ok (w := w1) (l := l) (s := s) (x := x) (q := q) (C := C) (fd := fd) (ao := ao) (po := po) (L := L) (cap := cap) (P := P) (pc := pc) (HT.out _ (Fr.refl _ _)).1 hL hgood.1 hgood.2.1.1 hgood.2.1.2 hgood.2.2
    unfold wdC at hSt
    obtain ⟨F, hF⟩ : ∃ F, fedTo (txs ts) 0 fd = F := ⟨_, rfl⟩
    have HSt : Hid (Calls Tryz.prog 4 #[.agg #[.int .i64 l, .int .i64 s, .int .i64 x, .int .i64 q, .slice ao L cap, .int .i64 C, .int .i64 fd, .slice po P pc]] w1 fun e w' => ∃ (p : Nat) (dv : Value), e = .returned (.tuple #[.pointer (some ⟨p, 0, none⟩), dv]) ∧ Hid (TsS w1 p ⟨l, s, x, q⟩ (txs ts) F 0 w')) := by
      refine Calls.mono hSt ?_
      rintro e w' ⟨p, dv, Z, w0, rfl, h1, h2, h3⟩
      refine ⟨p, dv, rfl, ?_⟩
      have := ts_first hgood.2.2 hgood.1 h1 h2 h3
      rw [hF] at this
      exact this
    have HOK : Hid (okL 1 (txs ts)) := hgood.1
    have hL6 : L ≤ 65536 := by have := okL_few hgood.1; rw [txs_length] at this; omega
    have hFe : (fd < 0 ∨ (L : Int) < fd) ∧ F = 0 ∨ (0 ≤ fd ∧ fd ≤ (L : Int)) ∧ fd = (F : Int) := by
      rw [← hF]
      unfold fedTo
      rw [txs_length, ← hL]
      by_cases h1 : fd < (0 : Nat) ∨ (L : Int) < fd
      · rw [if_pos h1]; exact Or.inl ⟨by simpa using h1, rfl⟩
      · rw [if_neg h1]
        have h2 : 0 ≤ fd ∧ fd ≤ (L : Int) := by
          constructor <;> (apply Classical.byContradiction; intro h3; apply h1; simp; omega)
        exact Or.inr ⟨h2, by omega⟩
    have hFL : F ≤ L := by rcases hFe with ⟨_, h⟩ | ⟨h, h'⟩ <;> omega
    clear hT hL hP hPl hF1 hb1 hSt hF hgood
    by_cases hbig : 100 < L
    · have hbig' : (100 : Int) < (L : Int) := by omega
      unfold wdC at HW1
      unfold wdC
      go_enter Tryz.func3, Tryz.ntmps3
      go_upto_region 1 with fail
      rw [HW1.out, HA.out]
      clear HW1 HA
      go_wp2_with fail
      refine Calls.mono HSt.out ?_
      rintro e w2 ⟨p, dv, rfl, HS⟩
      have HF2 : Hid (Fr [] w w2) := HF1.out.then HS.out.fr
      obtain ⟨g0, g1, g2, g3, g4, g5, g6, g7⟩ := HBx.out _ HS.out.fr
      have HKn : Hid (Calls _ _ _ _ _) := known_any w2
      clear HSt f0 f1 f2 f3 f4 f5 f6 f7 HS
      go_wp2_with fail
      refine Calls.mono HKn.out ?_
      rintro e w3 ⟨rfl, hf3⟩
      have HF3 : Hid (Fr [] w w3) := HF2.out.then hf3
      clear hf3 HKn
      go_wp2
      go_ret
      exact ⟨rfl, HF3.out⟩
    · have hbig' : ¬ (100 : Int) < (L : Int) := by omega
      have HFe : Hid ((fd < 0 ∨ (L : Int) < fd) ∧ F = 0 ∨ (0 ≤ fd ∧ fd ≤ (L : Int)) ∧ fd = (F : Int)) := hFe
      clear hFe
      unfold wdC at HW1
      unfold wdC
      go_enter Tryz.func3, Tryz.ntmps3
      go_upto_region 1 with fail
      rw [HW1.out, HA.out]
      clear HW1 HA
      go_wp2_with fail
      refine Calls.mono HSt.out ?_
      rintro e w2 ⟨p, dv, rfl, HS⟩
      have HF2 : Hid (Fr [] w1 w2) := HS.out.fr
      obtain ⟨g0, g1, g2, g3, g4, g5, g6, g7⟩ := HBx.out _ HS.out.fr
      clear HSt f0 f1 f2 f3 f4 f5 f6 f7
      go_upto_region 5 with fail
      go_cut [35] from 27 to 35 (fun v wx => ∃ bb : Bool, v = .bool bb ∧ Hid (bb = true ↔ (fd < 0 ∨ (L : Int) < fd)) ∧ w2 = wx)
      case first =>
        by_cases h0 : fd < 0
        · go_wp2
          go_meet
          exact ⟨true, rfl, ⟨fun _ => Or.inl h0, fun _ => rfl⟩, rfl⟩
        · by_cases h4 : (L : Int) < fd
          · go_wp2
            go_meet
            exact ⟨true, rfl, ⟨fun _ => Or.inr h4, fun _ => rfl⟩, rfl⟩
          · go_wp2
            go_meet
            exact ⟨false, rfl, ⟨fun h => (by cases h), fun h => (by omega)⟩, rfl⟩
      case rest =>
        obtain ⟨bb, rfl, HBb, rfl⟩ := hcut
        rename_i hK5
        refine hK5 _ _ ?_
        clear hK5
        go_cut [5] from 27 to 35 (fun v wx => v = .int .i64 (F : Int) ∧ w2 = wx)
        case first =>
          rcases HFe.out with ⟨h1, h2⟩ | ⟨⟨h1, h2⟩, h3⟩
          · obtain rfl := HBb.out.2 h1
            go_wp2
            go_meet
            exact ⟨by rw [h2]; rfl, rfl⟩
          · obtain rfl : bb = false := by
              cases bb with
              | false => rfl
              | true => have := HBb.out.1 rfl; omega
            go_wp2
            go_meet
            exact ⟨by rw [h3], rfl⟩
        case rest =>
          obtain ⟨rfl, rfl⟩ := hcut
          clear HBb HFe g0 g1 g2 g3 g4 g5 g6 g7 HF2
          go_wp2_with fail
          go_loopw [6] (fun ii wr => ∃ n : Nat, ii = .int .i64 n ∧ Hid (TsS w1 p ⟨l, s, x, q⟩ (txs ts) F n wr)) (fun ii _ => 70 * L + 1 - (RowKit.intOf ii).toNat)
          case atStart => exact ⟨0, rfl, HS⟩
          case round =>
            clear HS
            obtain ⟨n, rfl, HR⟩ := hrel
            have hle := HR.out.le
            have hnL : n ≤ 70 * L := by omega
            have hlt : (n : Int) ≤ 70 * (L : Int) := by omega
            have hn7 : n ≤ 7000 := by omega
            clear hle
            obtain ⟨wt, hwt⟩ : ∃ wt, wt = wr := ⟨_, rfl⟩
            subst hwt
            obtain ⟨g0, g1, g2, g3, g4, g5, g6, g7⟩ := HBx.out _ HR.out.fr
            have hP := (HT.out _ HR.out.fr).2
            obtain ⟨m, hm⟩ : ∃ m, m = pkI xs n := ⟨_, rfl⟩
            have hPk := tpick_any hP HL.out.2 hpc n (by omega)
            have hmi := pkI_i64 hP (i := n) (by omega)
            rw [← hm] at hPk hmi
            have HPk : Hid (Calls _ _ _ _ _) := hPk
            have HP : Hid (Calls _ _ _ _ _) := ts_pick HR.out (by omega) hmi
            clear hm hPk hmi hP HR
            go_wp2_with fail
            refine Calls.mono HPk.out ?_
            rintro e w5 ⟨rfl, rfl⟩
            clear HPk
            go_wp2_with fail
            refine Calls.mono HP.out ?_
            rintro e w7 (⟨t, k, m, sh, ct, ma, rfl, h7⟩ | ⟨rfl, h7⟩)
            · have H7 : Hid (TsS w1 p ⟨l, s, x, q⟩ (txs ts) F (n + 1) (w7.alloc (.cells #[.int .i64 t, .int .u8 k, .int .i64 m, .int .i64 sh, .int .i64 ct, .int .i64 ma] 35))) := h7.quiet (Fr.alloc _ _ _)
              clear h7 HP g0 g1 g2 g3 g4 g5 g6 g7
              go_wp2_with fail
              go_roundw
              case rel => exact ⟨n + 1, by simp, H7⟩
              case measure => simp [RowKit.intOf]; omega
            · obtain ⟨hf7, w0, Z, S, q1, q2, q3, q4, q5⟩ := h7.out
              obtain ⟨ps, hps, hpl⟩ := Fo.fo_len ((txs ts).take F) (fun t ht => (okL_mem HOK.out t (List.mem_of_mem_take ht)).2.2.1)
              have hpl2 : ps.length ≤ 3200 := by rw [List.length_take] at hpl; omega
              obtain ⟨Nx, hNx⟩ : ∃ Nx, Nx = ps.length := ⟨_, rfl⟩
              have HNx : Hid (Nx = ps.length) := hNx
              have hNx2 : Nx ≤ 3200 := by omega
              have HPs : Hid (Fo.Is (Fo.fo ((txs ts).take F)) ps) := hps
              have HSc : Hid (Fo.ScTold (txs ts) (F : Int) ⟨#[]⟩ ⟨#[]⟩ ps 0) := Fo.sc_of HOK.out (by rw [txs_length, ← HL.out.1]; exact hFL) hps
              have HG : Hid (Fr [] w1 (w7.alloc (.cells #[.int .i64 0, .int .u8 0, .int .i64 0, .int .i64 0, .int .i64 0, .int .i64 0] 35))) := hf7.then (Fr.alloc _ _ _)
              have HE : Hid (EndC w1 (w7.alloc (.cells #[.int .i64 0, .int .u8 0, .int .i64 0, .int .i64 0, .int .i64 0, .int .i64 0] 35)) p F (txs ts)) := end_c (q1.quiet (Fr.alloc _ _ _)) q2 q3 q4 (by omega) q5
              clear hf7 q1 q2 q3 q4 q5 hps hpl hpl2 hNx h7 HP g0 g1 g2 g3 g4 g5 g6 g7
              obtain ⟨g0, g1, g2, g3, g4, g5, g6, g7⟩ := HBx.out _ HG.out
              go_wp2_with fail
              refine Calls.mono (Fo.fStore_any ao L cap (F : Int) ps Nx 0 ts _ (HT.out _ HG.out).1 HL.out.1 hcap (by omega) (by omega) HSc.out HNx.out) ?_
              rintro e w9 ⟨ro, rc, rfl, hE9, hF9⟩
              have HF9 : Hid (Fr [] _ w9) := hF9
              have HR9 : Hid (O.ERs w9 ro ps) := O.ers_of hE9.row hE9.len (by rw [← HNx.out]; omega)
              clear hE9 hF9 g0 g1 g2 g3 g4 g5 g6 g7
              have HOv : Hid (Calls _ _ _ _ _) := HE.out.over w9 HF9.out
              go_upto_region 15 with fail
              go_wp2_with fail
              refine Calls.mono HOv.out ?_
              rintro e w10 ⟨rfl, hf10⟩
              have HF10 : Hid (Fr [] w9 w10) := hf10
              clear hf10 HOv
              have HMk : Hid (Calls _ _ _ _ _) := HE.out.mark w10 (HF9.out.then HF10.out)
              go_wp2_with fail
              refine Calls.mono HMk.out ?_
              rintro e w11 ⟨rfl, hf11⟩
              have HF11 : Hid (Fr [] w9 w11) := HF10.out.then hf11
              clear hf11 HMk HF10
              have HStr : Hid (Calls _ _ _ _ _) := HE.out.store w11 (HF9.out.then HF11.out)
              go_wp2_with fail
              refine Calls.mono HStr.out ?_
              rintro e w12 ⟨ro2, N2, rc2, qs, rfl, hq⟩
              obtain ⟨hq1, hq2, hq3, hq4⟩ := hq.out
              obtain rfl : qs = ps := Fo.Is.unique hq2 HPs.out
              obtain rfl : N2 = Nx := hq1.trans HNx.out.symm
              have HF12 : Hid (Fr [] w9 w12) := HF11.out.then hq4
              have HSa : Hid (Calls _ _ _ _ _) := O.sameEntries_any ro2 ro N2 rc2 rc qs w12 hq3 (HR9.out.keep HF12.out) HNx.out
              clear hq hq1 hq2 hq3 hq4 HF11 HStr
              go_wp2_with fail
              refine Calls.mono HSa.out ?_
              rintro e w13 ⟨rfl, hf13⟩
              have HF13 : Hid (Fr [] w w13) := HF1.out.then (HG.out.then (HF9.out.then (HF12.out.then hf13)))
              have HKn : Hid (Calls _ _ _ _ _) := known_any w13
              clear hf13 HSa HF12 HE HG HF9
              go_wp2_with fail
              refine Calls.mono HKn.out ?_
              rintro e w14 ⟨rfl, hf14⟩
              have HF14 : Hid (Fr [] w w14) := HF13.out.then hf14
              clear hf14 HKn HF13
              go_wp2
              go_ret
              exact ⟨rfl, HF14.out⟩
  · have hSt := started_no (w := w1) (l := l) (s := s) (x := x) (q := q) (C := C) (fd := fd) (ao := ao) (po := po) (L := L) (cap := cap) (P := P) (pc := pc) (HT.out _ (Fr.refl _ _)).1 hL hgood
    unfold wdC at hSt
    have HSt : Hid (Calls _ _ _ _ _) := hSt
    clear hT hL hP hPl hF1 hb1 hSt hgood
    unfold wdC at HW1
    unfold wdC
    go_enter Tryz.func3, Tryz.ntmps3
    go_upto_region 1 with fail
    rw [HW1.out, HA.out]
    clear HW1 HA
    go_wp2_with fail
    refine Calls.mono HSt.out ?_
    rintro e w2 ⟨⟨v, rfl⟩, hf2⟩
    have HF2 : Hid (Fr [] w w2) := HF1.out.then hf2
    have HKn : Hid (Calls _ _ _ _ _) := known_any w2
    clear HSt f0 f1 f2 f3 f4 f5 f6 f7 hf2
    go_wp2_with fail
    refine Calls.mono HKn.out ?_
    rintro e w3 ⟨rfl, hf3⟩
    have HF3 : Hid (Fr [] w w3) := HF2.out.then hf3
    clear hf3 HKn
    go_wp2
    go_ret
    exact ⟨rfl, HF3.out⟩
end
end Go.Proofs.YtakbodlicfmkjaaGreat.Ap

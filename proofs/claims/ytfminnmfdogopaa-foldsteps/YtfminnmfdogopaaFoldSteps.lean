/- For every list of transactions and whatever is asked of it the law FoldSteps returns true, and the list reads as it did. No conditions. -/
import Derived.Test.YtfminnmfdogopaaAmg7
import Derived.Test.YtfminnmfdogopaaLfT
import Derived.Test.YtfminnmfdogopaaAsko
import Derived.Test.YtfminnmfdogopaaSzd
import Derived.Test.YtfminnmfdogopaaStp7
import Derived.Test.YtfminnmfdogopaaFstE
import Derived.Deep.RegionHeld3
import Derived.Maps.RangeWalk
import Derived.Deep.RegionHeld
namespace Go.Proofs.Ytfminnmfdogopaa.foldSteps
open Go.ChangeShapes Go.WideShapes Go.ChangeAt Go.RowKit Go.Lib Go.Maps Go.Sort
set_option linter.unusedVariables false
set_option linter.unusedSimpArgs false

set_option maxHeartbeats 16000000 in
set_option maxRecDepth 100000 in
theorem walk (ao : Option Addr) (L cap : Nat) (ts : List Tm) (f n : Int) (key en : ByteArray) (w : World) (hT : TRs w ao ts) (hLe : L = ts.length) (hcap : L ≤ cap) (hf : -9223372036854775808 ≤ f ∧ f ≤ 9223372036854775807) (hn : -9223372036854775808 ≤ n ∧ n ≤ 9223372036854775807) (hky : key.size ≤ reachBytes) (hen : en.size ≤ reachBytes) :
    Calls Try.prog 6 #[.slice ao L cap, .agg #[.int .i64 f, .int .i64 n, .string key, .string en]] w fun e w' => e = .returned (.bool true) ∧ Fr [] w w' := by
  by_cases hcase : 1048576 < tszG L ts + key.size + en.size ∨ ¬ okL 1 (txs ts) ∨ L = 0
  · exact walkE ao L cap ts f n key en w hT hLe hcap hf hn hky hen hcase
  have HNc : Hid (¬ 1048576 < tszG L ts + key.size + en.size ∧ okL 1 (txs ts) ∧ L ≠ 0) := ⟨fun h => hcase (Or.inl h), Classical.byContradiction fun h => hcase (Or.inr (Or.inl h)), fun h => hcase (Or.inr (Or.inr h))⟩
  clear hcase
  have HL : Hid (L = ts.length) := hLe
  have HI : Hid (∀ W, Fr [] w W → TRs W ao ts) := fun W hf => hT.keep hf
  have hks : key.size ≤ 140737488355328 := by have := reachBytes_lt; omega
  have hes : en.size ≤ 140737488355328 := by have := reachBytes_lt; omega
  have hLL : L ≤ 140737488355328 := by have := hT.few; omega
  obtain ⟨w0, HW0⟩ : ∃ w0, Hid (w.alloc (.cells #[.int .i64 f, .int .i64 n, .string key, .string en] 24) = w0) := ⟨_, rfl⟩
  have hF0 : Fr [] w w0 := by rw [← HW0.out]; exact Fr.alloc [] w _
  have hb0 : BoxA w0 w.heap.size f n key en := ⟨by rw [← HW0.out]; exact heap_alloc_new w _⟩
  obtain ⟨c, hc⟩ := Bad.ex (txs ts) 1
  have HC : Hid (Bad 1 (txs ts) c) := hc
  obtain ⟨Bm, HBm⟩ : ∃ Bm : Bool, Hid (Bm = true ↔ c = 0) := ⟨decide (c = 0), by show _ ↔ _; simp⟩
  clear hLe hT hky hen hc
  go_enter Try.func6, Try.ntmps6
  go_upto_region 1 with fail
  rw [HW0.out]
  obtain ⟨B, HBx⟩ : ∃ B, Hid (B = w.heap.size) := ⟨_, rfl⟩
  rw [← HBx.out] at hb0 ⊢
  clear HW0
  have hB0 : B < w0.heap.size := lt_of_block hb0.box
  have HBk : Hid (∀ W, Fr [] w0 W → BoxA W B f n key en) := fun W hf => hb0.keep hf
  have HAl : Hid (∀ W, Fr [] w0 W → Calls Try.prog 21 #[] W fun e w' => e = .returned (.bool true) ∧ Fr [] w0 w' ∧ w'.cell? ⟨B, 2, none⟩ = some (.string key) ∧ w'.cell? ⟨B, 3, none⟩ = some (.string en)) := fun W hf => by
    refine (alive7_any W).mono ?_
    rintro e w' ⟨rfl, hF1⟩
    have hk := HBk.out _ (hf.then hF1)
    exact ⟨rfl, hf.then hF1, hk.c.1, hk.c.2⟩
  obtain ⟨R, hR⟩ : ∃ R, tszG L ts = R := ⟨_, rfl⟩
  have hRL : L ≤ R := by rw [← hR]; exact tszG_ge ts L
  have HN1 : Hid (¬ 1048576 < R + key.size + en.size) := by rw [← hR]; exact HNc.out.1
  have HTs : Hid (∀ W, Fr [] w0 W → Calls Try.prog 9 #[.slice ao L cap] W fun e w' => e = .returned (.int .i64 (R : Int)) ∧ R ≤ 9007199254740992 ∧ Fr [] w0 w' ∧ w'.cell? ⟨B, 2, none⟩ = some (.string key) ∧ w'.cell? ⟨B, 3, none⟩ = some (.string en)) := fun W hf => by
    refine (txnsSizeD_any ao L cap R ts W (HI.out _ (hF0.then hf)) HL.out hR).mono ?_
    rintro e w' ⟨rfl, hRb, hF1⟩
    have hk := HBk.out _ (hf.then hF1)
    exact ⟨rfl, hRb, hf.then hF1, hk.c.1, hk.c.2⟩
  clear hR
  obtain ⟨Bq, HBq⟩ : ∃ Bq : Bool, Hid (Bq = true ↔ 1048576 < R + key.size + en.size) := ⟨decide (1048576 < R + key.size + en.size), by show _ ↔ _; simp⟩
  have HMy : Hid (∀ W, Fr [] w0 W → Calls Try.prog 22 #[.slice ao L cap] W fun e w' => e = .returned (.bool Bm) ∧ Fr [] w0 w' ∧ w'.cell? ⟨B, 2, none⟩ = some (.string key) ∧ w'.cell? ⟨B, 3, none⟩ = some (.string en)) := fun W hf => by
    refine (may7_any ao L cap c ts W (HI.out _ (hF0.then hf)) HL.out HC.out Bm HBm.out).mono ?_
    rintro e w' ⟨rfl, hF1⟩
    have hk := HBk.out _ (hf.then hF1)
    exact ⟨rfl, hf.then hF1, hk.c.1, hk.c.2⟩
  have hRb9 : R ≤ 9007199254740992 ∨ True := Or.inr trivial
  clear hRb9
  have HBy : Hid (∀ (W : World), R ≤ 9007199254740992 → Calls Try.prog 8 #[.slice (some ⟨W.heap.size, 0, none⟩) 3 3] (W.alloc (.cells #[.int .i64 (R : Int), .int .i64 (key.size : Int), .int .i64 (en.size : Int)] 3)) fun e w' => e = .returned (.bool Bq) ∧ Fr [] W w') := fun W hRb => by
    refine (beyond3D_any W.heap.size R key.size en.size Bq _ hRb (by omega) (by omega) (new3 W _ _ _).1 (new3 W _ _ _).2.1 (new3 W _ _ _).2.2 HBq.out).mono ?_
    rintro e w' ⟨rfl, rfl⟩
    exact ⟨rfl, Fr.alloc _ _ _⟩
  have HBq2 : Hid (Bq = false → R + key.size + en.size ≤ 1048576) := fun h => by
    by_cases h2 : 1048576 < R + key.size + en.size
    · have := HBq.out.2 h2; rw [h] at this; cases this
    · omega
  have HBq3 : Hid (Bq = true → 1048576 < R + key.size + en.size) := fun h => HBq.out.1 h
  clear HBq
  have HOKm : Hid (Bm = true → okL 1 (txs ts)) := fun h => HC.out.ok.1 (HBm.out.1 h)
  obtain ⟨c2, c3⟩ := hb0.c
  have hundef : undef = Value.tuple #[] := rfl
  have q2 : w0.drew.cell? ⟨B, 2, none⟩ = some (.string key) := c2
  have q3 : w0.drew.cell? ⟨B, 3, none⟩ = some (.string en) := c3
  cases Bq with
  | true => exact absurd (HBq3.out rfl) HN1.out
  | false =>
    cases Bm with
    | false => have h9 := HBm.out.2 (HC.out.ok.2 HNc.out.2.1); cases h9
    | true =>
      have HOK : Hid (okL 1 (txs ts)) := HOKm.out rfl
      have hLs : L ≤ 1048576 := by have := HBq2.out rfl; omega
      clear HOKm HBq2
      have hL0 := HNc.out.2.2
      rcases Nat.eq_zero_or_pos L with hz | hz
      · exact absurd hz hL0
      · have hBe : ((L : Int) == 0) = false := by rw [beq_eq_false_iff_ne]; omega
        have hLp : 0 < L := by omega
        clear hL0 hz HNc HN1 HBq3
        go_region_held3 (fun W => W.cell? ⟨B, 2, none⟩ = some (.string key) ∧ W.cell? ⟨B, 3, none⟩ = some (.string en)) (go_keep)
          (first
          | (go_at_call 22; with_reducible refine Calls.mono (HMy.out _ hG3) ?_; rintro e w4 ⟨rfl, hG4, m2, m3⟩)
          | (go_at_call 8; with_reducible refine Calls.mono (HBy.out w2 hNb) ?_; rintro e w3 ⟨rfl, hw2⟩; have hG3 : Fr [] w0 w3 := hG2.then hw2; clear hw2; have hk2 := HBk.out _ hG3; have o2 := hk2.c.1; have o3 := hk2.c.2; clear hk2)
          | (go_at_call 9; with_reducible refine Calls.mono (HTs.out _ hG1) ?_; rintro e w2 ⟨rfl, hNb, hG2, l2, l3⟩)
          | (go_at_call 21; with_reducible refine Calls.mono (HAl.out _ (Fr.drew [] _)) ?_; rintro e w1 ⟨rfl, hG1, k2, k3⟩))
        clear hundef k2 k3 l2 l3 o2 o3 c2 c3 q2 q3 HAl HTs HMy HBy hb0
        have hG4w := hF0.then hG4
        obtain ⟨M, hM⟩ : ∃ M, L = M + 1 := ⟨L - 1, by omega⟩
        have hMt : M < ts.length := by have := HL.out; omega
        have hTl : (txs ts).length = L := by rw [txs_length, ← HL.out]
        obtain ⟨ps, hps, hpl⟩ := fo_len ((txs ts).take L) (fun t ht => (okL_mem HOK.out t (List.mem_of_mem_take ht)).2.2.1)
        obtain ⟨qs, hqs, hql⟩ := fo_len ((txs ts).take M) (fun t ht => (okL_mem HOK.out t (List.mem_of_mem_take ht)).2.2.1)
        have hpl2 : ps.length ≤ 33554432 := by rw [List.length_take] at hpl; omega
        have hql2 : qs.length ≤ 33554432 := by rw [List.length_take] at hql; omega
        have HPs : Hid (Is (fo ((txs ts).take L)) ps) := hps
        have HQs : Hid (Is (fo ((txs ts).take M)) qs) := hqs
        have HStp : Hid (∀ s, fo ((txs ts).take L) s = match lastW (ts.getD M Tm.zero).ws s with | none => fo ((txs ts).take M) s | some x => left1 x) := fun s => by
          rw [hM, txs_take_snoc ts M hMt, fo_step]
          rfl
        have HAll : Hid ((txs ts).take L = txs ts) := by show _ = _; rw [List.take_of_length_le (by omega)]
        obtain ⟨Nx, HNx⟩ : ∃ Nx, Hid (Nx = ps.length) := ⟨_, rfl⟩
        obtain ⟨Ny, HNy⟩ : ∃ Ny, Hid (Ny = qs.length) := ⟨_, rfl⟩
        have hNx : Nx ≤ 33554432 := by rw [HNx.out]; exact hpl2
        have hNy : Ny ≤ 33554432 := by rw [HNy.out]; exact hql2
        have hMi : (L : Int) - 1 = (M : Int) := by omega
        have HML : Hid (L = M + 1) := hM
        have HSx : Hid (ScTold (txs ts) (L : Int) ⟨#[]⟩ ⟨#[]⟩ ps 0) := sc_of HOK.out (by omega) HPs.out
        have HSy : Hid (ScTold (txs ts) (M : Int) ⟨#[]⟩ ⟨#[]⟩ qs 0) := sc_of HOK.out (by omega) HQs.out
        clear hps hqs hpl hql hpl2 hql2 hTl hM HC HBm
        go_wp2_with fail
        refine (fStore_any ao L cap (L : Int) ps Nx 0 ts _ (HI.out _ hG4w) HL.out hcap (by omega) (by omega) HSx.out HNx.out).mono ?_
        rintro e w5 ⟨xo, xc, rfl, hE5, hF5⟩
        have hG5 := hG4w.then hF5
        go_wp2_with fail
        refine (fStore_any ao L cap (M : Int) qs Ny 0 ts _ (HI.out _ hG5) HL.out hcap (by omega) (by omega) HSy.out HNy.out).mono ?_
        rintro e w6 ⟨yo, yc, rfl, hE6, hF6⟩
        have hG6 := hG5.then hF6
        have HE : Hid (∀ W, Fr [] w6 W → ERs W xo ps ∧ ERs W yo qs) := fun W hf => ⟨((hE5.keep hF6).keep hf).ers (by have := HNx.out; omega), (hE6.keep hf).ers (by have := HNy.out; omega)⟩
        -- the last transaction
        obtain ⟨bl, off, hao, _, hat⟩ := (HI.out _ hG6).lies (by omega)
        obtain ⟨t0, t1⟩ := hat M hMt
        have hTa := (HI.out _ hG6).each _ (tgetD_mem ts M hMt)
        obtain ⟨T, hT⟩ : ∃ T, T = ts.getD M Tm.zero := ⟨_, rfl⟩
        rw [← hT] at t0 t1 hTa HStp
        obtain ⟨tn, tao, tL, tc, ws⟩ := T
        simp only at t0 t1 HStp
        have hTa' : TArg w6 tn tao tL tc ws := hTa
        have HWs : Hid (∀ W, Fr [] w6 W → WRs W tao ws) := fun W hf => hTa'.rs.keep hf
        have HtL : Hid (tL = ws.length) := hTa'.len
        obtain ⟨w7, HW7⟩ : ∃ w7, Hid (w6.alloc (.cells #[.int .i64 tn, .slice tao tL tc] 51) = w7) := ⟨_, rfl⟩
        have hF7 : Fr [] w6 w7 := by rw [← HW7.out]; exact Fr.alloc [] w6 _
        have hb7 : w7.heap[w6.heap.size]? = some (.cells #[.int .i64 tn, .slice tao tL tc] 51 (0, 0)) := by rw [← HW7.out]; exact heap_alloc_new w6 _
        have HB7 : Hid (∀ W, Fr [] w7 W → W.cell? ⟨w6.heap.size, 0, none⟩ = some (.int .i64 tn) ∧ W.cell? ⟨w6.heap.size, 1, none⟩ = some (.slice tao tL tc)) := fun W hf => by
          have hb := hf.keep hb7 (by simp)
          exact ⟨by rw [cell_of_row _ _ _ _ _ _ hb]; rfl, by rw [cell_of_row _ _ _ _ _ _ hb]; rfl⟩
        have hG7 := hG6.then hF7
        have HBo : Hid (∀ W, Fr [] w7 W → BoxA W B f n key en) := fun W hf => HBk.out _ ((hG4.then (hF5.then (hF6.then hF7))).then hf)
        have HH7 : Hid (Fr [] w6 w7) := hF7
        have hML' : M < L := by have := HML.out; omega
        subst hao
        clear hat hTa hTa' hT hE5 hE6 hF5 hF6 hb7 hF7
        go_upto_region 8 with fail
        rw [HW7.out]
        clear HW7
        obtain ⟨bT, HbT⟩ : ∃ bT, Hid (bT = w6.heap.size) := ⟨_, rfl⟩
        rw [← HbT.out] at HB7 ⊢
        go_wp2_with fail
        go_loopw [10] (fun ii wr => ∃ (i : Nat), ii = .int .i64 i ∧ i ≤ Nx ∧ Fr [] w7 wr) (fun ii _ => Nx - (intOf ii).toNat)
        case atStart => exact ⟨0, rfl, Nat.zero_le _, Fr.refl _ _⟩
        case round =>
          obtain ⟨i, rfl, hiN, hFr⟩ := hrel
          by_cases hi : i < Nx
          · have hi' : i < ps.length := by rw [← HNx.out]; exact hi
            obtain ⟨g, rfl, d0, d1⟩ := (HE.out _ (HH7.out.then hFr)).1.at i hi'
            obtain ⟨⟨pk, pv⟩, hp⟩ : ∃ y, y = ps.getD i e0 := ⟨_, rfl⟩
            rw [← hp] at d0 d1
            simp only at d0 d1
            obtain ⟨b0, b1⟩ := HB7.out _ hFr
            have HPm : Hid (fo ((txs ts).take L) pk = some pv) := (HPs.out.mem (pk, pv)).1 (by rw [hp]; simp [List.getD, hi'])
            have HGT : Hid (GTold (txs ts) (M : Int) pk ((fo ((txs ts).take M) pk).getD ⟨#[]⟩) (fo ((txs ts).take M) pk).isSome 0) := Or.inr (Or.inr ⟨Or.inr (Or.inr ⟨HOK.out, ⟨by omega, by rw [txs_length, ← HL.out]; omega⟩, rfl⟩), fo_okK HOK.out L (by rw [txs_length, ← HL.out]; exact Nat.le_refl _) pk pv HPm.out, rfl, by rw [Int.toNat_natCast], by rw [Int.toNat_natCast]⟩)
            obtain ⟨R, hR⟩ : ∃ R, R = lastW ws pk := ⟨_, rfl⟩
            have HR : Hid (R = lastW ws pk) := hR
            have HKp : Hid (∀ W, Fr [] w7 W → W.cell? ⟨g, i * 2, none⟩ = some (.string pk) ∧ W.cell? ⟨g, i * 2 + 1, none⟩ = some (.string pv)) := fun W hf => by
              obtain ⟨g', e, x0, x1⟩ := (HE.out _ (HH7.out.then hf)).1.at i hi'
              cases e
              rw [← hp] at x0 x1
              exact ⟨x0, x1⟩
            have HLa : Hid (∀ W, Fr [] w7 W → Calls Try.prog 25 #[.agg #[.int .i64 tn, .slice tao tL tc], .string pk] W fun e w' => e = .returned (.tuple #[.agg #[.string (R.getD ⟨⟨#[]⟩, ⟨#[]⟩, false⟩).key, .string (R.getD ⟨⟨#[]⟩, ⟨#[]⟩, false⟩).val, .bool (R.getD ⟨⟨#[]⟩, ⟨#[]⟩, false⟩).drop], .bool R.isSome]) ∧ Fr [] w7 w' ∧ w'.cell? ⟨bT, 0, none⟩ = some (.int .i64 tn) ∧ w'.cell? ⟨bT, 1, none⟩ = some (.slice tao tL tc) ∧ w'.cell? ⟨g, i * 2, none⟩ = some (.string pk)) := fun W hf => by
              refine (last7_any tn tao tL tc ws pk R W (HWs.out _ (HH7.out.then hf)) HtL.out HR.out).mono ?_
              rintro e w' ⟨rfl, hF⟩
              exact ⟨rfl, hf.then hF, (HB7.out _ (hf.then hF)).1, (HB7.out _ (hf.then hF)).2, (HKp.out _ (hf.then hF)).1⟩
            have z0 : wr.drew.cell? ⟨bT, 0, none⟩ = some (.int .i64 tn) := b0
            have z1 : wr.drew.cell? ⟨bT, 1, none⟩ = some (.slice tao tL tc) := b1
            have z2 : wr.drew.cell? ⟨g, i * 2, none⟩ = some (.string pk) := d0
            have hFr' : Fr [] w7 wr.drew := hFr.then (Fr.drew _ _)
            clear hp hR
            go_wp2_with fail
            have hbl1 : bT < wr.heap.size := World.block_lt_of_cell? _ _ b0
            have hgl1 : g < wr.heap.size := World.block_lt_of_cell? _ _ d0
            have HLb : Hid (Calls Try.prog 25 #[.agg #[.int .i64 tn, .slice tao tL tc], .string pk] (wr.alloc (.cells #[.string ⟨#[]⟩, .string ⟨#[]⟩, .bool false] 53)).drew fun e w' => e = .returned (.tuple #[.agg #[.string (R.getD ⟨⟨#[]⟩, ⟨#[]⟩, false⟩).key, .string (R.getD ⟨⟨#[]⟩, ⟨#[]⟩, false⟩).val, .bool (R.getD ⟨⟨#[]⟩, ⟨#[]⟩, false⟩).drop], .bool R.isSome]) ∧ Fr [] w7 w' ∧ w'.cell? ⟨bT, 0, none⟩ = some (.int .i64 tn) ∧ w'.cell? ⟨bT, 1, none⟩ = some (.slice tao tL tc) ∧ w'.cell? ⟨g, i * 2, none⟩ = some (.string pk) ∧ w'.heap[wr.heap.size]? = some (.cells #[.string ⟨#[]⟩, .string ⟨#[]⟩, .bool false] 53 (0, 0))) := by
              have hFa : Fr [] w7 (wr.alloc (.cells #[.string ⟨#[]⟩, .string ⟨#[]⟩, .bool false] 53)).drew := hFr.then ((Fr.alloc [] wr _).then (Fr.drew _ _))
              refine (last7_any tn tao tL tc ws pk R _ (HWs.out _ (HH7.out.then hFa)) HtL.out HR.out).mono ?_
              rintro e w' ⟨rfl, hF⟩
              exact ⟨rfl, hFa.then hF, (HB7.out _ (hFa.then hF)).1, (HB7.out _ (hFa.then hF)).2, (HKp.out _ (hFa.then hF)).1, hF.keep (show (wr.alloc (.cells #[.string ⟨#[]⟩, .string ⟨#[]⟩, .bool false] 53)).drew.heap[wr.heap.size]? = _ from heap_alloc_new wr _) (by simp)⟩
            obtain ⟨Rk, hRk⟩ : ∃ Rk, Rk = (R.getD ⟨⟨#[]⟩, ⟨#[]⟩, false⟩).key := ⟨_, rfl⟩
            obtain ⟨Rv, hRv⟩ : ∃ Rv, Rv = (R.getD ⟨⟨#[]⟩, ⟨#[]⟩, false⟩).val := ⟨_, rfl⟩
            obtain ⟨Rd, hRd⟩ : ∃ Rd, Rd = (R.getD ⟨⟨#[]⟩, ⟨#[]⟩, false⟩).drop := ⟨_, rfl⟩
            obtain ⟨Rs, hRs⟩ : ∃ Rs, Rs = R.isSome := ⟨_, rfl⟩
            rw [← hRk, ← hRv, ← hRd, ← hRs] at HLb HLa
            have HRx : Hid (Rk = (R.getD ⟨⟨#[]⟩, ⟨#[]⟩, false⟩).key ∧ Rv = (R.getD ⟨⟨#[]⟩, ⟨#[]⟩, false⟩).val ∧ Rd = (R.getD ⟨⟨#[]⟩, ⟨#[]⟩, false⟩).drop ∧ Rs = R.isSome) := ⟨hRk, hRv, hRd, hRs⟩
            clear hRk hRv hRd hRs
            go_region_held3 (fun W => W.cell? ⟨bT, 0, none⟩ = some (.int .i64 tn) ∧ W.cell? ⟨bT, 1, none⟩ = some (.slice tao tL tc) ∧ W.cell? ⟨g, i * 2, none⟩ = some (.string pk)) (go_keep)
              (first
              | (go_at_call 25; with_reducible refine Calls.mono HLb.out ?_; rintro e w8 ⟨rfl, hG8, k0, k1, k2, hbx⟩; have ne1 : ¬ bT = wr.heap.size := by omega
                 have ne2 : ¬ g = wr.heap.size := by omega
                 have ne3 : ¬ wr.heap.size = bT := by omega
                 have ne4 : ¬ wr.heap.size = g := by omega
                 have a0 : w8.cell? ⟨wr.heap.size, 0, none⟩ = some (.string ⟨#[]⟩) := by rw [cell_of_row _ _ _ _ _ _ hbx]; rfl
                 have a1 : w8.cell? ⟨wr.heap.size, 1, none⟩ = some (.string ⟨#[]⟩) := by rw [cell_of_row _ _ _ _ _ _ hbx]; rfl
                 have a2 : w8.cell? ⟨wr.heap.size, 2, none⟩ = some (.bool false) := by rw [cell_of_row _ _ _ _ _ _ hbx]; rfl
                 have y0 := frozen_of_row hbx 0
                 have y1 := frozen_of_row hbx 1
                 have y2 := frozen_of_row hbx 2)
              | (go_at_call 25; with_reducible refine Calls.mono (HLa.out _ hFr') ?_; rintro e w8 ⟨rfl, hG8, k0, k1, k2⟩; have hbx := heap_alloc_new w8 (.cells #[.string ⟨#[]⟩, .string ⟨#[]⟩, .bool false] 53)
                 have hl1 := World.block_lt_of_cell? _ _ k0
                 have hl2 := World.block_lt_of_cell? _ _ k2
                 simp only at hl1 hl2
                 have ne1 : ¬ bT = w8.heap.size := by omega
                 have ne2 : ¬ g = w8.heap.size := by omega
                 have ne3 : ¬ w8.heap.size = bT := by omega
                 have ne4 : ¬ w8.heap.size = g := by omega
                 have a0 : (w8.alloc (.cells #[.string ⟨#[]⟩, .string ⟨#[]⟩, .bool false] 53)).cell? ⟨w8.heap.size, 0, none⟩ = some (.string ⟨#[]⟩) := by rw [cell_of_row _ _ _ _ _ _ hbx]; rfl
                 have a1 : (w8.alloc (.cells #[.string ⟨#[]⟩, .string ⟨#[]⟩, .bool false] 53)).cell? ⟨w8.heap.size, 1, none⟩ = some (.string ⟨#[]⟩) := by rw [cell_of_row _ _ _ _ _ _ hbx]; rfl
                 have a2 : (w8.alloc (.cells #[.string ⟨#[]⟩, .string ⟨#[]⟩, .bool false] 53)).cell? ⟨w8.heap.size, 2, none⟩ = some (.bool false) := by rw [cell_of_row _ _ _ _ _ _ hbx]; rfl
                 have y0 := frozen_of_row hbx 0
                 have y1 := frozen_of_row hbx 1
                 have y2 := frozen_of_row hbx 2))
            · obtain ⟨W9, HW9⟩ : ∃ W9, Hid (w8.alloc (.cells #[.string Rk, .string Rv, .bool Rd] 53) = W9) := ⟨_, rfl⟩
              have hb9 : W9.heap[w8.heap.size]? = some (.cells #[.string Rk, .string Rv, .bool Rd] 53 (0, 0)) := by rw [← HW9.out]; exact heap_alloc_new w8 _
              have hG9 : Fr [] w7 W9 := hG8.then (by rw [← HW9.out]; exact Fr.alloc [] w8 _)
              rw [HW9.out]
              clear HW9 hbx a0 a1 a2 y0 y1 y2
              obtain ⟨BX, hBX⟩ : ∃ BX, BX = w8.heap.size := ⟨_, rfl⟩
              rw [← hBX] at hb9 ⊢
              clear hBX ne1 ne2 ne3 ne4
              have HX9 : Hid (∀ W, Fr [] W9 W → W.cell? ⟨BX, 1, none⟩ = some (.string Rv) ∧ W.cell? ⟨BX, 2, none⟩ = some (.bool Rd)) := fun W hf => by
                have hb := hf.keep hb9 (by simp)
                exact ⟨by rw [cell_of_row _ _ _ _ _ _ hb]; rfl, by rw [cell_of_row _ _ _ _ _ _ hb]; rfl⟩
              obtain ⟨e0', e1'⟩ := HKp.out _ hG9
              have HGe : Hid (Calls _ _ _ _ _) := fGet_any (some ⟨bl, off, none⟩) L cap (M : Int) pk ((fo ((txs ts).take M) pk).getD ⟨#[]⟩) (fo ((txs ts).take M) pk).isSome 0 ts W9 (HI.out _ (hG7.then hG9)) HL.out hcap (by omega) (by omega) HGT.out
              obtain ⟨gv, hgv⟩ : ∃ gv, gv = (fo ((txs ts).take M) pk).getD ⟨#[]⟩ := ⟨_, rfl⟩
              obtain ⟨gs, hgs⟩ : ∃ gs, gs = (fo ((txs ts).take M) pk).isSome := ⟨_, rfl⟩
              rw [← hgv, ← hgs] at HGe
              have HGv : Hid (gv = (fo ((txs ts).take M) pk).getD ⟨#[]⟩ ∧ gs = (fo ((txs ts).take M) pk).isSome) := ⟨hgv, hgs⟩
              clear hgv hgs hb9 k0 k1 k2 HLa HLb
              go_wp2_with fail
              refine Calls.mono HGe.out ?_
              rintro e w10 ⟨rfl, hF10⟩
              have hG10 := hG9.then hF10
              obtain ⟨x1, x2⟩ := HX9.out _ hF10
              obtain ⟨p0, p1⟩ := HKp.out _ hG10
              obtain ⟨hRk, hRv, hRd, hRs⟩ := HRx.out
              obtain ⟨hgv, hgs⟩ := HGv.out
              have hst := HStp.out pk
              rw [HPm.out, ← HR.out] at hst
              clear HGe HX9 HRx HGv HKp e0' e1' hF10 HPm HR hG9 HGT
              cases R with
              | some x =>
                simp only at hst
                have hdr : x.drop = false ∧ x.val = pv := by
                  unfold left1 at hst
                  cases hxd : x.drop with
                  | true => rw [hxd] at hst; simp at hst
                  | false => rw [hxd] at hst; simp at hst; exact ⟨rfl, hst.symm⟩
                obtain rfl : Rs = true := hRs
                obtain rfl : Rd = false := hRd.trans hdr.1
                obtain rfl : Rv = pv := hRv.trans hdr.2
                clear hst hdr hRk hgv hgs
                try clear hRv
                try clear hRd
                try clear hRs
                go_wp2_with fail
                go_quiet (fail)
                all_goals (
                  go_wp2
                  exact ⟨⟨i + 1, by simp, by omega, hG10.then (Fr.drewN _ _ _)⟩, by simp [intOf]; omega⟩)
              | none =>
                simp only at hst
                obtain rfl : Rs = false := hRs
                rw [← hst] at hgv hgs
                obtain rfl : gv = pv := hgv
                obtain rfl : gs = true := hgs
                clear hRk hRv hRd
                try clear hst
                try clear hgv
                try clear hgs
                try clear hRs
                go_wp2_with fail
                go_quiet (fail)
                all_goals (
                  go_wp2
                  exact ⟨⟨i + 1, by simp, by omega, hG10.then (Fr.drewN _ _ _)⟩, by simp [intOf]; omega⟩)
            · have hr9 := row3 hbx (.string Rk) (.string Rv) (.bool Rd)
              obtain ⟨W9, HW9⟩ : ∃ W9, Hid (((w8.setCell ⟨wr.heap.size, 0, none⟩ (.string Rk)).setCell ⟨wr.heap.size, 1, none⟩ (.string Rv)).setCell ⟨wr.heap.size, 2, none⟩ (.bool Rd) = W9) := ⟨_, rfl⟩
              have hFs : Fr [wr.heap.size] w8 W9 := by rw [← HW9.out]; exact ((Fr.set _ _ _ (by simp)).then (Fr.set _ _ _ (by simp))).then (Fr.set _ _ _ (by simp))
              have hG9 : Fr [] w7 W9 := hG8.on hFs (by intro x hx; simp at hx; have := hFr.size; omega)
              rw [HW9.out] at hr9 ⊢
              have hb9 := hr9
              clear HW9 hbx a0 a1 a2 y0 y1 y2 hr9 hFs
              obtain ⟨BX, hBX⟩ : ∃ BX, BX = wr.heap.size := ⟨_, rfl⟩
              rw [← hBX] at hb9 ⊢
              clear hBX ne1 ne2 ne3 ne4
              have HX9 : Hid (∀ W, Fr [] W9 W → W.cell? ⟨BX, 1, none⟩ = some (.string Rv) ∧ W.cell? ⟨BX, 2, none⟩ = some (.bool Rd)) := fun W hf => by
                have hb := hf.keep hb9 (by simp)
                exact ⟨by rw [cell_of_row _ _ _ _ _ _ hb]; rfl, by rw [cell_of_row _ _ _ _ _ _ hb]; rfl⟩
              obtain ⟨e0', e1'⟩ := HKp.out _ hG9
              have HGe : Hid (Calls _ _ _ _ _) := fGet_any (some ⟨bl, off, none⟩) L cap (M : Int) pk ((fo ((txs ts).take M) pk).getD ⟨#[]⟩) (fo ((txs ts).take M) pk).isSome 0 ts W9 (HI.out _ (hG7.then hG9)) HL.out hcap (by omega) (by omega) HGT.out
              obtain ⟨gv, hgv⟩ : ∃ gv, gv = (fo ((txs ts).take M) pk).getD ⟨#[]⟩ := ⟨_, rfl⟩
              obtain ⟨gs, hgs⟩ : ∃ gs, gs = (fo ((txs ts).take M) pk).isSome := ⟨_, rfl⟩
              rw [← hgv, ← hgs] at HGe
              have HGv : Hid (gv = (fo ((txs ts).take M) pk).getD ⟨#[]⟩ ∧ gs = (fo ((txs ts).take M) pk).isSome) := ⟨hgv, hgs⟩
              clear hgv hgs hb9 k0 k1 k2 HLa HLb
              go_wp2_with fail
              refine Calls.mono HGe.out ?_
              rintro e w10 ⟨rfl, hF10⟩
              have hG10 := hG9.then hF10
              obtain ⟨x1, x2⟩ := HX9.out _ hF10
              obtain ⟨p0, p1⟩ := HKp.out _ hG10
              obtain ⟨hRk, hRv, hRd, hRs⟩ := HRx.out
              obtain ⟨hgv, hgs⟩ := HGv.out
              have hst := HStp.out pk
              rw [HPm.out, ← HR.out] at hst
              clear HGe HX9 HRx HGv HKp e0' e1' hF10 HPm HR hG9 HGT
              cases R with
              | some x =>
                simp only at hst
                have hdr : x.drop = false ∧ x.val = pv := by
                  unfold left1 at hst
                  cases hxd : x.drop with
                  | true => rw [hxd] at hst; simp at hst
                  | false => rw [hxd] at hst; simp at hst; exact ⟨rfl, hst.symm⟩
                obtain rfl : Rs = true := hRs
                obtain rfl : Rd = false := hRd.trans hdr.1
                obtain rfl : Rv = pv := hRv.trans hdr.2
                clear hst hdr hRk hgv hgs
                try clear hRv
                try clear hRd
                try clear hRs
                go_wp2_with fail
                go_quiet (fail)
                all_goals (
                  go_wp2
                  exact ⟨⟨i + 1, by simp, by omega, hG10.then (Fr.drewN _ _ _)⟩, by simp [intOf]; omega⟩)
              | none =>
                simp only at hst
                obtain rfl : Rs = false := hRs
                rw [← hst] at hgv hgs
                obtain rfl : gv = pv := hgv
                obtain rfl : gs = true := hgs
                clear hRk hRv hRd
                try clear hst
                try clear hgv
                try clear hgs
                try clear hRs
                go_wp2_with fail
                go_quiet (fail)
                all_goals (
                  go_wp2
                  exact ⟨⟨i + 1, by simp, by omega, hG10.then (Fr.drewN _ _ _)⟩, by simp [intOf]; omega⟩)
          · obtain ⟨wA, hwA⟩ : ∃ wA, wA = wr := ⟨_, rfl⟩
            subst hwA
            go_wp2_with fail
            clear hi hiN
            go_loopw [16] (fun ii wr => ∃ (i : Nat), ii = .int .i64 i ∧ i ≤ Ny ∧ Fr [] w7 wr) (fun ii _ => Ny - (intOf ii).toNat)
            case atStart => exact ⟨0, rfl, Nat.zero_le _, hFr⟩
            case round =>
              obtain ⟨i, rfl, hiN, hFr⟩ := hrel
              by_cases hi : i < Ny
              · have hi' : i < qs.length := by rw [← HNy.out]; exact hi
                obtain ⟨g, rfl, d0, d1⟩ := (HE.out _ (HH7.out.then hFr)).2.at i hi'
                obtain ⟨⟨pk, pv⟩, hp⟩ : ∃ y, y = qs.getD i e0 := ⟨_, rfl⟩
                rw [← hp] at d0 d1
                simp only at d0 d1
                obtain ⟨b0, b1⟩ := HB7.out _ hFr
                have HPm : Hid (fo ((txs ts).take M) pk = some pv) := (HQs.out.mem (pk, pv)).1 (by rw [hp]; simp [List.getD, hi'])
                have HGT : Hid (GTold (txs ts) (L : Int) pk ((fo ((txs ts).take L) pk).getD ⟨#[]⟩) (fo ((txs ts).take L) pk).isSome 0) := Or.inr (Or.inr ⟨Or.inr (Or.inr ⟨HOK.out, ⟨by omega, by rw [txs_length, ← HL.out]; omega⟩, rfl⟩), fo_okK HOK.out M (by rw [txs_length, ← HL.out]; omega) pk pv HPm.out, rfl, by rw [Int.toNat_natCast], by rw [Int.toNat_natCast]⟩)
                obtain ⟨R, hR⟩ : ∃ R, R = lastW ws pk := ⟨_, rfl⟩
                have HR : Hid (R = lastW ws pk) := hR
                have HKp : Hid (∀ W, Fr [] w7 W → W.cell? ⟨g, i * 2, none⟩ = some (.string pk) ∧ W.cell? ⟨g, i * 2 + 1, none⟩ = some (.string pv)) := fun W hf => by
                  obtain ⟨g', e, x0, x1⟩ := (HE.out _ (HH7.out.then hf)).2.at i hi'
                  cases e
                  rw [← hp] at x0 x1
                  exact ⟨x0, x1⟩
                have HLa : Hid (∀ W, Fr [] w7 W → Calls Try.prog 25 #[.agg #[.int .i64 tn, .slice tao tL tc], .string pk] W fun e w' => e = .returned (.tuple #[.agg #[.string (R.getD ⟨⟨#[]⟩, ⟨#[]⟩, false⟩).key, .string (R.getD ⟨⟨#[]⟩, ⟨#[]⟩, false⟩).val, .bool (R.getD ⟨⟨#[]⟩, ⟨#[]⟩, false⟩).drop], .bool R.isSome]) ∧ Fr [] w7 w' ∧ w'.cell? ⟨bT, 0, none⟩ = some (.int .i64 tn) ∧ w'.cell? ⟨bT, 1, none⟩ = some (.slice tao tL tc) ∧ w'.cell? ⟨g, i * 2, none⟩ = some (.string pk)) := fun W hf => by
                  refine (last7_any tn tao tL tc ws pk R W (HWs.out _ (HH7.out.then hf)) HtL.out HR.out).mono ?_
                  rintro e w' ⟨rfl, hF⟩
                  exact ⟨rfl, hf.then hF, (HB7.out _ (hf.then hF)).1, (HB7.out _ (hf.then hF)).2, (HKp.out _ (hf.then hF)).1⟩
                have z0 : wr.drew.cell? ⟨bT, 0, none⟩ = some (.int .i64 tn) := b0
                have z1 : wr.drew.cell? ⟨bT, 1, none⟩ = some (.slice tao tL tc) := b1
                have z2 : wr.drew.cell? ⟨g, i * 2, none⟩ = some (.string pk) := d0
                have hFr' : Fr [] w7 wr.drew := hFr.then (Fr.drew _ _)
                clear hp hR
                go_wp2_with fail
                have hbl1 : bT < wr.heap.size := World.block_lt_of_cell? _ _ b0
                have hgl1 : g < wr.heap.size := World.block_lt_of_cell? _ _ d0
                have HLb : Hid (Calls Try.prog 25 #[.agg #[.int .i64 tn, .slice tao tL tc], .string pk] (wr.alloc (.cells #[.string ⟨#[]⟩, .string ⟨#[]⟩, .bool false] 53)).drew fun e w' => e = .returned (.tuple #[.agg #[.string (R.getD ⟨⟨#[]⟩, ⟨#[]⟩, false⟩).key, .string (R.getD ⟨⟨#[]⟩, ⟨#[]⟩, false⟩).val, .bool (R.getD ⟨⟨#[]⟩, ⟨#[]⟩, false⟩).drop], .bool R.isSome]) ∧ Fr [] w7 w' ∧ w'.cell? ⟨bT, 0, none⟩ = some (.int .i64 tn) ∧ w'.cell? ⟨bT, 1, none⟩ = some (.slice tao tL tc) ∧ w'.cell? ⟨g, i * 2, none⟩ = some (.string pk) ∧ w'.heap[wr.heap.size]? = some (.cells #[.string ⟨#[]⟩, .string ⟨#[]⟩, .bool false] 53 (0, 0))) := by
                  have hFa : Fr [] w7 (wr.alloc (.cells #[.string ⟨#[]⟩, .string ⟨#[]⟩, .bool false] 53)).drew := hFr.then ((Fr.alloc [] wr _).then (Fr.drew _ _))
                  refine (last7_any tn tao tL tc ws pk R _ (HWs.out _ (HH7.out.then hFa)) HtL.out HR.out).mono ?_
                  rintro e w' ⟨rfl, hF⟩
                  exact ⟨rfl, hFa.then hF, (HB7.out _ (hFa.then hF)).1, (HB7.out _ (hFa.then hF)).2, (HKp.out _ (hFa.then hF)).1, hF.keep (show (wr.alloc (.cells #[.string ⟨#[]⟩, .string ⟨#[]⟩, .bool false] 53)).drew.heap[wr.heap.size]? = _ from heap_alloc_new wr _) (by simp)⟩
                obtain ⟨Rk, hRk⟩ : ∃ Rk, Rk = (R.getD ⟨⟨#[]⟩, ⟨#[]⟩, false⟩).key := ⟨_, rfl⟩
                obtain ⟨Rv, hRv⟩ : ∃ Rv, Rv = (R.getD ⟨⟨#[]⟩, ⟨#[]⟩, false⟩).val := ⟨_, rfl⟩
                obtain ⟨Rd, hRd⟩ : ∃ Rd, Rd = (R.getD ⟨⟨#[]⟩, ⟨#[]⟩, false⟩).drop := ⟨_, rfl⟩
                obtain ⟨Rs, hRs⟩ : ∃ Rs, Rs = R.isSome := ⟨_, rfl⟩
                rw [← hRk, ← hRv, ← hRd, ← hRs] at HLb HLa
                have HRx : Hid (Rk = (R.getD ⟨⟨#[]⟩, ⟨#[]⟩, false⟩).key ∧ Rv = (R.getD ⟨⟨#[]⟩, ⟨#[]⟩, false⟩).val ∧ Rd = (R.getD ⟨⟨#[]⟩, ⟨#[]⟩, false⟩).drop ∧ Rs = R.isSome) := ⟨hRk, hRv, hRd, hRs⟩
                clear hRk hRv hRd hRs
                go_region_held3 (fun W => W.cell? ⟨bT, 0, none⟩ = some (.int .i64 tn) ∧ W.cell? ⟨bT, 1, none⟩ = some (.slice tao tL tc) ∧ W.cell? ⟨g, i * 2, none⟩ = some (.string pk)) (go_keep)
                  (first
                  | (go_at_call 25; with_reducible refine Calls.mono HLb.out ?_; rintro e w8 ⟨rfl, hG8, k0, k1, k2, hbx⟩; have ne1 : ¬ bT = wr.heap.size := by omega
                     have ne2 : ¬ g = wr.heap.size := by omega
                     have ne3 : ¬ wr.heap.size = bT := by omega
                     have ne4 : ¬ wr.heap.size = g := by omega
                     have a0 : w8.cell? ⟨wr.heap.size, 0, none⟩ = some (.string ⟨#[]⟩) := by rw [cell_of_row _ _ _ _ _ _ hbx]; rfl
                     have a1 : w8.cell? ⟨wr.heap.size, 1, none⟩ = some (.string ⟨#[]⟩) := by rw [cell_of_row _ _ _ _ _ _ hbx]; rfl
                     have a2 : w8.cell? ⟨wr.heap.size, 2, none⟩ = some (.bool false) := by rw [cell_of_row _ _ _ _ _ _ hbx]; rfl
                     have y0 := frozen_of_row hbx 0
                     have y1 := frozen_of_row hbx 1
                     have y2 := frozen_of_row hbx 2)
                  | (go_at_call 25; with_reducible refine Calls.mono (HLa.out _ hFr') ?_; rintro e w8 ⟨rfl, hG8, k0, k1, k2⟩; have hbx := heap_alloc_new w8 (.cells #[.string ⟨#[]⟩, .string ⟨#[]⟩, .bool false] 53)
                     have hl1 := World.block_lt_of_cell? _ _ k0
                     have hl2 := World.block_lt_of_cell? _ _ k2
                     simp only at hl1 hl2
                     have ne1 : ¬ bT = w8.heap.size := by omega
                     have ne2 : ¬ g = w8.heap.size := by omega
                     have ne3 : ¬ w8.heap.size = bT := by omega
                     have ne4 : ¬ w8.heap.size = g := by omega
                     have a0 : (w8.alloc (.cells #[.string ⟨#[]⟩, .string ⟨#[]⟩, .bool false] 53)).cell? ⟨w8.heap.size, 0, none⟩ = some (.string ⟨#[]⟩) := by rw [cell_of_row _ _ _ _ _ _ hbx]; rfl
                     have a1 : (w8.alloc (.cells #[.string ⟨#[]⟩, .string ⟨#[]⟩, .bool false] 53)).cell? ⟨w8.heap.size, 1, none⟩ = some (.string ⟨#[]⟩) := by rw [cell_of_row _ _ _ _ _ _ hbx]; rfl
                     have a2 : (w8.alloc (.cells #[.string ⟨#[]⟩, .string ⟨#[]⟩, .bool false] 53)).cell? ⟨w8.heap.size, 2, none⟩ = some (.bool false) := by rw [cell_of_row _ _ _ _ _ _ hbx]; rfl
                     have y0 := frozen_of_row hbx 0
                     have y1 := frozen_of_row hbx 1
                     have y2 := frozen_of_row hbx 2))
                · obtain ⟨W9, HW9⟩ : ∃ W9, Hid (w8.alloc (.cells #[.string Rk, .string Rv, .bool Rd] 53) = W9) := ⟨_, rfl⟩
                  have hb9 : W9.heap[w8.heap.size]? = some (.cells #[.string Rk, .string Rv, .bool Rd] 53 (0, 0)) := by rw [← HW9.out]; exact heap_alloc_new w8 _
                  have hG9 : Fr [] w7 W9 := hG8.then (by rw [← HW9.out]; exact Fr.alloc [] w8 _)
                  rw [HW9.out]
                  clear HW9 hbx a0 a1 a2 y0 y1 y2
                  obtain ⟨BX, hBX⟩ : ∃ BX, BX = w8.heap.size := ⟨_, rfl⟩
                  rw [← hBX] at hb9 ⊢
                  clear hBX ne1 ne2 ne3 ne4
                  have HX9 : Hid (∀ W, Fr [] W9 W → W.cell? ⟨BX, 1, none⟩ = some (.string Rv) ∧ W.cell? ⟨BX, 2, none⟩ = some (.bool Rd)) := fun W hf => by
                    have hb := hf.keep hb9 (by simp)
                    exact ⟨by rw [cell_of_row _ _ _ _ _ _ hb]; rfl, by rw [cell_of_row _ _ _ _ _ _ hb]; rfl⟩
                  obtain ⟨e0', e1'⟩ := HKp.out _ hG9
                  have HGe : Hid (Calls _ _ _ _ _) := fGet_any (some ⟨bl, off, none⟩) L cap (L : Int) pk ((fo ((txs ts).take L) pk).getD ⟨#[]⟩) (fo ((txs ts).take L) pk).isSome 0 ts W9 (HI.out _ (hG7.then hG9)) HL.out hcap (by omega) (by omega) HGT.out
                  obtain ⟨gv, hgv⟩ : ∃ gv, gv = (fo ((txs ts).take L) pk).getD ⟨#[]⟩ := ⟨_, rfl⟩
                  obtain ⟨gs, hgs⟩ : ∃ gs, gs = (fo ((txs ts).take L) pk).isSome := ⟨_, rfl⟩
                  rw [← hgv, ← hgs] at HGe
                  have HGv : Hid (gv = (fo ((txs ts).take L) pk).getD ⟨#[]⟩ ∧ gs = (fo ((txs ts).take L) pk).isSome) := ⟨hgv, hgs⟩
                  clear hgv hgs hb9 k0 k1 k2 HLa HLb
                  go_wp2_with fail
                  refine Calls.mono HGe.out ?_
                  rintro e w10 ⟨rfl, hF10⟩
                  have hG10 := hG9.then hF10
                  obtain ⟨x1, x2⟩ := HX9.out _ hF10
                  obtain ⟨p0, p1⟩ := HKp.out _ hG10
                  obtain ⟨hRk, hRv, hRd, hRs⟩ := HRx.out
                  obtain ⟨hgv, hgs⟩ := HGv.out
                  have hst := HStp.out pk
                  rw [HPm.out, ← HR.out] at hst
                  rw [hst] at hgv hgs
                  clear HGe HX9 HRx HGv HKp e0' e1' hF10 HPm HR hG9 HGT
                  cases R with
                  | some x =>
                    simp only at hst hgv hgs
                    obtain rfl : Rs = true := hRs
                    have hRd' : Rd = x.drop := hRd
                    clear hRd
                    cases hxd : x.drop with
                    | true =>
                      unfold left1 at hgs
                      rw [hxd] at hgs
                      obtain rfl : Rd = true := hRd'.trans hxd
                      obtain rfl : gs = false := hgs
                      clear hst hgv hRk hRv hxd
                      try clear hgs
                      try clear hRs
                      try clear hRd'
                      go_wp2
                      exact ⟨⟨i + 1, by simp, by omega, hG10⟩, by simp [intOf]; omega⟩
                    | false =>
                      unfold left1 at hgs
                      rw [hxd] at hgs
                      obtain rfl : Rd = false := hRd'.trans hxd
                      obtain rfl : gs = true := hgs
                      clear hst hgv hRk hRv hxd
                      try clear hgs
                      try clear hRs
                      try clear hRd'
                      go_wp2
                      exact ⟨⟨i + 1, by simp, by omega, hG10⟩, by simp [intOf]; omega⟩
                  | none =>
                    simp only at hst hgv hgs
                    obtain rfl : Rs = false := hRs
                    obtain rfl : gv = pv := hgv
                    obtain rfl : gs = true := hgs
                    clear hRk hRv hRd
                    try clear hst
                    try clear hgv
                    try clear hgs
                    try clear hRs
                    go_wp2
                    exact ⟨⟨i + 1, by simp, by omega, hG10⟩, by simp [intOf]; omega⟩
                · have hr9 := row3 hbx (.string Rk) (.string Rv) (.bool Rd)
                  obtain ⟨W9, HW9⟩ : ∃ W9, Hid (((w8.setCell ⟨wr.heap.size, 0, none⟩ (.string Rk)).setCell ⟨wr.heap.size, 1, none⟩ (.string Rv)).setCell ⟨wr.heap.size, 2, none⟩ (.bool Rd) = W9) := ⟨_, rfl⟩
                  have hFs : Fr [wr.heap.size] w8 W9 := by rw [← HW9.out]; exact ((Fr.set _ _ _ (by simp)).then (Fr.set _ _ _ (by simp))).then (Fr.set _ _ _ (by simp))
                  have hG9 : Fr [] w7 W9 := hG8.on hFs (by intro x hx; simp at hx; have := hFr.size; omega)
                  rw [HW9.out] at hr9 ⊢
                  have hb9 := hr9
                  clear HW9 hbx a0 a1 a2 y0 y1 y2 hr9 hFs
                  obtain ⟨BX, hBX⟩ : ∃ BX, BX = wr.heap.size := ⟨_, rfl⟩
                  rw [← hBX] at hb9 ⊢
                  clear hBX ne1 ne2 ne3 ne4
                  have HX9 : Hid (∀ W, Fr [] W9 W → W.cell? ⟨BX, 1, none⟩ = some (.string Rv) ∧ W.cell? ⟨BX, 2, none⟩ = some (.bool Rd)) := fun W hf => by
                    have hb := hf.keep hb9 (by simp)
                    exact ⟨by rw [cell_of_row _ _ _ _ _ _ hb]; rfl, by rw [cell_of_row _ _ _ _ _ _ hb]; rfl⟩
                  obtain ⟨e0', e1'⟩ := HKp.out _ hG9
                  have HGe : Hid (Calls _ _ _ _ _) := fGet_any (some ⟨bl, off, none⟩) L cap (L : Int) pk ((fo ((txs ts).take L) pk).getD ⟨#[]⟩) (fo ((txs ts).take L) pk).isSome 0 ts W9 (HI.out _ (hG7.then hG9)) HL.out hcap (by omega) (by omega) HGT.out
                  obtain ⟨gv, hgv⟩ : ∃ gv, gv = (fo ((txs ts).take L) pk).getD ⟨#[]⟩ := ⟨_, rfl⟩
                  obtain ⟨gs, hgs⟩ : ∃ gs, gs = (fo ((txs ts).take L) pk).isSome := ⟨_, rfl⟩
                  rw [← hgv, ← hgs] at HGe
                  have HGv : Hid (gv = (fo ((txs ts).take L) pk).getD ⟨#[]⟩ ∧ gs = (fo ((txs ts).take L) pk).isSome) := ⟨hgv, hgs⟩
                  clear hgv hgs hb9 k0 k1 k2 HLa HLb
                  go_wp2_with fail
                  refine Calls.mono HGe.out ?_
                  rintro e w10 ⟨rfl, hF10⟩
                  have hG10 := hG9.then hF10
                  obtain ⟨x1, x2⟩ := HX9.out _ hF10
                  obtain ⟨p0, p1⟩ := HKp.out _ hG10
                  obtain ⟨hRk, hRv, hRd, hRs⟩ := HRx.out
                  obtain ⟨hgv, hgs⟩ := HGv.out
                  have hst := HStp.out pk
                  rw [HPm.out, ← HR.out] at hst
                  rw [hst] at hgv hgs
                  clear HGe HX9 HRx HGv HKp e0' e1' hF10 HPm HR hG9 HGT
                  cases R with
                  | some x =>
                    simp only at hst hgv hgs
                    obtain rfl : Rs = true := hRs
                    have hRd' : Rd = x.drop := hRd
                    clear hRd
                    cases hxd : x.drop with
                    | true =>
                      unfold left1 at hgs
                      rw [hxd] at hgs
                      obtain rfl : Rd = true := hRd'.trans hxd
                      obtain rfl : gs = false := hgs
                      clear hst hgv hRk hRv hxd
                      try clear hgs
                      try clear hRs
                      try clear hRd'
                      go_wp2
                      exact ⟨⟨i + 1, by simp, by omega, hG10⟩, by simp [intOf]; omega⟩
                    | false =>
                      unfold left1 at hgs
                      rw [hxd] at hgs
                      obtain rfl : Rd = false := hRd'.trans hxd
                      obtain rfl : gs = true := hgs
                      clear hst hgv hRk hRv hxd
                      try clear hgs
                      try clear hRs
                      try clear hRd'
                      go_wp2
                      exact ⟨⟨i + 1, by simp, by omega, hG10⟩, by simp [intOf]; omega⟩
                  | none =>
                    simp only at hst hgv hgs
                    obtain rfl : Rs = false := hRs
                    obtain rfl : gv = pv := hgv
                    obtain rfl : gs = true := hgs
                    clear hRk hRv hRd
                    try clear hst
                    try clear hgv
                    try clear hgs
                    try clear hRs
                    go_wp2
                    exact ⟨⟨i + 1, by simp, by omega, hG10⟩, by simp [intOf]; omega⟩
              · obtain ⟨wB, hwB⟩ : ∃ wB, wB = wr := ⟨_, rfl⟩
                subst hwB
                have hTL : L ≤ (txs ts).length := by rw [txs_length, ← HL.out]; exact Nat.le_refl _
                obtain ⟨ll, hll⟩ : ∃ ll, ll = ps.filter fun p => inS ⟨#[]⟩ key p.1 := ⟨_, rfl⟩
                obtain ⟨hl, hhl⟩ : ∃ hl, hl = ps.filter fun p => inS key ⟨#[]⟩ p.1 := ⟨_, rfl⟩
                obtain ⟨pl, hpl⟩ : ∃ pl, pl = ps.filter fun p => inS key en p.1 := ⟨_, rfl⟩
                have HS1 : Hid (ScTold (txs ts) (L : Int) ⟨#[]⟩ key ll 0) := by rw [hll]; exact sc_filter HOK.out hTL HPs.out _ _
                have HS2 : Hid (ScTold (txs ts) (L : Int) key ⟨#[]⟩ hl 0) := by rw [hhl]; exact sc_filter HOK.out hTL HPs.out _ _
                have HS3 : Hid (ScTold (txs ts) (L : Int) key en pl 0) := by rw [hpl]; exact sc_filter HOK.out hTL HPs.out _ _
                have HBoth : Hid (key.toList ≠ [] → ll ++ hl = ps) := fun hk => by rw [hll, hhl]; exact low_high HPs.out.inc key hk
                have HPart : Hid (pl = hl.filter (cE en)) := by show _ = _; rw [hpl, hhl]; exact part_high ps key en
                obtain ⟨Nl, hNl⟩ : ∃ Nl, Nl = ll.length := ⟨_, rfl⟩
                obtain ⟨Nh, hNh⟩ : ∃ Nh, Nh = hl.length := ⟨_, rfl⟩
                obtain ⟨Np, hNp⟩ : ∃ Np, Np = pl.length := ⟨_, rfl⟩
                have hNlb : Nl ≤ 33554432 := by rw [hNl, hll]; have := List.length_filter_le (fun p : Pr => inS ⟨#[]⟩ key p.1) ps; have := HNx.out; omega
                have hNhb : Nh ≤ 33554432 := by rw [hNh, hhl]; have := List.length_filter_le (fun p : Pr => inS key ⟨#[]⟩ p.1) ps; have := HNx.out; omega
                have hNpb : Np ≤ 33554432 := by rw [hNp, hpl]; have := List.length_filter_le (fun p : Pr => inS key en p.1) ps; have := HNx.out; omega
                have HNl : Hid (Nl = ll.length) := hNl
                have HNh : Hid (Nh = hl.length) := hNh
                have HNp : Hid (Np = pl.length) := hNp
                clear hll hhl hpl hNl hNh hNp
                have hGb : Fr [] w wB := hG7.then hFr
                go_wp2_with fail
                clear hi hiN
                refine (fScan_any (some ⟨bl, off, none⟩) L cap (L : Int) ⟨#[]⟩ ⟨#[]⟩ ps Nx 0 ts _ (HI.out _ hGb) HL.out hcap (by omega) (by omega) HSx.out HNx.out).mono ?_
                rintro e wc ⟨co, cc, rfl, hEc, hFc⟩
                obtain ⟨u2, u3⟩ := (HBo.out _ (hFr.then hFc)).c
                go_wp2_with fail
                refine (fScan_any (some ⟨bl, off, none⟩) L cap (L : Int) ⟨#[]⟩ key ll Nl 0 ts _ (HI.out _ (hGb.then hFc)) HL.out hcap (by omega) (by omega) HS1.out HNl.out).mono ?_
                rintro e wd ⟨lo, lc, rfl, hEd, hFd⟩
                have hcd := hFc.then hFd
                clear u2 u3
                obtain ⟨u2, u3⟩ := (HBo.out _ (hFr.then hcd)).c
                go_wp2_with fail
                refine (fScan_any (some ⟨bl, off, none⟩) L cap (L : Int) key ⟨#[]⟩ hl Nh 0 ts _ (HI.out _ (hGb.then hcd)) HL.out hcap (by omega) (by omega) HS2.out HNh.out).mono ?_
                rintro e we ⟨ho, hc, rfl, hEe, hFe⟩
                have hce := hcd.then hFe
                clear u2 u3
                obtain ⟨u2, u3⟩ := (HBo.out _ (hFr.then hce)).c
                go_wp2_with fail
                refine (fScan_any (some ⟨bl, off, none⟩) L cap (L : Int) key en pl Np 0 ts _ (HI.out _ (hGb.then hce)) HL.out hcap (by omega) (by omega) HS3.out HNp.out).mono ?_
                rintro e wf ⟨po, pc, rfl, hEf, hFf⟩
                have hcf := hce.then hFf
                have H7f : Hid (Fr [] w7 wf) := hFr.then hcf
                have HEs : Hid (∀ W, Fr [] wf W → ERs W co ps ∧ ERs W lo ll ∧ ERs W ho hl ∧ ERs W po pl ∧ ERs W xo ps) := fun W hf =>
                  ⟨((hEc.keep (hFd.then (hFe.then hFf))).keep hf).ers (by have := HNx.out; omega), ((hEd.keep (hFe.then hFf)).keep hf).ers (by have := HNl.out; omega), ((hEe.keep hFf).keep hf).ers (by have := HNh.out; omega), (hEf.keep hf).ers (by have := HNp.out; omega), (HE.out _ (HH7.out.then (H7f.out.then hf))).1⟩
                have HBf : Hid (∀ W, Fr [] wf W → W.cell? ⟨B, 2, none⟩ = some (.string key) ∧ W.cell? ⟨B, 3, none⟩ = some (.string en)) := fun W hf => (HBo.out _ (H7f.out.then hf)).c
                have HGf : Hid (Fr [] w wf) := hGb.then hcf
                have HSa : Hid (Calls _ _ _ _ _) := sameEntries_any co xo Nx cc xc ps wf (HEs.out _ (Fr.refl _ _)).1 (HEs.out _ (Fr.refl _ _)).2.2.2.2 HNx.out
                clear hEc hEd hEe hEf hFc hFd hFe hFf hcd hce hcf u2 u3 HS1 HS2 HS3 HSx HSy HPs HQs HStp HAll HWs HtL HB7 HbT HE HBo HBk HI HL hFr hGb hG7 hG6 hG5 hG4w
                go_wp2_with fail
                refine Calls.mono HSa.out ?_
                rintro e wg ⟨rfl, hFg⟩
                obtain ⟨u2, u3⟩ := HBf.out _ hFg
                clear HSa
                by_cases hk0 : 0 < key.size
                · have hkz : (0 : Int) < (key.size : Int) := by omega
                  have hkn : key.toList ≠ [] := fun h => by have := (tl_nil key).1 h; omega
                  have HB2 : Hid (ll ++ hl = ps) := HBoth.out hkn
                  have hnilr : wg.ownsRow wg.heap.size 47 2 (.slice none 0 0) ([] : List Pr).length (celsE []) := ⟨rfl, .inl ⟨rfl, rfl⟩⟩
                  obtain ⟨_, hEl, hEh, _, _⟩ := HEs.out _ hFg
                  have HSl : Hid (ESl wg lo Nl ll) := by
                    have h9 := hEl.take ll.length (Nat.le_refl _)
                    rw [List.take_length, ← HNl.out] at h9
                    exact h9
                  clear hEl hEh hkn hk0
                  go_upto_region 30 with fail
                  go_wp2_with (first
                    | (at_builtin; refine wpList_appE _ rfl _ _ rfl wg.heap.size (.slice none 0 0) [] rfl hnilr lo Nl lc ll rfl HSl.out (by simp; omega) (Nat.le_refl _) ?_
                       intro bo n1 cap1 wh hn1 hO1 hF1
                       have hFh : Fr [] wg wh := hF1
                       have HO1 : Hid (wh.ownsRow wg.heap.size 47 2 (.slice bo n1 cap1) ([] ++ ll).length (celsE ([] ++ ll))) := by rw [← hn1]; exact hO1
                       have HSh : Hid (ESl wh ho Nh hl) := by
                         have h9 := (HEs.out _ (hFg.then hFh)).2.2.1.take hl.length (Nat.le_refl _)
                         rw [List.take_length, ← HNh.out] at h9
                         exact h9
                       have hn1b : n1 = Nl := by rw [hn1, HNl.out]; simp
                       have HN1 : Hid (n1 = Nl) := hn1b
                       clear hn1 hO1 hF1 hn1b
                       go_frame)
                    | (at_builtin; refine wpList_appE _ rfl _ _ rfl wg.heap.size (.slice bo n1 cap1) ([] ++ ll) rfl HO1.out ho Nh hc hl rfl HSh.out (by have := HNl.out; simp; omega) hFh.size ?_
                       intro bo2 n2 cap2 wi hn2 hO2 hF2
                       have hFi : Fr [] wg wi := hFh.on hF2 (fun y hy => (owns_cells HO1.out (Option.mem_toList.1 hy)).1)
                       have HEb : Hid (ERs wi bo2 ps) := by
                         have e : ([] : List Pr) ++ ll ++ hl = ps := by rw [List.nil_append]; exact HB2.out
                         rw [e] at hO2 hn2
                         exact ers_of hO2 hn2 (by have := HNx.out; omega)
                       have HN2 : Hid (n2 = Nx) := by
                         have e : ([] : List Pr) ++ ll ++ hl = ps := by rw [List.nil_append]; exact HB2.out
                         show _ = _
                         rw [hn2, e, HNx.out]
                       clear hn2 hO2 hF2
                       go_frame))
                  have hn2e : n2 = Nx := HN2.out
                  subst hn2e
                  have HSb : Hid (Calls _ _ _ _ _) := sameEntries_any bo2 xo n2 cap2 xc ps wi HEb.out (HEs.out _ (hFg.then hFi)).2.2.2.2 HNx.out
                  refine Calls.mono HSb.out ?_
                  rintro e wj ⟨rfl, hFj⟩
                  have HFX : Fr [] wf wj := hFg.then (hFi.then hFj)
                  clear HSb HEb HO1 HSh HSl hnilr u2 u3 hFi hFh hFj
                  go_wp2_with fail
                  go_loopw [31, 32] (fun nn ii wr => ∃ (q i : Nat), nn = .int .i64 q ∧ ii = .int .i64 i ∧ i ≤ Nh ∧ q ≤ i ∧ Hid (q = ((hl.take i).filter (cE en)).length) ∧ Fr [] wf wr) (fun _ ii _ => Nh - (intOf ii).toNat)
                  case atStart => exact ⟨0, 0, rfl, rfl, Nat.zero_le _, Nat.le_refl _, (rfl : 0 = ((hl.take 0).filter (cE en)).length), HFX⟩
                  case round =>
                    obtain ⟨q, i, rfl, rfl, hiN, hqi, HQ, hFz⟩ := hrel
                    by_cases hi : i < Nh
                    · have hi' : i < hl.length := by rw [← HNh.out]; exact hi
                      obtain ⟨_, _, hEh, hEp, _⟩ := HEs.out _ hFz
                      obtain ⟨gh, rfl, d0, d1⟩ := hEh.at i hi'
                      obtain ⟨_, v3⟩ := HBf.out _ hFz
                      obtain ⟨y, hy⟩ : ∃ y, y = hl.getD i e0 := ⟨_, rfl⟩
                      rw [← hy] at d0 d1
                      have HY : Hid (y = hl.getD i e0) := hy
                      have hce : cE en y = (en.toList == [] || Op.bytesLess y.1.toList en.toList) := rfl
                      clear hy hEh
                      cases hc : cE en y with
                      | true =>
                        obtain ⟨h1, h2, h3⟩ := cnt_yes (c := cE en) hi' (by rw [← HY.out]; exact hc)
                        rw [← HPart.out, ← HQ.out] at h1 h2
                        rw [← HQ.out] at h3
                        obtain ⟨gp, hpo, z0, z1⟩ := hEp.at q h1
                        rw [h2, ← HY.out] at z0 z1
                        have hqp : q < Np := by rw [HNp.out]; exact h1
                        have HQ2 : Hid (q + 1 = ((hl.take (i + 1)).filter (cE en)).length) := h3.symm
                        have hqpz : (q : Int) < (Np : Int) := by omega
                        have hqp2 : decide ((Np : Int) ≤ (q : Int)) = false := by rw [decide_eq_false_iff_not]; omega
                        have hqp4 : decide (Np ≤ q) = false := by rw [decide_eq_false_iff_not]; omega
                        have hqp5 : ¬ Np ≤ q := by omega
                        subst hpo
                        rw [hc] at hce
                        obtain ⟨yk, yv⟩ := y
                        simp only at d0 d1 z0 z1 hce
                        clear h1 h2 h3 hEp hc HQ
                        by_cases hen : en.toList = []
                        · have hez : ((en.size : Int) == 0) = true := by rw [beq_iff_eq]; have := (tl_nil en).1 hen; omega
                          clear hce hen
                          go_wp2_with fail
                          go_quiet (fail)
                          go_upto_region 39 with fail
                          obtain ⟨wq, hwq⟩ : ∃ wq, wq = wr.drewN nq := ⟨_, rfl⟩
                          have hFq : Fr [] wf wq := by rw [hwq]; exact hFz.then (Fr.drewN _ _ _)
                          have q0 : wq.cell? ⟨gh, i * 2, none⟩ = some (.string yk) := by rw [hwq]; exact d0
                          have q1 : wq.cell? ⟨gh, i * 2 + 1, none⟩ = some (.string yv) := by rw [hwq]; exact d1
                          have q2 : wq.cell? ⟨gp, q * 2, none⟩ = some (.string yk) := by rw [hwq]; exact z0
                          have q3 : wq.cell? ⟨gp, q * 2 + 1, none⟩ = some (.string yv) := by rw [hwq]; exact z1
                          rw [← hwq]
                          clear hwq d0 d1 z0 z1 v3 hez
                          go_quiet (fail)
                          go_wp2
                          exact ⟨⟨q + 1, i + 1, by simp, by simp, by omega, by omega, HQ2, hFq.then (Fr.drewN _ _ _)⟩, by simp [intOf]; omega⟩
                        · have hez : ((en.size : Int) == 0) = false := by rw [beq_eq_false_iff_ne]; intro h; exact hen ((tl_nil en).2 (by omega))
                          have hbl : Op.bytesLess yk.toList en.toList = true := by
                            have h1 : (en.toList == []) = false := by rw [beq_eq_false_iff_ne]; exact hen
                            rw [h1, Bool.false_or] at hce
                            exact hce.symm
                          clear hce hen
                          go_wp2_with fail
                          go_quiet (fail)
                          go_upto_region 39 with fail
                          obtain ⟨wq, hwq⟩ : ∃ wq, wq = wr.drewN nq := ⟨_, rfl⟩
                          have hFq : Fr [] wf wq := by rw [hwq]; exact hFz.then (Fr.drewN _ _ _)
                          have q0 : wq.cell? ⟨gh, i * 2, none⟩ = some (.string yk) := by rw [hwq]; exact d0
                          have q1 : wq.cell? ⟨gh, i * 2 + 1, none⟩ = some (.string yv) := by rw [hwq]; exact d1
                          have q2 : wq.cell? ⟨gp, q * 2, none⟩ = some (.string yk) := by rw [hwq]; exact z0
                          have q3 : wq.cell? ⟨gp, q * 2 + 1, none⟩ = some (.string yv) := by rw [hwq]; exact z1
                          rw [← hwq]
                          clear hwq d0 d1 z0 z1 v3 hez
                          go_quiet (fail)
                          go_wp2
                          exact ⟨⟨q + 1, i + 1, by simp, by simp, by omega, by omega, HQ2, hFq.then (Fr.drewN _ _ _)⟩, by simp [intOf]; omega⟩
                      | false =>
                        have h3 := cnt_no (c := cE en) hi' (by rw [← HY.out]; exact hc)
                        rw [← HQ.out] at h3
                        have HQ2 : Hid (q = ((hl.take (i + 1)).filter (cE en)).length) := h3.symm
                        rw [hc] at hce
                        have hne := hce.symm
                        rw [Bool.or_eq_false_iff] at hne
                        have hez : ((en.size : Int) == 0) = false := by rw [beq_eq_false_iff_ne]; intro h; have h1 := hne.1; rw [beq_eq_false_iff_ne] at h1; exact h1 ((tl_nil en).2 (by omega))
                        have hbl : Op.bytesLess y.1.toList en.toList = false := hne.2
                        obtain ⟨yk, yv⟩ := y
                        simp only at d0 d1 hbl
                        clear hne hce hc h3 hEp HQ d1
                        go_wp2_with fail
                        go_quiet (fail)
                        go_wp2
                        exact ⟨⟨q, i + 1, rfl, by simp, by omega, by omega, HQ2, hFz.then (Fr.drewN _ _ _)⟩, by simp [intOf]; omega⟩
                    · have hqn : q = Np := by
                        have h1 := HQ.out
                        rw [List.take_of_length_le (by have := HNh.out; omega), ← HPart.out, ← HNp.out] at h1
                        exact h1
                      have hqe : ((q : Int) == (Np : Int)) = true := by rw [hqn]; simp
                      have hG := HGf.out.then hFz
                      clear hqn
                      go_wp2
                      go_ret
                      exact ⟨by simp, hG⟩
                · have hkz : (key.size : Int) ≤ 0 := by omega
                  have hkz2 : decide ((0 : Int) < (key.size : Int)) = false := by rw [decide_eq_false_iff_not]; omega
                  have HFX : Fr [] wf wg := hFg
                  clear hk0
                  go_wp2_with fail
                  go_loopw [31, 32] (fun nn ii wr => ∃ (q i : Nat), nn = .int .i64 q ∧ ii = .int .i64 i ∧ i ≤ Nh ∧ q ≤ i ∧ Hid (q = ((hl.take i).filter (cE en)).length) ∧ Fr [] wf wr) (fun _ ii _ => Nh - (intOf ii).toNat)
                  case atStart => exact ⟨0, 0, rfl, rfl, Nat.zero_le _, Nat.le_refl _, (rfl : 0 = ((hl.take 0).filter (cE en)).length), HFX⟩
                  case round =>
                    obtain ⟨q, i, rfl, rfl, hiN, hqi, HQ, hFz⟩ := hrel
                    by_cases hi : i < Nh
                    · have hi' : i < hl.length := by rw [← HNh.out]; exact hi
                      obtain ⟨_, _, hEh, hEp, _⟩ := HEs.out _ hFz
                      obtain ⟨gh, rfl, d0, d1⟩ := hEh.at i hi'
                      obtain ⟨_, v3⟩ := HBf.out _ hFz
                      obtain ⟨y, hy⟩ : ∃ y, y = hl.getD i e0 := ⟨_, rfl⟩
                      rw [← hy] at d0 d1
                      have HY : Hid (y = hl.getD i e0) := hy
                      have hce : cE en y = (en.toList == [] || Op.bytesLess y.1.toList en.toList) := rfl
                      clear hy hEh
                      cases hc : cE en y with
                      | true =>
                        obtain ⟨h1, h2, h3⟩ := cnt_yes (c := cE en) hi' (by rw [← HY.out]; exact hc)
                        rw [← HPart.out, ← HQ.out] at h1 h2
                        rw [← HQ.out] at h3
                        obtain ⟨gp, hpo, z0, z1⟩ := hEp.at q h1
                        rw [h2, ← HY.out] at z0 z1
                        have hqp : q < Np := by rw [HNp.out]; exact h1
                        have HQ2 : Hid (q + 1 = ((hl.take (i + 1)).filter (cE en)).length) := h3.symm
                        have hqpz : (q : Int) < (Np : Int) := by omega
                        have hqp2 : decide ((Np : Int) ≤ (q : Int)) = false := by rw [decide_eq_false_iff_not]; omega
                        have hqp4 : decide (Np ≤ q) = false := by rw [decide_eq_false_iff_not]; omega
                        have hqp5 : ¬ Np ≤ q := by omega
                        subst hpo
                        rw [hc] at hce
                        obtain ⟨yk, yv⟩ := y
                        simp only at d0 d1 z0 z1 hce
                        clear h1 h2 h3 hEp hc HQ
                        by_cases hen : en.toList = []
                        · have hez : ((en.size : Int) == 0) = true := by rw [beq_iff_eq]; have := (tl_nil en).1 hen; omega
                          clear hce hen
                          go_wp2_with fail
                          go_quiet (fail)
                          go_upto_region 39 with fail
                          obtain ⟨wq, hwq⟩ : ∃ wq, wq = wr.drewN nq := ⟨_, rfl⟩
                          have hFq : Fr [] wf wq := by rw [hwq]; exact hFz.then (Fr.drewN _ _ _)
                          have q0 : wq.cell? ⟨gh, i * 2, none⟩ = some (.string yk) := by rw [hwq]; exact d0
                          have q1 : wq.cell? ⟨gh, i * 2 + 1, none⟩ = some (.string yv) := by rw [hwq]; exact d1
                          have q2 : wq.cell? ⟨gp, q * 2, none⟩ = some (.string yk) := by rw [hwq]; exact z0
                          have q3 : wq.cell? ⟨gp, q * 2 + 1, none⟩ = some (.string yv) := by rw [hwq]; exact z1
                          rw [← hwq]
                          clear hwq d0 d1 z0 z1 v3 hez
                          go_quiet (fail)
                          go_wp2
                          exact ⟨⟨q + 1, i + 1, by simp, by simp, by omega, by omega, HQ2, hFq.then (Fr.drewN _ _ _)⟩, by simp [intOf]; omega⟩
                        · have hez : ((en.size : Int) == 0) = false := by rw [beq_eq_false_iff_ne]; intro h; exact hen ((tl_nil en).2 (by omega))
                          have hbl : Op.bytesLess yk.toList en.toList = true := by
                            have h1 : (en.toList == []) = false := by rw [beq_eq_false_iff_ne]; exact hen
                            rw [h1, Bool.false_or] at hce
                            exact hce.symm
                          clear hce hen
                          go_wp2_with fail
                          go_quiet (fail)
                          go_upto_region 39 with fail
                          obtain ⟨wq, hwq⟩ : ∃ wq, wq = wr.drewN nq := ⟨_, rfl⟩
                          have hFq : Fr [] wf wq := by rw [hwq]; exact hFz.then (Fr.drewN _ _ _)
                          have q0 : wq.cell? ⟨gh, i * 2, none⟩ = some (.string yk) := by rw [hwq]; exact d0
                          have q1 : wq.cell? ⟨gh, i * 2 + 1, none⟩ = some (.string yv) := by rw [hwq]; exact d1
                          have q2 : wq.cell? ⟨gp, q * 2, none⟩ = some (.string yk) := by rw [hwq]; exact z0
                          have q3 : wq.cell? ⟨gp, q * 2 + 1, none⟩ = some (.string yv) := by rw [hwq]; exact z1
                          rw [← hwq]
                          clear hwq d0 d1 z0 z1 v3 hez
                          go_quiet (fail)
                          go_wp2
                          exact ⟨⟨q + 1, i + 1, by simp, by simp, by omega, by omega, HQ2, hFq.then (Fr.drewN _ _ _)⟩, by simp [intOf]; omega⟩
                      | false =>
                        have h3 := cnt_no (c := cE en) hi' (by rw [← HY.out]; exact hc)
                        rw [← HQ.out] at h3
                        have HQ2 : Hid (q = ((hl.take (i + 1)).filter (cE en)).length) := h3.symm
                        rw [hc] at hce
                        have hne := hce.symm
                        rw [Bool.or_eq_false_iff] at hne
                        have hez : ((en.size : Int) == 0) = false := by rw [beq_eq_false_iff_ne]; intro h; have h1 := hne.1; rw [beq_eq_false_iff_ne] at h1; exact h1 ((tl_nil en).2 (by omega))
                        have hbl : Op.bytesLess y.1.toList en.toList = false := hne.2
                        obtain ⟨yk, yv⟩ := y
                        simp only at d0 d1 hbl
                        clear hne hce hc h3 hEp HQ d1
                        go_wp2_with fail
                        go_quiet (fail)
                        go_wp2
                        exact ⟨⟨q, i + 1, rfl, by simp, by omega, by omega, HQ2, hFz.then (Fr.drewN _ _ _)⟩, by simp [intOf]; omega⟩
                    · have hqn : q = Np := by
                        have h1 := HQ.out
                        rw [List.take_of_length_le (by have := HNh.out; omega), ← HPart.out, ← HNp.out] at h1
                        exact h1
                      have hqe : ((q : Int) == (Np : Int)) = true := by rw [hqn]; simp
                      have hG := HGf.out.then hFz
                      clear hqn
                      go_wp2
                      go_ret
                      exact ⟨by simp, hG⟩

theorem own : ownKnob Try.prog.godebug = none := by kernel_rfl
theorem laidOut : laidOutB Try.prog = true := by kernel_rfl
set_option maxHeartbeats 4000000 in
set_option maxRecDepth 100000 in
theorem lifted (os : Os) (started : os.Started) (H : Type) (enc : TypeId × Value → H) :
    ReturnsInHanded {} Try.checked os 6 .any (Rows.foldStepsSpec.pre6 enc Try.prog Try.f6 Rows.foldStepsRow.domain false) (Rows.foldStepsSpec.post enc Try.prog Try.f6 false true false false) := by
  refine returnsInHanded_of_change_sized (C := Try.checked) own started (by kernel_rfl) Try.func6
    (ChangeSpec.witness6 (enc := enc) (C := Try.checked) false ⟨#[], #[.slice none 0 0, .agg #[.int .i64 0, .int .i64 0, .string ⟨#[]⟩, .string ⟨#[]⟩]], []⟩ 8 (by kernel_rfl) (by kernel_rfl) (by kernel_rfl) (by kernel_rfl)) ?_
  intro W base args ds gs before hval0 hW hcnd hsz0 _
  have hval : ∀ (j : Nat) t v, Try.f6.params[j]? = some t → args[j]? = some v → Value.okWide Try.prog W .any base t v := hval0
  have hsz : (DataW.weightsEach Try.prog (Try.f6.params.toList ++ Rows.foldStepsSpec.plain.varTypes Try.prog) (ds ++ gs)).all (· ≤ reachBytes) = true := hsz0
  have hW' := hW
  obtain ⟨p, q, hA0, hV, rfl, hfz, hnd⟩ := hW
  have hA : DataW.TrodAll enc Try.prog W 0 (fun _ => true) true Try.f6.params.toList args.toList ds p := hA0
  rw [Try.params6] at hA hval hsz
  obtain ⟨v0, vs0, d0, ds0, p0, q0, hargs, rfl, rfl, h0, r0⟩ := trodAll_cons hA
  obtain ⟨v1, vs1, d1, ds1, p1, q1, rfl, rfl, rfl, h1, r1⟩ := trodAll_cons r0
  obtain ⟨rfl, rfl, rfl⟩ := trodAll_nil r1
  obtain rfl : args = #[v0, v1] := by cases args; simp_all
  obtain ⟨rfl, rfl⟩ := trodVars_none hV
  have k0 := h0
  have lt0 : ∀ x ∈ p0, x.block < W.heap.size := by obtain ⟨m, hm⟩ := k0; exact DataW.trod_lt m _ _ _ hm
  obtain ⟨a0, len0, cap0, ts0, rfl, hB0, hL0, hC0⟩ : ∃ ao L cap ts, v0 = .slice ao L cap ∧ TRs W ao ts ∧ L = ts.length ∧ L ≤ cap := by
    obtain ⟨fuel, hf⟩ := h0
    obtain ⟨ao, L, cap, rfl⟩ := okWide_slice Try.undTs' (hval 0 22 v0 rfl rfl)
    exact ts_open hf (fun n hn => of_decide_eq_true (List.all_eq_true.1 hsz n (DataW.weights_mem_each (j := 0) (t := 22) rfl rfl n hn)))
  obtain ⟨cs1, rfl, _⟩ := okWide_struct Try.underlying24 (hval 1 24 v1 rfl rfl)
  have k1 := h1
  have lt1 : ∀ x ∈ p1, x.block < W.heap.size := by obtain ⟨m, hm⟩ := k1; exact DataW.trod_lt m _ _ _ hm
  obtain ⟨f1, n1, y1, z1, rfl, hf1, hn1, hy1, hz1⟩ : ∃ (f n : Int) (key en : ByteArray), cs1 = #[.int .i64 f, .int .i64 n, .string key, .string en] ∧ (-9223372036854775808 ≤ f ∧ f ≤ 9223372036854775807) ∧ (-9223372036854775808 ≤ n ∧ n ≤ 9223372036854775807) ∧ key.size ≤ reachBytes ∧ en.size ≤ reachBytes := by
    obtain ⟨fuel, hf⟩ := h1
    obtain ⟨f, n, key, en, e, b0, b1, m0, m1⟩ := ask_open hf
    have hall : ∀ n ∈ d1.weights Try.prog 24, n ≤ reachBytes := fun n hn => of_decide_eq_true (List.all_eq_true.1 hsz n (DataW.weights_mem_each (j := 1) (t := 24) rfl rfl n hn))
    exact ⟨f, n, key, en, by cases cs1; simpa [Value.cells] using e, b0, b1, hall _ m0, hall _ m1⟩
  clear hA0 hval0
  refine (walk a0 len0 cap0 ts0 f1 n1 y1 z1 W hB0 hL0 hC0 hf1 hn1 hy1 hz1).mono fun e W' ⟨he, hf⟩ => ?_
  subst he
  have bel : Below W.heap.size W W' := hf.below (Nat.le_refl _) (by simp)
  exact ⟨_, rfl, _, _, _, [], _, [], hW', trodAll_mk1 (shut_bool Try.underlying4 _), (trodAll_cons_mk (Below.trod laidOut (by kernel_rfl) (of_decide_eq_true (by kernel_rfl)) k0 bel lt0) (trodAll_cons_mk (Below.trod laidOut (by kernel_rfl) (of_decide_eq_true (by kernel_rfl)) k1 bel lt1) trodAll_mk0)), rfl, bel.frame _, fun h => by cases h⟩

theorem over : Rows.foldStepsRow.holds Try.pinned (OpenSpec.ofChange Rows.foldStepsSpec) :=
  OpenClaim.holds_of_wide 6 Try.f6 rfl rfl rfl rfl rfl rfl rfl ⟨rfl, rfl, rfl, rfl, rfl⟩ rfl rfl rfl rfl rfl (by kernel_rfl) Try.func6 (by kernel_rfl)
    (of_decide_eq_true (by kernel_rfl)) (by unfold Func.isWrapper; first | (rw [if_pos (by decide +kernel)]; kernel_rfl) | (rw [if_neg (by decide +kernel)]; exact ⟨rfl, rfl⟩))
    (fun os started H enc _ => lifted os started H enc)
end Go.Proofs.Ytfminnmfdogopaa.foldSteps
namespace Go.Proofs.Ytfminnmfdogopaa
theorem foldsteps_holds : Rows.FoldStepsSaid := foldSteps.over
#print axioms foldsteps_holds
end Go.Proofs.Ytfminnmfdogopaa

/- Texts of this claim laid together, one behind the other: contracts and plain lemmas; conditions as each names them. -/
import Derived.Test.YtaaghcimfcjehaaGreatDoorGp23
/- The shards of a transaction's writes that count. Conditions: at most 32 writes, whose keys may be. -/
namespace Go.Proofs.YtaaghcimfcjehaaGreatDoor
open Go.ChangeShapes Go.WideShapes Go.ChangeAt Go.RowKit Go.Lib Go.Maps
set_option linter.unusedVariables false
set_option linter.unusedSimpArgs false

theorem lastIx_upd (ws : List Wt) (i : Nat) : lastIx ws (i + 1) = updF (lastIx ws i) (kAt ws i) (some (i : Int)) := by
  funext k
  by_cases e : k = kAt ws i
  · simp only [lastIx, if_pos e]
    rw [e, updF_same]
  · simp only [lastIx, if_neg e]
    rw [updF_other _ _ e]
theorem run_makeMapN (n : Int) (w : World) : (Instr.makeMap 195 (some (.int .i64 n))).run Tryz.prog w = .ok (.map (some w.heap.size)) (w.alloc (.map #[] 0)) := by
  simp [Instr.makeMap, run_underlying Tryz.undLMap, asInt, asIntOf]
/-- The shards of the first i writes that count. -/
noncomputable def shT (c : Cf) (ws : List Wt) (i : Nat) : List Int := (ddTo ws i).map fun x => shN13 c.s x.key
section
variable {w w' wS : World} {Z : Zs} {c : Cf} {s : Sy} {k : Nat} {ts : List Tm}
set_option maxHeartbeats 8000000 in
set_option maxRecDepth 100000 in
theorem shards_any (h : SyM w Z c s k) (hx : Cx wS w Z ts) (n : Int) (h1 : 1 ≤ n) (h2 : n ≤ (ts.length : Int)) (hok : okT n (wsAt (txs ts) n)) (hlen : ts.length ≤ 65536) :
    Calls Tryz.prog 173 #[.pointer (some ⟨Z.sb, 0, none⟩), .int .i64 n] w fun e w' => ∃ so N cc, e = .returned (.slice so N cc) ∧ IOw w.heap.size w' so N cc (shs c (txs ts) n) ∧ Fr [] w w' := by
  obtain ⟨j, rfl⟩ : ∃ j : Nat, n = (j : Int) + 1 := ⟨(n - 1).toNat, by omega⟩
  have hj : j < ts.length := by omega
  have hws : wsAt (txs ts) ((j : Int) + 1) = (ts.getD j Tm.zero).ws := by
    unfold wsAt
    rw [show ((j : Int) + 1 - 1).toNat = j by omega, txs_getD]
    rfl
  rw [hws] at hok
  have c4 : w.cell? ⟨Z.sb, 4, none⟩ = some (.slice Z.logo Z.M Z.mc) := h.cell rfl
  have hT := hx.trs
  have hLM := hx.len
  obtain ⟨lb, loff, hlo, _, hcl⟩ := hT.lies (by omega)
  obtain ⟨d1, d2⟩ := hcl j hj
  have hat := hT.each _ (tgetD_mem ts j hj)
  unfold Tm.at at hat
  rw [hlo, hLM] at c4
  unfold shs
  rw [hws]
  obtain ⟨t, htt⟩ : ∃ t, t = ts.getD j Tm.zero := ⟨_, rfl⟩
  rw [← htt] at d1 d2 hat hok ⊢
  obtain ⟨tn, ao, L, cap, ws⟩ := t
  simp only at d1 d2 hat hok ⊢
  have hL := hat.len
  have hks : ∀ x ∈ ws, 1 ≤ x.key.size ∧ x.key.size ≤ 64 := fun x hx => ⟨(hok.2.2.2 x hx).1, (hok.2.2.2 x hx).2.1⟩
  have hLb : L ≤ 32 := by rw [hL]; exact hok.2.2.1
  have HL : Hid (L = ws.length) := hL
  have HKs : Hid (∀ x ∈ ws, 1 ≤ x.key.size ∧ x.key.size ≤ 64) := hks
  have hmm := fun w => run_makeMapN (L : Int) w
  have HI : Hid (∀ W, Fr [] w W → WRs W ao ws) := fun W hf => hat.rs.keep hf
  have HM0 : Hid (MapG kLast (w.alloc (.map #[] 0)) w.heap.size 0 (lastIx ws 0)) := MapG.made w
  have HF0 : Hid (Fr [] w (w.alloc (.map #[] 0))) := Fr.alloc [] w _
  have HY : Hid (∀ W, Fr [] w W → W.cell? ⟨Z.sb, 0, none⟩ = some (.int .i64 c.l) ∧ W.cell? ⟨Z.sb, 1, none⟩ = some (.int .i64 c.s) ∧ W.cell? ⟨Z.sb, 2, none⟩ = some (.int .i64 c.w) ∧ W.cell? ⟨Z.sb, 3, none⟩ = some (.int .i64 c.q)) := fun W hf => ⟨(h.quiet hf).cell rfl, (h.quiet hf).cell rfl, (h.quiet hf).cell rfl, (h.quiet hf).cell rfl⟩
  have HC : Hid (∀ (x : ByteArray) (W : World), 1 ≤ x.size → x.size ≤ 64 → Calls Tryz.prog 185 #[.agg #[.int .i64 c.l, .int .i64 c.s, .int .i64 c.w, .int .i64 c.q], .string x] W fun e w' => e = .returned (.tuple #[.int .i64 (shN13 c.s x), .int .i64 0]) ∧ Fr [] W w') := by
    intro x W x1 x2
    have := shard_any c.l c.s c.w c.q x W (by omega)
    have e : Cf.shard ⟨c.l, c.s, c.w, c.q⟩ x = (shN13 c.s x, 0) := by
      unfold Cf.shard
      rw [if_neg (by simp; exact h.may), if_neg (by simp; exact ⟨x1, x2⟩)]
    rw [e] at this
    exact this
  obtain ⟨TL, hTL⟩ : ∃ TL, TL = ts.length := ⟨_, rfl⟩
  rw [← hTL] at c4 hj hlen
  have d2 : w.cell? ⟨lb, loff + j * 2 + 1, none⟩ = some (.slice ao L cap) := d2
  clear h hx hws hok hat hT hcl d1 hL hks h1 h2 htt hTL hlo hLM
  go_enter Tryz.func173, Tryz.ntmps173
  go_wp2_with fail
  obtain ⟨b, hb⟩ : ∃ b, b = w.heap.size := ⟨_, rfl⟩
  rw [← hb] at HM0 ⊢
  have hbw : w.heap.size ≤ b := by omega
  clear hb c4 d2
  go_loopw [28] (fun ii wr => ∃ (i : Nat), ii = .int .i64 i ∧ i ≤ L ∧ Hid (MapG kLast wr b i (lastIx ws i)) ∧ Hid (Fr [] w wr)) (fun ii _ => L - (RowKit.intOf ii).toNat)
  case atStart => exact ⟨0, rfl, Nat.zero_le _, HM0, HF0⟩
  case round =>
    obtain ⟨i, rfl, hiL, HM, HFr⟩ := hrel
    have hFr := HFr.out
    clear HFr
    by_cases hi : i < L
    · have hi' : i < ws.length := by rw [← HL.out]; exact hi
      obtain ⟨bb, off, rfl, _, hc⟩ := (HI.out _ hFr).lies (by omega)
      obtain ⟨d0, d1, d2⟩ := hc i hi'
      have hkz := HKs.out _ (wgetD_mem ws i hi')
      have HKa : Hid (kAt ws i = (ws.getD i Wt.zero).key) := rfl
      obtain ⟨y, hyy⟩ : ∃ y, y = ws.getD i Wt.zero := ⟨_, rfl⟩
      rw [← hyy] at d0 d1 d2 hkz HKa
      clear hyy hc
      obtain ⟨key, val, drop⟩ := y
      simp only at d0 d1 d2 hkz HKa
      obtain ⟨w3, HW3⟩ : ∃ w3, Hid (wr.alloc (.cells #[.string key, .string val, .bool drop] 92) = w3) := ⟨_, rfl⟩
      obtain ⟨B9, HB9⟩ : ∃ B9, Hid (B9 = wr.heap.size) := ⟨_, rfl⟩
      have hF3 : Fr [] wr w3 := by rw [← HW3.out]; exact Fr.alloc [] wr _
      have hby : w3.heap[B9]? = some (.cells #[.string key, .string val, .bool drop] 92 (0, 0)) := by rw [← HW3.out, HB9.out]; exact heap_alloc_new wr _
      have e0 : w3.cell? ⟨B9, 0, none⟩ = some (.string key) := by rw [cell_of_row _ _ _ _ _ _ hby]; rfl
      have hG3 : Fr [] w w3 := hFr.then hF3
      have hM3 := HM.out.keep hF3 (by simp)
      obtain ⟨w4, hst, hM4, hF4⟩ := hM3.store key (i : Int) (by show key.size ≤ maxLen; unfold maxLen; omega) (by unfold maxLen; omega)
      have HM4 : Hid (MapG kLast w4 b (i + 1) (lastIx ws (i + 1))) := by
        show MapG _ _ _ _ _
        rw [lastIx_upd, HKa.out]
        exact hM4
      have HG4 : Hid (Fr [] w w4) := hG3.on hF4 (by intro x hx; simp at hx; omega)
      change (Instr.mapUpdate 195 (.map (some b)) (.string key) (.int .i64 (i : Int))).run Tryz.prog w3 = .ok () w4 at hst
      clear hM3 hM4 hF4 HM hF3 hG3 hby hFr
      go_upto_region 6 with fail
      rw [HW3.out, ← HB9.out]
      clear HW3 HB9 d0 d1 d2
      go_wp2_with fail
      go_roundw
      case rel => exact ⟨i + 1, by simp, by omega, HM4, HG4⟩
      case measure => simp [RowKit.intOf]; omega
    · obtain rfl : i = L := by omega
      clear hi hiL
      have HM1 : Hid (MapG kLast wr b i (lastIx ws ws.length)) := by rw [← HL.out]; exact HM
      have HF1 : Hid (Fr [] w wr) := hFr
      have hblt := HM1.out.lt
      clear HM hFr HM0 HF0
      go_wp2_with fail
      obtain ⟨w1, HW1⟩ : ∃ w1, Hid (wr = w1) := ⟨_, rfl⟩
      rw [HW1.out] at HM1 HF1 hblt ⊢
      clear HW1
      go_loopw [9, 40] (fun ll ii wr => ∃ (ro : Option Addr) (N rc k : Nat), ll = .slice ro N rc ∧ ii = .int .i64 k ∧ k ≤ i ∧ N ≤ k ∧ Hid (IOw w1.heap.size wr ro N rc (shT c ws k)) ∧ Hid (Fr [] w1 wr)) (fun _ ii _ => i - (RowKit.intOf ii).toNat)
      case atStart => exact ⟨none, 0, 0, 0, rfl, rfl, Nat.zero_le _, Nat.le_refl _, IOw.nil _ _, Fr.refl _ _⟩
      case round =>
        obtain ⟨ro, N, rc, k, rfl, rfl, hk, hN, HO, HF⟩ := hrel
        by_cases hki : k < i
        · have hk' : k < ws.length := by rw [← HL.out]; exact hki
          obtain ⟨bb, off, rfl, _, hc⟩ := (HI.out _ (HF1.out.then HF.out)).lies (by omega)
          obtain ⟨d0, d1, d2⟩ := hc k hk'
          have hkz := HKs.out _ (wgetD_mem ws k hk')
          have HKa : Hid (kAt ws k = (ws.getD k Wt.zero).key) := rfl
          have HKt := lastIx_kept ws k hk'
          have HKy : Hid (Kept ws k → shT c ws (k + 1) = shT c ws k ++ [shN13 c.s (ws.getD k Wt.zero).key]) := fun h => by unfold shT; rw [ddTo_yes h]; simp
          have HKn : Hid (¬ Kept ws k → shT c ws (k + 1) = shT c ws k) := fun h => by unfold shT; rw [ddTo_no h]
          obtain ⟨y, hyy⟩ : ∃ y, y = ws.getD k Wt.zero := ⟨_, rfl⟩
          rw [← hyy] at d0 d1 d2 hkz HKa HKy
          clear hyy hc
          obtain ⟨key, val, drop⟩ := y
          simp only at d0 d1 d2 hkz HKa
          rw [HKa.out] at HKt
          obtain ⟨J, hJ⟩ : ∃ J : Int, J = (lastIx ws ws.length key).getD 0 := ⟨_, rfl⟩
          rw [← hJ] at HKt
          obtain ⟨w3, HW3⟩ : ∃ w3, Hid (wr.alloc (.cells #[.string key, .string val, .bool drop] 92) = w3) := ⟨_, rfl⟩
          obtain ⟨B9, HB9⟩ : ∃ B9, Hid (B9 = wr.heap.size) := ⟨_, rfl⟩
          have hF3 : Fr [] wr w3 := by rw [← HW3.out]; exact Fr.alloc [] wr _
          have hby : w3.heap[B9]? = some (.cells #[.string key, .string val, .bool drop] 92 (0, 0)) := by rw [← HW3.out, HB9.out]; exact heap_alloc_new wr _
          have e0 : w3.cell? ⟨B9, 0, none⟩ = some (.string key) := by rw [cell_of_row _ _ _ _ _ _ hby]; rfl
          have hG3 : Fr [] w1 w3 := HF.out.then hF3
          have hlk := (HM1.out.keep hG3 (by simp)).look key (by show key.size ≤ maxLen; unfold maxLen; omega)
          change (Instr.lookup 195 (.map (some b)) (.string key) false).run Tryz.prog w3 = .ok (.int .i64 ((lastIx ws ws.length key).getD 0)) w3 at hlk
          rw [← hJ] at hlk
          have HO3 : Hid (IOw w1.heap.size w3 ro N rc (shT c ws k)) := HO.out.keep hF3
          have HG3 : Hid (Fr [] w1 w3) := hG3
          have HB3 : Hid (∀ W, Fr [] w3 W → W.cell? ⟨B9, 0, none⟩ = some (.string key)) := fun W hf => by rw [cell_of_row _ _ _ _ _ _ (hf.keep hby (by simp))]; rfl
          clear hJ HO hF3 hG3 hby HF
          by_cases hJk : J = (k : Int)
          · have heq : (J == (k : Int)) = true := by simp [hJk]
            have HYY : Hid (shT c ws (k + 1) = shT c ws k ++ [shN13 c.s key]) := HKy.out (HKt.1 hJk)
            have HCs : Hid (∀ W : World, Calls _ _ _ W _) := fun W => HC.out key W hkz.1 hkz.2
            have f0 : ∀ y : Wd13 w3, y.W.cell? ⟨Z.sb, 0, none⟩ = some (.int .i64 c.l) := fun y => (HY.out _ (HF1.out.then (HG3.out.then y.h))).1
            have f1 : ∀ y : Wd13 w3, y.W.cell? ⟨Z.sb, 1, none⟩ = some (.int .i64 c.s) := fun y => (HY.out _ (HF1.out.then (HG3.out.then y.h))).2.1
            have f2 : ∀ y : Wd13 w3, y.W.cell? ⟨Z.sb, 2, none⟩ = some (.int .i64 c.w) := fun y => (HY.out _ (HF1.out.then (HG3.out.then y.h))).2.2.1
            have f3 : ∀ y : Wd13 w3, y.W.cell? ⟨Z.sb, 3, none⟩ = some (.int .i64 c.q) := fun y => (HY.out _ (HF1.out.then (HG3.out.then y.h))).2.2.2
            have f4 : ∀ y : Wd13 w3, y.W.cell? ⟨B9, 0, none⟩ = some (.string key) := fun y => HB3.out _ y.h
            clear HKt HKy HKn hJk
            go_upto_region 12 with fail
            rw [HW3.out, ← HB9.out]
            clear HW3 HB9 d0 d1 d2
            go_wp2_with fail
            refine wp_region_wd13 (w1 := w3) (by kernel_rfl) (by kernel_rfl) (Fr.refl _ _) ?_
            repeat (go_big_quiet_step ((go_at_call 185; with_reducible refine (HCs.out _).mono ?_; exact fun e w3 hh => ⟨hh.1, ⟨_, Fr.then (Wd13.h _) hh.2⟩, rfl⟩)))
            refine wpQuiet_nil ?_
            rintro _ ⟨y, rfl⟩
            obtain ⟨w5, hw5⟩ : ∃ w5, w5 = y.W := ⟨_, rfl⟩
            have HF5 : Hid (Fr [] w3 w5) := by show Fr _ _ _; rw [hw5]; exact y.h
            rw [← hw5]
            clear hw5 f0 f1 f2 f3 f4 hlk e0
            have HO5 : Hid (IOw w1.heap.size w5 ro N rc (shT c ws k)) := HO3.out.keep HF5.out
            have HG5 : Hid (Fr [] w1 w5) := HG3.out.then HF5.out
            have hN1 : N < 1099511627776 := by omega
            have HB5 : Hid (∀ W', Fr (Value.slice ro N rc).ownBlock.toList (w5.alloc (.cells #[.int .i64 (shN13 c.s key)] 3)) W' → Fr [] w1 W') := fun W' h2 => HO5.out.on (Nat.le_refl _) HG5.out (Fr.alloc [] _ _) h2
            have HO6 : Hid (IOw w1.heap.size (w5.alloc (.cells #[.int .i64 (shN13 c.s key)] 3)) ro N rc (shT c ws k)) := HO5.out.keep (Fr.alloc [] _ _)
            have HSz : Hid (w1.heap.size ≤ w5.heap.size) := HG5.out.size
            clear HO3 HO5 HG3 HG5 HF5 HB3
            obtain ⟨q, hqq⟩ : ∃ q, q = shN13 c.s key := ⟨_, rfl⟩
            rw [← hqq] at HYY HB5 HO6 ⊢
            clear hqq
            go_wp2_with (first
              | (at_builtin; refine wpList_appI w1.heap.size _ rfl _ _ rfl ro N rc _ rfl HO6.out _ _ q rfl ?hcell (by omega) ?hsize ?_
                 case hcell => exact cell_new1 _ _ _
                 case hsize => have := HSz.out; simp; omega
                 intro o' c' w6 hO6 hF6 _
                 have HR6 : Hid (IOw w1.heap.size w6 o' (N + 1) c' (shT c ws k ++ [q]) ∧ Fr [] w1 w6) := ⟨hO6, HB5.out _ hF6⟩
                 clear hO6 hF6
                 go_frame)
              | fail)
            go_roundw
            case rel => exact ⟨o', N + 1, c', k + 1, rfl, by simp, by omega, by omega, (by rw [HYY.out]; exact HR6.out.1), HR6.out.2⟩
            case measure => simp [RowKit.intOf]; omega
          · have heq : (J == (k : Int)) = false := by simp [hJk]
            have HYY : Hid (shT c ws (k + 1) = shT c ws k) := HKn.out (fun h => hJk (HKt.2 h))
            have HO5 : Hid (IOw w1.heap.size w3 ro N rc (shT c ws (k + 1))) := by rw [HYY.out]; exact HO3
            clear HKt HKy HKn hJk HO3 HB3
            go_upto_region 12 with fail
            rw [HW3.out, ← HB9.out]
            clear HW3 HB9 d0 d1 d2
            go_wp2_with fail
            go_roundw
            case rel => exact ⟨_, N, _, k + 1, rfl, by simp, by omega, by omega, HO5, HG3⟩
            case measure => simp [RowKit.intOf]; omega
        · obtain rfl : k = i := by omega
          clear hki hk
          have HO1 : Hid (IOw w.heap.size wr ro N rc ((dd ws).map fun x => shN13 c.s x.key)) := by
            show IOw _ _ _ _ _ _
            unfold dd
            rw [← HL.out]
            exact HO.out.low HF1.out.size
          have HF2 : Hid (Fr [] w wr) := HF1.out.then HF.out
          clear HO HF
          go_wp2_with fail
          go_ret
          exact ⟨ro, N, rc, rfl, HO1.out, HF2.out⟩
end
end Go.Proofs.YtaaghcimfcjehaaGreatDoor
/- A lane takes the first one of the line; it sends its next write. Conditions as each names them. -/
namespace Go.Proofs.YtaaghcimfcjehaaGreatDoor
open Go.ChangeShapes Go.WideShapes Go.ChangeAt Go.RowKit Go.Lib Go.Maps
set_option linter.unusedVariables false
set_option linter.unusedSimpArgs false

section
variable {w w' wS : World} {Z : Zs} {c : Cf} {s : Sy} {k : Nat} {ts : List Tm}
/-- A lane holds another one, with other shards left. -/
theorem SyM.setLane (h : SyM w Z c s k) {i : Nat} (hi : i < c.l.toNat) {w2 : World} (hf : Fr [] w w2) (n : Int) (q : Sq) (ys : List Int) (hq : QR w2 q.lo q.n q.c ys) (hn : ∀ x, qb q.lo = some x → w.heap.size ≤ x) :
    SyM ((w2.setCell ⟨Z.lb, 2 * i, none⟩ (.int .i64 n)).setCell ⟨Z.lb, 2 * i + 1, none⟩ q.v) (Z.put (2 + i) q) c { s with num := upd s.num i n, R := upd s.R (2 + i) ys } k ∧ Mv w Z ((w2.setCell ⟨Z.lb, 2 * i, none⟩ (.int .i64 n)).setCell ⟨Z.lb, 2 * i + 1, none⟩ q.v) (Z.put (2 + i) q) := by
  have h2 := h.quiet hf
  have hlt := h.lt
  obtain ⟨m1, m2⟩ := h2.setNum hi n
  have hnl : ∀ x, qb q.lo = some x → x ∉ Z.own := fun x hx hh => by have := hlt x hh; have := hn x hx; omega
  have hq2 : QR (w2.setCell ⟨Z.lb, 2 * i, none⟩ (.int .i64 n)) q.lo q.n q.c ys := hq.keep (Fr.set (S := [Z.lb]) w2 _ _ (by simp)) (fun b hb hh => hnl b hb (by simp at hh; exact Zs.mem_own.2 (Or.inl (by simp [Zs.six, hh]))))
  obtain ⟨r1, r2, r3⟩ := m1.rowL (wb := w) hi q ys (Fr.refl _ _) hq2 (Or.inr fun x hx => ⟨hnl x hx, hn x hx⟩)
  exact ⟨r1, ⟨(hf.mono (by simp)).then (m2.fr.then r2), r3, rfl, rfl, rfl, rfl⟩⟩
set_option maxHeartbeats 4000000 in
set_option maxRecDepth 100000 in
theorem take_any (h : SyM w Z c s k) (hx : Cx wS w Z ts) (hT : Lk (txs ts)) (i : Nat) (hi : i < c.l.toNat) (hR : ∀ n ∈ s.R 0, 1 ≤ n ∧ n ≤ ((txs ts).length : Int)) (h0i : s.num i = 0) :
    Calls Tryz.prog 145 #[.pointer (some ⟨Z.sb, 0, none⟩), .pointer (some ⟨Z.lb, 2 * i, none⟩)] w (TaskP w Z c k (lan c (txs ts) s i)) := by
  have hlt := h.lt
  have hF0 : Fr [] w (w.alloc (.cells (evA 0 0 0 0 0 0) 62)) := Fr.alloc _ _ _
  have hb0 : (w.alloc (.cells (evA 0 0 0 0 0 0) 62)).heap[w.heap.size]? = some (.cells (evA 0 0 0 0 0 0) 62 (0, 0)) := heap_alloc_new _ _
  have h0 := h.quiet hF0
  have hl0 : w.heap.size < (w.alloc (.cells (evA 0 0 0 0 0 0) 62)).heap.size := by simp
  have hx0 := hx.quiet hF0
  obtain ⟨w0, HW0⟩ : ∃ w0, Hid (w.alloc (.cells (evA 0 0 0 0 0 0) 62) = w0) := ⟨_, rfl⟩
  rw [HW0.out] at hF0 hb0 h0 hl0 hx0
  obtain ⟨rb, HRB⟩ : ∃ rb, Hid (w.heap.size = rb) := ⟨_, rfl⟩
  have hrb : w.heap.size ≤ rb := by rw [HRB.out]; exact Nat.le_refl _
  rw [HRB.out] at hb0 hl0
  have HFin : Hid (∀ W W' Z' s' k', Mv w0 Z W Z' → Fr [rb] W W' → SyM W Z' c s' k' → SyM W' Z' c s' k' ∧ Mv w Z W' Z') := fun W W' Z' s' k' hM hf hS => hM.fin hF0 hrb hl0 hlt hf hS
  have HBox : Hid (∀ W Z', Mv w0 Z W Z' → W.heap[rb]? = some (.cells (evA 0 0 0 0 0 0) 62 (0, 0))) := fun W Z' hM => hM.box hrb hlt hb0
  have HW0' : Hid (w.alloc (.cells #[.int .i64 0, .int .u8 0, .int .i64 0, .int .i64 0, .int .i64 0, .int .i64 0] 62) = w0) := HW0
  cases hR0 : s.R 0 with
  | nil =>
    have HC : Hid (Calls _ _ _ _ _) := first0_none h0 hR0
    have HO : Hid (lan c (txs ts) s i = (Te.no, s)) := by unfold lan; rw [if_pos h0i]; show (match s.R 0 with | [] => _ | n :: r => _) = _; rw [hR0]
    have HS : Hid (SyM w0 Z c s k) := h0
    clear h h0 hb0 hl0 hlt hF0 HW0 hx hx0 hR hT
    go_enter Tryz.func145, Tryz.ntmps145
    go_upto_region 1 with fail
    rw [HW0'.out, HRB.out]
    go_wp2_with fail
    refine Calls.mono HC.out ?_
    rintro e w1 ⟨rfl, rfl⟩
    have HB := HBox.out _ _ (Mv.refl w0 Z)
    go_wp2_with (refine wpList_storeEv rfl _ _ rfl rb 0 0 0 0 0 0 rfl rfl 0 0 0 0 0 0 HB ?_; intro w3 hw3 hf3)
    refine bodyPost_ret (results_c_row rfl _ _ _ rb _ rfl (load_evt hw3.out)) rfl ?_
    rw [HO.out]
    obtain ⟨m1, m2⟩ := HFin.out _ _ _ _ _ (Mv.refl w0 Z) hf3 HS.out
    exact ⟨Z, rfl, m1.mono (Nat.le_succ k), m2, rfl⟩
  | cons n r =>
    have HC : Hid (Calls _ _ _ _ _) := first0_some h0 hR0
    have hn := hR n (by rw [hR0]; simp)
    have hlen := hT.len
    rw [txs_length] at hn hlen
    have HO : Hid (lan c (txs ts) s i = (⟨4, n, 0, 0⟩, { s with num := upd s.num i n, R := upd (upd s.R 0 r) (2 + i) (shs c (txs ts) n) })) := by unfold lan; rw [if_pos h0i]; show (match s.R 0 with | [] => _ | n :: r => _) = _; rw [hR0]
    have hokn := hT.tx n hn.1 (by rw [txs_length]; exact hn.2)
    have H1 : Hid (∀ W Z', Z'.sb = Z.sb → SyM W Z' c (s.put 0 r) k → Mv w0 Z W Z' → Calls Tryz.prog 173 #[.pointer (some ⟨Z.sb, 0, none⟩), .int .i64 n] W fun e w' => ∃ so N cc, e = .returned (.slice so N cc) ∧ IOw W.heap.size w' so N cc (shs c (txs ts) n) ∧ Fr [] W w') := by
      intro W Z' e1 hW hM
      have := shards_any hW (hx0.next hM) n hn.1 hn.2 hokn hlen
      rw [e1] at this
      exact this
    have H2 : Hid (∀ W W2 Z' so N cc, Z'.sb = Z.sb → Z'.lb = Z.lb → SyM W Z' c (s.put 0 r) k → Mv w0 Z W Z' → IOw W.heap.size W2 so N cc (shs c (txs ts) n) → Fr [] W W2 → (∃ v, W2.cell? ⟨Z.lb, 2 * i, none⟩ = some (.int .i64 v)) ∧ (∃ a b d, W2.cell? ⟨Z.lb, 2 * i + 1, none⟩ = some (.slice a b d)) ∧ W2.frozen? ⟨Z.lb, 2 * i, none⟩ = false ∧ W2.frozen? ⟨Z.lb, 2 * i + 1, none⟩ = false ∧ ∃ Z2, Z2.sb = Z.sb ∧ SyM ((W2.setCell ⟨Z.lb, 2 * i, none⟩ (.int .i64 n)).setCell ⟨Z.lb, 2 * i + 1, none⟩ (.slice so N cc)) Z2 c (lan c (txs ts) s i).2 k ∧ Mv w0 Z ((W2.setCell ⟨Z.lb, 2 * i, none⟩ (.int .i64 n)).setCell ⟨Z.lb, 2 * i + 1, none⟩ (.slice so N cc)) Z2) := by
      intro W W2 Z' so N cc e1 e2 hW hM hI hf
      obtain ⟨l1, l2, l3, l4⟩ := (hW.quiet hf).lanCell hi
      obtain ⟨m1, m2⟩ := hW.setLane hi hf n ⟨so, N, cc⟩ (shs c (txs ts) n) (QR.of_own hI) (fun x hx => by
        refine (hI.blk (k := x) ?_).1
        cases so with
        | none => cases hx
        | some a =>
          obtain ⟨g, hg, _⟩ : ∃ g, some a = some (⟨g, 0, none⟩ : Addr) ∧ True := by
            rcases hI.row.2 with ⟨hh, _⟩ | ⟨g, cap, cur, hh, _⟩
            · cases hh
            · cases hh; exact ⟨g, rfl, trivial⟩
          cases hg
          simp [qb] at hx
          subst hx
          rfl)
      rw [e2] at l1 l2 l3 l4 m1 m2
      refine ⟨⟨_, l1⟩, ⟨_, _, _, l2⟩, l3, l4, Z'.put (2 + i) ⟨so, N, cc⟩, e1, ?_, hM.trans m2⟩
      rw [HO.out]
      exact m1
    clear h h0 hb0 hl0 hlt hF0 HW0 hx hx0 hR hT hokn hR0 h0i
    go_enter Tryz.func145, Tryz.ntmps145
    go_upto_region 1 with fail
    rw [HW0'.out, HRB.out]
    go_wp2_with fail
    refine Calls.mono HC.out ?_
    rintro e w1 ⟨Z1, rfl, hS1, hM1, z1, z2, z3⟩
    have HD : Hid (Calls _ _ _ _ _) := H1.out w1 Z1 z1 hS1 hM1
    have HS1 : Hid (SyM w1 Z1 c (s.put 0 r) k ∧ Mv w0 Z w1 Z1 ∧ Z1.sb = Z.sb ∧ Z1.lb = Z.lb) := ⟨hS1, hM1, z1, z2⟩
    clear hS1 hM1 z1 z2 z3 HC H1
    go_wp2_with fail
    refine Calls.mono HD.out ?_
    rintro e w2 ⟨so, N, cc, rfl, hI2, hF2⟩
    obtain ⟨⟨v0, l1⟩, ⟨a0, b0, d0, l2⟩, l3, l4, Z2, j3, j4, j5⟩ := H2.out w1 w2 Z1 so N cc HS1.out.2.2.1 HS1.out.2.2.2 HS1.out.1 HS1.out.2.1 hI2 hF2
    have HE : Hid (Z2.sb = Z.sb ∧ SyM _ _ _ _ _ ∧ Mv _ _ _ _) := ⟨j3, j4, j5⟩
    have HB := HBox.out _ _ j5
    clear j3 j4 j5 hI2 hF2 HD H2
    go_wp2_with (refine wpList_storeEv rfl _ _ rfl rb 0 4 n 0 0 0 rfl rfl 0 0 0 0 0 0 HB ?_; intro w6 hw6 hf6)
    refine bodyPost_ret (results_c_row rfl _ _ _ rb _ rfl (load_evt hw6.out)) rfl ?_
    obtain ⟨m1, m2⟩ := HFin.out _ _ _ _ _ HE.out.2.2 hf6 HE.out.2.1
    exact ⟨Z2, by rw [HO.out]; rfl, m1.mono (Nat.le_succ k), m2, HE.out.1⟩
end
end Go.Proofs.YtaaghcimfcjehaaGreatDoor

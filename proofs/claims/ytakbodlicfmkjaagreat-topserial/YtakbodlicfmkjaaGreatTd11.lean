/- Contract of a table's Done. Conditions as each names them. -/
import Derived.Test.YtakbodlicfmkjaaGreatTw11
namespace Go.Proofs.YtakbodlicfmkjaaGreat
open Go.ChangeShapes Go.WideShapes Go.ChangeAt Go.RowKit Go.Lib Go.Maps Go.Sort Go.Shelf
set_option linter.unusedVariables false
set_option linter.unusedSimpArgs false

/-- delete at the operation. -/
theorem wpList_del {P : Program} (w : World) {ops : Array Oper} {rest : List Oper} {op : Oper} {a : Act} {Q : Exit → Act → World → Prop} (hgd : op.guard = none) (m x : Operand) (t k : TypeId)
    (ho : op.op = .call { callee := .builtin .delete, args := #[m, x], argTypes := #[t, k] }) (mv kv : Value) (hm : a.eval m = mv) (hx : a.eval x = kv) {R : World → Prop}
    (hE : ∃ w', (Builtin.delete_ #[t, k] op.type #[mv, kv]).run P w = .ok (.tuple #[]) w' ∧ R w')
    (h : ∀ w', R w' → wpList P ops Q rest (a.put op.dst (.tuple #[])) w') : wpList P ops Q (op :: rest) a w := by
  refine wpList_plain hgd fun K hK => ?_
  obtain ⟨w', hr, hR⟩ := hE
  unfold Oper.wp execOp
  simp only [ho, resolve, invoke, builtin, Sem.run_bind, Sem.run_pure, Result.andThen_ok, List.map_toArray, List.map_cons, List.map_nil, hm, hx, hr]
  exact hK _ _ (h w' hR)
/-- Behind some rounds of Done's loop. -/
def Dt.less (D : Dt) (m : Int) (ys : List Int) : Dt := { D with wt := fun x y => D.wt x y ∧ ¬ (x ∈ ys ∧ y = m) }
theorem Dt.less_nil (D : Dt) (m : Int) : D.less m [] = D := by
  unfold Dt.less
  cases D
  simp
theorem Dt.less_snoc (D : Dt) (m x : Int) (ys : List Int) : { (D.less m ys) with wt := fun a y => (D.less m ys).wt a y ∧ ¬ (a = x ∧ y = m) } = D.less m (ys ++ [x]) := by
  unfold Dt.less
  simp only [Dt.mk.injEq, true_and]
  funext a y
  simp only [List.mem_append, List.mem_singleton, eq_iff_iff]
  constructor
  · rintro ⟨⟨h1, h2⟩, h3⟩
    exact ⟨h1, fun ⟨h4, h5⟩ => h4.elim (fun h => h2 ⟨h, h5⟩) (fun h => h3 ⟨h, h5⟩)⟩
  · rintro ⟨h1, h2⟩
    exact ⟨⟨h1, fun ⟨h4, h5⟩ => h2 ⟨Or.inl h4, h5⟩⟩, fun ⟨h4, h5⟩ => h2 ⟨Or.inr h4, h5⟩⟩
theorem Dt.less_done (D : Dt) (m : Int) (h : ∀ a, D.wt a m → a ∈ D.bh m) : { (D.less m (D.bh m)) with op := fun x => (D.less m (D.bh m)).op x ∧ x ≠ m } = D.done m := by
  unfold Dt.less Dt.done
  simp only [Dt.mk.injEq, true_and]
  funext a y
  simp only [eq_iff_iff]
  constructor
  · rintro ⟨h1, h2⟩
    exact ⟨h1, fun e => h2 ⟨h a (e ▸ h1), e⟩⟩
  · rintro ⟨h1, h2⟩
    exact ⟨h1, fun h3 => h2 h3.2⟩
/-- What Done tells, of what the table keeps. -/
def DoS (D : Dt) (m : Int) (zs : List Int) : Prop := ∃ p : Int → Bool, zs = (D.bh m).filter p ∧ ∀ x, p x = true ↔ ∀ y ∈ D.ah x, D.wt x y → y = m
theorem DoS.of {D : Dt} {L : Lg} {en : Int → Prop} (h : Inv D L en) {m : Int} (hm : D.op m) {zs : List Int} (hz : DoS D m zs) : DoT L D.op m zs := by
  obtain ⟨p, rfl, hp⟩ := hz
  refine ⟨(h.bh m hm).1.filter _, fun o => ?_⟩
  rw [List.mem_filter, (h.bh m hm).2 o, hp o]
  constructor
  · rintro ⟨⟨h1, h2⟩, h3⟩
    refine ⟨h1, h2, fun y hy hne hd => hne (h3 y ((h.ah o h1).2.2 y hd hy) ((h.wt o y).2 ⟨h1, hy, hd⟩))⟩
  · rintro ⟨h1, h2, h3⟩
    refine ⟨⟨h1, h2⟩, fun y hy hw => ?_⟩
    obtain ⟨_, h5, h6⟩ := (h.wt o y).1 hw
    exact Classical.byContradiction fun hne => h3 y h5 hne h6
theorem tdone_no {tb : Nat} {B : List Nat} {n : Nat} {D : Dt} (m : Int) (w : World) (h : Tb w tb B n D) (G : Good D) (hm : D.op m) (x : Int) (hx : x ∈ D.ah m) (hxw : D.wt m x) :
    Calls Tryz.prog 340 #[.pointer (some ⟨tb, 0, none⟩), .int .i64 m] w fun e w' => e = .returned (.tuple #[.slice none 0 0, .int .i64 6]) ∧ Fr [] w w' := by
  have HX : Hid (x ∈ D.ah m ∧ D.wt m x) := ⟨hx, hxw⟩
  have HC : Hid (Calls _ _ _ _ _) := twaits_any m w h G hm
  clear h G hm hx hxw
  go_enter Tryz.func340, Tryz.ntmps340
  go_wp2_with fail
  refine Calls.mono HC.out ?_
  rintro e w1 ⟨so, N, c, ys, rfl, hO, hA, hF1⟩
  have hN : 0 < N := by
    obtain ⟨p, hp, hq⟩ := hA.sub
    rw [hO.len, hp]
    exact List.length_pos_of_mem (List.mem_filter.2 ⟨HX.out.1, (hq x).2 HX.out.2⟩)
  clear hO hA HC
  go_wp2
  refine bodyPost_ret (results_tmp2 rfl _ _ _) rfl ?_
  exact ⟨rfl, hF1⟩
set_option maxHeartbeats 4000000 in
set_option maxRecDepth 100000 in
theorem tdone_any {tb : Nat} {B : List Nat} {n : Nat} {D : Dt} (m : Int) (w : World) (h : Tb w tb B n D) (G : Good D) (hm : D.op m) (hno : ∀ x ∈ D.ah m, ¬ D.wt m x) (hbo : ∀ x ∈ D.bh m, D.op x) (hbw : ∀ a, D.wt a m → a ∈ D.bh m) :
    Calls Tryz.prog 340 #[.pointer (some ⟨tb, 0, none⟩), .int .i64 m] w fun e w' => ∃ so N c zs, e = .returned (.tuple #[.slice so N c, .int .i64 0]) ∧ IOw w.heap.size w' so N c zs ∧ DoS D m zs ∧ Tb w' tb B n (D.done m) ∧ Fr B w w' := by
  classical
  obtain ⟨p, hp⟩ : ∃ p : Int → Bool, ∀ x, p x = decide (∀ y ∈ D.ah x, D.wt x y → y = m) := ⟨fun x => decide (∀ y ∈ D.ah x, D.wt x y → y = m), fun _ => rfl⟩
  have HP : Hid (∀ x, p x = true ↔ ∀ y ∈ D.ah x, D.wt x y → y = m) := fun x => by rw [hp]; simp
  have HC : Hid (Calls _ _ _ _ _) := twaits_any m w h G hm
  obtain ⟨lb, ob, wb, E, hT⟩ := h
  have hmi : i64 m := .of (G.op m hm)
  obtain ⟨e0, he0⟩ : ∃ e0, E m = some e0 := Option.isSome_iff_exists.1 ((hT.opn m).2 hm)
  obtain ⟨xs, hxs⟩ : ∃ xs, xs = D.bh m := ⟨_, rfl⟩
  obtain ⟨h1, h2, h3, h4, h5, h6⟩ := hT.ent m e0 he0
  rw [← hxs] at h4
  obtain ⟨eg, ea, ⟨bo, bn, bc⟩⟩ := e0
  simp only at *
  have HXS : Hid (xs = D.bh m) := hxs
  have HN : Hid (bn = xs.length) := h4.len
  have hbf : bn ≤ 65536 := by rw [HN.out, hxs]; exact (G.bh m hm).1
  have HT : Hid (TbI w tb lb ob wb B n D E) := hT
  have HG : Hid (Good D) := G
  have HM : Hid (D.op m) := hm
  have HBo : Hid (∀ x ∈ xs, D.op x) := by rw [hxs]; exact hbo
  have HBw : Hid (∀ a, D.wt a m → a ∈ D.bh m) := hbw
  have HNo : Hid (∀ x ∈ D.ah m, ¬ D.wt m x) := hno
  have HE : Hid (E m = some ⟨eg, ea, ⟨bo, bn, bc⟩⟩) := he0
  have HRow : Hid (IOw 0 w bo bn bc xs ∧ ∀ k, (Value.slice bo bn bc).ownBlock = some k → k ≠ wb) := ⟨h4, fun k hk e => by
    obtain ⟨_, cur, hc⟩ := h4.blk hk
    exact ne_of_blocks hc hT.bW e⟩
  clear hp h1 h2 h3 h4 h5 h6 he0 hxs hT G hm hno hbo hbw
  go_enter Tryz.func340, Tryz.ntmps340
  go_wp2_with fail
  refine Calls.mono HC.out ?_
  rintro e w1 ⟨so, N, c, ys, rfl, hO, hA, hF1⟩
  have hN : N = 0 := by
    obtain ⟨q, hq, hq2⟩ := hA.sub
    rw [hO.len, hq, List.length_eq_zero_iff, List.filter_eq_nil_iff]
    exact fun x hx hx2 => HNo.out x hx ((hq2 x).1 hx2)
  subst hN
  have hT1 := HT.out.keep hF1 (by simp)
  have c2 := hT1.c2
  have hl := hT1.lookE m hmi _ HE.out
  have cb : w1.cell? ⟨eg, 1, none⟩ = some (.slice bo bn bc) := by rw [cell_of_row _ _ _ _ _ _ (hT1.ent m _ HE.out).1]; rfl
  have HR1 : Hid (IOw 0 w1 bo bn bc xs) := HRow.out.1.keep hF1
  have HT1 : Hid (TbI w1 tb lb ob wb B n D E) := hT1
  clear hO hA hT1 HC
  go_wp2_with fail
  go_loopw [8, 33] (fun ll ii wr => ∃ (i : Nat) (so : Option Addr) (N c : Nat), ii = .int .i64 i ∧ i ≤ bn ∧ ll = .slice so N c ∧ N ≤ i ∧ Hid (IOw w1.heap.size wr so N c ((xs.take i).filter p)) ∧ Hid (TbI wr tb lb ob wb B n (D.less m (xs.take i)) E) ∧ Hid (Fr [wb] w1 wr)) (fun _ ii _ => bn - (RowKit.intOf ii).toNat)
  case atStart => exact ⟨0, none, 0, 0, rfl, Nat.zero_le _, rfl, Nat.le_refl _, IOw.nil _ _, (by rw [List.take_zero, Dt.less_nil]; exact HT1.out), Fr.refl _ _⟩
  case round =>
    obtain ⟨i, so, N, c, rfl, hiN, rfl, hNi, HO, HTi, HFi⟩ := hrel
    by_cases hi : i < bn
    · obtain ⟨g, rfl, _, _, hcs⟩ := (HR1.out.keepS HFi.out (fun k hk => by simpa using HRow.out.2 k hk)).cells (by omega)
      have hg := hcs i hi
      have hil : i < xs.length := by rw [← HN.out]; exact hi
      obtain ⟨x, hxe⟩ : ∃ x, x = xs.getD i 0 := ⟨_, rfl⟩
      rw [← hxe] at hg
      have hxo : D.op x := by rw [hxe]; exact HBo.out _ (igetD_mem xs i hil)
      have hxi : i64 x := .of (HG.out.op x hxo)
      have c3 := HTi.out.c3
      have HS := ifilter_snoc xs p i hil
      rw [← hxe] at HS
      have HS : Hid ((xs.take (i + 1)).filter p = _) := HS
      have HDl : Hid (D.less m (xs.take (i + 1)) = { (D.less m (xs.take i)) with wt := fun a y => (D.less m (xs.take i)).wt a y ∧ ¬ (a = x ∧ y = m) }) := by
        rw [Dt.less_snoc, hxe, show xs.take (i + 1) = xs.take i ++ [xs.getD i 0] from by rw [List.take_add_one]; simp [List.getD, hil]]
        exact rfl
      have HDr : Hid (∀ ty, ∃ w', (Builtin.delete_ #[178, 366] ty #[.map (some wb), .agg #[.int .i64 x, .int .i64 m]]).run Tryz.prog wr = .ok (.tuple #[]) w' ∧ (TbI w' tb lb ob wb B n (D.less m (xs.take (i + 1))) E ∧ Fr [wb] wr w')) := fun ty => by
        obtain ⟨w', j1, j2, j3⟩ := HTi.out.dropW x m hxi hmi ty
        exact ⟨w', j1, by rw [HDl.out]; exact j2, j3⟩
      have hmem : x ∈ xs.take (i + 1) := by rw [hxe, show xs.take (i + 1) = xs.take i ++ [xs.getD i 0] from by rw [List.take_add_one]; simp [List.getD, hil]]; simp
      have HMem : Hid (x ∈ xs.take (i + 1)) := hmem
      have HOw : Hid (∀ k, (Value.slice so N c).ownBlock = some k → w1.heap.size ≤ k ∧ k ≠ wb) := fun k hk => by
        obtain ⟨h1, cur, h2⟩ := HO.out.blk hk
        exact ⟨h1, ne_of_blocks h2 HTi.out.bW⟩
      have HO2 : Hid (∀ W, Fr [wb] wr W → IOw w1.heap.size W so N c ((xs.take i).filter p)) := fun W hf => HO.out.keepS hf (fun k hk => by simpa using (HOw.out k hk).2)
      have hsz : w1.heap.size ≤ wr.heap.size := HFi.out.size
      clear hcs hxe HO hmem
      go_wp2_with (first | (at_delete; refine wpList_del _ rfl _ _ _ _ rfl (.map (some wb)) (.agg #[.int .i64 x, .int .i64 m]) rfl rfl (HDr.out _) ?_; rintro w2 ⟨hT2, hF2⟩; have HT2 : Hid (TbI w2 tb lb ob wb B n (D.less m (xs.take (i + 1))) E) := hT2; have HF2 : Hid (Fr [wb] wr w2) := hF2; clear hT2 hF2) | fail)
      refine (tawaited_any x _ ⟨_, _, _, _, HT2.out⟩ hxo hxi (fun y hy => .of ((HG.out.ah x hxo).2 y hy)) (by have := (HG.out.ah x hxo).1; show (D.ah x).length < _; omega)).mono ?_
      rintro e w3 ⟨ao, A, ac, ys, rfl, hOa, hAw, hF3⟩
      have hiff : p x = true ↔ A = 0 := by
        obtain ⟨q, hq, hq2⟩ := hAw.sub
        rw [hOa.len, hq, List.length_eq_zero_iff, List.filter_eq_nil_iff, HP.out x]
        constructor
        · intro h1 y hy hy2
          obtain ⟨h2, h3⟩ := (hq2 y).1 hy2
          exact h3 ⟨HMem.out, h1 y hy h2⟩
        · intro h1 y hy hw
          exact Classical.byContradiction fun hne => h1 y hy ((hq2 y).2 ⟨hw, fun h2 => hne h2.2⟩)
      have HT3 : Hid (TbI w3 tb lb ob wb B n (D.less m (xs.take (i + 1))) E) := HT2.out.keep hF3 (by simp)
      have hF23 : Fr [wb] wr w3 := HF2.out.then (hF3.mono (by simp))
      have hsz3 : w1.heap.size ≤ w3.heap.size := Nat.le_trans hsz hF23.size
      have HF3 : Hid (Fr [wb] w1 w3) := HFi.out.then hF23
      have HO3 : Hid (IOw w1.heap.size w3 so N c ((xs.take i).filter p)) := HO2.out _ hF23
      clear hOa hAw HT2 HF2 hF3 HDr hF23
      by_cases hA : A = 0
      · have hpx := hiff.2 hA
        rw [hpx, if_pos rfl] at HS
        subst hA
        have HO4 : Hid (∀ W, Fr [] w3 W → IOw w1.heap.size W so N c ((xs.take i).filter p)) := fun W hf => HO3.out.keep hf
        have HK4 : Hid (∀ W', Fr (Value.slice so N c).ownBlock.toList (w3.alloc (.cells #[.int .i64 x] 3)) W' → TbI W' tb lb ob wb B n (D.less m (xs.take (i + 1))) E ∧ Fr [wb] w1 W') := fun W' hf => by
          have hT4 := HT3.out.keep (Fr.alloc [] w3 (.cells #[.int .i64 x] 3)) (by simp)
          refine ⟨hT4.keep hf (fun j hj hj2 => ?_), (HF3.out.then (Fr.alloc [wb] _ _)).trans hf (fun y hy _ => hy) (fun y hy hl => ?_)⟩
          · have := (HOw.out j (Option.mem_toList.1 hj2)).1
            have := HT1.out.mine j hj
            omega
          · have := (HOw.out y (Option.mem_toList.1 hy)).1
            omega
        clear hiff hpx
        go_wp2_with (first
          | (at_builtin; refine wpList_appI w1.heap.size _ rfl _ _ rfl so N c _ rfl (HO4.out _ (Fr.alloc [] _ _)) _ _ x rfl ?hcell (by omega) ?hsize ?_
             case hcell => exact cell_new1 _ _ _
             case hsize => simp; omega
             intro o' c' w4 hO4 hF4 _
             have HR4 : Hid (_ ∧ _) := ⟨hO4, HK4.out _ hF4⟩
             clear hO4 hF4
             go_frame)
          | fail)
        go_roundw
        case rel => exact ⟨i + 1, o', N + 1, c', rfl, by omega, rfl, by omega, (by rw [HS.out]; exact HR4.out.1), HR4.out.2.1, HR4.out.2.2⟩
        case measure => simp [RowKit.intOf]; omega
      · have hpx : p x = false := by
          cases hq : p x with
          | false => rfl
          | true => exact absurd (hiff.1 hq) hA
        rw [hpx, if_neg (by simp)] at HS
        clear hiff hpx
        go_wp2_with fail
        go_roundw
        case rel => exact ⟨i + 1, so, N, c, rfl, by omega, rfl, by omega, (by rw [HS.out]; exact HO3.out), HT3.out, HF3.out⟩
        case measure => simp [RowKit.intOf]; omega
    · obtain rfl : bn = i := by omega
      rw [List.take_of_length_le (by rw [← HN.out]; exact Nat.le_refl _)] at HO HTi
      have c2 := HTi.out.c2
      have HDr : Hid (∀ ty, ∃ w', (Builtin.delete_ #[175, 3] ty #[.map (some ob), .int .i64 m]).run Tryz.prog wr = .ok (.tuple #[]) w' ∧ (Tb w' tb B n (D.done m) ∧ IOw w1.heap.size w' so N c (xs.filter p) ∧ Fr B w w')) := fun ty => by
        obtain ⟨w', j1, j2, j3⟩ := HTi.out.dropO m hmi ty
        rw [HXS.out] at j2
        have e := Dt.less_done D m HBw.out
        have j4 : TbI w' tb lb ob wb B n (D.done m) (updF E m none) := by rw [← e]; exact j2
        have f1 : Fr B w w' := ((hF1.mono (T := B) (by simp)).then (HFi.out.mono (by simpa using fun _ => HT1.out.bw))).then (j3.mono (by simpa using fun _ => HT1.out.bo))
        exact ⟨w', j1, ⟨lb, ob, wb, _, j4⟩, HO.out.keepS j3 (fun k hk => by
          obtain ⟨_, cur, hc⟩ := HO.out.blk hk
          simpa using ne_of_blocks hc HTi.out.bO), f1⟩
      go_wp2_with (first | (at_delete; refine wpList_del _ rfl _ _ _ _ rfl (.map (some ob)) (.int .i64 m) rfl rfl (HDr.out _) ?_; rintro w2 hR2; have HR2 : Hid (_ ∧ _ ∧ _) := hR2; clear hR2) | fail)
      refine bodyPost_ret (results_tmp2 rfl _ _ _) rfl ?_
      exact ⟨so, N, c, xs.filter p, rfl, HR2.out.2.1.low hF1.size, ⟨p, by rw [HXS.out], HP.out⟩, HR2.out.1, HR2.out.2.2⟩
end Go.Proofs.YtakbodlicfmkjaaGreat

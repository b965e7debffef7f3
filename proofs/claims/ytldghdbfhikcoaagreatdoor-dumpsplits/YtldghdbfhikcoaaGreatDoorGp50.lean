/- Texts of this claim laid together, one behind the other: contracts and plain lemmas; conditions as each names them. -/
import Derived.Test.YtldghdbfhikcoaaGreatDoorGp49
import Derived.Test.YtldghdbfhikcoaaGreatDoorGp45
import Derived.Test.YtldghdbfhikcoaaGreatDoorGp42
import Derived.Test.YtldghdbfhikcoaaGreatDoorGp14
import Derived.Test.YtldghdbfhikcoaaGreatDoorGp31
import Derived.Laws.AppendOwn
import Derived.Test.YtldghdbfhikcoaaGreatDoorGp38
/- Are lists of keys the same: contract of SameHeldLists. Conditions: two rows of as many lists, list by list of the same keys with the same versions. -/
namespace Go.Proofs.YtldghdbfhikcoaaGreatDoor
open BigFrame Go.ChangeShapes Go.WideShapes Go.ChangeAt Go.RowKit Go.Lib Go.Maps
set_option linter.unusedVariables false
set_option linter.unusedSimpArgs false

/-- A row of lists that can be read. -/
structure LRs (w : World) (ao : Option Addr) (rs : List Lr) : Prop where
  lies : 0 < rs.length → ∃ b off, ao = some ⟨b, off, none⟩ ∧ b < w.heap.size ∧ ∀ j, j < rs.length → w.cell? ⟨b, off + j, none⟩ = some (rs.getD j Lr.zero).v
  few : rs.length ≤ 17592186044416
  each : ∀ j, j < rs.length → HRs w (rs.getD j Lr.zero).ro (rs.getD j Lr.zero).hs ∧ (rs.getD j Lr.zero).N = (rs.getD j Lr.zero).hs.length
theorem LRs.keep {w w' : World} {ao : Option Addr} {rs : List Lr} (h : LRs w ao rs) (hf : Fr [] w w') : LRs w' ao rs := by
  refine ⟨fun h0 => ?_, h.few, fun j hj => ⟨(h.each j hj).1.keep hf, (h.each j hj).2⟩⟩
  obtain ⟨b, off, e, hb, hc⟩ := h.lies h0
  exact ⟨b, off, e, Nat.lt_of_lt_of_le hb hf.size, fun j hj => (World.cell?_of_block (hf.block b hb (by simp))).trans (hc j hj)⟩
set_option maxHeartbeats 4000000 in
set_option maxRecDepth 100000 in
theorem sameHL_any (ao bo : Option Addr) (S ca cb : Nat) (rs qs : List Lr) (w : World) (hA : LRs w ao rs) (hB : LRs w bo qs) (hS : S = rs.length) (hS2 : S = qs.length) (he : ∀ j, j < S → (rs.getD j Lr.zero).hs.map hkv = (qs.getD j Lr.zero).hs.map hkv) :
    Calls Tryz.prog 25 #[.slice ao S ca, .slice bo S cb] w fun e w' => e = .returned (.bool true) ∧ Fr [] w w' := by
  have HS : Hid (S = rs.length ∧ S = qs.length) := ⟨hS, hS2⟩
  have hSS : S ≤ 17592186044416 := by rw [hS]; exact hA.few
  have HAB : Hid (∀ W, Fr [] w W → LRs W ao rs ∧ LRs W bo qs) := fun W hf => ⟨hA.keep hf, hB.keep hf⟩
  have HE : Hid (∀ j, j < S → (rs.getD j Lr.zero).hs.map hkv = (qs.getD j Lr.zero).hs.map hkv) := he
  clear hA hB hS hS2 he
  go_enter Tryz.func25, Tryz.ntmps25
  go_wp2_with fail
  go_loopw [5] (fun ii wr => ∃ i : Nat, ii = .int .i64 i ∧ i ≤ S ∧ Hid (Fr [] w wr)) (fun ii _ => S - (RowKit.intOf ii).toNat)
  case atStart => exact ⟨0, rfl, Nat.zero_le _, Fr.refl _ _⟩
  case round =>
    obtain ⟨i, rfl, hiS, HF⟩ := hrel
    by_cases hi : i < S
    · have hlt : (i : Int) < S := by omega
      obtain ⟨hs1, hs2⟩ := HS.out
      obtain ⟨b1, o1, rfl, hb1, hc1⟩ := (HAB.out _ HF.out).1.lies (by omega)
      obtain ⟨b2, o2, rfl, hb2, hc2⟩ := (HAB.out _ HF.out).2.lies (by omega)
      have hx1 := hc1 i (by omega)
      have hx2 := hc2 i (by omega)
      have hkv := HE.out i hi
      have hN : (rs.getD i Lr.zero).N = (qs.getD i Lr.zero).N := by
        have h1 := ((HAB.out _ HF.out).1.each i (by omega)).2
        have h2 := ((HAB.out _ HF.out).2.each i (by omega)).2
        have h3 := congrArg List.length hkv
        simp only [List.length_map] at h3
        omega
      have HSm : ∀ y : Wd13 wr, Calls Tryz.prog 91 #[(rs.getD i Lr.zero).v, (qs.getD i Lr.zero).v] y.W fun e w' => e = .returned (.bool true) ∧ Fr [] y.W w' := fun y => by
        have h1 := (HAB.out _ (HF.out.then y.h)).1.each i (by omega)
        have h2 := (HAB.out _ (HF.out.then y.h)).2.each i (by omega)
        unfold Lr.v
        rw [← hN]
        exact sameHelds_any _ _ _ _ _ _ _ y.W h1.1 h2.1 h1.2 hkv
      obtain ⟨⟨r1, N1, k1, l1⟩, hr1⟩ : ∃ r, r = rs.getD i Lr.zero := ⟨_, rfl⟩
      obtain ⟨⟨r2, N2, k2, l2⟩, hr2⟩ : ∃ r, r = qs.getD i Lr.zero := ⟨_, rfl⟩
      rw [← hr1] at hx1 HSm hN
      rw [← hr2] at hx2 HSm hN
      simp only [Lr.v] at hx1 hx2 HSm hN
      have hy1 : ∀ y : Wd13 wr, y.W.cell? ⟨b1, o1 + i, none⟩ = some (.slice r1 N1 k1) := fun y => (World.cell?_of_block (y.h.block b1 hb1 (by simp))).trans hx1
      have hy2 : ∀ y : Wd13 wr, y.W.cell? ⟨b2, o2 + i, none⟩ = some (.slice r2 N2 k2) := fun y => (World.cell?_of_block (y.h.block b2 hb2 (by simp))).trans hx2
      clear hc1 hc2 hr1 hr2 hkv hb1 hb2 hN hx1 hx2 hs1 hs2
      go_upto_region 6 with fail
      refine wp_region_wd13 (w1 := wr) (by kernel_rfl) (by kernel_rfl) (Fr.refl _ _) ?_
      repeat (go_big_quiet_step (first
        | (go_at_call 91; with_reducible refine (HSm _).mono ?_; exact fun e w3 hh => ⟨hh.1, ⟨_, Fr.then (Wd13.h _) hh.2⟩, rfl⟩)))
      refine wpQuiet_nil ?_
      rintro _ ⟨y, rfl⟩
      clear hy1 hy2 HSm
      obtain ⟨wa, hFa⟩ := y
      simp only
      have HFa : Hid (Fr [] w wa) := HF.out.then hFa
      clear hFa
      go_wp2_with fail
      go_roundw
      case rel => exact ⟨i + 1, by simp, by omega, HFa⟩
      case measure => simp [RowKit.intOf]; omega
    · have hlt : ¬ (i : Int) < S := by omega
      go_wp2
      go_ret
      exact ⟨rfl, HF.out⟩
end Go.Proofs.YtldghdbfhikcoaaGreatDoor
/- The document's keys with their versions in memory of their own: contract of Own. Conditions as each names them. -/
namespace Go.Proofs.YtldghdbfhikcoaaGreatDoor
open Go.ChangeShapes Go.WideShapes Go.ChangeAt Go.RowKit Go.Lib Go.Maps
set_option linter.unusedVariables false
set_option linter.unusedSimpArgs false

/-- Nothing behind nothing. -/
theorem wpList_append_zero {P : Program} {w : World} {ops : Array Oper} {rest : List Oper} {o : Oper} {a : Act} {Q : Exit → Act → World → Prop} (hgd : o.guard = none) (s x : Operand) (t : TypeId)
    (ho : o.op = .call { callee := .builtin .append, args := #[s, x], argTypes := #[t, t] })
    (e : TypeId) (i : TypeInfo) (ht : P.underlying t = some (.slice e)) (hi : P.info? e = some i)
    (hs : a.eval s = .slice none 0 0) (xo : Option Addr) (xc : Nat) (hx : a.eval x = .slice xo 0 xc)
    (h : wpList P ops Q rest (a.put o.dst (.slice none 0 0)) w) : wpList P ops Q (o :: rest) a w := by
  refine wpList_plain hgd fun K hK => ?_
  have hl : ∀ (x : Addr), (loadCells x 0).run P w = .ok #[] w := fun x => by simpa using run_loadCells_list (P := P) w x [] (by simp)
  have hrun : (Builtin.append_ #[t, t] o.type #[.slice none 0 0, .slice xo 0 xc]).run P w = .ok (.slice none 0 0) w := by
    cases xo <;> simp [Builtin.append_, run_underlying ht, sizeOf, typeInfo, hi, Builtin.lenOf, Builtin.firstCells, hl, storeCells]
  unfold Oper.wp
  simp [execOp, ho, resolve, invoke, builtin, hs, hx, hrun, Result.andThen]
  exact hK _ _ h
/-- All versions of a row that can be read, behind nothing. -/
theorem wpList_allV (w : World) {ops : Array Oper} {rest : List Oper} {o : Oper} {a : Act} {Q : Exit → Act → World → Prop} (hgd : o.guard = none) (s x : Operand)
    (ho : o.op = .call { callee := .builtin .append, args := #[s, x], argTypes := #[71, 71] })
    (hs : a.eval s = .slice none 0 0) (xo : Option Addr) (M xc : Nat) (vs : List Vn) (hx : a.eval x = .slice xo M xc) (hV : VRs w xo vs) (hM : M = vs.length)
    (h : ∀ bo rc w', VOut w w' bo M rc vs → Fr [] w w' → wpList Tryz.prog ops Q rest (a.put o.dst (.slice bo M rc)) w') : wpList Tryz.prog ops Q (o :: rest) a w := by
  obtain ⟨i0, hi, hz0, hz1, hz2⟩ := infoVn_parts
  by_cases h0 : 0 < M
  · obtain ⟨b, off, e, _, _⟩ := hV.lies (by omega)
    subst e
    have hfew := hV.few
    refine wpList_append_own w hgd s x 71 ho w.heap.size 80 i0 _ 3 32 Tryz.undVns' hi hz0 hz1 hz2 rfl (by decide) (.slice none 0 0) 0 [] hs (World.ownsRow_nil _ _ _ _) ⟨b, off, none⟩ M xc (vnsC vs) hx (by rw [vnsC_length, hM]) (fun j u hu => ?_) (vnsC_oneCell vs) (by unfold maxLen; omega) (by omega) (Nat.le_refl _) ?_
    · obtain ⟨b', off', e, hc⟩ := hV.cells hu
      cases e
      rw [Addr.add_lit]
      exact hc
    · intro v' w' hown hg _
      rw [Nat.zero_add, List.nil_append] at hown
      obtain ⟨bo, rc, rfl⟩ := own_shapeV hown
      exact h bo rc w' (VOut.of hown hM) (Fr.grown (S := []) hg (fun k hk => by simp [Value.ownBlock] at hk))
  · obtain rfl : M = 0 := by omega
    have hvs : vs = [] := List.eq_nil_of_length_eq_zero hM.symm
    subst hvs
    exact wpList_append_zero hgd s x 71 ho 80 i0 Tryz.undVns' hi hs xo xc hx (h none 0 w (VOut.of (World.ownsRow_nil _ _ _ _) rfl) (Fr.refl _ _))
theorem HOut.later {w w1 w2 : World} {ro : Option Addr} {N rc : Nat} {hs : List Hd} (h : HOut w1 w2 ro N rc hs) (hz : w.heap.size ≤ w1.heap.size) : HOut w w2 ro N rc hs := ⟨h.len, own_base h.row hz, fun x hx => (h.each x hx).later hz, h.apart⟩

set_option maxHeartbeats 4000000 in
set_option maxRecDepth 100000 in
theorem kown_any (ao : Option Addr) (L cap : Nat) (hs : List Hd) (w : World) (hH : HRs w ao hs) (hL : L = hs.length) :
    Calls Tryz.prog 97 #[.slice ao L cap] w fun e w' => ∃ ro rc gs, e = .returned (.slice ro L rc) ∧ HOut w w' ro L rc gs ∧ gs.map Hd.kv = hs.map Hd.kv ∧ Fr [] w w' := by
  have HL : Hid (L = hs.length) := hL
  have hfew : L ≤ 3518437208882 := by rw [hL]; exact hH.few
  clear hL
  go_enter Tryz.func97, Tryz.ntmps97
  go_wp2_with fail
  go_loopw [3, 4] (fun vv ii wr => ∃ (i rc : Nat) (ro : Option Addr) (gs : List Hd), vv = .slice ro i rc ∧ ii = .int .i64 i ∧ i ≤ L ∧ Hid (HOut w wr ro i rc gs) ∧ Hid (gs.map Hd.kv = (hs.take i).map Hd.kv) ∧ Fr [] w wr) (fun _ ii _ => L - (RowKit.intOf ii).toNat)
  case atStart => exact ⟨0, 0, none, [], rfl, rfl, Nat.zero_le _, ⟨rfl, World.ownsRow_nil _ _ _ _, by simp, List.Pairwise.nil⟩, rfl, Fr.refl _ _⟩
  case round =>
    obtain ⟨i, rc, ro, gs, rfl, rfl, hiL, HO, HG, hFr⟩ := hrel
    by_cases hi : i < L
    · have hi' : i < hs.length := by rw [← HL.out]; exact hi
      obtain ⟨b, off, e9, _, hc⟩ := (hH.keep hFr).lies (by omega)
      subst e9
      obtain ⟨c0, c1⟩ := hc i hi'
      have hE := (hH.keep hFr).each _ (hgetD_mem hs i hi')
      have HT : Hid ((hs.take (i + 1)).map Hd.kv = (hs.take i).map Hd.kv ++ [(hs.getD i Hd.zero).kv]) := by show _ = _; rw [htake_snoc hs i hi', List.map_append]; rfl
      obtain ⟨x, hx⟩ : ∃ x, x = hs.getD i Hd.zero := ⟨_, rfl⟩
      rw [← hx] at c0 c1 hE HT
      clear hc hx
      obtain ⟨key, vo, M, cm, vs⟩ := x
      simp only at c0 c1
      have HM : Hid (M = vs.length) := hE.len
      have HV : Hid (VRs wr vo vs) := hE.rs
      have HC : Hid (∀ W, Fr [] wr W → W.cell? ⟨b, off + i * 2, none⟩ = some (.string key)) := fun W hf => by
        have hlt := World.block_lt_of_cell? wr _ c0
        exact (World.cell?_of_block (hf.block b hlt (by simp))).trans c0
      clear hE
      go_wp2_with (at_builtin; refine wpList_allV wr rfl (.tmp 12) (.tmp 17) rfl rfl vo M cm vs rfl HV.out HM.out ?_)
      intro bo bc w4 hV4 hF4
      have hG4 := hFr.then hF4
      have d0 := HC.out _ hF4
      have HTk : Hid (HOut w w4 ro i rc gs) := HO.out.keep hF4
      have HWk : Hid (VOut w w4 bo M bc vs) := hV4.later hFr.size
      have hsz : w.heap.size ≤ w4.heap.size := hG4.size
      have HOn : Hid (∀ w8, Fr (Value.slice ro i rc).ownBlock.toList w4 w8 → Fr [] w w8) := fun w8 hF8 => hG4.on hF8 (fun x hx => (owns_cells HTk.out.row (Option.mem_toList.1 hx)).1)
      have HApx : Hid (∀ x ∈ gs, Apa x.vo bo) := HO.out.newApart hV4
      clear hV4 hF4 hG4 hFr HO c0 c1 HV HC
      go_wp2_with (at_builtin; refine wpList_appH w w4 rfl _ _ rfl ro i rc gs rfl HTk.out (by omega) hsz ⟨key, bo, M, bc, vs⟩ HWk.out HApx.out rfl ?_)
      intro so3 c3 w8 hK8 hF8
      have HK8 : Hid (HOut w w8 so3 (i + 1) c3 (gs ++ [⟨key, bo, M, bc, vs⟩])) := hK8
      have hG8 := HOn.out _ hF8
      have HG8 : Hid ((gs ++ [(⟨key, bo, M, bc, vs⟩ : Hd)]).map Hd.kv = (hs.take (i + 1)).map Hd.kv) := by show _ = _; rw [HT.out, List.map_append, HG.out]; rfl
      clear hK8 hF8 HTk HWk
      go_wp2
      go_roundw
      case rel => exact ⟨i + 1, c3, so3, _, rfl, by simp, by omega, HK8, HG8, hG8⟩
      case measure => simp [RowKit.intOf]; omega
    · obtain rfl : i = L := by omega
      have HG2 : Hid (gs.map Hd.kv = hs.map Hd.kv) := by show _ = _; rw [HG.out, List.take_of_length_le (by rw [← HL.out]; omega)]
      go_wp2
      go_ret
      exact ⟨ro, rc, gs, rfl, HO.out, HG2.out, hFr⟩
end Go.Proofs.YtldghdbfhikcoaaGreatDoor
/- The document's Split. Conditions: its arguments lie as they came in. -/
namespace Go.Proofs.YtldghdbfhikcoaaGreatDoor
open BigFrame Go.ChangeShapes Go.WideShapes Go.ChangeAt Go.RowKit Go.Lib Go.Maps
set_option linter.unusedVariables false
set_option linter.unusedSimpArgs false

/-- One key with its versions more in a row of our own; its versions lie elsewhere. -/
theorem wpList_appHq (w0 w : World) {ops : Array Oper} {rest : List Oper} {o : Oper} {a : Act} {Q : Exit → Act → World → Prop} (hgd : o.guard = none) (s x : Operand)
    (ho : o.op = .call { callee := .builtin .append, args := #[s, x], argTypes := #[23, 23] })
    (so : Option Addr) (N c : Nat) (hs : List Hd) (hsv : a.eval s = .slice so N c) (hK : w.ownsRow w0.heap.size 73 2 (.slice so N c) N (hdsC hs)) (hN : N < 3518437208883) (h0 : w0.heap.size ≤ w.heap.size) (p : Hd) (hx : a.eval x = .slice (some ⟨w.heap.size, 0, none⟩) 1 1)
    (h : ∀ so' c' w', w'.ownsRow w0.heap.size 73 2 (.slice so' (N + 1) c') (N + 1) (hdsC (hs ++ [p])) → Fr (Value.slice so N c).ownBlock.toList w w' → wpList Tryz.prog ops Q rest (a.put o.dst (.slice so' (N + 1) c')) w') : wpList Tryz.prog ops Q (o :: rest) a (w.alloc (.cells #[.string p.key, .slice p.vo p.L p.cap] 73)) := by
  obtain ⟨i0, hi, hz0, hz1, hz2⟩ := infoHd_parts
  have hmx : 3518437208884 ≤ maxLen := by unfold maxLen; omega
  refine wpList_append_own (w.alloc (.cells #[.string p.key, .slice p.vo p.L p.cap] 73)) hgd s x 23 ho w0.heap.size 73 i0 _ 2 40 Tryz.undHds hi hz0 hz1 hz2 rfl (by decide) (.slice so N c) N (hdsC hs) hsv (owns_keepB hK (Fr.alloc [] w _) (by simp)) ⟨w.heap.size, 0, none⟩ 1 1 (hdC p) hx rfl ?_ (hdC_one p) (by omega) (by omega) (by simp; omega) ?_
  · intro j u hu
    have hr := heap_alloc_new w (.cells #[.string p.key, .slice p.vo p.L p.cap] 73)
    rw [Addr.add_lit, cell_of_row _ _ _ _ _ _ hr, Nat.zero_add]
    simpa [hdC] using hu
  · intro v' w' hown' hg' _
    obtain ⟨bo, cap', rfl⟩ : ∃ bo cap', v' = .slice bo (N + 1) cap' := by
      rcases hown'.2 with ⟨_, h1⟩ | ⟨g, cap, _, rfl, _⟩
      · omega
      · exact ⟨_, cap, rfl⟩
    rw [← hdsC_snoc] at hown'
    exact h bo cap' w' hown' (((Fr.alloc [] w _).mono (by simp)).then (Fr.grown (S := (Value.slice so N c).ownBlock.toList) hg' (fun y hy _ => Option.mem_toList.2 hy)))
/-- One list more. -/
theorem wpList_appLr (w0 w : World) {ops : Array Oper} {rest : List Oper} {o : Oper} {a : Act} {Q : Exit → Act → World → Prop} (hgd : o.guard = none) (s x : Operand)
    (ho : o.op = .call { callee := .builtin .append, args := #[s, x], argTypes := #[59, 59] })
    (so : Option Addr) (N c : Nat) (rs : List Lr) (hsv : a.eval s = .slice so N c) (hK : w.ownsRow w0.heap.size 23 1 (.slice so N c) N (rs.map Lr.v)) (hN : N < 100000) (h0 : w0.heap.size ≤ w.heap.size) (p : Lr) (hx : a.eval x = .slice (some ⟨w.heap.size, 0, none⟩) 1 1)
    (h : ∀ so' c' w', w'.ownsRow w0.heap.size 23 1 (.slice so' (N + 1) c') (N + 1) ((rs ++ [p]).map Lr.v) → Fr (Value.slice so N c).ownBlock.toList w w' → wpList Tryz.prog ops Q rest (a.put o.dst (.slice so' (N + 1) c')) w') : wpList Tryz.prog ops Q (o :: rest) a (w.alloc (.cells #[.slice p.ro p.N p.rc] 23)) := by
  obtain ⟨i0, hi, hz0, hz1, hz2⟩ := infoHds_parts
  have hmx : 3518437208884 ≤ maxLen := by unfold maxLen; omega
  refine wpList_append_own (w.alloc (.cells #[.slice p.ro p.N p.rc] 23)) hgd s x 59 ho w0.heap.size 23 i0 _ 1 24 Tryz.undHdss hi hz0 hz1 hz2 rfl (by decide) (.slice so N c) N (rs.map Lr.v) hsv (owns_keepB hK (Fr.alloc [] w _) (by simp)) ⟨w.heap.size, 0, none⟩ 1 1 [p.v] hx rfl ?_ (by intro u hu; simp at hu; subst hu; rfl) (by omega) (by omega) (by simp; omega) ?_
  · intro j u hu
    have hr := heap_alloc_new w (.cells #[.slice p.ro p.N p.rc] 23)
    rw [Addr.add_lit, cell_of_row _ _ _ _ _ _ hr, Nat.zero_add]
    simpa [Lr.v] using hu
  · intro v' w' hown' hg' _
    obtain ⟨bo, cap', rfl⟩ : ∃ bo cap', v' = .slice bo (N + 1) cap' := by
      rcases hown'.2 with ⟨_, h1⟩ | ⟨g, cap, _, rfl, _⟩
      · omega
      · exact ⟨_, cap, rfl⟩
    have e : rs.map Lr.v ++ [p.v] = (rs ++ [p]).map Lr.v := by simp
    rw [e] at hown'
    exact h bo cap' w' hown' (((Fr.alloc [] w _).mono (by simp)).then (Fr.grown (S := (Value.slice so N c).ownBlock.toList) hg' (fun y hy _ => Option.mem_toList.2 hy)))
/-- The keys of one home, as they came in. -/
def livH (s n : Int) (hs : List Hd) : List Hd := hs.filter (fun h => decide (homeOf s h = n))
theorem livH_kv (s n : Int) (hs : List Hd) : (livH s n hs).map Hd.kv = livK s n hs := rfl
theorem livH_in {s n : Int} {hs : List Hd} {i : Nat} (hi : i < hs.length) (h : homeOf s (hs.getD i Hd.zero) = n) : livH s n (hs.take (i + 1)) = livH s n (hs.take i) ++ [hs.getD i Hd.zero] := by
  unfold livH
  rw [htake_snoc hs i hi, List.filter_append]
  congr 1
  generalize hs.getD i Hd.zero = y at h ⊢
  simp [List.filter_cons, h]
theorem livH_out {s n : Int} {hs : List Hd} {i : Nat} (hi : i < hs.length) (h : homeOf s (hs.getD i Hd.zero) ≠ n) : livH s n (hs.take (i + 1)) = livH s n (hs.take i) := by
  unfold livH
  rw [htake_snoc hs i hi, List.filter_append]
  generalize hs.getD i Hd.zero = y at h ⊢
  simp [List.filter_cons, h]
end Go.Proofs.YtldghdbfhikcoaaGreatDoor

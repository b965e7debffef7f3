/- Texts of this claim laid together, one behind the other: contracts and plain lemmas; conditions as each names them. -/
import Derived.Test.YtpdkdgmaofhlkaaGp29
import Derived.Lib.AppendZerosOnto
import Derived.Maps.RangeWalk
import Derived.Test.YtpdkdgmaofhlkaaGp30
/- Appending rows of keys with their versions; slices.Grow of nothing. Conditions as each names them. -/
namespace Go.Proofs.Ytpdkdgmaofhlkaa
open Go.ChangeShapes Go.WideShapes Go.ChangeAt Go.RowKit Go.Lib
set_option linter.unusedVariables false
set_option linter.unusedSimpArgs false
theorem run_append_noneH {P : Program} (w : World) (t ty e : TypeId) (i : TypeInfo) (size c base : Nat) (ht : P.underlying t = some (.slice e)) (hi : P.info? e = some i)
    (v : Value) (n : Nat) (xs : List Value) (hown : w.ownsRow base e size v n xs) :
    (Builtin.append_ #[t, t] ty #[v, .slice none 0 c]).run P w = .ok v w := by
  rcases hown.2 with ⟨rfl, rfl⟩ | ⟨g, cap, cur, rfl, _, _, hnc, _⟩
  · simp [Builtin.append_, run_underlying ht, sizeOf, typeInfo, hi, Builtin.lenOf, Builtin.firstCells]
  · simp [Builtin.append_, run_underlying ht, sizeOf, typeInfo, hi, Builtin.lenOf, Builtin.firstCells, hnc, storeCells]
theorem own_shapeH {w : World} {base : Nat} {e : TypeId} {size : Nat} {v : Value} {n : Nat} {xs : List Value} (h : w.ownsRow base e size v n xs) : ∃ bo cap, v = .slice bo n cap := by
  rcases h.2 with ⟨hv, hn⟩ | ⟨g, cap, cur, hv, _⟩
  · exact ⟨none, 0, by rw [hv, hn]⟩
  · exact ⟨_, cap, hv⟩
theorem own_blocksH {w : World} {base : Nat} {e : TypeId} {size : Nat} {v : Value} {n : Nat} {xs : List Value} (h : w.ownsRow base e size v n xs) : ∀ k ∈ v.ownBlock.toList, base ≤ k := by
  intro k hk
  rcases h.2 with ⟨rfl, _⟩ | ⟨g, cap, cur, rfl, hb, _⟩
  · simp [Value.ownBlock] at hk
  · simp [Value.ownBlock] at hk
    omega
theorem wpList_appH (w : World) {ops : Array Oper} {rest : List Oper} {o : Oper} {a : Act} {Q : Exit → Act → World → Prop} (hgd : o.guard = none) (s x : Operand)
    (ho : o.op = .call { callee := .builtin .append, args := #[s, x], argTypes := #[44, 44] })
    (base : Nat) (v : Value) (qs : List Hd) (hs : a.eval s = v) (hown : w.ownsRow base 88 2 v qs.length (hdsC qs))
    (xo : Option Addr) (m c : Nat) (rs : List Hd) (hx : a.eval x = .slice xo m c) (hB : RrH w xo rs) (hm : m = rs.length) (hn : qs.length + m < 2199023255552) (hbase : base ≤ w.heap.size)
    (h : ∀ bo n' cap' w', n' = (qs ++ rs).length → w'.ownsRow base 88 2 (.slice bo n' cap') n' (hdsC (qs ++ rs)) → Fr v.ownBlock.toList w w' → wpList Try.prog ops Q rest (a.put o.dst (.slice bo n' cap')) w') : wpList Try.prog ops Q (o :: rest) a w := by
  obtain ⟨i0, hi, hz0, hz1, hz2⟩ := infoKH_parts
  have hl : (hdsC rs).length = m * 2 := by rw [hdsC_length, hm]
  have hmx : 2199023255552 ≤ maxLen := by unfold maxLen; omega
  cases xo with
  | none =>
    refine wpList_plain hgd fun K hK => ?_
    obtain rfl : rs = [] := hB.none
    obtain rfl : m = 0 := hm
    have hr := run_append_noneH (P := Try.prog) w 44 o.type 88 i0 2 c base Try.undKH hi v qs.length (hdsC qs) hown
    obtain ⟨bo, cap', rfl⟩ := own_shapeH hown
    unfold Oper.wp execOp
    simp only [ho, resolve, invoke, builtin, Sem.run_bind, Sem.run_pure, Result.andThen_ok, List.map_toArray, List.map_cons, List.map_nil, hs, hx, hr]
    exact hK _ _ (h bo _ cap' w (by simp) (by simpa using hown) (Fr.refl _ _))
  | some ad =>
    have hlies : ∀ j u, (hdsC rs)[j]? = some u → w.cell? (ad.add j) = some u := by
      intro j u hu
      obtain ⟨b, off, e, _, hc⟩ := hB j u hu
      cases e
      rw [Addr.add_lit]
      exact hc
    refine wpList_append_own w hgd s x 44 ho base 88 i0 _ 2 40 Try.undKH hi hz0 hz1 hz2 rfl (by decide) v qs.length (hdsC qs) hs hown ad m c (hdsC rs) hx hl hlies (hdsC_oneCell rs) (by omega) (by omega) hbase ?_
    intro v' w' hown' hg' _
    have hlen : (qs ++ rs).length = qs.length + m := by rw [List.length_append, hm]
    obtain ⟨bo, cap', rfl⟩ := own_shapeH hown'
    exact h bo _ cap' w' hlen.symm (by rw [hdsC_append]; exact hown') (Fr.grown hg' (fun y hy _ => Option.mem_toList.2 hy))
set_option maxHeartbeats 2000000 in
set_option maxRecDepth 100000 in
theorem growH_none (w : World) :
    Calls Try.prog 92 #[.slice none 0 0, .int .i64 0] w fun e w' => e = .returned (.slice none 0 0) ∧ Fr [] w w' := by
  go_enter Try.func92, Try.ntmps92
  go_wp2
  go_ret
  exact ⟨rfl, Fr.refl _ _⟩
set_option maxHeartbeats 2000000 in
set_option maxRecDepth 100000 in
theorem growH_any (n : Nat) (w : World) (hn : 0 < n) (hb : n ≤ 2199023255552) :
    Calls Try.prog 92 #[.slice none 0 0, .int .i64 (n : Int)] w fun e w' => ∃ cap, e = .returned (.slice (some ⟨w.heap.size, 0, none⟩) 0 cap) ∧ w'.ownsRow w.heap.size 88 2 (.slice (some ⟨w.heap.size, 0, none⟩) 0 cap) 0 [] ∧ Fr [] w w' := by
  obtain ⟨i0, hi, hz0, hz1, hz2⟩ := infoKH_parts
  have hold : (Builtin.firstCells i0.size 0 (.slice none 0 0)).run Try.prog w.drew = .ok ([] : List Value).toArray w.drew := run_firstCells_none w.drew i0.size 0 0 0
  have hrz : ∀ ty, (Builtin.append_ #[44, 3] ty #[.slice none 0 0, .int .i64 (n : Int)]).run Try.prog w =
      .ok (.slice (some ⟨w.heap.size, 0, none⟩) n (grownCap w n 0 88)) (w.drew.alloc (.cells (([] : List Value).toArray ++ Builtin.zeroCells (Value.cells (.agg #[.string ⟨#[]⟩, .slice none 0 0])) n ++ Builtin.zeroCells (Value.cells (.agg #[.string ⟨#[]⟩, .slice none 0 0])) (grownCap w n 0 88 - n)) 88)) := fun ty => by
    have h := Lib.run_append_grow_zeros w 44 3 ty 88 i0 _ .i64 .i64 Try.undKH Try.undI9 hi hz0 none 0 0 [] hold n (by omega) (by rw [hz1]; decide) (by omega) (by omega) (by rw [hz2]; omega) (by rw [hz2]; exact growslice_fits (by omega) (by omega))
    rw [Nat.zero_add] at h
    exact h
  have hGn : n ≤ grownCap w n 0 88 := grownCap_ge w _ _ _
  have hGm := grownCap_le_maxLen w n 0 88 (by unfold maxLen; omega)
  obtain ⟨G, hG⟩ : ∃ G, G = grownCap w n 0 88 := ⟨_, rfl⟩
  rw [← hG] at hrz hGn hGm
  have hG63 : G ≤ 9223372036854775807 := by unfold maxLen at hGm; omega
  obtain ⟨cur, hcur⟩ : ∃ cur, cur = ([] : List Value).toArray ++ Builtin.zeroCells (Value.cells (.agg #[.string ⟨#[]⟩, .slice none 0 0])) n ++ Builtin.zeroCells (Value.cells (.agg #[.string ⟨#[]⟩, .slice none 0 0])) (G - n) := ⟨_, rfl⟩
  have hcs : cur.size = G * 2 := by
    rw [hcur]
    simp only [Array.size_append, size_zeroCells, Value.cells, List.size_toArray, List.length_nil, List.length_cons]
    omega
  rw [← hcur] at hrz
  have HOw : Hid ((w.drew.alloc (.cells cur 88)).ownsRow w.heap.size 88 2 (.slice (some ⟨w.heap.size, 0, none⟩) 0 G) 0 []) := ⟨rfl, .inr ⟨w.heap.size, G, cur, rfl, Nat.le_refl _, heap_alloc_new w.drew _, Nat.zero_le _, hGm, hcs, by simp⟩⟩
  have HF : Hid (Fr [] w (w.drew.alloc (.cells cur 88))) := (Fr.drew [] w).then (Fr.alloc [] _ _)
  have h1 : ¬ ((n : Int) < 0) := by omega
  have h4 : (n : Int) > 0 := by omega
  clear hold hG hcur hcs hGn
  go_enter Try.func92, Try.ntmps92
  go_wp2_with (at_builtin; refine Lib.wpList_append_run _ rfl _ _ _ _ rfl _ _ rfl rfl _ _ (hrz _) ?_)
  all_goals (go_ret; exact ⟨G, rfl, HOw.out, HF.out⟩)
end Go.Proofs.Ytpdkdgmaofhlkaa
/- slices.Concat of rows of keys with their versions. Conditions as each names them. -/
namespace Go.Proofs.Ytpdkdgmaofhlkaa
open Go.ChangeShapes Go.WideShapes Go.ChangeAt Go.RowKit Go.Lib
set_option linter.unusedVariables false
set_option linter.unusedSimpArgs false
/-- A row as it lies in a list of rows. -/
structure ElH where
  ro : Option Addr
  L : Nat
  rc : Nat
  xs : List Hd
def ElH.v (e : ElH) : Value := .slice e.ro e.L e.rc
def ElH.zero : ElH := ⟨none, 0, 0, []⟩
/-- All that the rows have, one row behind the other. -/
def flaH (es : List ElH) : List Hd := es.flatMap ElH.xs
theorem elgetH (es : List ElH) (i : Nat) (h : i < es.length) : es.getD i ElH.zero ∈ es := by simp [List.getD, h]
theorem flaH_snoc (es : List ElH) (i : Nat) (h : i < es.length) : flaH (es.take (i + 1)) = flaH (es.take i) ++ (es.getD i ElH.zero).xs := by
  unfold flaH
  rw [List.take_add_one, List.flatMap_append]
  simp [List.getD, h]
theorem flaH_app (es : List ElH) (e : ElH) : flaH (es ++ [e]) = flaH es ++ e.xs := by simp [flaH]
/-- The slice at ao is of rows that can be read. -/
structure LLH (w : World) (ao : Option Addr) (es : List ElH) : Prop where
  lies : 0 < es.length → ∃ b, ao = some ⟨b, 0, none⟩ ∧ b < w.heap.size ∧ ∀ i, i < es.length → w.cell? ⟨b, i, none⟩ = some (es.getD i ElH.zero).v
  each : ∀ e ∈ es, RrH w e.ro e.xs ∧ e.L = e.xs.length ∧ e.L ≤ 4194304
  few : es.length ≤ 17
theorem LLH.keep {w w' : World} {ao : Option Addr} {es : List ElH} (h : LLH w ao es) (hf : Fr [] w w') : LLH w' ao es := by
  refine ⟨fun h0 => ?_, fun e he => ⟨(h.each e he).1.keep hf, (h.each e he).2⟩, h.few⟩
  obtain ⟨b, e, hb, hc⟩ := h.lies h0
  exact ⟨b, e, Nat.lt_of_lt_of_le hb hf.size, fun i hi => (World.cell?_of_block (hf.block b hb (by simp))).trans (hc i hi)⟩
set_option maxRecDepth 100000 in
theorem LLH.bound {w : World} {ao : Option Addr} {es : List ElH} (h : LLH w ao es) (i : Nat) : (flaH (es.take i)).length ≤ i * 4194304 := by
  induction i with
  | zero => simp [flaH]
  | succ i ih =>
    by_cases hi : i < es.length
    · rw [flaH_snoc es i hi, List.length_append, Nat.succ_mul]
      have h1 := (h.each _ (elgetH es i hi)).2.1
      have h2 := (h.each _ (elgetH es i hi)).2.2
      rw [← h1]
      exact Nat.add_le_add ih h2
    · rw [List.take_of_length_le (by omega)] at ih ⊢
      rw [Nat.succ_mul]
      exact Nat.le_trans ih (Nat.le_add_right _ _)
theorem growH_gen (n : Nat) (w : World) (hb : n ≤ 2199023255552) :
    Calls Try.prog 92 #[.slice none 0 0, .int .i64 (n : Int)] w fun e w' => ∃ ro cap, e = .returned (.slice ro 0 cap) ∧ w'.ownsRow w.heap.size 88 2 (.slice ro 0 cap) 0 [] ∧ Fr [] w w' := by
  rcases Nat.eq_zero_or_pos n with rfl | hn
  · refine (growH_none w).mono ?_
    rintro e w' ⟨rfl, hf⟩
    exact ⟨none, 0, rfl, ⟨rfl, .inl ⟨rfl, rfl⟩⟩, hf⟩
  · refine (growH_any n w hn hb).mono ?_
    rintro e w' ⟨cap, rfl, ho, hf⟩
    exact ⟨_, cap, rfl, ho, hf⟩
set_option maxHeartbeats 4000000 in
set_option maxRecDepth 100000 in
theorem concatH_any (ao : Option Addr) (N cap : Nat) (es : List ElH) (w : World) (h : LLH w ao es) (hN : N = es.length) :
    Calls Try.prog 83 #[.slice ao N cap] w fun e w' => ∃ ro M rc, e = .returned (.slice ro M rc) ∧ M = (flaH es).length ∧ w'.ownsRow w.heap.size 88 2 (.slice ro M rc) M (hdsC (flaH es)) ∧ Fr [] w w' := by
  have hN17 : N ≤ 17 := by have := h.few; omega
  have HN : Hid (N = es.length) := hN
  have HB : Hid (∀ i, (flaH (es.take i)).length ≤ i * 4194304) := fun i => h.bound i
  have HX : Hid (∀ W i, Fr [] w W → i < N → ∃ b ro L rc xs, ao = some ⟨b, 0, none⟩ ∧ W.cell? ⟨b, i, none⟩ = some (.slice ro L rc) ∧ RrH W ro xs ∧ L = xs.length ∧ L ≤ 4194304 ∧ flaH (es.take (i + 1)) = flaH (es.take i) ++ xs) := fun W i hf hi => by
    have hi' : i < es.length := by rw [← hN]; exact hi
    have hk := h.keep hf
    obtain ⟨b, e, _, hc⟩ := hk.lies (by omega)
    exact ⟨b, _, _, _, _, e, hc i hi', (hk.each _ (elgetH es i hi')).1, (hk.each _ (elgetH es i hi')).2.1, (hk.each _ (elgetH es i hi')).2.2, flaH_snoc es i hi'⟩
  have HG : Hid (∀ n : Nat, n ≤ 71303168 → Calls Try.prog 92 #[.slice none 0 0, .int .i64 (n : Int)] w fun e w' => ∃ ro cap, e = .returned (.slice ro 0 cap) ∧ w'.ownsRow w.heap.size 88 2 (.slice ro 0 cap) 0 [] ∧ Fr [] w w') := fun n hn => growH_gen n w (by omega)
  have HE : Hid (es.take N = es) := by show _ = _; rw [hN]; exact List.take_length
  clear h hN
  go_enter Try.func83, Try.ntmps83
  go_wp2_with fail
  go_loopw [11, 3] (fun ii ss wr => ∃ (i n : Nat), ii = .int .i64 i ∧ ss = .int .i64 n ∧ i ≤ N ∧ n ≤ 71303168 ∧ Hid (n = (flaH (es.take i)).length) ∧ w = wr) (fun ii _ _ => N - (RowKit.intOf ii).toNat)
  case atStart => exact ⟨0, 0, rfl, by first | rfl | simp, Nat.zero_le _, by omega, rfl, rfl⟩
  case round =>
    obtain ⟨i, n, rfl, rfl, hiN, hn, HSz, rfl⟩ := hrel
    by_cases hi : i < N
    · obtain ⟨b, ro, L, rc, xs, rfl, hc, hR, hL, hLm, hfl⟩ := HX.out w i (Fr.refl _ _) hi
      have HS2 : Hid (n + L = (flaH (es.take (i + 1))).length) := by show _ = _; rw [hfl, List.length_append, ← HSz.out, ← hL]
      have hb2 : n + L ≤ 71303168 := by have h1 := HB.out (i + 1); have h2 := HS2.out; omega
      have hnn : ¬ ((n : Int) + (L : Int) < 0) := by omega
      clear hR hL hfl HSz
      go_wp2
      go_roundw
      case rel => exact ⟨i + 1, n + L, by simp, by simp, by omega, hb2, HS2, by first | trivial | rfl⟩
      case measure => simp [RowKit.intOf]; omega
    · have HSz2 : Hid (n = (flaH es).length) := by show _ = _; rw [HSz.out, show i = N by omega, HE.out]
      clear HSz
      go_wp2_with fail
      refine (HG.out n hn).mono ?_
      rintro e w1 ⟨ro1, cap1, rfl, hO1, hF1⟩
      have HO1 : Hid (w1.ownsRow w.heap.size 88 2 (.slice ro1 0 cap1) 0 [] ∧ Fr [] w w1) := ⟨hO1, hF1⟩
      clear hO1 hF1 HG
      go_wp2_with fail
      go_loopw [27, 6] (fun ii ss wr => ∃ (k m : Nat) (bo : Option Addr) (bc : Nat), ii = .int .i64 k ∧ ss = .slice bo m bc ∧ k ≤ N ∧ Hid (m = (flaH (es.take k)).length ∧ wr.ownsRow w.heap.size 88 2 (.slice bo m bc) m (hdsC (flaH (es.take k))) ∧ Fr [] w wr)) (fun ii _ _ => N - (RowKit.intOf ii).toNat)
      case atStart => exact ⟨0, 0, ro1, cap1, by first | rfl | simp, rfl, Nat.zero_le _, rfl, by rw [List.take_zero]; exact HO1.out.1, HO1.out.2⟩
      case round =>
        clear HO1
        obtain ⟨k, m, bo, bc, rfl, rfl, hkN, HO⟩ := hrel
        by_cases hk : k < N
        · obtain ⟨b, ro, L, rc, xs, rfl, hc, hR, hL, hLm, hfl⟩ := HX.out wr k HO.out.2.2 hk
          have HR : Hid (RrH wr ro xs ∧ L = xs.length ∧ flaH (es.take (k + 1)) = flaH (es.take k) ++ xs) := ⟨hR, hL, hfl⟩
          have HM : Hid ((flaH (es.take k)).length + L < 2199023255552) := by have h1 := HB.out k; show _ < _; omega
          clear hR hL hfl
          go_wp2_with (at_builtin; refine wpList_appH _ rfl _ _ rfl w.heap.size (.slice bo m bc) (flaH (es.take k)) rfl (by rw [← HO.out.1]; exact HO.out.2.1) ro L rc xs rfl HR.out.1 HR.out.2.1 HM.out HO.out.2.2.size ?_
                       intro bo1 n1 cap1 w2 hn1 hO2 hf2
                       have HO2 : Hid (n1 = (flaH (es.take (k + 1))).length ∧ w2.ownsRow w.heap.size 88 2 (.slice bo1 n1 cap1) n1 (hdsC (flaH (es.take (k + 1)))) ∧ Fr [] w w2) := ⟨by rw [HR.out.2.2]; exact hn1, by rw [HR.out.2.2]; exact hO2, HO.out.2.2.on hf2 (own_blocksH HO.out.2.1)⟩
                       clear hO2 hf2 hn1
                       go_frame)
          go_roundw
          case rel => exact ⟨k + 1, n1, bo1, cap1, by simp, rfl, by omega, HO2⟩
          case measure => simp [RowKit.intOf]; omega
        · have HO3 : Hid (m = (flaH es).length ∧ wr.ownsRow w.heap.size 88 2 (.slice bo m bc) m (hdsC (flaH es)) ∧ Fr [] w wr) := by
            have h := HO.out
            rw [show k = N by omega, HE.out] at h
            exact h
          clear HO
          go_wp2
          go_ret
          exact ⟨bo, m, bc, rfl, HO3.out⟩
end Go.Proofs.Ytpdkdgmaofhlkaa
/- keys with their versions of several rows in the order of their keys: together. Conditions as each names them. -/
namespace Go.Proofs.Ytpdkdgmaofhlkaa
open Go.ChangeShapes Go.WideShapes Go.ChangeAt Go.RowKit Go.Lib Go.Sort Go.Shelf
set_option linter.unusedVariables false
set_option linter.unusedSimpArgs false

def cfH (x y : Hd) : Int := Lib.compareBytes x.key.data.toList y.key.data.toList
theorem ltOf_cfH : ltOf cfH = ltB Hd.key := by
  funext x y
  unfold ltOf cfH ltB
  rw [ByteArray.toList_eq, ByteArray.toList_eq]
  have h := bl_cmp x.key.data.toList y.key.data.toList
  cases hb : Op.bytesLess x.key.data.toList y.key.data.toList with
  | true => simpa using h.2 hb
  | false =>
    rw [hb] at h
    simpa using h
theorem twoH (x : Hd) : ∃ a b, hdC x = [a, b] := ⟨_, _, rfl⟩
theorem oneH (x : Hd) : ∀ v ∈ hdC x, v.oneCell' = true := fun v hv => hdsC_oneCell [x] v (by simpa [hdsC] using hv)
theorem keyH_any (x : Hd) (W : World) : Calls Try.prog 69 #[.agg (hdC x).toArray] W fun e w' => e = .returned (.string x.key) ∧ ∃ q os', w' = grow (W.drewN q) os' := by
  obtain ⟨k, vo, L, c, vs⟩ := x
  simp only [hdC]
  go_enter Try.func69, Try.ntmps69
  go_wp2
  go_ret
  exact ⟨rfl, 0, _, by rw [alloc_eq_grow]; rfl⟩
set_option maxHeartbeats 1000000 in
theorem cmpH_any (x y : Hd) (kb : Nat) (W : World) (hlt : kb < W.heap.size) (hk : W.cell? ⟨kb, 0, none⟩ = some (.func (.func 69) #[] #[])) : Calls Try.prog 85 #[.agg (hdC x).toArray, .agg (hdC y).toArray, .pointer (some ⟨kb, 0, none⟩)] W fun e w' => e = .returned (.int .i64 (cfH x y)) ∧ ∃ q os', w' = grow (W.drewN q) os' := by
  have mixed : Try.prog.follows .mixedOrders = true := by kernel_rfl
  obtain ⟨W2, HW2⟩ : ∃ W2, Hid ((W.alloc (.cells (hdC x).toArray 88)).alloc (.cells (hdC y).toArray 88) = W2) := ⟨_, rfl⟩
  have hA : Fr [] W W2 := by rw [← HW2.out]; exact (Fr.alloc [] W _).then (Fr.alloc [] _ _)
  have hb0 : W2.heap[W.heap.size]? = some (.cells (hdC x).toArray 88 (0, 0)) := by rw [← HW2.out]; exact (Fr.alloc [] _ _).keep (heap_alloc_new W _) (by simp)
  have hb1 : W2.heap[W.heap.size + 1]? = some (.cells (hdC y).toArray 88 (0, 0)) := by
    rw [← HW2.out]
    have := heap_alloc_new (W.alloc (.cells (hdC x).toArray 88)) (.cells (hdC y).toArray 88)
    simpa using this
  have HG : Hid (∃ os', W2 = grow W os') := by
    rw [← HW2.out]
    exact ⟨_, by rw [alloc_eq_grow, alloc_eq_grow, grow_grow]⟩
  have k0 : ∀ n os, (grow (W2.drewN n) os).cell? ⟨kb, 0, none⟩ = some (.func (.func 69) #[] #[]) := fun n os => cell_grown (Nat.lt_of_lt_of_le hlt hA.size) ((World.cell?_of_block (hA.block kb hlt (by simp))).trans hk) n os
  have hs0 : W.heap.size < W2.heap.size := lt_of_block hb0
  have hs1 : W.heap.size + 1 < W2.heap.size := lt_of_block hb1
  have HC : Hid (∀ a b W', Calls Try.prog 82 #[.string a, .string b] W' fun e w' => e = .returned (.int .i64 (Lib.compareBytes a.data.toList b.data.toList)) ∧ ∃ q os', w' = grow (W'.drewN q) os') := fun a b W' => (scmp_any a b W').mono (by rintro e w' ⟨rfl, rfl⟩; exact ⟨rfl, 0, #[], by rw [grow_empty]; rfl⟩)
  have HX : Hid (∀ W', Calls Try.prog 69 #[.agg (hdC x).toArray] W' fun e w' => e = .returned (.string x.key) ∧ ∃ q os', w' = grow (W'.drewN q) os') := fun W' => keyH_any x W'
  have HY : Hid (∀ W', Calls Try.prog 69 #[.agg (hdC y).toArray] W' fun e w' => e = .returned (.string y.key) ∧ ∃ q os', w' = grow (W'.drewN q) os') := fun W' => keyH_any y W'
  obtain ⟨r, hr⟩ : ∃ r, r = cfH x y := ⟨_, rfl⟩
  have HC2 : Hid (∀ W', Calls Try.prog 82 #[.string x.key, .string y.key] W' fun e w' => e = .returned (.int .i64 r) ∧ ∃ q os', w' = grow (W'.drewN q) os') := fun W' => by rw [hr]; exact HC.out _ _ W'
  rw [← hr]
  clear hr HC
  obtain ⟨k, vo, L, c, vs⟩ := x
  obtain ⟨k2, vo2, L2, c2, vs2⟩ := y
  simp only [hdC] at hb0 hb1 HX HY HC2 HW2 ⊢
  have a0 : ∀ n os, (grow (W2.drewN n) os).cell? ⟨W.heap.size, 0, none⟩ = some (.string k) := fun n os => cell_grown hs0 (by rw [cell_of_row _ _ _ _ _ _ hb0]; rfl) n os
  have a1 : ∀ n os, (grow (W2.drewN n) os).cell? ⟨W.heap.size, 1, none⟩ = some (.slice vo L c) := fun n os => cell_grown hs0 (by rw [cell_of_row _ _ _ _ _ _ hb0]; rfl) n os
  have b0 : ∀ n os, (grow (W2.drewN n) os).cell? ⟨W.heap.size + 1, 0, none⟩ = some (.string k2) := fun n os => cell_grown hs1 (by rw [cell_of_row _ _ _ _ _ _ hb1]; rfl) n os
  have b1 : ∀ n os, (grow (W2.drewN n) os).cell? ⟨W.heap.size + 1, 1, none⟩ = some (.slice vo2 L2 c2) := fun n os => cell_grown hs1 (by rw [cell_of_row _ _ _ _ _ _ hb1]; rfl) n os
  clear hb0 hb1 hA hk
  go_enter Try.func85, Try.ntmps85
  go_upto_region 1 with fail
  rw [HW2.out]
  go_quiet_grown (first | (go_at_call 82; with_reducible exact Calls.grown_of (HC2.out _)) | (go_at_call 69; first | with_reducible exact Calls.grown_of (HX.out _) | with_reducible exact Calls.grown_of (HY.out _)))
  go_wp2
  go_ret
  obtain ⟨os', hos⟩ := HG.out
  refine ⟨rfl, nq, os' ++ osq, ?_⟩
  rw [hos]
  show grow (grow (W.drewN nq) os') osq = _
  rw [grow_grow]
set_option maxHeartbeats 1000000 in
theorem sortH_any (base : Nat) (ro : Option Addr) (M cap kb : Nat) (ps : List Hd) (w : World) (hrow : w.ownsRow base 88 2 (.slice ro M cap) M (hdsC ps)) (hM : M = ps.length) (hlen : M < 1099511627776) (hlt : kb < w.heap.size) (hk : w.cell? ⟨kb, 0, none⟩ = some (.func (.func 69) #[] #[])) (hne : ∀ a, ro = some a → kb ≠ a.block) :
    Calls Try.prog 84 #[.slice ro M cap, .func (.func 85) #[] #[.pointer (some ⟨kb, 0, none⟩)]] w fun e w' => e = .returned (.tuple #[]) ∧ w'.ownsRow base 88 2 (.slice ro M cap) M (hdsC (sortB Hd.key ps)) ∧ Fr (Value.slice ro M cap).ownBlock.toList w w' := by
  subst hM
  rcases Nat.eq_zero_or_pos ps.length with h0 | h0
  · have e0 : ps = [] := List.eq_nil_of_length_eq_zero h0
    subst e0
    refine (SoH.sortSt_none ro cap _ w).mono ?_
    rintro e w' ⟨rfl, rfl⟩
    exact ⟨rfl, hrow, Fr.refl _ _⟩
  · obtain ⟨g, rfl, hg⟩ := own_some hrow h0
    rw [hdsC_flat] at hrow
    have hrow' := hrow
    obtain ⟨hl, hr⟩ := hrow'
    rcases hr with ⟨hh, _⟩ | ⟨g', cap', cur, hh, hbase, hb, h1, h2, h3, h4⟩
    · cases hh
    cases hh
    have hkg : kb ≠ g := hne _ rfl
    have eg : ∀ args w, (callFunc 85 args).run Try.prog w = .ok (.enter 85 args) w := enters_of Try.func85 (by kernel_rfl) rfl
    have hcmp : CmpLays Try.prog 85 #[.pointer (some ⟨kb, 0, none⟩)] hdC 2 cfH g 0 ps.toArray.size w := fun m os dk _ x y => cmpH_any x y kb _ (Nat.lt_of_lt_of_le hlt (size_sortWorldK_c hdC 2 w g 0 m dk os)) (cell_sorted hdC dk hkg hk hlt)
    have hO : KO (ltOf cfH) (fun x : Hd => x.key.toList) := by rw [ltOf_cfH]; exact koB Hd.key
    have R : RowK hdC 2 w g 0 ps.toArray := ⟨fun x => rfl, oneH, holds_is hdC twoH hb h4, lt_of_block hb⟩
    have hcon := SoH.sortSt_any hdC cfH (fun x : Hd => x.key.toList) hO 85 #[.pointer (some ⟨kb, 0, none⟩)] g 0 cap ps.toArray w eg hcmp R (by simpa using hlen)
    have hsz : ps.toArray.size = ps.length := by simp
    rw [hsz] at hcon
    refine hcon.mono ?_
    rintro e w' ⟨rfl, d', hz, hs, ht, hS⟩
    rw [ltOf_cfH] at hs
    have hd := sorted_is Hd.key (d := ps.toArray) (d' := d') (by rw [hsz]; exact hz) (by rw [hsz]; exact hs) (by rw [hsz]; exact ht)
    obtain ⟨q1, q2⟩ := row_sorted hdC twoH hrow (qs := sortB Hd.key ps) (by simpa using hd) hz hS
    exact ⟨rfl, by rw [hdsC_flat]; exact q1, q2.mono (by intro x hx _; simpa [Value.ownBlock] using hx)⟩
set_option maxHeartbeats 1000000 in
theorem togH_any (ao : Option Addr) (N cap : Nat) (es : List ElH) (w : World) (h : LLH w ao es) (hN : N = es.length) :
    Calls Try.prog 68 #[.func (.func 69) #[] #[], .slice ao N cap] w fun e w' => ∃ ro M rc, e = .returned (.slice ro M rc) ∧ M = (flaH es).length ∧ w'.ownsRow w.heap.size 88 2 (.slice ro M rc) M (hdsC (sortB Hd.key (flaH es))) ∧ Fr [] w w' := by
  obtain ⟨W, HW⟩ : ∃ W, Hid (w.alloc (.cells #[.func (.func 69) #[] #[]] 118) = W) := ⟨_, rfl⟩
  have hA : Fr [] w W := by rw [← HW.out]; exact Fr.alloc [] w _
  have hb : W.heap[w.heap.size]? = some (.cells #[.func (.func 69) #[] #[]] 118 (0, 0)) := by rw [← HW.out]; exact heap_alloc_new w _
  have HC : Hid (Calls _ _ _ _ _) := concatH_any ao N cap es W (h.keep hA) hN
  have HM : Hid ((flaH es).length < 1099511627776) := by
    have h1 := h.bound es.length
    have h2 := h.few
    rw [List.take_length] at h1
    show _ < _
    omega
  have HS : Hid (∀ (w1 : World) (ro : Option Addr) (M rc : Nat), M = (flaH es).length → w1.ownsRow W.heap.size 88 2 (.slice ro M rc) M (hdsC (flaH es)) → Fr [] W w1 → Calls Try.prog 84 #[.slice ro M rc, .func (.func 85) #[] #[.pointer (some ⟨w.heap.size, 0, none⟩)]] w1 fun e w' => e = .returned (.tuple #[]) ∧ w'.ownsRow w.heap.size 88 2 (.slice ro M rc) M (hdsC (sortB Hd.key (flaH es))) ∧ Fr [] w w') := fun w1 ro M rc h1 h2 h3 => by
    have hb1 := h3.keep hb (by simp)
    have hlt : w.heap.size < W.heap.size := lt_of_block hb
    refine (sortH_any W.heap.size ro M rc w.heap.size (flaH es) w1 h2 h1 (by rw [h1]; exact HM.out) (lt_of_block hb1) (by rw [cell_of_row _ _ _ _ _ _ hb1]; rfl) ?_).mono ?_
    · intro a ha
      obtain ⟨q1, _⟩ := owns_cells h2 (k := a.block) (by rw [ha]; rfl)
      omega
    · rintro e w' ⟨rfl, h4, h5⟩
      exact ⟨rfl, own_base h4 hA.size, (hA.then h3).on h5 (fun x hx => Nat.le_trans hA.size (own_blocksH h2 x hx))⟩
  clear h hN hb hA
  go_enter Try.func68, Try.ntmps68
  go_upto_region 1 with fail
  rw [HW.out]
  go_wp2_with fail
  refine Calls.mono HC.out ?_
  rintro e w1 ⟨ro, M, rc, rfl, hMM, hO, hF⟩
  have HSq : Hid (Calls _ _ _ _ _) := HS.out w1 ro M rc hMM hO hF
  have HMM : Hid (M = (flaH es).length) := hMM
  clear hMM hO hF HC HS
  go_wp2_with fail
  refine Calls.mono HSq.out ?_
  rintro e w2 ⟨rfl, hq⟩
  have HQ : Hid (_ ∧ _) := hq
  clear hq HSq
  go_wp2
  go_ret
  exact ⟨ro, M, rc, rfl, HMM.out, HQ.out⟩
end Go.Proofs.Ytpdkdgmaofhlkaa

/- For every slice of bytes the law RecordDecodes returns true, and the slice reads as it did. No conditions. -/
import Derived.Test.YtcgfadmhjfncoaaRef6
namespace Go.Proofs.Ytcgfadmhjfncoaa.recordDecodes
open Go.ChangeShapes Go.WideShapes Go.ChangeAt Go.RowKit Go.Lib
set_option linter.unusedVariables false

/-- What is wrong, the number, the writes. -/
def resOf (x : Except Nat (Nat × List Wt)) : Nat × Nat × List Wt :=
  match x with
  | .error c => (c, 0, [])
  | .ok (n, ws) => (0, n, ws)
/-- An answer of Decode. -/
structure Told (w w' : World) (n : Nat) (ws : List Wt) (ao : Option Addr) (L : Nat) : Prop where
  len : L = ws.length
  rs : WRs w' ao ws
  new : ∀ a, ao = some a → w.heap.size ≤ a.block
theorem Told.keep {S : List Nat} {w w1 w2 : World} {n : Nat} {ws : List Wt} {ao : Option Addr} {L : Nat} (h : Told w w1 n ws ao L) (hf : Fr S w1 w2) (hS : ∀ x ∈ S, x < w.heap.size) : Told w w2 n ws ao L :=
  ⟨h.len, h.rs.keepS hf (fun _ a ha hx => by have := h.new a ha; have := hS _ hx; omega), h.new⟩
theorem prog_told (ao : Option Addr) (L cap c n : Nat) (ws : List Wt) (xs : List Nat) (w : World) (hA : BArg w ao L cap xs) (hlen : xs.length < 2^41) (hd : resOf (decT xs) = (c, n, ws)) :
    Calls Try.prog 9 #[.slice ao L cap] w fun e w' => ∃ ap Lp cp, e = .returned (.tuple #[.agg #[.int .i64 (n : Int), .slice ap Lp cp], .int .i64 (c : Int)]) ∧ Told w w' n ws ap Lp ∧ Fr [] w w' := by
  cases hx : decT xs with
  | error c' =>
    rw [hx] at hd
    simp only [resOf, Prod.mk.injEq] at hd
    obtain ⟨rfl, rfl, rfl⟩ := hd
    refine (decode_err ao L cap c' xs w hA hA.len hlen hx).mono ?_
    rintro e w' ⟨rfl, hF⟩
    exact ⟨none, 0, 0, rfl, ⟨rfl, WRs.nil _ _, by simp⟩, hF⟩
  | ok p =>
    obtain ⟨n', ws'⟩ := p
    rw [hx] at hd
    simp only [resOf, Prod.mk.injEq] at hd
    obtain ⟨rfl, rfl, rfl⟩ := hd
    have hok := (decT_inv hA.low hx).2
    refine (decode_ok ao L cap n' ws' xs w hA hA.len hlen hx).mono ?_
    rintro e w' ⟨k, C, rfl, hk, hC, hrow, hF⟩
    exact ⟨some ⟨k, 0, none⟩, C, C, rfl, ⟨hC, WRs.of_ok hok hrow, by intro a ha; cases ha; exact hk⟩, hF⟩
theorem ref_told (ao : Option Addr) (L cap c n : Nat) (ws : List Wt) (xs : List Nat) (w : World) (hA : BArg w ao L cap xs) (hlen : xs.length < 2^41) (hd : resOf (decT xs) = (c, n, ws)) :
    Calls Try.prog 10 #[.slice ao L cap] w fun e w' => ∃ ap Lp cp, e = .returned (.tuple #[.agg #[.int .i64 (n : Int), .slice ap Lp cp], .int .i64 (c : Int)]) ∧ Told w w' n ws ap Lp ∧ Fr [] w w' := by
  refine (xDecode_any ao L cap xs w (hA.rs (by rw [hA.len]; exact hlen)) hA.low hA.len hA.fits).mono ?_
  rintro e w' ⟨hD, hF⟩
  unfold DecAns at hD
  cases hx : decT xs with
  | error c' =>
    rw [hx] at hd hD
    simp only [resOf, Prod.mk.injEq] at hd
    obtain ⟨rfl, rfl, rfl⟩ := hd
    exact ⟨none, 0, 0, hD, ⟨rfl, WRs.nil _ _, by simp⟩, hF⟩
  | ok p =>
    obtain ⟨n', ws'⟩ := p
    rw [hx] at hd hD
    simp only [resOf, Prod.mk.injEq] at hd
    obtain ⟨rfl, rfl, rfl⟩ := hd
    obtain ⟨ap, Lp, cp, hL, rfl, hW, ha⟩ := hD
    exact ⟨ap, Lp, cp, rfl, ⟨hL, hW, ha⟩, hF⟩
theorem twin_arg {w : World} {t L : Nat} {xs : List Nat} (hL : L = xs.length) (hl : ∀ x ∈ xs, x < 256) (hm : L < 2^40) (h : w.heap[t]? = some (.cells (bts (xs ++ [77])).toArray 5 (0, 0))) : BArg w (some ⟨t, 0, none⟩) L (L + 1) xs := by
  refine ⟨hL, hl, by omega, by omega, fun h0 => ⟨t, 0, rfl, lt_of_block h, fun j hj => ?_⟩⟩
  rw [cell_of_row _ _ _ _ _ _ h]
  have := bts_get (xs ++ [77]) j (by rw [List.length_append, ← hL]; omega)
  have e : (xs ++ [77]).getD j 0 = xs.getD j 0 := by simp [List.getD, List.getElem?_append_left (show j < xs.length by omega)]
  rw [e] at this
  simpa using this

set_option maxHeartbeats 8000000 in
set_option maxRecDepth 100000 in
theorem walk (ao : Option Addr) (L cap : Nat) (xs : List Nat) (w : World) (hB : BArg w ao L cap xs) (hc : L ≤ 140737488351232) :
    Calls Try.prog 3 #[.slice ao L cap] w fun e w' => e = .returned (.bool true) ∧ Fr [] w w' := by
  have HL : Hid (L = xs.length) := hB.len
  by_cases hbig : 1048576 < L
  · have hbd : decide (1048576 < L) = true := by simpa using hbig
    go_enter Try.func3, Try.ntmps3
    go_wp2_with fail
    refine (beyond_any w.heap.size L _ (by omega) (by simp)).mono ?_
    rintro e w2 ⟨rfl, rfl⟩
    rw [hbd]
    go_wp2
    go_ret
    exact ⟨rfl, Fr.alloc [] _ _⟩
  · have hbd : decide (1048576 < L) = false := by simpa using hbig
    have hll : xs.length < 2^41 := by rw [← HL.out]; omega
    obtain ⟨⟨c, n, ws⟩, hd⟩ : ∃ r, resOf (decT xs) = r := ⟨_, rfl⟩
    have HD : Hid (resOf (decT xs) = (c, n, ws)) := hd
    clear hd
    go_enter Try.func3, Try.ntmps3
    go_wp2_with fail
    refine (beyond_any w.heap.size L _ (by omega) (by simp)).mono ?_
    rintro e w1 ⟨rfl, rfl⟩
    rw [hbd]
    have hF1 : Fr [] w (w.alloc (.cells #[.int .i64 (L : Int)] 3)) := Fr.alloc _ _ _
    obtain ⟨w1, HW1⟩ : ∃ w1, Hid (w.alloc (.cells #[.int .i64 (L : Int)] 3) = w1) := ⟨_, rfl⟩
    rw [HW1.out] at hF1 ⊢
    go_wp2_with fail
    refine (twin_any ao L cap xs _ (hB.keep hF1) (by omega)).mono ?_
    rintro e w2 ⟨t, rfl, ht, hrow2, hF2⟩
    have hG2 := hF1.then hF2
    have htl := lt_of_block hrow2
    have hA2 := twin_arg HL.out hB.low (by omega) hrow2
    have hwt : w.heap.size ≤ t := by have := hF1.size; omega
    clear hF1 hF2
    go_wp2_with fail
    refine (prog_told (some ⟨t, 0, none⟩) L (L + 1) c n ws xs _ hA2 hll HD.out).mono ?_
    rintro e w3 ⟨ap, Lp, cp, rfl, hTp3, hF3⟩
    have hF4 : Fr [] w3 (w3.alloc (.cells #[.int .i64 (n : Int), .slice ap Lp cp] 27)) := Fr.alloc _ _ _
    have c4 : (w3.alloc (.cells #[.int .i64 (n : Int), .slice ap Lp cp] 27)).heap[w3.heap.size]? = some (.cells #[.int .i64 (n : Int), .slice ap Lp cp] 27 (0, 0)) := heap_alloc_new w3 _
    obtain ⟨w4, HW4⟩ : ∃ w4, Hid (w3.alloc (.cells #[.int .i64 (n : Int), .slice ap Lp cp] 27) = w4) := ⟨_, rfl⟩
    rw [HW4.out] at hF4 c4
    have hX4 : B2 w4 w3.heap.size (.int .i64 (n : Int)) (.slice ap Lp cp) := ⟨c4⟩
    have hTp4 := hTp3.keep hF4 (by simp)
    have hG4 := hG2.then (hF3.then hF4)
    have hrow4 := (hF3.then hF4).keep hrow2 (by simp)
    have ht3 : t < w3.heap.size := by have := hF3.size; omega
    clear hTp3 hF3 hF4 c4
    go_wp2_with fail
    rw [HW4.out]
    refine (ref_told ao L cap c n ws xs _ (hB.keep hG4) hll HD.out).mono ?_
    rintro e w5 ⟨ar, Lr, cr, rfl, hTr5, hF5⟩
    have hF6 : Fr [] w5 (w5.alloc (.cells #[.int .i64 (n : Int), .slice ar Lr cr] 27)) := Fr.alloc _ _ _
    have c6 : (w5.alloc (.cells #[.int .i64 (n : Int), .slice ar Lr cr] 27)).heap[w5.heap.size]? = some (.cells #[.int .i64 (n : Int), .slice ar Lr cr] 27 (0, 0)) := heap_alloc_new w5 _
    obtain ⟨w6, HW6⟩ : ∃ w6, Hid (w5.alloc (.cells #[.int .i64 (n : Int), .slice ar Lr cr] 27) = w6) := ⟨_, rfl⟩
    rw [HW6.out] at hF6 c6
    have hY6 : B2 w6 w5.heap.size (.int .i64 (n : Int)) (.slice ar Lr cr) := ⟨c6⟩
    have hTr6 := hTr5.keep hF6 (by simp)
    have hF46 := hF5.then hF6
    have hTp6 := hTp4.keep hF46 (by simp)
    have hX6 := hX4.keep hF46
    have hG6 := hG4.then hF46
    have hrow6 := hF46.keep hrow4 (by simp)
    have ht5 : t < w5.heap.size := by have := hF5.size; have := hX4.lt; omega
    have x0 : (w5.alloc (.cells #[.int .i64 (n : Int), .slice ar Lr cr] 27)).cell? ⟨w3.heap.size, 0, none⟩ = some (.int .i64 (n : Int)) := by rw [HW6.out]; exact hX6.c0
    have x1 : (w5.alloc (.cells #[.int .i64 (n : Int), .slice ar Lr cr] 27)).cell? ⟨w3.heap.size, 1, none⟩ = some (.slice ap Lp cp) := by rw [HW6.out]; exact hX6.c1
    have hcc : ((c : Int) != c) = false := by simp
    clear hTr5 hF5 hF6 c6 hF46 hTp4 hX4 hrow4 hG4
    go_wp2_with fail
    rw [HW6.out]
    refine (sameTxn_any (n : Int) (n : Int) ap ar Lp Lr cp cr true ws ws _ hTp6.rs hTr6.rs hTp6.len hTr6.len (by simp)).mono ?_
    rintro e w7 ⟨rfl, hF7⟩
    have hG7 := hG6.then hF7
    have hrow7 := hF7.keep hrow6 (by simp)
    have hTp7 := hTp6.keep hF7 (by simp)
    have hTr7 := hTr6.keep hF7 (by simp)
    have hX7 := hX6.keep hF7
    have hY7 := hY6.keep hF7
    clear x0 x1 hG6 hrow6 hTp6 hTr6 hX6 hY6 hF7
    go_wp2_with fail
    refine (leftBytes_any t ao L cap xs _ (hB.keep hG7) (by omega) hrow7).mono ?_
    rintro e w8 ⟨rfl, q8, rfl⟩
    have hF8 : Fr [] w7 (w7.drewN q8) := Fr.drewN _ _ _
    obtain ⟨w8, HW8⟩ : ∃ w8, Hid (w7.drewN q8 = w8) := ⟨_, rfl⟩
    rw [HW8.out] at hF8 ⊢
    have hG8 := hG7.then hF8
    have hrow8 := hF8.keep hrow7 (by simp)
    have hTp8 := hTp7.keep hF8 (by simp)
    have hTr8 := hTr7.keep hF8 (by simp)
    have hX8 := hX7.keep hF8
    have hY8 := hY7.keep hF8
    have hcs : (bts (xs ++ [77])).toArray.size = L + 1 := by simp [bts_length]; exact HL.out.symm
    have htp : t < w2.heap.size := htl
    have ht4 : t < w4.heap.size := by rw [← HW4.out]; simp; omega
    clear hG7 hrow7 hTp7 hTr7 hX7 hY7 hF8 HW8
    go_wp2_with fail
    go_loopw [8] (fun ii wr => ∃ (i : Nat) (cs : Array Value), ii = .int .i64 i ∧ i ≤ L ∧ wr.heap[t]? = some (.cells cs 5 (0, 0)) ∧ Hid (cs.size = L + 1) ∧ Fr [t] w8 wr) (fun ii _ => L - (intOf ii).toNat)
    case atStart => exact ⟨0, _, rfl, Nat.zero_le _, hrow8, hcs, Fr.refl _ _⟩
    case round =>
      obtain ⟨i, cs, rfl, hiL, hrw, HCS, hFr⟩ := hrel
      by_cases hi : i < L
      · have hci : wr.cell? ⟨t, i, none⟩ = some (cs[i]'(by have := HCS.out; omega)) := by
          rw [cell_of_row _ _ _ _ _ _ hrw]
          exact Array.getElem?_eq_getElem _
        have hfi : wr.frozen? ⟨t, i, none⟩ = false := by simp [World.frozen?, hrw]
        have hlt : (i : Int) < L := by omega
        obtain ⟨u, hu⟩ : ∃ u, u = (cs[i]'(by have := HCS.out; omega)) := ⟨_, rfl⟩
        rw [← hu] at hci
        have HN : Hid ((wr.setCell ⟨t, i, none⟩ (.int .u8 238)).heap[t]? = some (.cells (cs.setIfInBounds i (.int .u8 238)) 5 (0, 0))) := row_put _ hrw
        have HF : Hid (Fr [t] w8 (wr.setCell ⟨t, i, none⟩ (.int .u8 238))) := hFr.then (Fr.set _ _ _ (by simp))
        clear hrw hFr hu
        go_wp2
        go_roundw
        case rel => exact ⟨i + 1, _, by simp, by omega, HN.out, by show _ = _; rw [Array.size_setIfInBounds]; exact HCS.out, HF.out⟩
        case measure => simp [intOf]; omega
      · have hle : (L : Int) ≤ i := by omega
        have hTp9 := hTp8.keep hFr (by intro x hx; simp at hx; omega)
        have hTr9 := hTr8.keep hFr (by intro x hx; simp at hx; omega)
        have hX9 : B2 wr w3.heap.size (.int .i64 (n : Int)) (.slice ap Lp cp) := ⟨hFr.keep hX8.box (by simp; omega)⟩
        have hY9 : B2 wr w5.heap.size (.int .i64 (n : Int)) (.slice ar Lr cr) := ⟨hFr.keep hY8.box (by simp; omega)⟩
        have x0 := hX9.c0
        have x1 := hX9.c1
        have y0 := hY9.c0
        have y1 := hY9.c1
        have hG9 : Fr [] w wr := hG8.on hFr (by intro x hx; simp at hx; omega)
        clear hrw hFr
        go_wp2_with fail
        refine (sameTxn_any (n : Int) (n : Int) ap ar Lp Lr cp cr true ws ws _ hTp9.rs hTr9.rs hTp9.len hTr9.len (by simp)).mono ?_
        rintro e w10 ⟨rfl, hF10⟩
        have HG : Hid (Fr [] w w10) := hG9.then hF10
        clear x0 x1 y0 y1 hG9 hF10
        go_wp2
        go_ret
        exact ⟨rfl, HG.out⟩

theorem own : ownKnob Try.prog.godebug = none := by kernel_rfl
theorem laidOut : laidOutB Try.prog = true := by kernel_rfl
set_option maxHeartbeats 4000000 in
set_option maxRecDepth 100000 in
theorem lifted (os : Os) (started : os.Started) (H : Type) (enc : TypeId × Value → H) :
    ReturnsInHanded {} Try.checked os 3 .any (Rows.recordDecodesSpec.pre6 enc Try.prog Try.f3 Rows.recordDecodesRow.domain false) (Rows.recordDecodesSpec.post enc Try.prog Try.f3 false true false false) := by
  refine returnsInHanded_of_change_sized (C := Try.checked) own started (by kernel_rfl) Try.func3
    (ChangeSpec.witness6 (enc := enc) (C := Try.checked) false ⟨#[], #[.slice none 0 0], []⟩ 8 (by kernel_rfl) (by kernel_rfl) (by kernel_rfl) (by kernel_rfl)) ?_
  intro W base args ds gs before hval0 hW hcnd hsz0 _
  have hval : ∀ (j : Nat) t v, Try.f3.params[j]? = some t → args[j]? = some v → Value.okWide Try.prog W .any base t v := hval0
  have hsz : (DataW.weightsEach Try.prog (Try.f3.params.toList ++ Rows.recordDecodesSpec.plain.varTypes Try.prog) (ds ++ gs)).all (· ≤ reachBytes) = true := hsz0
  have hW' := hW
  obtain ⟨p, q, hA0, hV, rfl, hfz, hnd⟩ := hW
  have hA : DataW.TrodAll enc Try.prog W 0 (fun _ => true) true Try.f3.params.toList args.toList ds p := hA0
  rw [Try.params3] at hA hval hsz
  obtain ⟨v0, vs0, d0, ds0, p0, q0, hargs, rfl, rfl, h0, r0⟩ := trodAll_cons hA
  obtain ⟨rfl, rfl, rfl⟩ := trodAll_nil r0
  obtain rfl : args = #[v0] := by cases args; simp_all
  obtain ⟨rfl, rfl⟩ := trodVars_none hV
  obtain ⟨a0, len0, cap0, rfl⟩ := okWide_slice Try.undBs (hval 0 22 v0 rfl rfl)
  have k0 := h0
  have lt0 : ∀ x ∈ p0, x.block < W.heap.size := by obtain ⟨m, hm⟩ := k0; exact DataW.trod_lt m _ _ _ hm
  obtain ⟨z0, w0⟩ : ∃ zs, IsRow .u8 W a0 len0 cap0 zs := by
    obtain ⟨fuel, hf⟩ := h0
    rcases open_ints Try.undBs Try.underlying5 (by kernel_rfl) hf with ⟨hcs, _⟩ | ⟨x, l, c, zs, hcs, _, hl, hm, hz, _, hcell, hwz⟩
    · simp [Value.cells] at hcs
      obtain ⟨rfl, rfl, rfl⟩ := hcs
      exact ⟨[], .inl ⟨rfl, rfl, rfl, rfl⟩⟩
    · simp [Value.cells] at hcs
      obtain ⟨rfl, rfl, rfl⟩ := hcs
      exact ⟨zs, .inr ⟨_, rfl, hl, hm, by simpa using hz, hcell, hwz⟩⟩
  have hc0 : len0 ≤ 140737488351232 := by
    obtain ⟨fuel, hf⟩ := k0
    rcases open_ints Try.undBs Try.underlying5 (by kernel_rfl) hf with ⟨hcs, _⟩ | ⟨x, l, c, zs, hcs, _, hl, hm, hz, hx, hcell, hwz⟩
    · simp [Value.cells] at hcs
      omega
    · simp [Value.cells] at hcs
      obtain ⟨rfl, rfl, rfl⟩ := hcs
      have hd := congrArg Prod.fst hx
      simp only at hd
      have := sized_slice (j := 0) hsz rfl (by rw [hd]; rfl) Try.undBs
      rw [show Try.prog.bytesOf 5 = 1 from by kernel_rfl] at this
      simp [lits, reachBytes] at this hz
      omega
  obtain ⟨xs0, hB0⟩ := BArg.of_row w0
  clear hA0 hval0
  refine (walk a0 len0 cap0 xs0 W hB0 hc0).mono fun e W' ⟨he, hf⟩ => ?_
  subst he
  have bel : Below W.heap.size W W' := hf.below (Nat.le_refl _) (by simp)
  exact ⟨_, rfl, _, _, _, [], _, [], hW', trodAll_mk1 (shut_bool Try.underlying4 _), (trodAll_cons_mk (Below.trod laidOut (by kernel_rfl) (of_decide_eq_true (by kernel_rfl)) k0 bel lt0) trodAll_mk0), rfl, bel.frame _, fun h => by cases h⟩

theorem over : Rows.recordDecodesRow.holds Try.pinned (OpenSpec.ofChange Rows.recordDecodesSpec) :=
  OpenClaim.holds_of_wide 3 Try.f3 rfl rfl rfl rfl rfl rfl rfl ⟨rfl, rfl, rfl, rfl, rfl⟩ rfl rfl rfl rfl rfl (by kernel_rfl) Try.func3 (by kernel_rfl)
    (of_decide_eq_true (by kernel_rfl)) (by unfold Func.isWrapper; first | (rw [if_pos (by decide +kernel)]; kernel_rfl) | (rw [if_neg (by decide +kernel)]; exact ⟨rfl, rfl⟩))
    (fun os started H enc _ => lifted os started H enc)
end Go.Proofs.Ytcgfadmhjfncoaa.recordDecodes
namespace Go.Proofs.Ytcgfadmhjfncoaa
theorem recorddecodes_holds : Rows.RecordDecodesSaid := recordDecodes.over
#print axioms recorddecodes_holds
end Go.Proofs.Ytcgfadmhjfncoaa

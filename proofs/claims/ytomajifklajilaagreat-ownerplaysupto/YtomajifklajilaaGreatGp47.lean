/- Texts of this claim laid together, one behind the other: contracts and plain lemmas; conditions as each names them. -/
import Derived.Test.YtomajifklajilaaGreatGp46
import Derived.Test.YtomajifklajilaaGreatGp13
import Derived.Test.YtomajifklajilaaGreatGp6
import Derived.Test.YtomajifklajilaaGreatGp15
/- What the statements' helpers TwinInts and LeftInts answer; numbers that came in. Conditions: as many numbers as may come in. -/
namespace Go.Proofs.YtomajifklajilaaGreat
open Go.ChangeShapes Go.WideShapes Go.ChangeAt Go.RowKit Go.Lib
set_option linter.unusedVariables false
set_option linter.unusedSimpArgs false

def intsT (ns : List Int) : List Value := ns.map fun n => Value.int .i64 n
theorem intsT_length (xs : List Int) : (intsT xs).length = xs.length := by simp [intsT]
theorem intsT_get (xs : List Int) (j : Nat) (h : j < xs.length) : (intsT xs)[j]? = some (.int .i64 (xs.getD j 0)) := by simp [intsT, List.getD, h]
theorem Tryz.infoIW : (Tryz.prog.info? 3).map (fun i => (i.zero, i.size, i.bytes)) = some (some (.int .i64 0), 1, 8) := by kernel_rfl
theorem Tryz.undIsW : Tryz.prog.underlying 34 = some (.slice 3) := by kernel_rfl
theorem iown_full {w : World} {g n : Nat} {xs : List Value} (h : w.ownsRow 0 3 1 (.slice (some ⟨g, 0, none⟩) n n) n xs) : w.heap[g]? = some (.cells xs.toArray 3 (0, 0)) := by
  have hl := h.1
  rcases h.2 with ⟨hh, _⟩ | ⟨g', cap', cur, hh, _, hg, _, _, hcs, ht⟩
  · cases hh
  · cases hh
    rw [hg]
    congr 2
    rw [← Array.toList_inj]
    simp only
    rw [← ht, List.take_of_length_le (by simp [hcs])]
set_option maxHeartbeats 4000000 in
set_option maxRecDepth 100000 in
theorem twinIs_any (ao : Option Addr) (L cap : Nat) (ws : List Int) (w : World) (h : IRs w ao ws) (hLe : L = ws.length) (hL : L ≤ 17592186044416) :
    Calls Tryz.prog 40 #[.slice ao L cap] w fun e w' => ∃ b, e = .returned (.slice (some ⟨b, 0, none⟩) L (L + 1)) ∧ w.heap.size ≤ b ∧ w'.heap[b]? = some (.cells (intsT (ws ++ [7777])).toArray 3 (0, 0)) ∧ Fr [] w w' := by
  obtain ⟨i0, hi, hz0, hz1, hz2⟩ := info_parts Tryz.infoIW
  have HL : Hid (L = ws.length) := hLe
  clear hLe
  go_enter Tryz.func40, Tryz.ntmps40
  go_wp2_with (at_make; refine wpList_make_own _ rfl (.const (.int .i64 0)) (.tmp 7) 34 rfl 0 3 i0 _ 1 Tryz.undIsW hi hz0 hz1 .i64 .i64 ((L : Int) + 1) (L + 1) rfl rfl ?bC ?b2 ?b3 ?b4 ?_)
  case bC => simp
  case b2 => rw [hz2]; omega
  case b3 => unfold maxLen; omega
  case b4 => exact Nat.zero_le _
  intro w1 hown hgrow
  obtain ⟨g, hg⟩ : ∃ g, g = w.heap.size := ⟨_, rfl⟩
  have hgw : w.heap.size ≤ g := by omega
  rw [← hg] at hown ⊢
  have h01 : Fr [] w w1 := Fr.grown (S := []) hgrow (by simp)
  clear hgrow hg
  go_wp2_with fail
  go_loopw [3, 4] (fun vv ii wr => ∃ i : Nat, vv = .slice (some ⟨g, 0, none⟩) i (L + 1) ∧ ii = .int .i64 i ∧ i ≤ L ∧ wr.ownsRow 0 3 1 (.slice (some ⟨g, 0, none⟩) i (L + 1)) i (intsT (ws.take i)) ∧ Fr [] w wr) (fun _ ii _ => L - (RowKit.intOf ii).toNat)
  case atStart => exact ⟨0, rfl, rfl, Nat.zero_le _, hown, h01⟩
  case round =>
    obtain ⟨i, rfl, rfl, hiL, hO, hF⟩ := hrel
    have hsz := (hO.lt g rfl).2
    by_cases hil : i < L
    · have hi' : i < ws.length := by rw [← HL.out]; exact hil
      obtain ⟨b, off, e, _, hc⟩ := (h.keep hF).lies (by omega)
      subst e
      have d0 := hc i hi'
      obtain ⟨x, hx⟩ : ∃ x, x = ws.getD i 0 := ⟨_, rfl⟩
      rw [← hx] at d0
      have HE : Hid (intsT (ws.take (i + 1)) = intsT (ws.take i) ++ [.int .i64 x]) := by
        show _ = _
        rw [itake_snoc ws i hi', ← hx]; simp [intsT]
      clear hc hx
      go_wp2_with (at_builtin; refine wpList_append_fits _ rfl (.tmp 15) (.tmp 20) 34 rfl 0 3 i0 1 Tryz.undIsW hi hz1 g i (L + 1) _ rfl (hO.alloc _) ⟨wr.heap.size, 0, none⟩ 1 1 [.int .i64 x] rfl rfl ?c1 ?c2 ?c3 ?_)
      case c1 => intro j u hj; match j, hj with | 0, hj => simp at hj; subst hj; simp [Addr.add]
      case c2 => intro u hu; simp at hu; subst hu; rfl
      case c3 => omega
      intro w2 hO2 hg2
      rw [← HE.out] at hO2
      have hF2 : Fr [] w w2 := (hF.then (Fr.alloc [] wr _)).on (Fr.grown (S := [g]) hg2 (by intro k hk _; cases hk; simp)) (by intro y hy; simp at hy; omega)
      clear hO hg2 hF d0
      go_wp2
      go_roundw
      case rel => exact ⟨i + 1, rfl, by simp, by omega, hO2, hF2⟩
      case measure => simp [RowKit.intOf]; omega
    · have hiL' : L ≤ i := by omega
      obtain rfl : i = L := by omega
      have HE : Hid (intsT (ws ++ [7777]) = intsT (ws.take i) ++ [.int .i64 7777]) := by
        show _ = _
        rw [List.take_of_length_le (by rw [← HL.out]; omega)]; simp [intsT]
      go_wp2_with (at_builtin; refine wpList_append_fits _ rfl (.tmp 22) (.tmp 23) 34 rfl 0 3 i0 1 Tryz.undIsW hi hz1 g i (i + 1) _ rfl (hO.alloc _) ⟨wr.heap.size, 0, none⟩ 1 1 [.int .i64 7777] rfl rfl ?c1 ?c2 ?c3 ?_)
      case c1 => intro j u hj; match j, hj with | 0, hj => simp at hj; subst hj; simp [Addr.add]
      case c2 => intro u hu; simp at hu; subst hu; rfl
      case c3 => omega
      intro w2 hO2 hg2
      rw [← HE.out] at hO2
      have hF2 : Fr [] w w2 := (hF.then (Fr.alloc [] wr _)).on (Fr.grown (S := [g]) hg2 (by intro k hk _; cases hk; simp)) (by intro y hy; simp at hy; omega)
      have HRow : Hid (w2.heap[g]? = some (.cells (intsT (ws ++ [7777])).toArray 3 (0, 0))) := iown_full hO2
      clear hO hg2 hF hO2
      go_wp2
      go_ret
      exact ⟨g, rfl, hgw, HRow.out, hF2⟩
set_option maxHeartbeats 4000000 in
set_option maxRecDepth 100000 in
theorem leftIs_any (t : Nat) (ao : Option Addr) (L cap : Nat) (ws : List Int) (w : World) (h : IRs w ao ws) (hLe : L = ws.length) (hL : L ≤ 17592186044416) (hrow : w.heap[t]? = some (.cells (intsT (ws ++ [7777])).toArray 3 (0, 0))) :
    Calls Tryz.prog 45 #[.slice (some ⟨t, 0, none⟩) L (L + 1), .slice ao L cap] w fun e w' => e = .returned (.bool true) ∧ Fr [] w w' := by
  have HL : Hid (L = ws.length) := hLe
  clear hLe
  have hct : ∀ j, j < L → w.cell? ⟨t, j, none⟩ = some (.int .i64 (ws.getD j 0)) := by
    intro j hj
    rw [cell_of_row _ _ _ _ _ _ hrow, List.getElem?_toArray, intsT_get _ _ (by rw [List.length_append, ← HL.out]; simp; omega)]
    have e : (ws ++ [7777]).getD j 0 = ws.getD j 0 := by simp [List.getD, List.getElem?_append_left (show j < ws.length by rw [← HL.out]; exact hj)]
    rw [e]
  have hsp : w.cell? ⟨t, L, none⟩ = some (.int .i64 7777) := by
    rw [cell_of_row _ _ _ _ _ _ hrow, List.getElem?_toArray, intsT_get _ _ (by rw [List.length_append, ← HL.out]; simp)]
    have e : (ws ++ [7777]).getD L 0 = 7777 := by simp [List.getD, HL.out]
    rw [e]
  have hne : ((L : Int) != L) = false := by simp
  clear hrow
  go_enter Tryz.func45, Tryz.ntmps45
  go_wp2_with fail
  go_loopw [5] (fun ii wr => ∃ (i q : Nat), ii = .int .i64 i ∧ i ≤ L ∧ Hid (wr = w.drewN q)) (fun ii _ => L - (RowKit.intOf ii).toNat)
  case atStart => exact ⟨0, 0, rfl, Nat.zero_le _, rfl⟩
  case round =>
    obtain ⟨i, q, rfl, hiL, HQ⟩ := hrel
    have hce : ∀ a, wr.cell? a = w.cell? a := fun a => by rw [HQ.out]; rfl
    by_cases hi : i < L
    · have hi' : i < ws.length := by rw [← HL.out]; exact hi
      obtain ⟨b, off, e, _, hc⟩ := h.lies (by omega)
      subst e
      have c0 := hct i hi
      have d0 := hc i hi'
      obtain ⟨x, hxx⟩ : ∃ x, x = ws.getD i 0 := ⟨_, rfl⟩
      rw [← hxx, ← hce] at c0 d0
      clear hxx hct hc hsp hce
      have hq : (x != x) = false := by simp
      go_wp2_with fail
      go_quiet (fail)
      go_wp2
      go_roundw
      case rel => exact ⟨i + 1, q + nq, by simp, by omega, by show _ = _; rw [HQ.out]; simp⟩
      case measure => simp [RowKit.intOf]; omega
    · have hiL' : L ≤ i := by omega
      have c0 := hsp
      rw [← hce] at c0
      have hFq : Fr [] w wr := by rw [HQ.out]; exact Fr.drewN _ _ _
      clear hct hce hsp
      go_wp2
      go_ret
      exact ⟨by simp, hFq⟩
end Go.Proofs.YtomajifklajilaaGreat
/- The statements' helpers TwinReq, LeftReq. Conditions as each names them. -/
namespace Go.Proofs.YtomajifklajilaaGreat
open Go.ChangeShapes Go.WideShapes Go.ChangeAt Go.RowKit Go.Lib
set_option linter.unusedVariables false
set_option linter.unusedSimpArgs false
theorem sets9_rowz {W : World} {b : Nat} {t : TypeId} {u0 u1 u2 u3 u4 u5 u6 u7 u8 : Value} (v0 v1 v2 v3 v4 v5 v6 v7 v8 : Value) (h : W.heap[b]? = some (.cells #[u0, u1, u2, u3, u4, u5, u6, u7, u8] t (0, 0))) : (sets9z W b v0 v1 v2 v3 v4 v5 v6 v7 v8).heap[b]? = some (.cells #[v0, v1, v2, v3, v4, v5, v6, v7, v8] t (0, 0)) ∧ Fr [b] W (sets9z W b v0 v1 v2 v3 v4 v5 v6 v7 v8) := by
  rw [sets9z_is]
  obtain ⟨h1, h2⟩ := setCells_row [v0, v1, v2, v3, v4, v5, v6, v7, v8] 0 W _ h (by simp)
  exact ⟨h1.trans (by simp [splice]), h2⟩
/-- A request's twin. -/
def Rv.tw (x : Rv) (tb : Nat) : Rv := ⟨x.k, x.f, x.n, x.wk, x.wv, x.wd, x.key, x.en, some ⟨tb, 0, none⟩, x.bl, x.bl + 1⟩
set_option maxHeartbeats 1000000 in
set_option maxRecDepth 100000 in
theorem twinReq_any (x : Rv) (ns : List Int) (w : World) (hR : RqB w x ns) : Calls Tryz.prog 16 #[x.v] w fun e w' => ∃ tb, e = .returned (x.tw tb).v ∧ w.heap.size ≤ tb ∧ w'.heap[tb]? = some (.cells (intsT (ns ++ [7777])).toArray 3 (0, 0)) ∧ Fr [] w w' := by
  obtain ⟨xk, xf, xn, xa, xb, xd, xc, xe, xo, xl, xm⟩ := x
  obtain ⟨wz, HWz⟩ : ∃ wz, Hid ((w.alloc (.cells #[.int .u8 xk, .int .i64 xf, .int .i64 xn, .string xa, .string xb, .bool xd, .string xc, .string xe, .slice xo xl xm] 36)).alloc (.cells #[.int .u8 0, .int .i64 0, .int .i64 0, .string ⟨#[]⟩, .string ⟨#[]⟩, .bool false, .string ⟨#[]⟩, .string ⟨#[]⟩, .slice none 0 0] 36) = wz) := ⟨_, rfl⟩
  have hF0 : Fr [] w wz := by rw [← HWz.out]; exact (Fr.alloc [] w _).then (Fr.alloc [] _ _)
  have hr1 : wz.heap[w.heap.size]? = some (.cells #[.int .u8 xk, .int .i64 xf, .int .i64 xn, .string xa, .string xb, .bool xd, .string xc, .string xe, .slice xo xl xm] 36 (0, 0)) := by rw [← HWz.out]; exact (Fr.alloc [] _ _).keep (heap_alloc_new w _) (by simp)
  have hr2 : wz.heap[w.heap.size + 1]? = some (.cells #[.int .u8 0, .int .i64 0, .int .i64 0, .string ⟨#[]⟩, .string ⟨#[]⟩, .bool false, .string ⟨#[]⟩, .string ⟨#[]⟩, .slice none 0 0] 36 (0, 0)) := by
    rw [← HWz.out, show w.heap.size + 1 = (w.alloc (.cells #[.int .u8 xk, .int .i64 xf, .int .i64 xn, .string xa, .string xb, .bool xd, .string xc, .string xe, .slice xo xl xm] 36)).heap.size by simp]
    exact heap_alloc_new _ _
  obtain ⟨Z1, HZ1⟩ : ∃ Z, Hid (w.heap.size = Z) := ⟨_, rfl⟩
  obtain ⟨Z2, HZ2⟩ : ∃ Z, Hid (w.heap.size + 1 = Z) := ⟨_, rfl⟩
  rw [HZ1.out] at hr1
  rw [HZ2.out] at hr2
  have h12 : Z1 ≠ Z2 := by rw [← HZ1.out, ← HZ2.out]; omega
  have h21 : Z2 ≠ Z1 := fun e => h12 e.symm
  have HC : Hid (∀ W, Fr [] wz W → Calls _ _ _ _ _) := fun W hf => twinIs_any xo xl xm ns W (hR.is.keep (hF0.then hf)) hR.len (by have := hR.is.few; have := hR.len; simp only at this; omega)
  have HS : Hid (∀ W, Fr [] wz W → (W.cell? ⟨Z1, 0, none⟩ = some (.int .u8 xk) ∧ W.cell? ⟨Z1, 1, none⟩ = some (.int .i64 xf) ∧ W.cell? ⟨Z1, 2, none⟩ = some (.int .i64 xn) ∧ W.cell? ⟨Z1, 3, none⟩ = some (.string xa) ∧ W.cell? ⟨Z1, 4, none⟩ = some (.string xb) ∧ W.cell? ⟨Z1, 5, none⟩ = some (.bool xd) ∧ W.cell? ⟨Z1, 6, none⟩ = some (.string xc) ∧ W.cell? ⟨Z1, 7, none⟩ = some (.string xe) ∧ W.cell? ⟨Z1, 8, none⟩ = some (.slice xo xl xm)) ∧ RvAt W Z2 0 Rv.zero ∧ ∀ j, W.frozen? ⟨Z2, j, none⟩ = false) := fun W hf => by
    have hz := RvAt.ofRow (x := ⟨xk, xf, xn, xa, xb, xd, xc, xe, xo, xl, xm⟩) (hf.keep hr1 (by simp))
    have k2 := hf.keep hr2 (by simp)
    exact ⟨⟨hz.c0, hz.c1, hz.c2, hz.c3, hz.c4, hz.c5, hz.c6, hz.c7, hz.c8⟩, RvAt.ofRow (x := Rv.zero) k2, fun j => by simp [World.frozen?, k2]⟩
  have HK : Hid (∀ W tb, Fr [] wz W → (sets9z W Z2 (.int .u8 xk) (.int .i64 xf) (.int .i64 xn) (.string xa) (.string xb) (.bool xd) (.string xc) (.string xe) (.slice (some ⟨tb, 0, none⟩) xl (xl + 1))).heap[Z2]? = some (.cells #[.int .u8 xk, .int .i64 xf, .int .i64 xn, .string xa, .string xb, .bool xd, .string xc, .string xe, .slice (some ⟨tb, 0, none⟩) xl (xl + 1)] 36 (0, 0)) ∧ Fr [Z2] W (sets9z W Z2 (.int .u8 xk) (.int .i64 xf) (.int .i64 xn) (.string xa) (.string xb) (.bool xd) (.string xc) (.string xe) (.slice (some ⟨tb, 0, none⟩) xl (xl + 1)))) := fun W tb hf => sets9_rowz _ _ _ _ _ _ _ _ _ (hf.keep hr2 (by simp))
  have HZw : Hid (w.heap.size < Z2) := by show _ < _; rw [← HZ2.out]; omega
  have HF0 : Hid (Fr [] w wz) := hF0
  have HZl : Hid (Z2 < wz.heap.size) := lt_of_block hr2
  clear hR hF0 hr1 hr2
  simp only [Rv.v, Rv.tw]
  go_enter Tryz.func16, Tryz.ntmps16
  go_upto_region 1 with fail
  rw [HWz.out, HZ2.out, HZ1.out]
  clear HWz HZ1 HZ2
  obtain ⟨⟨e0, e1, e2, e3, e4, e5, e6, e7, e8⟩, _⟩ := HS.out _ (Fr.refl _ _)
  go_region_held3 (fun W => W.cell? ⟨Z1, 0, none⟩ = some (.int .u8 xk) ∧ W.cell? ⟨Z1, 1, none⟩ = some (.int .i64 xf) ∧ W.cell? ⟨Z1, 2, none⟩ = some (.int .i64 xn) ∧ W.cell? ⟨Z1, 3, none⟩ = some (.string xa) ∧ W.cell? ⟨Z1, 4, none⟩ = some (.string xb) ∧ W.cell? ⟨Z1, 5, none⟩ = some (.bool xd) ∧ W.cell? ⟨Z1, 6, none⟩ = some (.string xc) ∧ W.cell? ⟨Z1, 7, none⟩ = some (.string xe) ∧ W.cell? ⟨Z1, 8, none⟩ = some (.slice xo xl xm)) (go_keep)
    (first
      | (with_reducible refine Calls.mono (HC.out _ (Fr.drew _ _)) ?_; rintro e w3 ⟨tb, rfl, htb, hrt, hF3⟩; have hF3' := (Fr.drew [] wz).then hF3; obtain ⟨⟨z0, z1, z2, z3, z4, z5, z6, z7, z8⟩, ⟨o0, o1, o2, o3, o4, o5, o6, o7, o8⟩, y5⟩ := HS.out _ hF3'; simp only [Nat.zero_add] at o1 o2 o3 o4 o5 o6 o7 o8))
  all_goals (
    obtain ⟨k1, k2⟩ := HK.out w3 tb hF3'
    unfold sets9z at k1 k2
    go_wp2_with fail
    refine bodyPost_ret (results_c_row rfl _ _ _ _ _ rfl (load_req ⟨xk, xf, xn, xa, xb, xd, xc, xe, some ⟨tb, 0, none⟩, xl, xl + 1⟩ k1)) rfl ?_
    have s0 := HF0.out.size
    have s1 : wz.heap.size ≤ tb := htb
    have s2 := HZl.out
    exact ⟨tb, rfl, by omega, k2.keep hrt (by simp; omega), (HF0.out.then hF3').on k2 (by intro y hy; simp at hy; have := HZw.out; omega)⟩)
set_option maxHeartbeats 4000000 in
set_option maxRecDepth 100000 in
theorem leftReq_any (x : Rv) (ns : List Int) (tb : Nat) (w : World) (hR : RqB w x ns) (hrow : w.heap[tb]? = some (.cells (intsT (ns ++ [7777])).toArray 3 (0, 0))) : Calls Tryz.prog 19 #[(x.tw tb).v, x.v] w fun e w' => e = .returned (.bool true) ∧ Fr [] w w' := by
  obtain ⟨xk, xf, xn, xa, xb, xd, xc, xe, xo, xl, xm⟩ := x
  have HC : Hid (∀ W, Fr [] w W → Calls _ _ _ _ _) := fun W hf => leftIs_any tb xo xl xm ns W (hR.is.keep hf) hR.len (by have := hR.is.few; have := hR.len; simp only at this; omega) (hf.keep hrow (by simp))
  have hF0 : Fr [] w ((w.alloc (.cells #[.int .u8 xk, .int .i64 xf, .int .i64 xn, .string xa, .string xb, .bool xd, .string xc, .string xe, .slice (some ⟨tb, 0, none⟩) xl (xl + 1)] 36)).alloc (.cells #[.int .u8 xk, .int .i64 xf, .int .i64 xn, .string xa, .string xb, .bool xd, .string xc, .string xe, .slice xo xl xm] 36)) := (Fr.alloc [] w _).then (Fr.alloc [] _ _)
  have HF0 : Hid (Fr _ _ _) := hF0
  have hq : ∀ W, (binOp .eql 33 (.agg #[.string xa, .string xb, .bool xd]) (.agg #[.string xa, .string xb, .bool xd])).run Tryz.prog W = .ok (.bool true) W := fun W => by rw [wt_eql15]; simp
  have b1 : (xc.toList == xc.toList) = true := by simp
  have b2 : (xe.toList == xe.toList) = true := by simp
  clear hR hrow hF0
  simp only [Rv.v, Rv.tw]
  go_enter Tryz.func19, Tryz.ntmps19
  go_wp2_with fail
  refine Calls.mono (HC.out _ HF0.out) ?_
  rintro e w1 ⟨rfl, hF1⟩
  go_wp2
  go_ret
  exact ⟨rfl, HF0.out.then hF1⟩
end Go.Proofs.YtomajifklajilaaGreat
/- The law's helper asks, of a request: true, by what both owners answer. Conditions as each names them. -/
namespace Go.Proofs.YtomajifklajilaaGreat
open Go.ChangeShapes Go.WideShapes Go.ChangeAt Go.RowKit Go.Lib
set_option linter.unusedVariables false
set_option linter.unusedSimpArgs false
/-- What is new since w stays. -/
def Nf (w W w1 : World) : Prop := W.heap.size ≤ w1.heap.size ∧ ∀ j, w.heap.size ≤ j → j < W.heap.size → w1.heap[j]? = W.heap[j]?
theorem Nf.of {w W w1 : World} (h : Fr [] W w1) : Nf w W w1 := ⟨h.size, fun j _ hj => h.block j hj (by simp)⟩
theorem Nf.keep {w W w1 : World} (h : Nf w W w1) {j : Nat} {o : Array Value} {t : TypeId} {fr : Nat × Nat} (hj : W.heap[j]? = some (.cells o t fr)) (hw : w.heap.size ≤ j) : w1.heap[j]? = some (.cells o t fr) := (h.2 j hw (lt_of_block hj)).trans hj
theorem Nf.then {w W w1 w2 : World} (h : Nf w W w1) (k : Nf w w1 w2) : Nf w W w2 := ⟨Nat.le_trans h.1 k.1, fun j h1 h2 => (k.2 j h1 (Nat.lt_of_lt_of_le h2 h.1)).trans (h.2 j h1 h2)⟩
set_option maxHeartbeats 8000000 in
set_option maxRecDepth 100000 in
theorem asks_ask (p r : Option Addr) (x : Rv) (ns : List Int) (w : World) (hR : RqB w x ns) (P : World → World → Prop)
    (hA : ∀ W tb, Fr [] w W → w.heap.size ≤ tb → RqB W (x.tw tb) ns → Calls Tryz.prog 17 #[.pointer p, (x.tw tb).v] W fun e w1 => ∃ (ok : Bool) (c : Int), e = .returned (.tuple #[.bool ok, .int .i64 c]) ∧ Nf w W w1 ∧
      Calls Tryz.prog 18 #[.pointer r, x.v] w1 fun e w2 => e = .returned (.tuple #[.bool ok, .int .i64 c]) ∧ Nf w w1 w2 ∧ RqB w2 x ns ∧ P W w2) :
    Calls Tryz.prog 6 #[.pointer p, .pointer r, .agg #[.bool false, .int .u8 x.k, .int .i64 x.f, .int .i64 x.n, .string x.wk, .string x.wv, .bool x.wd, .string x.key, .string x.en, .slice x.bo x.bl x.bc]] w fun e w' => e = .returned (.bool true) ∧ ∃ W w2 T, Fr [] w W ∧ P W w2 ∧ Fr T w2 w' ∧ ∀ j ∈ T, w.heap.size ≤ j ∧ (j < W.heap.size ∨ w2.heap.size ≤ j) := by
  obtain ⟨xk, xf, xn, xa, xb, xd, xc, xe, xo, xl, xm⟩ := x
  simp only at hA ⊢
  obtain ⟨wz, HWz⟩ : ∃ wz, Hid (w.alloc (.cells #[.bool false, .int .u8 xk, .int .i64 xf, .int .i64 xn, .string xa, .string xb, .bool xd, .string xc, .string xe, .slice xo xl xm] 38) = wz) := ⟨_, rfl⟩
  have hF0 : Fr [] w wz := by rw [← HWz.out]; exact Fr.alloc [] w _
  have hr5 : wz.heap[w.heap.size]? = some (.cells #[.bool false, .int .u8 xk, .int .i64 xf, .int .i64 xn, .string xa, .string xb, .bool xd, .string xc, .string xe, .slice xo xl xm] 38 (0, 0)) := by rw [← HWz.out]; exact heap_alloc_new w _
  obtain ⟨Z5, HZ5⟩ : ∃ Z, Hid (w.heap.size = Z) := ⟨_, rfl⟩
  rw [HZ5.out] at hr5
  have HT : Hid (Calls _ _ _ _ _) := twinReq_any ⟨xk, xf, xn, xa, xb, xd, xc, xe, xo, xl, xm⟩ ns wz (hR.keep hF0)
  have HF0 : Hid (Fr [] w wz) := hF0
  have HR5 := (show Hid _ from hr5)
  have HZw : Hid (w.heap.size ≤ Z5) := by show _ ≤ _; rw [HZ5.out]; omega
  have HA := (show Hid _ from hA)
  have HRq : Hid (∀ W, Fr [] w W → RqB W ⟨xk, xf, xn, xa, xb, xd, xc, xe, xo, xl, xm⟩ ns) := fun W hf => hR.keep hf
  have hxl : xl ≤ 17592186044416 := by have := hR.is.few; have := hR.len; simp only at this; omega
  have HB := (show Hid (RqB w ⟨xk, xf, xn, xa, xb, xd, xc, xe, xo, xl, xm⟩ ns) from hR)
  have c0 : wz.cell? ⟨Z5, 0, none⟩ = some (.bool false) := by rw [cell_of_row _ _ _ _ _ _ hr5]; rfl
  have a1 : wz.cell? ⟨Z5, 1, none⟩ = some (.int .u8 xk) := by rw [cell_of_row _ _ _ _ _ _ hr5]; rfl
  have a2 : wz.cell? ⟨Z5, 2, none⟩ = some (.int .i64 xf) := by rw [cell_of_row _ _ _ _ _ _ hr5]; rfl
  have a3 : wz.cell? ⟨Z5, 3, none⟩ = some (.int .i64 xn) := by rw [cell_of_row _ _ _ _ _ _ hr5]; rfl
  have a4 : wz.cell? ⟨Z5, 4, none⟩ = some (.string xa) := by rw [cell_of_row _ _ _ _ _ _ hr5]; rfl
  have a5 : wz.cell? ⟨Z5, 5, none⟩ = some (.string xb) := by rw [cell_of_row _ _ _ _ _ _ hr5]; rfl
  have a6 : wz.cell? ⟨Z5, 6, none⟩ = some (.bool xd) := by rw [cell_of_row _ _ _ _ _ _ hr5]; rfl
  have a7 : wz.cell? ⟨Z5, 7, none⟩ = some (.string xc) := by rw [cell_of_row _ _ _ _ _ _ hr5]; rfl
  have a8 : wz.cell? ⟨Z5, 8, none⟩ = some (.string xe) := by rw [cell_of_row _ _ _ _ _ _ hr5]; rfl
  have a9 : wz.cell? ⟨Z5, 9, none⟩ = some (.slice xo xl xm) := by rw [cell_of_row _ _ _ _ _ _ hr5]; rfl
  clear hR hF0 hr5 hA
  simp only [Rv.v, Rv.tw] at HT
  go_enter Tryz.func6, Tryz.ntmps6
  go_upto_region 1 with fail
  rw [HWz.out, HZ5.out]
  clear HWz HZ5
  go_wp2_with fail
  refine Calls.mono HT.out ?_
  rintro e w1 ⟨tb, rfl, htb, hrt, hF1⟩
  clear c0 a1 a2 a3 a4 a5 a6 a7 a8 a9 HT
  obtain ⟨w2, HW2⟩ : ∃ w2, Hid (w1.alloc (.cells #[.int .u8 xk, .int .i64 xf, .int .i64 xn, .string xa, .string xb, .bool xd, .string xc, .string xe, .slice (some ⟨tb, 0, none⟩) xl (xl + 1)] 36) = w2) := ⟨_, rfl⟩
  have hG2 : Fr [] w1 w2 := by rw [← HW2.out]; exact Fr.alloc [] w1 _
  have HR11 : Hid (w2.heap[w1.heap.size]? = some (.cells #[.int .u8 xk, .int .i64 xf, .int .i64 xn, .string xa, .string xb, .bool xd, .string xc, .string xe, .slice (some ⟨tb, 0, none⟩) xl (xl + 1)] 36 (0, 0))) := by show _ = _; rw [← HW2.out]; exact heap_alloc_new w1 _
  go_upto_region 6 with fail
  rw [HW2.out]
  clear HW2
  have HG2 : Hid (Fr [] w w2) := (HF0.out.then hF1).then hG2
  have HRt : Hid (w2.heap[tb]? = some (.cells (intsT (ns ++ [7777])).toArray 3 (0, 0))) := hG2.keep hrt (by simp)
  have HR52 := (show Hid _ from (hF1.then hG2).keep HR5.out (by simp))
  obtain ⟨Z11, HZ11⟩ : ∃ Z, Hid (w1.heap.size = Z) := ⟨_, rfl⟩
  rw [HZ11.out] at HR11
  have HZb : Hid (wz.heap.size ≤ tb ∧ wz.heap.size ≤ Z11 ∧ Z5 < wz.heap.size) := ⟨htb, by rw [← HZ11.out]; exact hF1.size, lt_of_block HR5.out⟩
  have HC1 : Hid (Calls _ _ _ _ _) := HA.out w2 tb HG2.out (by have := HZb.out; have := HF0.out.size; omega) ⟨HB.out.k, HB.out.f, HB.out.n, HB.out.wk, HB.out.wv, HB.out.key, HB.out.en, ⟨fun h0 => ⟨tb, 0, rfl, lt_of_block HRt.out, fun i hi => by
      rw [cell_of_row _ _ _ _ _ _ HRt.out, List.getElem?_toArray, Nat.zero_add, intsT_get _ _ (by simp; omega)]
      congr 2
      simp [List.getD, List.getElem?_append_left hi]⟩, HB.out.is.few⟩, HB.out.len, by simp only [Rv.tw]; omega⟩
  have HNe : Hid (Z11 ≠ tb ∧ Z11 < w2.heap.size) := ⟨by rw [← HZ11.out]; have := lt_of_block hrt; omega, lt_of_block HR11.out⟩
  clear hrt hF1 hG2 htb
  rw [HZ11.out]
  clear HZ11
  have hr11 := HR11.out
  have t0 : w2.cell? ⟨Z11, 0, none⟩ = some (.int .u8 xk) := by rw [cell_of_row _ _ _ _ _ _ hr11]; rfl
  have t1 : w2.cell? ⟨Z11, 1, none⟩ = some (.int .i64 xf) := by rw [cell_of_row _ _ _ _ _ _ hr11]; rfl
  have t2 : w2.cell? ⟨Z11, 2, none⟩ = some (.int .i64 xn) := by rw [cell_of_row _ _ _ _ _ _ hr11]; rfl
  have t3 : w2.cell? ⟨Z11, 3, none⟩ = some (.string xa) := by rw [cell_of_row _ _ _ _ _ _ hr11]; rfl
  have t4 : w2.cell? ⟨Z11, 4, none⟩ = some (.string xb) := by rw [cell_of_row _ _ _ _ _ _ hr11]; rfl
  have t5 : w2.cell? ⟨Z11, 5, none⟩ = some (.bool xd) := by rw [cell_of_row _ _ _ _ _ _ hr11]; rfl
  have t6 : w2.cell? ⟨Z11, 6, none⟩ = some (.string xc) := by rw [cell_of_row _ _ _ _ _ _ hr11]; rfl
  have t7 : w2.cell? ⟨Z11, 7, none⟩ = some (.string xe) := by rw [cell_of_row _ _ _ _ _ _ hr11]; rfl
  have t8 : w2.cell? ⟨Z11, 8, none⟩ = some (.slice (some ⟨tb, 0, none⟩) xl (xl + 1)) := by rw [cell_of_row _ _ _ _ _ _ hr11]; rfl
  simp only [Rv.v, Rv.tw] at HC1
  clear hr11
  go_wp2_with fail
  refine Calls.mono HC1.out ?_
  rintro e w3 ⟨ok, c, rfl, hN3, hC2⟩
  have HN3 : Hid (Nf w w2 w3) := hN3
  have HC2 := (show Hid _ from hC2)
  have hr5 := hN3.keep HR52.out HZw.out
  have a1 : w3.cell? ⟨Z5, 1, none⟩ = some (.int .u8 xk) := by rw [cell_of_row _ _ _ _ _ _ hr5]; rfl
  have a2 : w3.cell? ⟨Z5, 2, none⟩ = some (.int .i64 xf) := by rw [cell_of_row _ _ _ _ _ _ hr5]; rfl
  have a3 : w3.cell? ⟨Z5, 3, none⟩ = some (.int .i64 xn) := by rw [cell_of_row _ _ _ _ _ _ hr5]; rfl
  have a4 : w3.cell? ⟨Z5, 4, none⟩ = some (.string xa) := by rw [cell_of_row _ _ _ _ _ _ hr5]; rfl
  have a5 : w3.cell? ⟨Z5, 5, none⟩ = some (.string xb) := by rw [cell_of_row _ _ _ _ _ _ hr5]; rfl
  have a6 : w3.cell? ⟨Z5, 6, none⟩ = some (.bool xd) := by rw [cell_of_row _ _ _ _ _ _ hr5]; rfl
  have a7 : w3.cell? ⟨Z5, 7, none⟩ = some (.string xc) := by rw [cell_of_row _ _ _ _ _ _ hr5]; rfl
  have a8 : w3.cell? ⟨Z5, 8, none⟩ = some (.string xe) := by rw [cell_of_row _ _ _ _ _ _ hr5]; rfl
  have a9 : w3.cell? ⟨Z5, 9, none⟩ = some (.slice xo xl xm) := by rw [cell_of_row _ _ _ _ _ _ hr5]; rfl
  clear t0 t1 t2 t3 t4 t5 t6 t7 t8 HC1 hN3 hC2 hr5
  go_wp2_with fail
  refine Calls.mono HC2.out ?_
  rintro e w4 ⟨rfl, hN4, hR4, hP4⟩
  have HN4 : Hid (Nf w w2 w4 ∧ P w2 w4) := ⟨HN3.out.then hN4, hP4⟩
  have hr5 := HN4.out.1.keep HR52.out HZw.out
  have hr11 := HN4.out.1.keep HR11.out (by have := HZb.out; have := HF0.out.size; omega)
  have hrt := HN4.out.1.keep HRt.out (by have := HZb.out; have := HF0.out.size; omega)
  have HL : Hid (Calls _ _ _ _ _) := leftReq_any ⟨xk, xf, xn, xa, xb, xd, xc, xe, xo, xl, xm⟩ ns tb w4 hR4 hrt
  have HRows := (show Hid _ from And.intro hr11 hrt)
  clear a1 a2 a3 a4 a5 a6 a7 a8 a9 HC2 hN4 hP4 hR4
  have a1 : w4.cell? ⟨Z5, 1, none⟩ = some (.int .u8 xk) := by rw [cell_of_row _ _ _ _ _ _ hr5]; rfl
  have a2 : w4.cell? ⟨Z5, 2, none⟩ = some (.int .i64 xf) := by rw [cell_of_row _ _ _ _ _ _ hr5]; rfl
  have a3 : w4.cell? ⟨Z5, 3, none⟩ = some (.int .i64 xn) := by rw [cell_of_row _ _ _ _ _ _ hr5]; rfl
  have a4 : w4.cell? ⟨Z5, 4, none⟩ = some (.string xa) := by rw [cell_of_row _ _ _ _ _ _ hr5]; rfl
  have a5 : w4.cell? ⟨Z5, 5, none⟩ = some (.string xb) := by rw [cell_of_row _ _ _ _ _ _ hr5]; rfl
  have a6 : w4.cell? ⟨Z5, 6, none⟩ = some (.bool xd) := by rw [cell_of_row _ _ _ _ _ _ hr5]; rfl
  have a7 : w4.cell? ⟨Z5, 7, none⟩ = some (.string xc) := by rw [cell_of_row _ _ _ _ _ _ hr5]; rfl
  have a8 : w4.cell? ⟨Z5, 8, none⟩ = some (.string xe) := by rw [cell_of_row _ _ _ _ _ _ hr5]; rfl
  have a9 : w4.cell? ⟨Z5, 9, none⟩ = some (.slice xo xl xm) := by rw [cell_of_row _ _ _ _ _ _ hr5]; rfl
  have t0 : w4.cell? ⟨Z11, 0, none⟩ = some (.int .u8 xk) := by rw [cell_of_row _ _ _ _ _ _ hr11]; rfl
  have t1 : w4.cell? ⟨Z11, 1, none⟩ = some (.int .i64 xf) := by rw [cell_of_row _ _ _ _ _ _ hr11]; rfl
  have t2 : w4.cell? ⟨Z11, 2, none⟩ = some (.int .i64 xn) := by rw [cell_of_row _ _ _ _ _ _ hr11]; rfl
  have t3 : w4.cell? ⟨Z11, 3, none⟩ = some (.string xa) := by rw [cell_of_row _ _ _ _ _ _ hr11]; rfl
  have t4 : w4.cell? ⟨Z11, 4, none⟩ = some (.string xb) := by rw [cell_of_row _ _ _ _ _ _ hr11]; rfl
  have t5 : w4.cell? ⟨Z11, 5, none⟩ = some (.bool xd) := by rw [cell_of_row _ _ _ _ _ _ hr11]; rfl
  have t6 : w4.cell? ⟨Z11, 6, none⟩ = some (.string xc) := by rw [cell_of_row _ _ _ _ _ _ hr11]; rfl
  have t7 : w4.cell? ⟨Z11, 7, none⟩ = some (.string xe) := by rw [cell_of_row _ _ _ _ _ _ hr11]; rfl
  have t8 : w4.cell? ⟨Z11, 8, none⟩ = some (.slice (some ⟨tb, 0, none⟩) xl (xl + 1)) := by rw [cell_of_row _ _ _ _ _ _ hr11]; rfl
  simp only [Rv.v, Rv.tw] at HL
  clear hr5 hr11 hrt
  have bo : (ok != ok) = false := by simp
  go_wp2_with fail
  refine Calls.mono HL.out ?_
  rintro e w5 ⟨rfl, hF5⟩
  have HR6 : Hid (w5.heap[Z11]? = some (.cells #[.int .u8 xk, .int .i64 xf, .int .i64 xn, .string xa, .string xb, .bool xd, .string xc, .string xe, .slice (some ⟨tb, 0, none⟩) xl (xl + 1)] 36 (0, 0)) ∧ ∃ cur, w5.heap[tb]? = some (.cells cur 3 (0, 0)) ∧ cur.size = xl + 1) := ⟨hF5.keep HRows.out.1 (by simp), _, hF5.keep HRows.out.2 (by simp), by
    have := HB.out.len
    simp only at this
    simp [intsT_length, this]⟩
  have HF5 : Hid (Fr [tb] w4 w5) := hF5.mono (by simp)
  clear a1 a2 a3 a4 a5 a6 a7 a8 a9 t0 t1 t2 t3 t4 t5 t6 t7 t8 HL hF5
  go_wp2_with fail
  go_loopw [16] (fun ii wr => ∃ (i : Nat), ii = .int .i64 i ∧ i ≤ xl ∧ Hid ((wr.heap[Z11]? = some (.cells #[.int .u8 xk, .int .i64 xf, .int .i64 xn, .string xa, .string xb, .bool xd, .string xc, .string xe, .slice (some ⟨tb, 0, none⟩) xl (xl + 1)] 36 (0, 0)) ∧ ∃ cur, wr.heap[tb]? = some (.cells cur 3 (0, 0)) ∧ cur.size = xl + 1) ∧ Fr [tb] w4 wr)) (fun ii _ => xl - (RowKit.intOf ii).toNat)
  case atStart => exact ⟨0, rfl, Nat.zero_le _, HR6.out, HF5.out⟩
  case round =>
    obtain ⟨i, rfl, hil, HI⟩ := hrel
    obtain ⟨⟨k11, cur, kt, hcs⟩, hf⟩ := HI.out
    have t8 : wr.cell? ⟨Z11, 8, none⟩ = some (.slice (some ⟨tb, 0, none⟩) xl (xl + 1)) := by rw [cell_of_row _ _ _ _ _ _ k11]; rfl
    by_cases hi : i < xl
    · have ci : wr.cell? ⟨tb, i, none⟩ = some cur[i] := by rw [cell_of_row _ _ _ _ _ _ kt]; simp
      have zi : wr.frozen? ⟨tb, i, none⟩ = false := by simp [World.frozen?, kt]
      have hS : Fr [tb] wr (wr.setCell ⟨tb, i, none⟩ (.int .i64 (-77))) := Fr.set _ _ _ (by simp)
      have HN : Hid (((wr.setCell ⟨tb, i, none⟩ (.int .i64 (-77))).heap[Z11]? = some (.cells #[.int .u8 xk, .int .i64 xf, .int .i64 xn, .string xa, .string xb, .bool xd, .string xc, .string xe, .slice (some ⟨tb, 0, none⟩) xl (xl + 1)] 36 (0, 0)) ∧ ∃ cur, (wr.setCell ⟨tb, i, none⟩ (.int .i64 (-77))).heap[tb]? = some (.cells cur 3 (0, 0)) ∧ cur.size = xl + 1) ∧ Fr [tb] w4 (wr.setCell ⟨tb, i, none⟩ (.int .i64 (-77)))) := ⟨⟨hS.keep k11 (by simp; exact HNe.out.1), _, vrow_setCell _ kt, by simpa using hcs⟩, hf.then hS⟩
      generalize cur[i] = old at ci
      clear HI k11 kt hf hS
      go_wp2_with fail
      go_roundw
      case rel => exact ⟨i + 1, by simp, by omega, HN⟩
      case measure => simp [RowKit.intOf]; omega
    · clear k11 kt
      go_wp2
      go_ret
      exact ⟨rfl, w2, w4, [tb], HG2.out, HN4.out.2, hf, by intro j hj; simp at hj; subst hj; exact ⟨by have := HZb.out; have := HF0.out.size; omega, Or.inl (lt_of_block HRt.out)⟩⟩
end Go.Proofs.YtomajifklajilaaGreat

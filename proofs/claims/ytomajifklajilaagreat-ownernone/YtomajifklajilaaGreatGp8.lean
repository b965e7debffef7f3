/- Texts of this claim laid together, one behind the other: contracts and plain lemmas; conditions as each names them. -/
import Derived.Test.YtomajifklajilaaGreatGp2
import Derived.Laws.ResultCell
import Derived.Deep.RegionLaw
import Derived.Deep.RegionWith
import Derived.Deep.RegionHeld3
import Derived.Deep.CutRange
import Derived.Test.YtomajifklajilaaGreatGp7
import Derived.Test.YtomajifklajilaaGreatGp3
/- What the statements' helpers TwinVersions and LeftVersions answer. Conditions: fewer than 2^21 versions. -/
namespace Go.Proofs.YtomajifklajilaaGreat
open Go.ChangeShapes Go.WideShapes Go.ChangeAt Go.RowKit Go.Lib
set_option linter.unusedVariables false
set_option linter.unusedSimpArgs false

/-- The version that stands in a twin's spare room. -/
def spV : Vn := ⟨7777, ⟨#[]⟩, false⟩
theorem Tryz.infoVnW : (Tryz.prog.info? 110).map (fun i => (i.zero, i.size, i.bytes)) = some (some (.agg #[.int .i64 0, .string ⟨#[]⟩, .bool false]), 3, 32) := by kernel_rfl
theorem Tryz.undVnsW : Tryz.prog.underlying 68 = some (.slice 110) := by kernel_rfl
theorem vown_full {w : World} {g n : Nat} {xs : List Value} (h : w.ownsRow 0 110 3 (.slice (some ⟨g, 0, none⟩) n n) n xs) : w.heap[g]? = some (.cells xs.toArray 110 (0, 0)) := by
  have hl := h.1
  rcases h.2 with ⟨hh, _⟩ | ⟨g', cap', cur, hh, _, hg, _, _, hcs, ht⟩
  · cases hh
  · cases hh
    rw [hg]
    congr 2
    rw [← Array.toList_inj]
    simp only
    rw [← ht, List.take_of_length_le (by simp [hcs])]

set_option maxHeartbeats 4000000 in
set_option maxRecDepth 100000 in
theorem twinVs_any (ao : Option Addr) (L cap : Nat) (ws : List Vn) (w : World) (h : VRs w ao ws) (hLe : L = ws.length) (hL : L < 2^21) :
    Calls Tryz.prog 51 #[.slice ao L cap] w fun e w' => ∃ b, e = .returned (.slice (some ⟨b, 0, none⟩) L (L + 1)) ∧ w.heap.size ≤ b ∧ w'.heap[b]? = some (.cells (vnsC (ws ++ [spV])).toArray 110 (0, 0)) ∧ Fr [] w w' := by
  obtain ⟨i0, hi, hz0, hz1, hz2⟩ := info_parts Tryz.infoVnW
  have HL : Hid (L = ws.length) := hLe
  clear hLe
  go_enter Tryz.func51, Tryz.ntmps51
  go_wp2_with (at_make; refine wpList_make_own _ rfl (.const (.int .i64 0)) (.tmp 7) 68 rfl 0 110 i0 _ 3 Tryz.undVnsW hi hz0 hz1 .i64 .i64 ((L : Int) + 1) (L + 1) rfl rfl ?bC ?b2 ?b3 ?b4 ?_)
  case bC => simp
  case b2 => rw [hz2]; omega
  case b3 => unfold maxLen; omega
  case b4 => exact Nat.zero_le _
  intro w1 hown hgrow
  obtain ⟨g, hg⟩ : ∃ g, g = w.heap.size := ⟨_, rfl⟩
  have hgw : w.heap.size ≤ g := by omega
  rw [← hg] at hown ⊢
  have h01 : Fr [] w w1 := Fr.grown (S := []) hgrow (by simp)
  clear hgrow hg
  go_wp2_with fail
  go_loopw [3, 4] (fun vv ii wr => ∃ i : Nat, vv = .slice (some ⟨g, 0, none⟩) i (L + 1) ∧ ii = .int .i64 i ∧ i ≤ L ∧ wr.ownsRow 0 110 3 (.slice (some ⟨g, 0, none⟩) i (L + 1)) i (vnsC (ws.take i)) ∧ Fr [] w wr) (fun _ ii _ => L - (RowKit.intOf ii).toNat)
  case atStart => exact ⟨0, rfl, rfl, Nat.zero_le _, hown, h01⟩
  case round =>
    obtain ⟨i, rfl, rfl, hiL, hO, hF⟩ := hrel
    have hsz := (hO.lt g rfl).2
    by_cases hil : i < L
    · have hi' : i < ws.length := by rw [← HL.out]; exact hil
      obtain ⟨b, off, e, _, hc⟩ := (h.keep hF).lies (by omega)
      subst e
      obtain ⟨d0, d1, d2⟩ := hc i hi'
      obtain ⟨x, hx⟩ : ∃ x, x = ws.getD i Vn.zero := ⟨_, rfl⟩
      rw [← hx] at d0 d1 d2
      have HE : Hid (vnsC (ws.take (i + 1)) = vnsC (ws.take i) ++ [.int .i64 x.num, .string x.val, .bool x.drop]) := by
        show _ = _
        rw [vtake_snoc ws i hi', vnsC_append, ← hx]; rfl
      clear hc hx
      obtain ⟨key, val, drop⟩ := x
      simp only at d0 d1 d2 HE
      go_wp2_with (at_builtin; refine wpList_append_fits _ rfl (.tmp 15) (.tmp 20) 68 rfl 0 110 i0 3 Tryz.undVnsW hi hz1 g i (L + 1) _ rfl (hO.alloc _) ⟨wr.heap.size, 0, none⟩ 1 1 [.int .i64 key, .string val, .bool drop] rfl rfl ?c1 ?c2 ?c3 ?_)
      case c1 => intro j u hj; match j, hj with | 0, hj => simp at hj; subst hj; simp [Addr.add] | 1, hj => simp at hj; subst hj; simp [Addr.add] | 2, hj => simp at hj; subst hj; simp [Addr.add]
      case c2 => intro u hu; simp at hu; rcases hu with rfl | rfl | rfl <;> rfl
      case c3 => omega
      intro w2 hO2 hg2
      rw [← HE.out] at hO2
      have hF2 : Fr [] w w2 := (hF.then (Fr.alloc [] wr _)).on (Fr.grown (S := [g]) hg2 (by intro k hk _; cases hk; simp)) (by intro y hy; simp at hy; omega)
      clear hO hg2 hF d0 d1 d2
      go_wp2
      go_roundw
      case rel => exact ⟨i + 1, rfl, by simp, by omega, hO2, hF2⟩
      case measure => simp [RowKit.intOf]; omega
    · have hiL' : L ≤ i := by omega
      obtain rfl : i = L := by omega
      have HE : Hid (vnsC (ws ++ [spV]) = vnsC (ws.take i) ++ [.int .i64 7777, .string ⟨#[]⟩, .bool false]) := by
        show _ = _
        rw [List.take_of_length_le (by rw [← HL.out]; omega), vnsC_append]; rfl
      go_wp2_with (at_builtin; refine wpList_append_fits _ rfl (.tmp 22) (.tmp 24) 68 rfl 0 110 i0 3 Tryz.undVnsW hi hz1 g i (i + 1) _ rfl (hO.alloc _) ⟨wr.heap.size, 0, none⟩ 1 1 [.int .i64 7777, .string ⟨#[]⟩, .bool false] rfl rfl ?c1 ?c2 ?c3 ?_)
      case c1 => intro j u hj; match j, hj with | 0, hj => simp at hj; subst hj; simp [Addr.add] | 1, hj => simp at hj; subst hj; simp [Addr.add] | 2, hj => simp at hj; subst hj; simp [Addr.add]
      case c2 => intro u hu; simp at hu; rcases hu with rfl | rfl | rfl <;> rfl
      case c3 => omega
      intro w2 hO2 hg2
      rw [← HE.out] at hO2
      have hF2 : Fr [] w w2 := (hF.then (Fr.alloc [] wr _)).on (Fr.grown (S := [g]) hg2 (by intro k hk _; cases hk; simp)) (by intro y hy; simp at hy; omega)
      have HRow : Hid (w2.heap[g]? = some (.cells (vnsC (ws ++ [spV])).toArray 110 (0, 0))) := vown_full hO2
      clear hO hg2 hF hO2
      go_wp2
      go_ret
      exact ⟨g, rfl, hgw, HRow.out, hF2⟩


set_option maxHeartbeats 4000000 in
set_option maxRecDepth 100000 in
theorem leftVs_any (t : Nat) (ao : Option Addr) (L cap : Nat) (ws : List Vn) (w : World) (h : VRs w ao ws) (hLe : L = ws.length) (hL : L < 2^21) (hrow : w.heap[t]? = some (.cells (vnsC (ws ++ [spV])).toArray 110 (0, 0))) :
    Calls Tryz.prog 56 #[.slice (some ⟨t, 0, none⟩) L (L + 1), .slice ao L cap] w fun e w' => e = .returned (.bool true) ∧ Fr [] w w' := by
  have HL : Hid (L = ws.length) := hLe
  clear hLe
  have hct : ∀ j, j < L → VAt w t (j * 3) (ws.getD j Vn.zero) := by
    intro j hj
    have key : ∀ c, c < 3 → w.cell? ⟨t, j * 3 + c, none⟩ = (vnC (ws.getD j Vn.zero))[c]? := by
      intro c hc
      rw [cell_of_row _ _ _ _ _ _ hrow]
      have := vnsC_get (ws ++ [spV]) j c (by rw [List.length_append, ← HL.out]; simp; omega) hc
      have e : (ws ++ [spV]).getD j Vn.zero = ws.getD j Vn.zero := by simp [List.getD, List.getElem?_append_left (show j < ws.length by rw [← HL.out]; exact hj)]
      rw [e] at this
      simpa using this
    exact ⟨key 0 (by omega), key 1 (by omega), key 2 (by omega)⟩
  have hsp : VAt w t (L * 3) spV := by
    have key : ∀ c, c < 3 → w.cell? ⟨t, L * 3 + c, none⟩ = (vnC spV)[c]? := by
      intro c hc
      rw [cell_of_row _ _ _ _ _ _ hrow]
      have := vnsC_get (ws ++ [spV]) L c (by rw [List.length_append, ← HL.out]; simp) hc
      have e : (ws ++ [spV]).getD L Vn.zero = spV := by simp [List.getD, HL.out]
      rw [e] at this
      simpa using this
    exact ⟨key 0 (by omega), key 1 (by omega), key 2 (by omega)⟩
  have hne : ((L : Int) != L) = false := by simp
  have hgd := Tryz.guardVn
  clear hrow
  go_enter Tryz.func56, Tryz.ntmps56
  go_wp2_with fail
  go_loopw [5] (fun ii wr => ∃ (i q : Nat), ii = .int .i64 i ∧ i ≤ L ∧ Hid (wr = w.drewN q)) (fun ii _ => L - (RowKit.intOf ii).toNat)
  case atStart => exact ⟨0, 0, rfl, Nat.zero_le _, rfl⟩
  case round =>
    obtain ⟨i, q, rfl, hiL, HQ⟩ := hrel
    have hce : ∀ a, wr.cell? a = w.cell? a := fun a => by rw [HQ.out]; rfl
    by_cases hi : i < L
    · have hi' : i < ws.length := by rw [← HL.out]; exact hi
      obtain ⟨b, off, e, _, hc⟩ := h.lies (by omega)
      subst e
      obtain ⟨c0, c1, c2⟩ := hct i hi
      obtain ⟨d0, d1, d2⟩ := hc i hi'
      obtain ⟨x, hxx⟩ : ∃ x, x = ws.getD i Vn.zero := ⟨_, rfl⟩
      rw [← hxx, ← hce] at c0 c1 c2 d0 d1 d2
      clear hxx hct hc hsp hce
      have hq : ∀ w', (Op.equalIn 10000 110 (.agg #[.int .i64 x.num, .string x.val, .bool x.drop]) (.agg #[.int .i64 x.num, .string x.val, .bool x.drop])).run Tryz.prog w' = .ok true w' := fun w' => by rw [vn_in w' x x, (sameV_iff x x).2 rfl]
      go_wp2_with fail
      go_quiet (fail)
      go_wp2
      go_roundw
      case rel => exact ⟨i + 1, q + nq, by simp, by omega, by show _ = _; rw [HQ.out]; simp⟩
      case measure => simp [RowKit.intOf]; omega
    · have hiL' : L ≤ i := by omega
      obtain ⟨c0, c1, c2⟩ := hsp
      rw [← hce] at c0 c1 c2
      have hFq : Fr [] w wr := by rw [HQ.out]; exact Fr.drewN _ _ _
      clear hct hce
      have hq : ∀ w', (Op.equalIn 10000 110 (.agg #[.int .i64 7777, .string ⟨#[]⟩, .bool false]) (.agg #[.int .i64 7777, .string ⟨#[]⟩, .bool false])).run Tryz.prog w' = .ok true w' := fun w' => by
        have := vn_in w' spV spV
        rw [(sameV_iff spV spV).2 rfl] at this
        exact this
      simp only [spV] at c0 c1 c2
      go_wp2
      go_ret
      exact ⟨by simp, hFq.then (Fr.alloc [] _ _)⟩

end Go.Proofs.YtomajifklajilaaGreat
/- What the statements' helpers TwinInts and LeftInts answer; numbers that came in. Conditions: as many numbers as may come in. -/
namespace Go.Proofs.YtomajifklajilaaGreat
open Go.ChangeShapes Go.WideShapes Go.ChangeAt Go.RowKit Go.Lib
set_option linter.unusedVariables false
set_option linter.unusedSimpArgs false

def intsT (ns : List Int) : List Value := ns.map fun n => Value.int .i64 n
theorem intsT_length (xs : List Int) : (intsT xs).length = xs.length := by simp [intsT]
theorem intsT_get (xs : List Int) (j : Nat) (h : j < xs.length) : (intsT xs)[j]? = some (.int .i64 (xs.getD j 0)) := by simp [intsT, List.getD, h]
theorem Tryz.infoIW : (Tryz.prog.info? 3).map (fun i => (i.zero, i.size, i.bytes)) = some (some (.int .i64 0), 1, 8) := by kernel_rfl
theorem Tryz.undIsW : Tryz.prog.underlying 34 = some (.slice 3) := by kernel_rfl
theorem iown_full {w : World} {g n : Nat} {xs : List Value} (h : w.ownsRow 0 3 1 (.slice (some ⟨g, 0, none⟩) n n) n xs) : w.heap[g]? = some (.cells xs.toArray 3 (0, 0)) := by
  have hl := h.1
  rcases h.2 with ⟨hh, _⟩ | ⟨g', cap', cur, hh, _, hg, _, _, hcs, ht⟩
  · cases hh
  · cases hh
    rw [hg]
    congr 2
    rw [← Array.toList_inj]
    simp only
    rw [← ht, List.take_of_length_le (by simp [hcs])]
set_option maxHeartbeats 4000000 in
set_option maxRecDepth 100000 in
theorem twinIs_any (ao : Option Addr) (L cap : Nat) (ws : List Int) (w : World) (h : IRs w ao ws) (hLe : L = ws.length) (hL : L ≤ 17592186044416) :
    Calls Tryz.prog 40 #[.slice ao L cap] w fun e w' => ∃ b, e = .returned (.slice (some ⟨b, 0, none⟩) L (L + 1)) ∧ w.heap.size ≤ b ∧ w'.heap[b]? = some (.cells (intsT (ws ++ [7777])).toArray 3 (0, 0)) ∧ Fr [] w w' := by
  obtain ⟨i0, hi, hz0, hz1, hz2⟩ := info_parts Tryz.infoIW
  have HL : Hid (L = ws.length) := hLe
  clear hLe
  go_enter Tryz.func40, Tryz.ntmps40
  go_wp2_with (at_make; refine wpList_make_own _ rfl (.const (.int .i64 0)) (.tmp 7) 34 rfl 0 3 i0 _ 1 Tryz.undIsW hi hz0 hz1 .i64 .i64 ((L : Int) + 1) (L + 1) rfl rfl ?bC ?b2 ?b3 ?b4 ?_)
  case bC => simp
  case b2 => rw [hz2]; omega
  case b3 => unfold maxLen; omega
  case b4 => exact Nat.zero_le _
  intro w1 hown hgrow
  obtain ⟨g, hg⟩ : ∃ g, g = w.heap.size := ⟨_, rfl⟩
  have hgw : w.heap.size ≤ g := by omega
  rw [← hg] at hown ⊢
  have h01 : Fr [] w w1 := Fr.grown (S := []) hgrow (by simp)
  clear hgrow hg
  go_wp2_with fail
  go_loopw [3, 4] (fun vv ii wr => ∃ i : Nat, vv = .slice (some ⟨g, 0, none⟩) i (L + 1) ∧ ii = .int .i64 i ∧ i ≤ L ∧ wr.ownsRow 0 3 1 (.slice (some ⟨g, 0, none⟩) i (L + 1)) i (intsT (ws.take i)) ∧ Fr [] w wr) (fun _ ii _ => L - (RowKit.intOf ii).toNat)
  case atStart => exact ⟨0, rfl, rfl, Nat.zero_le _, hown, h01⟩
  case round =>
    obtain ⟨i, rfl, rfl, hiL, hO, hF⟩ := hrel
    have hsz := (hO.lt g rfl).2
    by_cases hil : i < L
    · have hi' : i < ws.length := by rw [← HL.out]; exact hil
      obtain ⟨b, off, e, _, hc⟩ := (h.keep hF).lies (by omega)
      subst e
      have d0 := hc i hi'
      obtain ⟨x, hx⟩ : ∃ x, x = ws.getD i 0 := ⟨_, rfl⟩
      rw [← hx] at d0
      have HE : Hid (intsT (ws.take (i + 1)) = intsT (ws.take i) ++ [.int .i64 x]) := by
        show _ = _
        rw [itake_snoc ws i hi', ← hx]; simp [intsT]
      clear hc hx
      go_wp2_with (at_builtin; refine wpList_append_fits _ rfl (.tmp 15) (.tmp 20) 34 rfl 0 3 i0 1 Tryz.undIsW hi hz1 g i (L + 1) _ rfl (hO.alloc _) ⟨wr.heap.size, 0, none⟩ 1 1 [.int .i64 x] rfl rfl ?c1 ?c2 ?c3 ?_)
      case c1 => intro j u hj; match j, hj with | 0, hj => simp at hj; subst hj; simp [Addr.add]
      case c2 => intro u hu; simp at hu; subst hu; rfl
      case c3 => omega
      intro w2 hO2 hg2
      rw [← HE.out] at hO2
      have hF2 : Fr [] w w2 := (hF.then (Fr.alloc [] wr _)).on (Fr.grown (S := [g]) hg2 (by intro k hk _; cases hk; simp)) (by intro y hy; simp at hy; omega)
      clear hO hg2 hF d0
      go_wp2
      go_roundw
      case rel => exact ⟨i + 1, rfl, by simp, by omega, hO2, hF2⟩
      case measure => simp [RowKit.intOf]; omega
    · have hiL' : L ≤ i := by omega
      obtain rfl : i = L := by omega
      have HE : Hid (intsT (ws ++ [7777]) = intsT (ws.take i) ++ [.int .i64 7777]) := by
        show _ = _
        rw [List.take_of_length_le (by rw [← HL.out]; omega)]; simp [intsT]
      go_wp2_with (at_builtin; refine wpList_append_fits _ rfl (.tmp 22) (.tmp 23) 34 rfl 0 3 i0 1 Tryz.undIsW hi hz1 g i (i + 1) _ rfl (hO.alloc _) ⟨wr.heap.size, 0, none⟩ 1 1 [.int .i64 7777] rfl rfl ?c1 ?c2 ?c3 ?_)
      case c1 => intro j u hj; match j, hj with | 0, hj => simp at hj; subst hj; simp [Addr.add]
      case c2 => intro u hu; simp at hu; subst hu; rfl
      case c3 => omega
      intro w2 hO2 hg2
      rw [← HE.out] at hO2
      have hF2 : Fr [] w w2 := (hF.then (Fr.alloc [] wr _)).on (Fr.grown (S := [g]) hg2 (by intro k hk _; cases hk; simp)) (by intro y hy; simp at hy; omega)
      have HRow : Hid (w2.heap[g]? = some (.cells (intsT (ws ++ [7777])).toArray 3 (0, 0))) := iown_full hO2
      clear hO hg2 hF hO2
      go_wp2
      go_ret
      exact ⟨g, rfl, hgw, HRow.out, hF2⟩
set_option maxHeartbeats 4000000 in
set_option maxRecDepth 100000 in
theorem leftIs_any (t : Nat) (ao : Option Addr) (L cap : Nat) (ws : List Int) (w : World) (h : IRs w ao ws) (hLe : L = ws.length) (hL : L ≤ 17592186044416) (hrow : w.heap[t]? = some (.cells (intsT (ws ++ [7777])).toArray 3 (0, 0))) :
    Calls Tryz.prog 45 #[.slice (some ⟨t, 0, none⟩) L (L + 1), .slice ao L cap] w fun e w' => e = .returned (.bool true) ∧ Fr [] w w' := by
  have HL : Hid (L = ws.length) := hLe
  clear hLe
  have hct : ∀ j, j < L → w.cell? ⟨t, j, none⟩ = some (.int .i64 (ws.getD j 0)) := by
    intro j hj
    rw [cell_of_row _ _ _ _ _ _ hrow, List.getElem?_toArray, intsT_get _ _ (by rw [List.length_append, ← HL.out]; simp; omega)]
    have e : (ws ++ [7777]).getD j 0 = ws.getD j 0 := by simp [List.getD, List.getElem?_append_left (show j < ws.length by rw [← HL.out]; exact hj)]
    rw [e]
  have hsp : w.cell? ⟨t, L, none⟩ = some (.int .i64 7777) := by
    rw [cell_of_row _ _ _ _ _ _ hrow, List.getElem?_toArray, intsT_get _ _ (by rw [List.length_append, ← HL.out]; simp)]
    have e : (ws ++ [7777]).getD L 0 = 7777 := by simp [List.getD, HL.out]
    rw [e]
  have hne : ((L : Int) != L) = false := by simp
  clear hrow
  go_enter Tryz.func45, Tryz.ntmps45
  go_wp2_with fail
  go_loopw [5] (fun ii wr => ∃ (i q : Nat), ii = .int .i64 i ∧ i ≤ L ∧ Hid (wr = w.drewN q)) (fun ii _ => L - (RowKit.intOf ii).toNat)
  case atStart => exact ⟨0, 0, rfl, Nat.zero_le _, rfl⟩
  case round =>
    obtain ⟨i, q, rfl, hiL, HQ⟩ := hrel
    have hce : ∀ a, wr.cell? a = w.cell? a := fun a => by rw [HQ.out]; rfl
    by_cases hi : i < L
    · have hi' : i < ws.length := by rw [← HL.out]; exact hi
      obtain ⟨b, off, e, _, hc⟩ := h.lies (by omega)
      subst e
      have c0 := hct i hi
      have d0 := hc i hi'
      obtain ⟨x, hxx⟩ : ∃ x, x = ws.getD i 0 := ⟨_, rfl⟩
      rw [← hxx, ← hce] at c0 d0
      clear hxx hct hc hsp hce
      have hq : (x != x) = false := by simp
      go_wp2_with fail
      go_quiet (fail)
      go_wp2
      go_roundw
      case rel => exact ⟨i + 1, q + nq, by simp, by omega, by show _ = _; rw [HQ.out]; simp⟩
      case measure => simp [RowKit.intOf]; omega
    · have hiL' : L ≤ i := by omega
      have c0 := hsp
      rw [← hce] at c0
      have hFq : Fr [] w wr := by rw [HQ.out]; exact Fr.drewN _ _ _
      clear hct hce hsp
      go_wp2
      go_ret
      exact ⟨by simp, hFq⟩
end Go.Proofs.YtomajifklajilaaGreat
/- The statements' helpers TwinReq, LeftReq. Conditions as each names them. -/
namespace Go.Proofs.YtomajifklajilaaGreat
open Go.ChangeShapes Go.WideShapes Go.ChangeAt Go.RowKit Go.Lib
set_option linter.unusedVariables false
set_option linter.unusedSimpArgs false
theorem sets9_rowz {W : World} {b : Nat} {t : TypeId} {u0 u1 u2 u3 u4 u5 u6 u7 u8 : Value} (v0 v1 v2 v3 v4 v5 v6 v7 v8 : Value) (h : W.heap[b]? = some (.cells #[u0, u1, u2, u3, u4, u5, u6, u7, u8] t (0, 0))) : (sets9z W b v0 v1 v2 v3 v4 v5 v6 v7 v8).heap[b]? = some (.cells #[v0, v1, v2, v3, v4, v5, v6, v7, v8] t (0, 0)) ∧ Fr [b] W (sets9z W b v0 v1 v2 v3 v4 v5 v6 v7 v8) := by
  rw [sets9z_is]
  obtain ⟨h1, h2⟩ := setCells_row [v0, v1, v2, v3, v4, v5, v6, v7, v8] 0 W _ h (by simp)
  exact ⟨h1.trans (by simp [splice]), h2⟩
/-- A request's twin. -/
def Rv.tw (x : Rv) (tb : Nat) : Rv := ⟨x.k, x.f, x.n, x.wk, x.wv, x.wd, x.key, x.en, some ⟨tb, 0, none⟩, x.bl, x.bl + 1⟩
set_option maxHeartbeats 1000000 in
set_option maxRecDepth 100000 in
theorem twinReq_any (x : Rv) (ns : List Int) (w : World) (hR : RqB w x ns) : Calls Tryz.prog 16 #[x.v] w fun e w' => ∃ tb, e = .returned (x.tw tb).v ∧ w.heap.size ≤ tb ∧ w'.heap[tb]? = some (.cells (intsT (ns ++ [7777])).toArray 3 (0, 0)) ∧ Fr [] w w' := by
  obtain ⟨xk, xf, xn, xa, xb, xd, xc, xe, xo, xl, xm⟩ := x
  obtain ⟨wz, HWz⟩ : ∃ wz, Hid ((w.alloc (.cells #[.int .u8 xk, .int .i64 xf, .int .i64 xn, .string xa, .string xb, .bool xd, .string xc, .string xe, .slice xo xl xm] 36)).alloc (.cells #[.int .u8 0, .int .i64 0, .int .i64 0, .string ⟨#[]⟩, .string ⟨#[]⟩, .bool false, .string ⟨#[]⟩, .string ⟨#[]⟩, .slice none 0 0] 36) = wz) := ⟨_, rfl⟩
  have hF0 : Fr [] w wz := by rw [← HWz.out]; exact (Fr.alloc [] w _).then (Fr.alloc [] _ _)
  have hr1 : wz.heap[w.heap.size]? = some (.cells #[.int .u8 xk, .int .i64 xf, .int .i64 xn, .string xa, .string xb, .bool xd, .string xc, .string xe, .slice xo xl xm] 36 (0, 0)) := by rw [← HWz.out]; exact (Fr.alloc [] _ _).keep (heap_alloc_new w _) (by simp)
  have hr2 : wz.heap[w.heap.size + 1]? = some (.cells #[.int .u8 0, .int .i64 0, .int .i64 0, .string ⟨#[]⟩, .string ⟨#[]⟩, .bool false, .string ⟨#[]⟩, .string ⟨#[]⟩, .slice none 0 0] 36 (0, 0)) := by
    rw [← HWz.out, show w.heap.size + 1 = (w.alloc (.cells #[.int .u8 xk, .int .i64 xf, .int .i64 xn, .string xa, .string xb, .bool xd, .string xc, .string xe, .slice xo xl xm] 36)).heap.size by simp]
    exact heap_alloc_new _ _
  obtain ⟨Z1, HZ1⟩ : ∃ Z, Hid (w.heap.size = Z) := ⟨_, rfl⟩
  obtain ⟨Z2, HZ2⟩ : ∃ Z, Hid (w.heap.size + 1 = Z) := ⟨_, rfl⟩
  rw [HZ1.out] at hr1
  rw [HZ2.out] at hr2
  have h12 : Z1 ≠ Z2 := by rw [← HZ1.out, ← HZ2.out]; omega
  have h21 : Z2 ≠ Z1 := fun e => h12 e.symm
  have HC : Hid (∀ W, Fr [] wz W → Calls _ _ _ _ _) := fun W hf => twinIs_any xo xl xm ns W (hR.is.keep (hF0.then hf)) hR.len (by have := hR.is.few; have := hR.len; simp only at this; omega)
  have HS : Hid (∀ W, Fr [] wz W → (W.cell? ⟨Z1, 0, none⟩ = some (.int .u8 xk) ∧ W.cell? ⟨Z1, 1, none⟩ = some (.int .i64 xf) ∧ W.cell? ⟨Z1, 2, none⟩ = some (.int .i64 xn) ∧ W.cell? ⟨Z1, 3, none⟩ = some (.string xa) ∧ W.cell? ⟨Z1, 4, none⟩ = some (.string xb) ∧ W.cell? ⟨Z1, 5, none⟩ = some (.bool xd) ∧ W.cell? ⟨Z1, 6, none⟩ = some (.string xc) ∧ W.cell? ⟨Z1, 7, none⟩ = some (.string xe) ∧ W.cell? ⟨Z1, 8, none⟩ = some (.slice xo xl xm)) ∧ RvAt W Z2 0 Rv.zero ∧ ∀ j, W.frozen? ⟨Z2, j, none⟩ = false) := fun W hf => by
    have hz := RvAt.ofRow (x := ⟨xk, xf, xn, xa, xb, xd, xc, xe, xo, xl, xm⟩) (hf.keep hr1 (by simp))
    have k2 := hf.keep hr2 (by simp)
    exact ⟨⟨hz.c0, hz.c1, hz.c2, hz.c3, hz.c4, hz.c5, hz.c6, hz.c7, hz.c8⟩, RvAt.ofRow (x := Rv.zero) k2, fun j => by simp [World.frozen?, k2]⟩
  have HK : Hid (∀ W tb, Fr [] wz W → (sets9z W Z2 (.int .u8 xk) (.int .i64 xf) (.int .i64 xn) (.string xa) (.string xb) (.bool xd) (.string xc) (.string xe) (.slice (some ⟨tb, 0, none⟩) xl (xl + 1))).heap[Z2]? = some (.cells #[.int .u8 xk, .int .i64 xf, .int .i64 xn, .string xa, .string xb, .bool xd, .string xc, .string xe, .slice (some ⟨tb, 0, none⟩) xl (xl + 1)] 36 (0, 0)) ∧ Fr [Z2] W (sets9z W Z2 (.int .u8 xk) (.int .i64 xf) (.int .i64 xn) (.string xa) (.string xb) (.bool xd) (.string xc) (.string xe) (.slice (some ⟨tb, 0, none⟩) xl (xl + 1)))) := fun W tb hf => sets9_rowz _ _ _ _ _ _ _ _ _ (hf.keep hr2 (by simp))
  have HZw : Hid (w.heap.size < Z2) := by show _ < _; rw [← HZ2.out]; omega
  have HF0 : Hid (Fr [] w wz) := hF0
  have HZl : Hid (Z2 < wz.heap.size) := lt_of_block hr2
  clear hR hF0 hr1 hr2
  simp only [Rv.v, Rv.tw]
  go_enter Tryz.func16, Tryz.ntmps16
  go_upto_region 1 with fail
  rw [HWz.out, HZ2.out, HZ1.out]
  clear HWz HZ1 HZ2
  obtain ⟨⟨e0, e1, e2, e3, e4, e5, e6, e7, e8⟩, _⟩ := HS.out _ (Fr.refl _ _)
  go_region_held3 (fun W => W.cell? ⟨Z1, 0, none⟩ = some (.int .u8 xk) ∧ W.cell? ⟨Z1, 1, none⟩ = some (.int .i64 xf) ∧ W.cell? ⟨Z1, 2, none⟩ = some (.int .i64 xn) ∧ W.cell? ⟨Z1, 3, none⟩ = some (.string xa) ∧ W.cell? ⟨Z1, 4, none⟩ = some (.string xb) ∧ W.cell? ⟨Z1, 5, none⟩ = some (.bool xd) ∧ W.cell? ⟨Z1, 6, none⟩ = some (.string xc) ∧ W.cell? ⟨Z1, 7, none⟩ = some (.string xe) ∧ W.cell? ⟨Z1, 8, none⟩ = some (.slice xo xl xm)) (go_keep)
    (first
      | (with_reducible refine Calls.mono (HC.out _ (Fr.drew _ _)) ?_; rintro e w3 ⟨tb, rfl, htb, hrt, hF3⟩; have hF3' := (Fr.drew [] wz).then hF3; obtain ⟨⟨z0, z1, z2, z3, z4, z5, z6, z7, z8⟩, ⟨o0, o1, o2, o3, o4, o5, o6, o7, o8⟩, y5⟩ := HS.out _ hF3'; simp only [Nat.zero_add] at o1 o2 o3 o4 o5 o6 o7 o8))
  all_goals (
    obtain ⟨k1, k2⟩ := HK.out w3 tb hF3'
    unfold sets9z at k1 k2
    go_wp2_with fail
    refine bodyPost_ret (results_c_row rfl _ _ _ _ _ rfl (load_req ⟨xk, xf, xn, xa, xb, xd, xc, xe, some ⟨tb, 0, none⟩, xl, xl + 1⟩ k1)) rfl ?_
    have s0 := HF0.out.size
    have s1 : wz.heap.size ≤ tb := htb
    have s2 := HZl.out
    exact ⟨tb, rfl, by omega, k2.keep hrt (by simp; omega), (HF0.out.then hF3').on k2 (by intro y hy; simp at hy; have := HZw.out; omega)⟩)
set_option maxHeartbeats 4000000 in
set_option maxRecDepth 100000 in
theorem leftReq_any (x : Rv) (ns : List Int) (tb : Nat) (w : World) (hR : RqB w x ns) (hrow : w.heap[tb]? = some (.cells (intsT (ns ++ [7777])).toArray 3 (0, 0))) : Calls Tryz.prog 19 #[(x.tw tb).v, x.v] w fun e w' => e = .returned (.bool true) ∧ Fr [] w w' := by
  obtain ⟨xk, xf, xn, xa, xb, xd, xc, xe, xo, xl, xm⟩ := x
  have HC : Hid (∀ W, Fr [] w W → Calls _ _ _ _ _) := fun W hf => leftIs_any tb xo xl xm ns W (hR.is.keep hf) hR.len (by have := hR.is.few; have := hR.len; simp only at this; omega) (hf.keep hrow (by simp))
  have hF0 : Fr [] w ((w.alloc (.cells #[.int .u8 xk, .int .i64 xf, .int .i64 xn, .string xa, .string xb, .bool xd, .string xc, .string xe, .slice (some ⟨tb, 0, none⟩) xl (xl + 1)] 36)).alloc (.cells #[.int .u8 xk, .int .i64 xf, .int .i64 xn, .string xa, .string xb, .bool xd, .string xc, .string xe, .slice xo xl xm] 36)) := (Fr.alloc [] w _).then (Fr.alloc [] _ _)
  have HF0 : Hid (Fr _ _ _) := hF0
  have hq : ∀ W, (binOp .eql 33 (.agg #[.string xa, .string xb, .bool xd]) (.agg #[.string xa, .string xb, .bool xd])).run Tryz.prog W = .ok (.bool true) W := fun W => by rw [wt_eql15]; simp
  have b1 : (xc.toList == xc.toList) = true := by simp
  have b2 : (xe.toList == xe.toList) = true := by simp
  clear hR hrow hF0
  simp only [Rv.v, Rv.tw]
  go_enter Tryz.func19, Tryz.ntmps19
  go_wp2_with fail
  refine Calls.mono (HC.out _ HF0.out) ?_
  rintro e w1 ⟨rfl, hF1⟩
  go_wp2
  go_ret
  exact ⟨rfl, HF0.out.then hF1⟩
end Go.Proofs.YtomajifklajilaaGreat
/- The law's helper asks, of a request: true, by what both owners answer. Conditions as each names them. -/
namespace Go.Proofs.YtomajifklajilaaGreat
open Go.ChangeShapes Go.WideShapes Go.ChangeAt Go.RowKit Go.Lib
set_option linter.unusedVariables false
set_option linter.unusedSimpArgs false
/-- What is new since w stays. -/
def Nf (w W w1 : World) : Prop := W.heap.size ≤ w1.heap.size ∧ ∀ j, w.heap.size ≤ j → j < W.heap.size → w1.heap[j]? = W.heap[j]?
theorem Nf.of {w W w1 : World} (h : Fr [] W w1) : Nf w W w1 := ⟨h.size, fun j _ hj => h.block j hj (by simp)⟩
theorem Nf.keep {w W w1 : World} (h : Nf w W w1) {j : Nat} {o : Array Value} {t : TypeId} {fr : Nat × Nat} (hj : W.heap[j]? = some (.cells o t fr)) (hw : w.heap.size ≤ j) : w1.heap[j]? = some (.cells o t fr) := (h.2 j hw (lt_of_block hj)).trans hj
theorem Nf.then {w W w1 w2 : World} (h : Nf w W w1) (k : Nf w w1 w2) : Nf w W w2 := ⟨Nat.le_trans h.1 k.1, fun j h1 h2 => (k.2 j h1 (Nat.lt_of_lt_of_le h2 h.1)).trans (h.2 j h1 h2)⟩
set_option maxHeartbeats 8000000 in
set_option maxRecDepth 100000 in
theorem asks_ask (p r : Option Addr) (x : Rv) (ns : List Int) (w : World) (hR : RqB w x ns) (P : World → World → Prop)
    (hA : ∀ W tb, Fr [] w W → w.heap.size ≤ tb → RqB W (x.tw tb) ns → Calls Tryz.prog 17 #[.pointer p, (x.tw tb).v] W fun e w1 => ∃ (ok : Bool) (c : Int), e = .returned (.tuple #[.bool ok, .int .i64 c]) ∧ Nf w W w1 ∧
      Calls Tryz.prog 18 #[.pointer r, x.v] w1 fun e w2 => e = .returned (.tuple #[.bool ok, .int .i64 c]) ∧ Nf w w1 w2 ∧ RqB w2 x ns ∧ P W w2) :
    Calls Tryz.prog 6 #[.pointer p, .pointer r, .agg #[.bool false, .int .u8 x.k, .int .i64 x.f, .int .i64 x.n, .string x.wk, .string x.wv, .bool x.wd, .string x.key, .string x.en, .slice x.bo x.bl x.bc]] w fun e w' => e = .returned (.bool true) ∧ ∃ W w2 T, Fr [] w W ∧ P W w2 ∧ Fr T w2 w' ∧ ∀ j ∈ T, w.heap.size ≤ j ∧ (j < W.heap.size ∨ w2.heap.size ≤ j) := by
  obtain ⟨xk, xf, xn, xa, xb, xd, xc, xe, xo, xl, xm⟩ := x
  simp only at hA ⊢
  obtain ⟨wz, HWz⟩ : ∃ wz, Hid (w.alloc (.cells #[.bool false, .int .u8 xk, .int .i64 xf, .int .i64 xn, .string xa, .string xb, .bool xd, .string xc, .string xe, .slice xo xl xm] 38) = wz) := ⟨_, rfl⟩
  have hF0 : Fr [] w wz := by rw [← HWz.out]; exact Fr.alloc [] w _
  have hr5 : wz.heap[w.heap.size]? = some (.cells #[.bool false, .int .u8 xk, .int .i64 xf, .int .i64 xn, .string xa, .string xb, .bool xd, .string xc, .string xe, .slice xo xl xm] 38 (0, 0)) := by rw [← HWz.out]; exact heap_alloc_new w _
  obtain ⟨Z5, HZ5⟩ : ∃ Z, Hid (w.heap.size = Z) := ⟨_, rfl⟩
  rw [HZ5.out] at hr5
  have HT : Hid (Calls _ _ _ _ _) := twinReq_any ⟨xk, xf, xn, xa, xb, xd, xc, xe, xo, xl, xm⟩ ns wz (hR.keep hF0)
  have HF0 : Hid (Fr [] w wz) := hF0
  have HR5 := (show Hid _ from hr5)
  have HZw : Hid (w.heap.size ≤ Z5) := by show _ ≤ _; rw [HZ5.out]; omega
  have HA := (show Hid _ from hA)
  have HRq : Hid (∀ W, Fr [] w W → RqB W ⟨xk, xf, xn, xa, xb, xd, xc, xe, xo, xl, xm⟩ ns) := fun W hf => hR.keep hf
  have hxl : xl ≤ 17592186044416 := by have := hR.is.few; have := hR.len; simp only at this; omega
  have HB := (show Hid (RqB w ⟨xk, xf, xn, xa, xb, xd, xc, xe, xo, xl, xm⟩ ns) from hR)
  have c0 : wz.cell? ⟨Z5, 0, none⟩ = some (.bool false) := by rw [cell_of_row _ _ _ _ _ _ hr5]; rfl
  have a1 : wz.cell? ⟨Z5, 1, none⟩ = some (.int .u8 xk) := by rw [cell_of_row _ _ _ _ _ _ hr5]; rfl
  have a2 : wz.cell? ⟨Z5, 2, none⟩ = some (.int .i64 xf) := by rw [cell_of_row _ _ _ _ _ _ hr5]; rfl
  have a3 : wz.cell? ⟨Z5, 3, none⟩ = some (.int .i64 xn) := by rw [cell_of_row _ _ _ _ _ _ hr5]; rfl
  have a4 : wz.cell? ⟨Z5, 4, none⟩ = some (.string xa) := by rw [cell_of_row _ _ _ _ _ _ hr5]; rfl
  have a5 : wz.cell? ⟨Z5, 5, none⟩ = some (.string xb) := by rw [cell_of_row _ _ _ _ _ _ hr5]; rfl
  have a6 : wz.cell? ⟨Z5, 6, none⟩ = some (.bool xd) := by rw [cell_of_row _ _ _ _ _ _ hr5]; rfl
  have a7 : wz.cell? ⟨Z5, 7, none⟩ = some (.string xc) := by rw [cell_of_row _ _ _ _ _ _ hr5]; rfl
  have a8 : wz.cell? ⟨Z5, 8, none⟩ = some (.string xe) := by rw [cell_of_row _ _ _ _ _ _ hr5]; rfl
  have a9 : wz.cell? ⟨Z5, 9, none⟩ = some (.slice xo xl xm) := by rw [cell_of_row _ _ _ _ _ _ hr5]; rfl
  clear hR hF0 hr5 hA
  simp only [Rv.v, Rv.tw] at HT
  go_enter Tryz.func6, Tryz.ntmps6
  go_upto_region 1 with fail
  rw [HWz.out, HZ5.out]
  clear HWz HZ5
  go_wp2_with fail
  refine Calls.mono HT.out ?_
  rintro e w1 ⟨tb, rfl, htb, hrt, hF1⟩
  clear c0 a1 a2 a3 a4 a5 a6 a7 a8 a9 HT
  obtain ⟨w2, HW2⟩ : ∃ w2, Hid (w1.alloc (.cells #[.int .u8 xk, .int .i64 xf, .int .i64 xn, .string xa, .string xb, .bool xd, .string xc, .string xe, .slice (some ⟨tb, 0, none⟩) xl (xl + 1)] 36) = w2) := ⟨_, rfl⟩
  have hG2 : Fr [] w1 w2 := by rw [← HW2.out]; exact Fr.alloc [] w1 _
  have HR11 : Hid (w2.heap[w1.heap.size]? = some (.cells #[.int .u8 xk, .int .i64 xf, .int .i64 xn, .string xa, .string xb, .bool xd, .string xc, .string xe, .slice (some ⟨tb, 0, none⟩) xl (xl + 1)] 36 (0, 0))) := by show _ = _; rw [← HW2.out]; exact heap_alloc_new w1 _
  go_upto_region 6 with fail
  rw [HW2.out]
  clear HW2
  have HG2 : Hid (Fr [] w w2) := (HF0.out.then hF1).then hG2
  have HRt : Hid (w2.heap[tb]? = some (.cells (intsT (ns ++ [7777])).toArray 3 (0, 0))) := hG2.keep hrt (by simp)
  have HR52 := (show Hid _ from (hF1.then hG2).keep HR5.out (by simp))
  obtain ⟨Z11, HZ11⟩ : ∃ Z, Hid (w1.heap.size = Z) := ⟨_, rfl⟩
  rw [HZ11.out] at HR11
  have HZb : Hid (wz.heap.size ≤ tb ∧ wz.heap.size ≤ Z11 ∧ Z5 < wz.heap.size) := ⟨htb, by rw [← HZ11.out]; exact hF1.size, lt_of_block HR5.out⟩
  have HC1 : Hid (Calls _ _ _ _ _) := HA.out w2 tb HG2.out (by have := HZb.out; have := HF0.out.size; omega) ⟨HB.out.k, HB.out.f, HB.out.n, HB.out.wk, HB.out.wv, HB.out.key, HB.out.en, ⟨fun h0 => ⟨tb, 0, rfl, lt_of_block HRt.out, fun i hi => by
      rw [cell_of_row _ _ _ _ _ _ HRt.out, List.getElem?_toArray, Nat.zero_add, intsT_get _ _ (by simp; omega)]
      congr 2
      simp [List.getD, List.getElem?_append_left hi]⟩, HB.out.is.few⟩, HB.out.len, by simp only [Rv.tw]; omega⟩
  have HNe : Hid (Z11 ≠ tb ∧ Z11 < w2.heap.size) := ⟨by rw [← HZ11.out]; have := lt_of_block hrt; omega, lt_of_block HR11.out⟩
  clear hrt hF1 hG2 htb
  rw [HZ11.out]
  clear HZ11
  have hr11 := HR11.out
  have t0 : w2.cell? ⟨Z11, 0, none⟩ = some (.int .u8 xk) := by rw [cell_of_row _ _ _ _ _ _ hr11]; rfl
  have t1 : w2.cell? ⟨Z11, 1, none⟩ = some (.int .i64 xf) := by rw [cell_of_row _ _ _ _ _ _ hr11]; rfl
  have t2 : w2.cell? ⟨Z11, 2, none⟩ = some (.int .i64 xn) := by rw [cell_of_row _ _ _ _ _ _ hr11]; rfl
  have t3 : w2.cell? ⟨Z11, 3, none⟩ = some (.string xa) := by rw [cell_of_row _ _ _ _ _ _ hr11]; rfl
  have t4 : w2.cell? ⟨Z11, 4, none⟩ = some (.string xb) := by rw [cell_of_row _ _ _ _ _ _ hr11]; rfl
  have t5 : w2.cell? ⟨Z11, 5, none⟩ = some (.bool xd) := by rw [cell_of_row _ _ _ _ _ _ hr11]; rfl
  have t6 : w2.cell? ⟨Z11, 6, none⟩ = some (.string xc) := by rw [cell_of_row _ _ _ _ _ _ hr11]; rfl
  have t7 : w2.cell? ⟨Z11, 7, none⟩ = some (.string xe) := by rw [cell_of_row _ _ _ _ _ _ hr11]; rfl
  have t8 : w2.cell? ⟨Z11, 8, none⟩ = some (.slice (some ⟨tb, 0, none⟩) xl (xl + 1)) := by rw [cell_of_row _ _ _ _ _ _ hr11]; rfl
  simp only [Rv.v, Rv.tw] at HC1
  clear hr11
  go_wp2_with fail
  refine Calls.mono HC1.out ?_
  rintro e w3 ⟨ok, c, rfl, hN3, hC2⟩
  have HN3 : Hid (Nf w w2 w3) := hN3
  have HC2 := (show Hid _ from hC2)
  have hr5 := hN3.keep HR52.out HZw.out
  have a1 : w3.cell? ⟨Z5, 1, none⟩ = some (.int .u8 xk) := by rw [cell_of_row _ _ _ _ _ _ hr5]; rfl
  have a2 : w3.cell? ⟨Z5, 2, none⟩ = some (.int .i64 xf) := by rw [cell_of_row _ _ _ _ _ _ hr5]; rfl
  have a3 : w3.cell? ⟨Z5, 3, none⟩ = some (.int .i64 xn) := by rw [cell_of_row _ _ _ _ _ _ hr5]; rfl
  have a4 : w3.cell? ⟨Z5, 4, none⟩ = some (.string xa) := by rw [cell_of_row _ _ _ _ _ _ hr5]; rfl
  have a5 : w3.cell? ⟨Z5, 5, none⟩ = some (.string xb) := by rw [cell_of_row _ _ _ _ _ _ hr5]; rfl
  have a6 : w3.cell? ⟨Z5, 6, none⟩ = some (.bool xd) := by rw [cell_of_row _ _ _ _ _ _ hr5]; rfl
  have a7 : w3.cell? ⟨Z5, 7, none⟩ = some (.string xc) := by rw [cell_of_row _ _ _ _ _ _ hr5]; rfl
  have a8 : w3.cell? ⟨Z5, 8, none⟩ = some (.string xe) := by rw [cell_of_row _ _ _ _ _ _ hr5]; rfl
  have a9 : w3.cell? ⟨Z5, 9, none⟩ = some (.slice xo xl xm) := by rw [cell_of_row _ _ _ _ _ _ hr5]; rfl
  clear t0 t1 t2 t3 t4 t5 t6 t7 t8 HC1 hN3 hC2 hr5
  go_wp2_with fail
  refine Calls.mono HC2.out ?_
  rintro e w4 ⟨rfl, hN4, hR4, hP4⟩
  have HN4 : Hid (Nf w w2 w4 ∧ P w2 w4) := ⟨HN3.out.then hN4, hP4⟩
  have hr5 := HN4.out.1.keep HR52.out HZw.out
  have hr11 := HN4.out.1.keep HR11.out (by have := HZb.out; have := HF0.out.size; omega)
  have hrt := HN4.out.1.keep HRt.out (by have := HZb.out; have := HF0.out.size; omega)
  have HL : Hid (Calls _ _ _ _ _) := leftReq_any ⟨xk, xf, xn, xa, xb, xd, xc, xe, xo, xl, xm⟩ ns tb w4 hR4 hrt
  have HRows := (show Hid _ from And.intro hr11 hrt)
  clear a1 a2 a3 a4 a5 a6 a7 a8 a9 HC2 hN4 hP4 hR4
  have a1 : w4.cell? ⟨Z5, 1, none⟩ = some (.int .u8 xk) := by rw [cell_of_row _ _ _ _ _ _ hr5]; rfl
  have a2 : w4.cell? ⟨Z5, 2, none⟩ = some (.int .i64 xf) := by rw [cell_of_row _ _ _ _ _ _ hr5]; rfl
  have a3 : w4.cell? ⟨Z5, 3, none⟩ = some (.int .i64 xn) := by rw [cell_of_row _ _ _ _ _ _ hr5]; rfl
  have a4 : w4.cell? ⟨Z5, 4, none⟩ = some (.string xa) := by rw [cell_of_row _ _ _ _ _ _ hr5]; rfl
  have a5 : w4.cell? ⟨Z5, 5, none⟩ = some (.string xb) := by rw [cell_of_row _ _ _ _ _ _ hr5]; rfl
  have a6 : w4.cell? ⟨Z5, 6, none⟩ = some (.bool xd) := by rw [cell_of_row _ _ _ _ _ _ hr5]; rfl
  have a7 : w4.cell? ⟨Z5, 7, none⟩ = some (.string xc) := by rw [cell_of_row _ _ _ _ _ _ hr5]; rfl
  have a8 : w4.cell? ⟨Z5, 8, none⟩ = some (.string xe) := by rw [cell_of_row _ _ _ _ _ _ hr5]; rfl
  have a9 : w4.cell? ⟨Z5, 9, none⟩ = some (.slice xo xl xm) := by rw [cell_of_row _ _ _ _ _ _ hr5]; rfl
  have t0 : w4.cell? ⟨Z11, 0, none⟩ = some (.int .u8 xk) := by rw [cell_of_row _ _ _ _ _ _ hr11]; rfl
  have t1 : w4.cell? ⟨Z11, 1, none⟩ = some (.int .i64 xf) := by rw [cell_of_row _ _ _ _ _ _ hr11]; rfl
  have t2 : w4.cell? ⟨Z11, 2, none⟩ = some (.int .i64 xn) := by rw [cell_of_row _ _ _ _ _ _ hr11]; rfl
  have t3 : w4.cell? ⟨Z11, 3, none⟩ = some (.string xa) := by rw [cell_of_row _ _ _ _ _ _ hr11]; rfl
  have t4 : w4.cell? ⟨Z11, 4, none⟩ = some (.string xb) := by rw [cell_of_row _ _ _ _ _ _ hr11]; rfl
  have t5 : w4.cell? ⟨Z11, 5, none⟩ = some (.bool xd) := by rw [cell_of_row _ _ _ _ _ _ hr11]; rfl
  have t6 : w4.cell? ⟨Z11, 6, none⟩ = some (.string xc) := by rw [cell_of_row _ _ _ _ _ _ hr11]; rfl
  have t7 : w4.cell? ⟨Z11, 7, none⟩ = some (.string xe) := by rw [cell_of_row _ _ _ _ _ _ hr11]; rfl
  have t8 : w4.cell? ⟨Z11, 8, none⟩ = some (.slice (some ⟨tb, 0, none⟩) xl (xl + 1)) := by rw [cell_of_row _ _ _ _ _ _ hr11]; rfl
  simp only [Rv.v, Rv.tw] at HL
  clear hr5 hr11 hrt
  have bo : (ok != ok) = false := by simp
  go_wp2_with fail
  refine Calls.mono HL.out ?_
  rintro e w5 ⟨rfl, hF5⟩
  have HR6 : Hid (w5.heap[Z11]? = some (.cells #[.int .u8 xk, .int .i64 xf, .int .i64 xn, .string xa, .string xb, .bool xd, .string xc, .string xe, .slice (some ⟨tb, 0, none⟩) xl (xl + 1)] 36 (0, 0)) ∧ ∃ cur, w5.heap[tb]? = some (.cells cur 3 (0, 0)) ∧ cur.size = xl + 1) := ⟨hF5.keep HRows.out.1 (by simp), _, hF5.keep HRows.out.2 (by simp), by
    have := HB.out.len
    simp only at this
    simp [intsT_length, this]⟩
  have HF5 : Hid (Fr [tb] w4 w5) := hF5.mono (by simp)
  clear a1 a2 a3 a4 a5 a6 a7 a8 a9 t0 t1 t2 t3 t4 t5 t6 t7 t8 HL hF5
  go_wp2_with fail
  go_loopw [16] (fun ii wr => ∃ (i : Nat), ii = .int .i64 i ∧ i ≤ xl ∧ Hid ((wr.heap[Z11]? = some (.cells #[.int .u8 xk, .int .i64 xf, .int .i64 xn, .string xa, .string xb, .bool xd, .string xc, .string xe, .slice (some ⟨tb, 0, none⟩) xl (xl + 1)] 36 (0, 0)) ∧ ∃ cur, wr.heap[tb]? = some (.cells cur 3 (0, 0)) ∧ cur.size = xl + 1) ∧ Fr [tb] w4 wr)) (fun ii _ => xl - (RowKit.intOf ii).toNat)
  case atStart => exact ⟨0, rfl, Nat.zero_le _, HR6.out, HF5.out⟩
  case round =>
    obtain ⟨i, rfl, hil, HI⟩ := hrel
    obtain ⟨⟨k11, cur, kt, hcs⟩, hf⟩ := HI.out
    have t8 : wr.cell? ⟨Z11, 8, none⟩ = some (.slice (some ⟨tb, 0, none⟩) xl (xl + 1)) := by rw [cell_of_row _ _ _ _ _ _ k11]; rfl
    by_cases hi : i < xl
    · have ci : wr.cell? ⟨tb, i, none⟩ = some cur[i] := by rw [cell_of_row _ _ _ _ _ _ kt]; simp
      have zi : wr.frozen? ⟨tb, i, none⟩ = false := by simp [World.frozen?, kt]
      have hS : Fr [tb] wr (wr.setCell ⟨tb, i, none⟩ (.int .i64 (-77))) := Fr.set _ _ _ (by simp)
      have HN : Hid (((wr.setCell ⟨tb, i, none⟩ (.int .i64 (-77))).heap[Z11]? = some (.cells #[.int .u8 xk, .int .i64 xf, .int .i64 xn, .string xa, .string xb, .bool xd, .string xc, .string xe, .slice (some ⟨tb, 0, none⟩) xl (xl + 1)] 36 (0, 0)) ∧ ∃ cur, (wr.setCell ⟨tb, i, none⟩ (.int .i64 (-77))).heap[tb]? = some (.cells cur 3 (0, 0)) ∧ cur.size = xl + 1) ∧ Fr [tb] w4 (wr.setCell ⟨tb, i, none⟩ (.int .i64 (-77)))) := ⟨⟨hS.keep k11 (by simp; exact HNe.out.1), _, vrow_setCell _ kt, by simpa using hcs⟩, hf.then hS⟩
      generalize cur[i] = old at ci
      clear HI k11 kt hf hS
      go_wp2_with fail
      go_roundw
      case rel => exact ⟨i + 1, by simp, by omega, HN⟩
      case measure => simp [RowKit.intOf]; omega
    · clear k11 kt
      go_wp2
      go_ret
      exact ⟨rfl, w2, w4, [tb], HG2.out, HN4.out.2, hf, by intro j hj; simp at hj; subst hj; exact ⟨by have := HZb.out; have := HF0.out.size; omega, Or.inl (lt_of_block HRt.out)⟩⟩
end Go.Proofs.YtomajifklajilaaGreat
/- Contracts of a ring's unrolled, widen, Put, Take. Conditions as each names them. -/
namespace Go.Proofs.YtomajifklajilaaGreat
open Go.ChangeShapes Go.WideShapes Go.ChangeAt Go.RowKit Go.Lib
set_option linter.unusedVariables false
set_option linter.unusedSimpArgs false

theorem Tryz.sizeReq : (Tryz.prog.info? 36).map (fun i => i.size) = some 9 := by kernel_rfl
/-- A row of these things. -/
def ERow (w : World) (g : Nat) (xs : List Rv) : Prop := w.heap[g]? = some (.cells (vals xs).toArray 36 (0, 0))
theorem ERow.keep {S : List Nat} {w w' : World} {g : Nat} {xs : List Rv} (h : ERow w g xs) (hf : Fr S w w') (hn : g ∉ S) : ERow w' g xs := hf.keep h hn
section
variable {g C N F K : Nat} {pb : Option Nat} {ps xs : List Rv} {cl : Bool}
theorem unr_one {n D : Nat} (hl : ps.length = N) (hF : F < N) (hD : D = min (N - F) n) :
    splice (splice (vals (List.replicate n Rv.zero)) 0 (vals ((ps.drop F).take n))) (D * 9) (vals ((ps.take F).take (n - D))) = vals (unr F n ps) := by
  rw [Nat.mul_comm D 9]
  have e1 : ((ps.drop F).take n).length = D := by simp; omega
  have e2 : splice (vals (List.replicate n Rv.zero)) 0 (vals ((ps.drop F).take n)) = vals ((ps.drop F).take n ++ List.replicate (n - D) Rv.zero) := by
    unfold splice
    rw [vals_length, e1, vals_append, List.take_zero, List.nil_append, Nat.zero_add, vals_drop, List.drop_replicate]
  rw [e2]
  unfold splice unr
  rw [vals_take, vals_length, ← Nat.mul_add, vals_drop, ← vals_append, ← vals_append, List.take_append_of_le_length (by omega), List.take_of_length_le (by omega), List.take_append, List.append_assoc]
  congr 2
  have e3 : (ps.drop F).length = N - F := by simp; omega
  rw [e3]
  by_cases hn : n ≤ N - F
  · obtain rfl : D = n := by omega
    rw [Nat.sub_self, show D - (N - F) = 0 by omega, show D - ps.length = 0 by omega]
    simp
  · obtain rfl : D = N - F := by omega
    congr 1
    rw [List.drop_append, e1, List.drop_replicate]
    have : ((ps.take F).take (n - (N - F))).length = min F (n - (N - F)) := by simp; omega
    rw [this, List.drop_of_length_le (by omega), List.nil_append]
    congr 1
    omega
set_option maxHeartbeats 4000000 in
set_option maxRecDepth 100000 in
theorem gunr_any (w : World) (n : Nat) (h : RgM w g pb C N F K ps xs cl) (hn : 1 ≤ n ∧ n ≤ 65536) :
    Calls Tryz.prog 105 #[.pointer (some ⟨g, 0, none⟩), .int .i64 (n : Int)] w fun e w' => ∃ k, e = .returned (.slice (some ⟨k, 0, none⟩) n n) ∧ w.heap.size ≤ k ∧ ERow w' k (unr F n ps) ∧ Fr [] w w' := by
  obtain ⟨hn1, hn2⟩ := hn
  obtain ⟨i0, hi0, hz00, hz1, hz2⟩ := infoReq_parts
  have hz0 : i0.zero = some (.agg #[.int .u8 0, .int .i64 0, .int .i64 0, .string ⟨#[]⟩, .string ⟨#[]⟩, .bool false, .string ⟨#[]⟩, .string ⟨#[]⟩, .slice none 0 0]) := hz00
  clear hz00
  have HM : Hid (RgM w g pb C N F K ps xs cl) := h
  have hgl := h.lt
  have hNC : N ≤ 65536 := by have := h.cap; omega
  by_cases hN : 0 < N
  · have hF := h.pl.f1 hN
    obtain ⟨b, rfl⟩ := h.some_ hN
    have HK : Hid (∀ W, Fr [] w W → RgM W g (some b) C N F K ps xs cl) := fun W hf => h.keep hf (by simp) (by simp)
    have hbl := h.plt rfl
    obtain ⟨D, hD⟩ : ∃ D, D = min (N - F) n := ⟨_, rfl⟩
    have HU : Hid (_ = _) := unr_one (n := n) h.pl.len hF hD
    obtain ⟨X1, hX1⟩ : ∃ X1, X1 = vals ((ps.drop F).take n) := ⟨_, rfl⟩
    obtain ⟨X2, hX2⟩ : ∃ X2, X2 = vals ((ps.take F).take (n - D)) := ⟨_, rfl⟩
    obtain ⟨Z0, hZ0⟩ : ∃ Z0, Z0 = vals (List.replicate n Rv.zero) := ⟨_, rfl⟩
    rw [← hX1, ← hX2, ← hZ0] at HU
    have hl1 : X1.length = 9 * D := by rw [hX1, vals_length]; simp; have := h.pl.len; omega
    have hl2 : X2.length = 9 * min F (n - D) := by rw [hX2, vals_length]; simp; have := h.pl.len; omega
    have hl0 : Z0.length = 9 * n := by rw [hZ0, vals_length]; simp
    have HL : Hid (X1.length = 9 * D ∧ X2.length = 9 * min F (n - D) ∧ Z0.length = 9 * n ∧ D = min (N - F) n) := ⟨hl1, hl2, hl0, hD⟩
    have o1 : Hid (∀ v ∈ X1, v.oneCell' = true) := by rw [hX1]; exact vals_one _
    have o2 : Hid (∀ v ∈ X2, v.oneCell' = true) := by rw [hX2]; exact vals_one _
    have H1 : Hid (∀ W, Fr [] w W → ∀ j v, X1[j]? = some v → W.cell? ((⟨b, F * 9, none⟩ : Addr).add j) = some v) := by
      intro W hf j v hj
      rw [hX1, ← vals_take, ← vals_drop, List.getElem?_take] at hj
      split at hj
      · rw [Nat.mul_comm F 9, Addr.add_lit, cell_of_row _ _ _ _ _ _ ((HK.out W hf).row b rfl), List.getElem?_toArray]
        rw [List.getElem?_drop] at hj
        exact hj
      · cases hj
    have H2 : Hid (∀ W, Fr [] w W → ∀ j v, X2[j]? = some v → W.cell? ((⟨b, 0, none⟩ : Addr).add j) = some v) := by
      intro W hf j v hj
      rw [hX2, ← vals_take, ← vals_take, List.take_take, List.getElem?_take] at hj
      split at hj
      · rw [Addr.add_lit, cell_of_row _ _ _ _ _ _ ((HK.out W hf).row b rfl), List.getElem?_toArray, Nat.zero_add]
        exact hj
      · cases hj
    have hDn : D ≤ n := by omega
    clear hl1 hl2 hl0 hX1 hX2 hD
    have HZ0 : Hid (Z0 = vals (List.replicate n Rv.zero)) := hZ0
    clear hZ0 h
    go_enter Tryz.func105, Tryz.ntmps105
    go_wp2_with (at_make; refine wpList_make_full _ rfl (.tmp 7) (.tmp 7) 76 rfl 0 36 i0 _ 9 Tryz.undReqs hi0 hz0 hz1 .i64 .i64 (n : Int) (n : Int) n rfl rfl rfl rfl ?b2 ?b3 ?b4 ?_)
    case b2 => rw [hz2]; omega
    case b3 => unfold maxLen; omega
    case b4 => exact Nat.zero_le _
    intro w1 hown hgrow
    obtain ⟨k, hk⟩ : ∃ k, k = w.heap.size := ⟨_, rfl⟩
    have hr1 : w1.heap[k]? = some (.cells Z0.toArray 36 (0, 0)) := by
      have hm : (madeCells #[.int .u8 0, .int .i64 0, .int .i64 0, .string ⟨#[]⟩, .string ⟨#[]⟩, .bool false, .string ⟨#[]⟩, .string ⟨#[]⟩, .slice none 0 0] (n * 9)).toList = Z0 := by rw [HZ0.out]; exact vals_zero n
      simp only [hm, ← hk] at hown
      rcases hown.2 with ⟨hv, _⟩ | ⟨g', cap', cur, hv, _, hb, _, _, hcs, ht⟩
      · cases hv
      · cases hv
        have : cur = Z0.toArray := by
          apply Array.ext'
          rw [← ht, List.take_of_length_le]
          rw [Array.length_toList, hcs]
          exact Nat.le_refl _
        rw [← this]
        exact hb
    have hF1 : Fr [] w w1 := Fr.grown (S := []) hgrow (by simp)
    have hM1 := HK.out w1 hF1
    have c1 := hM1.c1
    have c2 := hM1.c2
    simp only [Option.map_some] at c1
    rw [← hk]
    have hkw : w.heap.size ≤ k := by omega
    have hF' : F ≤ N := by omega
    have hNF : ¬ N = F := by omega
    clear hown hgrow hk
    go_wp2_with fail
    have hbel : ∀ q, Below w.heap.size w (w1.drewN q) := fun q => (hF1.then (Fr.drewN [] w1 q)).below (Nat.le_refl _) (by simp)
    have HB : Hid (∀ W, Below w.heap.size w W → Fr [] w W ∧ W.cell? ⟨g, 1, none⟩ = some (.slice (some ⟨b, 0, none⟩) N N) ∧ W.cell? ⟨g, 2, none⟩ = some (.int .i64 (F : Int))) := fun W hb => by
      have hf : Fr [] w W := ⟨hb.os, hb.tape, hb.output, hb.size, fun k hk _ => hb.block k hk⟩
      exact ⟨hf, (HK.out W hf).c1, (HK.out W hf).c2⟩
    go_region_held3 (fun W => W.cell? ⟨g, 1, none⟩ = some (.slice (some ⟨b, 0, none⟩) N N) ∧ W.cell? ⟨g, 2, none⟩ = some (.int .i64 (F : Int))) (go_keep)
      ((refine step_copy_many (by rfl) (.tmp 9) (.tmp 18) 76 76 (by rfl) 36 Tryz.undReqs 9 Tryz.sizeReq (some ⟨k, 0, none⟩) (some ⟨b, F * 9, none⟩) n n (N - F) (N - F) (by rfl) (by rfl) k 0 Z0 36 hr1 X1 D (by have := HL.out; show _ = min _ _; omega) (by have := HL.out; omega) (fun _ => ⟨rfl, _, rfl, H1.out _ (hF1.then (Fr.drewN [] w1 _))⟩) (by have := HL.out; omega) o1.out w.heap.size w (hbel _) hkw ?_; intro w2 HR2 hb2; obtain ⟨hF2, d1, d2⟩ := HB.out w2 hb2))
    clear c1 c2 hM1 hr1 hbel hb2
    have hbel : ∀ q, Below w.heap.size w (w2.drewN q) := fun q => (hF2.then (Fr.drewN [] w2 q)).below (Nat.le_refl _) (by simp)
    have HR2' := HR2.out
    have HLs : Hid ((splice Z0 0 X1).length = 9 * n) := by
      show _ = _
      have := HL.out
      rw [length_splice _ _ _ (by omega)]
      omega
    by_cases hDe : n = D
    · have hx2 : X2 = [] := List.eq_nil_of_length_eq_zero (by have := HL.out; omega)
      have HR3 : Hid (splice (splice Z0 0 X1) 0 [] = vals (unr F n ps)) := by
        show _ = _
        rw [← HU.out, hx2]
        have e : ∀ (L : List Value) D, splice L D [] = L := by intro L D; simp [splice]
        rw [e, e]
      clear hx2
      go_wp2_with fail
      go_region_held3 (fun W => W.cell? ⟨g, 1, none⟩ = some (.slice (some ⟨b, 0, none⟩) N N) ∧ W.cell? ⟨g, 2, none⟩ = some (.int .i64 (F : Int))) (go_keep)
        ((refine step_copy_many (by rfl) (.tmp 22) (.tmp 31) 76 76 (by rfl) 36 Tryz.undReqs 9 Tryz.sizeReq _ _ _ _ _ _ (by rfl) (by rfl) k 0 _ 36 HR2' [] 0 (by show _ = min _ _; simp) (by simp) (fun h => absurd h (by simp)) (by simp) (by simp) w.heap.size w (hbel _) hkw ?_; intro w3 HR4 hb3; obtain ⟨hF3, e1, e2⟩ := HB.out w3 hb3))
      go_wp2
      go_ret
      refine ⟨k, rfl, hkw, ?_, hF3⟩
      unfold ERow
      rw [← HR3.out]
      exact HR4.out
    · go_wp2_with fail
      go_region_held3 (fun W => W.cell? ⟨g, 1, none⟩ = some (.slice (some ⟨b, 0, none⟩) N N) ∧ W.cell? ⟨g, 2, none⟩ = some (.int .i64 (F : Int))) (go_keep)
        ((refine step_copy_many (by rfl) (.tmp 22) (.tmp 31) 76 76 (by rfl) 36 Tryz.undReqs 9 Tryz.sizeReq (some ⟨k, D * 9, none⟩) (some ⟨b, 0, none⟩) (n - D) (n - D) F N (by rfl) (by rfl) k (D * 9) _ 36 HR2' X2 (min F (n - D)) (by have := HL.out; show _ = min _ _; omega) (by have := HL.out; omega) (fun _ => ⟨rfl, _, rfl, H2.out _ (hF2.then (Fr.drewN [] w2 _))⟩) (by rw [HLs.out]; have := HL.out; omega) o2.out w.heap.size w (hbel _) hkw ?_; intro w3 HR4 hb3; obtain ⟨hF3, e1, e2⟩ := HB.out w3 hb3))
      go_wp2
      go_ret
      refine ⟨k, rfl, hkw, ?_, hF3⟩
      unfold ERow
      rw [← HU.out]
      exact HR4.out
  · obtain rfl : N = 0 := by omega
    obtain rfl := h.none_.2 rfl
    obtain rfl := h.pl.f0 rfl
    have hps : ps = [] := List.eq_nil_of_length_eq_zero h.pl.len
    have HK : Hid (∀ W, Below w.heap.size w W → Fr [] w W ∧ W.cell? ⟨g, 1, none⟩ = some (.slice none 0 0) ∧ W.cell? ⟨g, 2, none⟩ = some (.int .i64 0)) := fun W hb => by
      have hf : Fr [] w W := ⟨hb.os, hb.tape, hb.output, hb.size, fun k hk _ => hb.block k hk⟩
      have := h.keep hf (by simp) (by simp)
      exact ⟨hf, this.c1, this.c2⟩
    have HU : Hid (vals (List.replicate n Rv.zero) = vals (unr 0 n ps)) := by
      show _ = _
      rw [hps]
      simp [unr]
    clear hps h
    go_enter Tryz.func105, Tryz.ntmps105
    go_wp2_with (at_make; refine wpList_make_full _ rfl (.tmp 7) (.tmp 7) 76 rfl 0 36 i0 _ 9 Tryz.undReqs hi0 hz0 hz1 .i64 .i64 (n : Int) (n : Int) n rfl rfl rfl rfl ?b2 ?b3 ?b4 ?_)
    case b2 => rw [hz2]; omega
    case b3 => unfold maxLen; omega
    case b4 => exact Nat.zero_le _
    intro w1 hown hgrow
    obtain ⟨k, hk⟩ : ∃ k, k = w.heap.size := ⟨_, rfl⟩
    have hr1 : w1.heap[k]? = some (.cells (vals (unr 0 n ps)).toArray 36 (0, 0)) := by
      have hm : (madeCells #[.int .u8 0, .int .i64 0, .int .i64 0, .string ⟨#[]⟩, .string ⟨#[]⟩, .bool false, .string ⟨#[]⟩, .string ⟨#[]⟩, .slice none 0 0] (n * 9)).toList = vals (unr 0 n ps) := by rw [← HU.out]; exact vals_zero n
      simp only [hm, ← hk] at hown
      rcases hown.2 with ⟨hv, _⟩ | ⟨g', cap', cur, hv, _, hb, _, _, hcs, ht⟩
      · cases hv
      · cases hv
        have : cur = (vals (unr 0 n ps)).toArray := by
          apply Array.ext'
          rw [← ht, List.take_of_length_le]
          rw [Array.length_toList, hcs]
          exact Nat.le_refl _
        rw [← this]
        exact hb
    obtain ⟨X, hX⟩ : ∃ X, X = vals (unr 0 n ps) := ⟨_, rfl⟩
    rw [← hX] at hr1
    have HX : Hid (X = vals (unr 0 n ps)) := hX
    have hXl : Hid (X.length = 9 * n) := by show _ = _; rw [hX, vals_length, unr_length]
    have hF1 : Fr [] w w1 := Fr.grown (S := []) hgrow (by simp)
    have hb1 : Below w.heap.size w w1 := hF1.below (Nat.le_refl _) (by simp)
    obtain ⟨_, c1, c2⟩ := HK.out w1 hb1
    rw [← hk]
    have hkw : w.heap.size ≤ k := by omega
    clear hown hgrow hk hX
    have hbel : ∀ q, Below w.heap.size w (w1.drewN q) := fun q => (hF1.then (Fr.drewN [] w1 q)).below (Nat.le_refl _) (by simp)
    go_wp2_with fail
    go_region_held3 (fun W => W.cell? ⟨g, 1, none⟩ = some (.slice none 0 0) ∧ W.cell? ⟨g, 2, none⟩ = some (.int .i64 0)) (go_keep)
      ((refine step_copy_many (by rfl) (.tmp 9) (.tmp 18) 76 76 (by rfl) 36 Tryz.undReqs 9 Tryz.sizeReq _ _ _ _ _ _ (by rfl) (by rfl) k 0 X 36 hr1 [] 0 (by show _ = min _ _; simp) (by simp) (fun h => absurd h (by simp)) (by simp) (by simp) w.heap.size w (hbel _) hkw ?_; intro w2 HR2 hb2; obtain ⟨hF2, d1, d2⟩ := HK.out w2 hb2))
    have e : splice X 0 [] = X := by simp [splice]
    rw [e] at HR2
    have hr2 := HR2.out
    clear HR2 e hbel
    have hbel : ∀ q, Below w.heap.size w (w2.drewN q) := fun q => (hF2.then (Fr.drewN [] w2 q)).below (Nat.le_refl _) (by simp)
    have hn0 : ¬ n = 0 := by omega
    go_wp2_with fail
    go_region_held3 (fun W => W.cell? ⟨g, 1, none⟩ = some (.slice none 0 0) ∧ W.cell? ⟨g, 2, none⟩ = some (.int .i64 0)) (go_keep)
      ((refine step_copy_many (by rfl) (.tmp 22) (.tmp 31) 76 76 (by rfl) 36 Tryz.undReqs 9 Tryz.sizeReq _ _ _ _ _ _ (by rfl) (by rfl) k 0 X 36 hr2 [] 0 (by show _ = min _ _; simp) (by simp) (fun h => absurd h (by simp)) (by simp) (by simp) w.heap.size w (hbel _) hkw ?_; intro w3 HR3 hb3; obtain ⟨hF3, e1, e2⟩ := HK.out w3 hb3))
    go_wp2
    go_ret
    refine ⟨k, rfl, hkw, ?_, hF3⟩
    unfold ERow
    rw [← HX.out]
    have e : splice X 0 [] = X := by simp [splice]
    rw [← e]
    exact HR3.out
set_option maxHeartbeats 4000000 in
set_option maxRecDepth 100000 in
theorem gwiden_any (w : World) (h : RgM w g pb C N F K ps xs cl) (hNC : N < C) :
    Calls Tryz.prog 81 #[.pointer (some ⟨g, 0, none⟩)] w fun e w' => (∃ v, e = .returned v) ∧ ∃ k M, w.heap.size ≤ k ∧ N < M ∧ RgM w' g (some k) C M 0 K (unr F M ps) xs cl ∧ Fr [g] w w' := by
  obtain ⟨hC1, hC2, _⟩ := h.cap
  have HM : Hid (RgM w g pb C N F K ps xs cl) := h
  have c0 := h.c0
  have c1 := h.c1
  obtain ⟨q, hq⟩ : ∃ q, q = pb.map fun b => (⟨b, 0, none⟩ : Addr) := ⟨_, rfl⟩
  rw [← hq] at c1
  have HW : Hid (∀ k M (v : Value) W, N < M → M ≤ C → v = .slice (some ⟨k, 0, none⟩) M M → w.heap.size ≤ k → ERow W k (unr F M ps) → Fr [] w W → RgM ((W.setCell ⟨g, 1, none⟩ v).setCell ⟨g, 2, none⟩ (.int .i64 0)) g (some k) C M 0 K (unr F M ps) xs cl ∧ Fr [g] w ((W.setCell ⟨g, 1, none⟩ v).setCell ⟨g, 2, none⟩ (.int .i64 0)) ∧ W.cell? ⟨g, 1, none⟩ = some (.slice q N N) ∧ W.frozen? ⟨g, 1, none⟩ = false ∧ (W.setCell ⟨g, 1, none⟩ v).cell? ⟨g, 2, none⟩ = some (.int .i64 (F : Int)) ∧ (W.setCell ⟨g, 1, none⟩ v).frozen? ⟨g, 2, none⟩ = false) := by
    intro k M v W hNM hMC hv hk hE hf
    subst hv
    have hW := h.keep hf (by simp) (by simp)
    have hgk : k ≠ g := by have := h.lt; omega
    have hb1 := vrow_setCell (j := 1) (.slice (some ⟨k, 0, none⟩) M M) hW.box
    have hb2 := vrow_setCell (j := 2) (.int .i64 0) hb1
    have hfr : Fr [g] W ((W.setCell ⟨g, 1, none⟩ (.slice (some ⟨k, 0, none⟩) M M)).setCell ⟨g, 2, none⟩ (.int .i64 0)) := (Fr.set (S := [g]) _ _ _ (by simp)).then (Fr.set (S := [g]) _ _ _ (by simp))
    refine ⟨⟨?_, h.pl.wide (by omega) (by omega), fun b e => ?_, ⟨fun e => (by cases e), fun e => (by omega)⟩, by omega, by omega, by omega⟩, (hf.mono (by simp)).then hfr, by rw [hq]; exact hW.c1, hW.fz 1, ?_, ?_⟩
    · rw [hb2]
      rfl
    · cases e
      exact hfr.keep hE (by simp; exact hgk)
    · rw [cell_of_row _ _ _ _ _ _ hb1]; rfl
    · simp [World.frozen?, hb1]
  have HU : Hid (∀ M, 1 ≤ M ∧ M ≤ 65536 → Calls _ _ _ _ _) := fun M hM => gunr_any w M h hM
  clear h hq
  by_cases hN : N = 0
  · subst hN
    have h1 : ¬ (C : Int) < 1 := by omega
    have h2 : (1 : Int) ≤ (C : Int) := by omega
    have HC := HU.out 1 (by omega)
    go_enter Tryz.func81, Tryz.ntmps81
    go_wp2_with fail
    refine HC.mono ?_
    rintro e w1 ⟨k, rfl, hk, hE, hF1⟩
    obtain ⟨hR, hG, f1, z1, f2, z2⟩ := HW.out k _ _ w1 (by omega) (by omega) rfl hk hE hF1
    have HR : Hid (_ ∧ _) := And.intro hR hG
    clear hR hG hE
    go_wp2
    go_end0
    exact ⟨⟨_, rfl⟩, k, 1, hk, by omega, HR.out.1, HR.out.2⟩
  · by_cases h2 : 2 * N ≤ C
    · have h3 : (1 : Int) < 2 * (N : Int) := by omega
      have h4 : 2 * (N : Int) ≤ (C : Int) := by omega
      have HC := HU.out (2 * N) (by omega)
      rw [show ((2 * N : Nat) : Int) = 2 * (N : Int) by omega] at HC
      go_enter Tryz.func81, Tryz.ntmps81
      go_wp2_with fail
      refine HC.mono ?_
      rintro e w1 ⟨k, rfl, hk, hE, hF1⟩
      obtain ⟨hR, hG, f1, z1, f2, z2⟩ := HW.out k _ _ w1 (by omega) (by omega) rfl hk hE hF1
      have HR : Hid (_ ∧ _) := And.intro hR hG
      clear hR hG hE
      go_wp2
      go_end0
      exact ⟨⟨_, rfl⟩, k, 2 * N, hk, by omega, HR.out.1, HR.out.2⟩
    · have h3 : (1 : Int) < 2 * (N : Int) := by omega
      have h4 : (C : Int) < 2 * (N : Int) := by omega
      have HC := HU.out C (by omega)
      go_enter Tryz.func81, Tryz.ntmps81
      go_wp2_with fail
      refine HC.mono ?_
      rintro e w1 ⟨k, rfl, hk, hE, hF1⟩
      obtain ⟨hR, hG, f1, z1, f2, z2⟩ := HW.out k _ _ w1 (by omega) (by omega) rfl hk hE hF1
      have HR : Hid (_ ∧ _) := And.intro hR hG
      clear hR hG hE
      go_wp2
      go_end0
      exact ⟨⟨_, rfl⟩, k, C, hk, by omega, HR.out.1, HR.out.2⟩
end
end Go.Proofs.YtomajifklajilaaGreat

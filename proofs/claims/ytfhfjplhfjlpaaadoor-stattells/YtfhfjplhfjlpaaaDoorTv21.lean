/- The statements' twins of events. Conditions: fewer than 2^21 of them. -/
import Derived.Test.YtfhfjplhfjlpaaaDoorEa21
import Derived.OwnWalk
import Derived.Laws.MakeOwn
import Derived.Lib.SliceRun
namespace Go.Proofs.YtfhfjplhfjlpaaaDoor
open Go.ChangeShapes Go.WideShapes Go.ChangeAt Go.RowKit Go.Lib
set_option linter.unusedVariables false
set_option linter.unusedSimpArgs false

/-- The event that stands in a twin's spare room. -/
def spE : Ev := ⟨7777, 0, 0, 0, 0, 0⟩
theorem eown_full {w : World} {g n : Nat} {xs : List Value} (h : w.ownsRow 0 54 6 (.slice (some ⟨g, 0, none⟩) n n) n xs) : w.heap[g]? = some (.cells xs.toArray 54 (0, 0)) := by
  have hl := h.1
  rcases h.2 with ⟨hh, _⟩ | ⟨g', cap', cur, hh, _, hg, _, _, hcs, ht⟩
  · cases hh
  · cases hh
    rw [hg]
    congr 2
    rw [← Array.toList_inj]
    simp only
    rw [← ht, List.take_of_length_le (by simp [hcs])]

set_option maxHeartbeats 4000000 in
set_option maxRecDepth 100000 in
theorem twinEs_any (ao : Option Addr) (L cap : Nat) (ws : List Ev) (w : World) (h : ERs w ao ws) (hLe : L = ws.length) (hL : L < 2^21) :
    Calls Tryd.prog 4 #[.slice ao L cap] w fun e w' => ∃ b, e = .returned (.slice (some ⟨b, 0, none⟩) L (L + 1)) ∧ w.heap.size ≤ b ∧ w'.heap[b]? = some (.cells (evsC (ws ++ [spE])).toArray 54 (0, 0)) ∧ Fr [] w w' := by
  obtain ⟨i0, hi, hz0, hz1, hz2⟩ := info_parts Tryd.infoEvt
  have HL : Hid (L = ws.length) := hLe
  clear hLe
  go_enter Tryd.func4, Tryd.ntmps4
  go_wp2_with (at_make; refine wpList_make_own _ rfl (.const (.int .i64 0)) (.tmp 7) 24 rfl 0 54 i0 _ 6 Tryd.undEvs' hi hz0 hz1 .i64 .i64 ((L : Int) + 1) (L + 1) rfl rfl ?bC ?b2 ?b3 ?b4 ?_)
  case bC => simp
  case b2 => rw [hz2]; omega
  case b3 => unfold maxLen; omega
  case b4 => exact Nat.zero_le _
  intro w1 hown hgrow
  obtain ⟨g, hg⟩ : ∃ g, g = w.heap.size := ⟨_, rfl⟩
  have hgw : w.heap.size ≤ g := by omega
  rw [← hg] at hown ⊢
  have h01 : Fr [] w w1 := Fr.grown (S := []) hgrow (by simp)
  clear hgrow hg
  go_wp2_with fail
  go_loopw [3, 4] (fun vv ii wr => ∃ i : Nat, vv = .slice (some ⟨g, 0, none⟩) i (L + 1) ∧ ii = .int .i64 i ∧ i ≤ L ∧ wr.ownsRow 0 54 6 (.slice (some ⟨g, 0, none⟩) i (L + 1)) i (evsC (ws.take i)) ∧ Fr [] w wr) (fun _ ii _ => L - (intOf ii).toNat)
  case atStart => exact ⟨0, rfl, rfl, Nat.zero_le _, hown, h01⟩
  case round =>
    obtain ⟨i, rfl, rfl, hiL, hO, hF⟩ := hrel
    have hsz := (hO.lt g rfl).2
    by_cases hil : i < L
    · have hi' : i < ws.length := by rw [← HL.out]; exact hil
      obtain ⟨b, off, e, _, hc⟩ := (h.keep hF).lies (by omega)
      subst e
      obtain ⟨d0, d1, d2, d3, d4, d5⟩ := hc i hi'
      obtain ⟨x, hx⟩ : ∃ x, x = ws.getD i Ev.no := ⟨_, rfl⟩
      rw [← hx] at d0 d1 d2 d3 d4 d5
      have HE : Hid (evsC (ws.take (i + 1)) = evsC (ws.take i) ++ [.int .i64 x.t, .int .u8 x.k, .int .i64 x.n, .int .i64 x.s, .int .i64 x.c, .int .i64 x.m]) := by
        show _ = _
        rw [etake_snoc ws i hi', evsC_append, ← hx]; rfl
      clear hc hx
      obtain ⟨E, hEE⟩ : ∃ E, E = x := ⟨_, rfl⟩
      rw [← hEE] at d0 d1 d2 d3 d4 d5 HE
      clear hEE
      go_wp2_with (at_builtin; refine wpList_append_fits _ rfl (.tmp 15) (.tmp 20) 24 rfl 0 54 i0 6 Tryd.undEvs' hi hz1 g i (L + 1) _ rfl (hO.alloc _) ⟨wr.heap.size, 0, none⟩ 1 1 [.int .i64 E.t, .int .u8 E.k, .int .i64 E.n, .int .i64 E.s, .int .i64 E.c, .int .i64 E.m] rfl rfl ?c1 ?c2 ?c3 ?_)
      case c1 => intro j u hj; match j, hj with | 0, hj => simp at hj; subst hj; simp [Addr.add] | 1, hj => simp at hj; subst hj; simp [Addr.add] | 2, hj => simp at hj; subst hj; simp [Addr.add] | 3, hj => simp at hj; subst hj; simp [Addr.add] | 4, hj => simp at hj; subst hj; simp [Addr.add] | 5, hj => simp at hj; subst hj; simp [Addr.add]
      case c2 => intro u hu; simp at hu; rcases hu with rfl | rfl | rfl | rfl | rfl | rfl <;> rfl
      case c3 => omega
      intro w2 hO2 hg2
      rw [← HE.out] at hO2
      have hF2 : Fr [] w w2 := (hF.then (Fr.alloc [] wr _)).on (Fr.grown (S := [g]) hg2 (by intro k hk _; cases hk; simp)) (by intro y hy; simp at hy; omega)
      clear hO hg2 hF d0 d1 d2 d3 d4 d5
      go_wp2
      go_roundw
      case rel => exact ⟨i + 1, rfl, by simp, by omega, hO2, hF2⟩
      case measure => simp [intOf]; omega
    · have hiL' : L ≤ i := by omega
      obtain rfl : i = L := by omega
      have HE : Hid (evsC (ws ++ [spE]) = evsC (ws.take i) ++ [.int .i64 7777, .int .u8 0, .int .i64 0, .int .i64 0, .int .i64 0, .int .i64 0]) := by
        show _ = _
        rw [List.take_of_length_le (by rw [← HL.out]; omega), evsC_append]; rfl
      go_wp2_with (at_builtin; refine wpList_append_fits _ rfl (.tmp 22) (.tmp 24) 24 rfl 0 54 i0 6 Tryd.undEvs' hi hz1 g i (i + 1) _ rfl (hO.alloc _) ⟨wr.heap.size, 0, none⟩ 1 1 [.int .i64 7777, .int .u8 0, .int .i64 0, .int .i64 0, .int .i64 0, .int .i64 0] rfl rfl ?c1 ?c2 ?c3 ?_)
      case c1 => intro j u hj; match j, hj with | 0, hj => simp at hj; subst hj; simp [Addr.add] | 1, hj => simp at hj; subst hj; simp [Addr.add] | 2, hj => simp at hj; subst hj; simp [Addr.add] | 3, hj => simp at hj; subst hj; simp [Addr.add] | 4, hj => simp at hj; subst hj; simp [Addr.add] | 5, hj => simp at hj; subst hj; simp [Addr.add]
      case c2 => intro u hu; simp at hu; rcases hu with rfl | rfl | rfl | rfl | rfl | rfl <;> rfl
      case c3 => omega
      intro w2 hO2 hg2
      rw [← HE.out] at hO2
      have hF2 : Fr [] w w2 := (hF.then (Fr.alloc [] wr _)).on (Fr.grown (S := [g]) hg2 (by intro k hk _; cases hk; simp)) (by intro y hy; simp at hy; omega)
      have HRow : Hid (w2.heap[g]? = some (.cells (evsC (ws ++ [spE])).toArray 54 (0, 0))) := eown_full hO2
      clear hO hg2 hF hO2
      go_wp2
      go_ret
      exact ⟨g, rfl, hgw, HRow.out, hF2⟩

set_option maxHeartbeats 4000000 in
set_option maxRecDepth 100000 in
theorem leftEs_any (t : Nat) (ao : Option Addr) (L cap : Nat) (ws : List Ev) (w : World) (h : ERs w ao ws) (hLe : L = ws.length) (hL : L < 2^21) (hrow : w.heap[t]? = some (.cells (evsC (ws ++ [spE])).toArray 54 (0, 0))) :
    Calls Tryd.prog 10 #[.slice (some ⟨t, 0, none⟩) L (L + 1), .slice ao L cap] w fun e w' => e = .returned (.bool true) ∧ Fr [] w w' := by
  have HL : Hid (L = ws.length) := hLe
  clear hLe
  have hct : ∀ j, j < L → EAt w t (j * 6) (ws.getD j Ev.no) := by
    intro j hj
    have key : ∀ c, c < 6 → w.cell? ⟨t, j * 6 + c, none⟩ = (evV (ws.getD j Ev.no))[c]? := by
      intro c hc
      rw [cell_of_row _ _ _ _ _ _ hrow]
      have := evsC_get (ws ++ [spE]) j c (by rw [List.length_append, ← HL.out]; simp; omega) hc
      have e : (ws ++ [spE]).getD j Ev.no = ws.getD j Ev.no := by simp [List.getD, List.getElem?_append_left (show j < ws.length by rw [← HL.out]; exact hj)]
      rw [e] at this
      simpa using this
    exact ⟨key 0 (by omega), key 1 (by omega), key 2 (by omega), key 3 (by omega), key 4 (by omega), key 5 (by omega)⟩
  have hsp : EAt w t (L * 6) spE := by
    have key : ∀ c, c < 6 → w.cell? ⟨t, L * 6 + c, none⟩ = (evV spE)[c]? := by
      intro c hc
      rw [cell_of_row _ _ _ _ _ _ hrow]
      have := evsC_get (ws ++ [spE]) L c (by rw [List.length_append, ← HL.out]; simp) hc
      have e : (ws ++ [spE]).getD L Ev.no = spE := by simp [List.getD, HL.out]
      rw [e] at this
      simpa using this
    exact ⟨key 0 (by omega), key 1 (by omega), key 2 (by omega), key 3 (by omega), key 4 (by omega), key 5 (by omega)⟩
  have hne : ((L : Int) != L) = false := by simp
  have hgd := Tryd.guardEvt
  clear hrow
  go_enter Tryd.func10, Tryd.ntmps10
  go_wp2_with fail
  go_loopw [5] (fun ii wr => ∃ (i q : Nat), ii = .int .i64 i ∧ i ≤ L ∧ Hid (wr = w.drewN q)) (fun ii _ => L - (intOf ii).toNat)
  case atStart => exact ⟨0, 0, rfl, Nat.zero_le _, rfl⟩
  case round =>
    obtain ⟨i, q, rfl, hiL, HQ⟩ := hrel
    have hce : ∀ a, wr.cell? a = w.cell? a := fun a => by rw [HQ.out]; rfl
    by_cases hi : i < L
    · have hi' : i < ws.length := by rw [← HL.out]; exact hi
      obtain ⟨b, off, e, _, hc⟩ := h.lies (by omega)
      subst e
      obtain ⟨c0, c1, c2, c3, c4, c5⟩ := hct i hi
      obtain ⟨d0, d1, d2, d3, d4, d5⟩ := hc i hi'
      obtain ⟨x, hxx⟩ : ∃ x, x = ws.getD i Ev.no := ⟨_, rfl⟩
      rw [← hxx, ← hce] at c0 c1 c2 c3 c4 c5 d0 d1 d2 d3 d4 d5
      clear hxx hct hc hsp hce
      have hq : ∀ w', (Op.equalIn 10000 54 (.agg #[.int .i64 x.t, .int .u8 x.k, .int .i64 x.n, .int .i64 x.s, .int .i64 x.c, .int .i64 x.m]) (.agg #[.int .i64 x.t, .int .u8 x.k, .int .i64 x.n, .int .i64 x.s, .int .i64 x.c, .int .i64 x.m])).run Tryd.prog w' = .ok true w' := fun w' => by rw [ev_fields w' x x, (sameEv_iff x x).2 rfl]
      go_wp2_with fail
      go_quiet (fail)
      go_wp2
      go_roundw
      case rel => exact ⟨i + 1, q + nq, by simp, by omega, by show _ = _; rw [HQ.out]; simp⟩
      case measure => simp [intOf]; omega
    · have hiL' : L ≤ i := by omega
      obtain ⟨c0, c1, c2, c3, c4, c5⟩ := hsp
      rw [← hce] at c0 c1 c2 c3 c4 c5
      have hFq : Fr [] w wr := by rw [HQ.out]; exact Fr.drewN _ _ _
      clear hct hce
      have hq : ∀ w', (Op.equalIn 10000 54 (.agg #[.int .i64 7777, .int .u8 0, .int .i64 0, .int .i64 0, .int .i64 0, .int .i64 0]) (.agg #[.int .i64 7777, .int .u8 0, .int .i64 0, .int .i64 0, .int .i64 0, .int .i64 0])).run Tryd.prog w' = .ok true w' := fun w' => by
        have := ev_fields w' spE spE
        rw [(sameEv_iff spE spE).2 rfl] at this
        exact this
      simp only [spE] at c0 c1 c2 c3 c4 c5
      go_wp2
      go_ret
      exact ⟨by simp, hFq.then (Fr.alloc [] _ _)⟩
end Go.Proofs.YtfhfjplhfjlpaaaDoor

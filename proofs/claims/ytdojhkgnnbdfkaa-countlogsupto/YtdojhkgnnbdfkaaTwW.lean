/- What the statements' helpers TwinWrites, TwinTxn, LeftWrites and LeftTxn answer. Conditions: fewer than 2^21 writes. -/
import Derived.Test.YtdojhkgnnbdfkaaTm
import Derived.Test.YtdojhkgnnbdfkaaSa
import Derived.Laws.ResultCell
import Derived.Deep.RegionLaw
import Derived.Deep.RegionWith
import Derived.Deep.RegionHeld3
import Derived.Deep.CutRange
namespace Go.Proofs.Ytdojhkgnnbdfkaa
open Go.ChangeShapes Go.WideShapes Go.ChangeAt Go.RowKit Go.Lib
set_option linter.unusedVariables false
set_option linter.unusedSimpArgs false

/-- The write that stands in a twin's spare room. -/
def spW : Wt := ⟨⟨#[115, 112, 97, 114, 101]⟩, ⟨#[]⟩, false⟩
theorem Try.infoWtW : (Try.prog.info? 51).map (fun i => (i.zero, i.size, i.bytes)) = some (some (.agg #[.string ⟨#[]⟩, .string ⟨#[]⟩, .bool false]), 3, 40) := by kernel_rfl
theorem Try.undWsW : Try.prog.underlying 22 = some (.slice 51) := by kernel_rfl
theorem results_cW {fn : Func} {p : Tmp} {ty : TypeId} (h : fn.results = #[.cell p ty]) (tmps : Array Value) (P : Program) (w : World) :
    (results fn tmps).run P w = ((asAddr (tmps.getD p undef)).run P w).andThen fun a w₁ => (loadVar ty a).run P w₁ := by
  simp only [results, h]
  simp [Sem.run_bind, Result.andThen]
theorem wown_full {w : World} {g n : Nat} {xs : List Value} (h : w.ownsRow 0 51 3 (.slice (some ⟨g, 0, none⟩) n n) n xs) : w.heap[g]? = some (.cells xs.toArray 51 (0, 0)) := by
  have hl := h.1
  rcases h.2 with ⟨hh, _⟩ | ⟨g', cap', cur, hh, _, hg, _, _, hcs, ht⟩
  · cases hh
  · cases hh
    rw [hg]
    congr 2
    rw [← Array.toList_inj]
    simp only
    rw [← ht, List.take_of_length_le (by simp [hcs])]

set_option maxHeartbeats 4000000 in
set_option maxRecDepth 100000 in
theorem twinWs_any (ao : Option Addr) (L cap : Nat) (ws : List Wt) (w : World) (h : WRs w ao ws) (hLe : L = ws.length) (hL : L < 2^21) :
    Calls Try.prog 37 #[.slice ao L cap] w fun e w' => ∃ b, e = .returned (.slice (some ⟨b, 0, none⟩) L (L + 1)) ∧ w.heap.size ≤ b ∧ w'.heap[b]? = some (.cells (wtsC (ws ++ [spW])).toArray 51 (0, 0)) ∧ Fr [] w w' := by
  obtain ⟨i0, hi, hz0, hz1, hz2⟩ := info_parts Try.infoWtW
  have HL : Hid (L = ws.length) := hLe
  clear hLe
  go_enter Try.func37, Try.ntmps37
  go_wp2_with (at_make; refine wpList_make_own _ rfl (.const (.int .i64 0)) (.tmp 7) 22 rfl 0 51 i0 _ 3 Try.undWsW hi hz0 hz1 .i64 .i64 ((L : Int) + 1) (L + 1) rfl rfl ?bC ?b2 ?b3 ?b4 ?_)
  case bC => simp
  case b2 => rw [hz2]; omega
  case b3 => unfold maxLen; omega
  case b4 => exact Nat.zero_le _
  intro w1 hown hgrow
  obtain ⟨g, hg⟩ : ∃ g, g = w.heap.size := ⟨_, rfl⟩
  have hgw : w.heap.size ≤ g := by omega
  rw [← hg] at hown ⊢
  have h01 : Fr [] w w1 := Fr.grown (S := []) hgrow (by simp)
  clear hgrow hg
  go_wp2_with fail
  go_loopw [3, 4] (fun vv ii wr => ∃ i : Nat, vv = .slice (some ⟨g, 0, none⟩) i (L + 1) ∧ ii = .int .i64 i ∧ i ≤ L ∧ wr.ownsRow 0 51 3 (.slice (some ⟨g, 0, none⟩) i (L + 1)) i (wtsC (ws.take i)) ∧ Fr [] w wr) (fun _ ii _ => L - (intOf ii).toNat)
  case atStart => exact ⟨0, rfl, rfl, Nat.zero_le _, hown, h01⟩
  case round =>
    obtain ⟨i, rfl, rfl, hiL, hO, hF⟩ := hrel
    have hsz := (hO.lt g rfl).2
    by_cases hil : i < L
    · have hi' : i < ws.length := by rw [← HL.out]; exact hil
      obtain ⟨b, off, e, _, hc⟩ := (h.keep hF).lies (by omega)
      subst e
      obtain ⟨d0, d1, d2⟩ := hc i hi'
      obtain ⟨x, hx⟩ : ∃ x, x = ws.getD i Wt.zero := ⟨_, rfl⟩
      rw [← hx] at d0 d1 d2
      have HE : Hid (wtsC (ws.take (i + 1)) = wtsC (ws.take i) ++ [.string x.key, .string x.val, .bool x.drop]) := by
        show _ = _
        rw [wtake_snoc ws i hi', wtsC_append, ← hx]; rfl
      clear hc hx
      obtain ⟨key, val, drop⟩ := x
      simp only at d0 d1 d2 HE
      go_wp2_with (at_builtin; refine wpList_append_fits _ rfl (.tmp 15) (.tmp 20) 22 rfl 0 51 i0 3 Try.undWsW hi hz1 g i (L + 1) _ rfl (hO.alloc _) ⟨wr.heap.size, 0, none⟩ 1 1 [.string key, .string val, .bool drop] rfl rfl ?c1 ?c2 ?c3 ?_)
      case c1 => intro j u hj; match j, hj with | 0, hj => simp at hj; subst hj; simp [Addr.add] | 1, hj => simp at hj; subst hj; simp [Addr.add] | 2, hj => simp at hj; subst hj; simp [Addr.add]
      case c2 => intro u hu; simp at hu; rcases hu with rfl | rfl | rfl <;> rfl
      case c3 => omega
      intro w2 hO2 hg2
      rw [← HE.out] at hO2
      have hF2 : Fr [] w w2 := (hF.then (Fr.alloc [] wr _)).on (Fr.grown (S := [g]) hg2 (by intro k hk _; cases hk; simp)) (by intro y hy; simp at hy; omega)
      clear hO hg2 hF d0 d1 d2
      go_wp2
      go_roundw
      case rel => exact ⟨i + 1, rfl, by simp, by omega, hO2, hF2⟩
      case measure => simp [intOf]; omega
    · have hiL' : L ≤ i := by omega
      obtain rfl : i = L := by omega
      have HE : Hid (wtsC (ws ++ [spW]) = wtsC (ws.take i) ++ [.string ⟨#[115, 112, 97, 114, 101]⟩, .string ⟨#[]⟩, .bool false]) := by
        show _ = _
        rw [List.take_of_length_le (by rw [← HL.out]; omega), wtsC_append]; rfl
      go_wp2_with (at_builtin; refine wpList_append_fits _ rfl (.tmp 22) (.tmp 24) 22 rfl 0 51 i0 3 Try.undWsW hi hz1 g i (i + 1) _ rfl (hO.alloc _) ⟨wr.heap.size, 0, none⟩ 1 1 [.string ⟨#[115, 112, 97, 114, 101]⟩, .string ⟨#[]⟩, .bool false] rfl rfl ?c1 ?c2 ?c3 ?_)
      case c1 => intro j u hj; match j, hj with | 0, hj => simp at hj; subst hj; simp [Addr.add] | 1, hj => simp at hj; subst hj; simp [Addr.add] | 2, hj => simp at hj; subst hj; simp [Addr.add]
      case c2 => intro u hu; simp at hu; rcases hu with rfl | rfl | rfl <;> rfl
      case c3 => omega
      intro w2 hO2 hg2
      rw [← HE.out] at hO2
      have hF2 : Fr [] w w2 := (hF.then (Fr.alloc [] wr _)).on (Fr.grown (S := [g]) hg2 (by intro k hk _; cases hk; simp)) (by intro y hy; simp at hy; omega)
      have HRow : Hid (w2.heap[g]? = some (.cells (wtsC (ws ++ [spW])).toArray 51 (0, 0))) := wown_full hO2
      clear hO hg2 hF hO2
      go_wp2
      go_ret
      exact ⟨g, rfl, hgw, HRow.out, hF2⟩

set_option maxHeartbeats 4000000 in
set_option maxRecDepth 100000 in
theorem twinTxn_any (n : Int) (ao : Option Addr) (L cap : Nat) (ws : List Wt) (w : World) (h : WRs w ao ws) (hLe : L = ws.length) (hL : L < 2^21) :
    Calls Try.prog 22 #[.agg #[.int .i64 n, .slice ao L cap]] w fun e w' => ∃ b, e = .returned (.agg #[.int .i64 n, .slice (some ⟨b, 0, none⟩) L (L + 1)]) ∧ w.heap.size ≤ b ∧ w'.heap[b]? = some (.cells (wtsC (ws ++ [spW])).toArray 51 (0, 0)) ∧ Fr [] w w' := by
  have HLe : Hid (L = ws.length) := hLe
  clear hLe
  obtain ⟨w0, HW0⟩ : ∃ w0, Hid ((w.alloc (.cells #[.int .i64 n, .slice ao L cap] 24)).alloc (.cells #[.int .i64 0, .slice none 0 0] 24) = w0) := ⟨_, rfl⟩
  have hF0 : Fr [] w w0 := by rw [← HW0.out]; exact (Fr.alloc [] w _).then (Fr.alloc [] _ _)
  have hb0 : w0.heap[w.heap.size]? = some (.cells #[.int .i64 n, .slice ao L cap] 24 (0, 0)) := by rw [← HW0.out]; exact (Fr.alloc [] _ _).keep (heap_alloc_new w _) (by simp)
  have hb1 : w0.heap[w.heap.size + 1]? = some (.cells #[.int .i64 0, .slice none 0 0] 24 (0, 0)) := by
    rw [← HW0.out]
    have := heap_alloc_new (w.alloc (.cells #[.int .i64 n, .slice ao L cap] 24)) (.cells #[.int .i64 0, .slice none 0 0] 24)
    simpa using this
  have HB : Hid (∀ W, Fr [] w0 W → W.heap[w.heap.size]? = some (.cells #[.int .i64 n, .slice ao L cap] 24 (0, 0)) ∧ W.heap[w.heap.size + 1]? = some (.cells #[.int .i64 0, .slice none 0 0] 24 (0, 0))) := fun W hf => ⟨hf.keep hb0 (by simp), hf.keep hb1 (by simp)⟩
  have hcell : ∀ W, Fr [] w0 W → W.cell? ⟨w.heap.size, 0, none⟩ = some (.int .i64 n) ∧ W.cell? ⟨w.heap.size, 1, none⟩ = some (.slice ao L cap) ∧ W.cell? ⟨w.heap.size + 1, 0, none⟩ = some (.int .i64 0) ∧ W.cell? ⟨w.heap.size + 1, 1, none⟩ = some (.slice none 0 0) ∧ W.frozen? ⟨w.heap.size + 1, 0, none⟩ = false ∧ W.frozen? ⟨w.heap.size + 1, 1, none⟩ = false := by
    intro W hf
    obtain ⟨a, b⟩ := HB.out W hf
    refine ⟨?_, ?_, ?_, ?_, ?_, ?_⟩
    · rw [cell_of_row _ _ _ _ _ _ a]; rfl
    · rw [cell_of_row _ _ _ _ _ _ a]; rfl
    · rw [cell_of_row _ _ _ _ _ _ b]; rfl
    · rw [cell_of_row _ _ _ _ _ _ b]; rfl
    · simp [World.frozen?, b]
    · simp [World.frozen?, b]
  have HCe : Hid (∀ W, Fr [] w0 W → _) := hcell
  obtain ⟨k0, k1, k2, k3, k4, k5⟩ := hcell _ (Fr.drew [] w0)
  have hT := twinWs_any ao L cap ws w0.drew (h.keep (hF0.then (Fr.drew [] w0))) HLe.out hL
  clear hcell hb0 hb1
  have hs0 : w0.heap.size = w.heap.size + 2 := by rw [← HW0.out]; simp
  go_enter Try.func22, Try.ntmps22
  go_upto_region 1 with fail
  rw [HW0.out]
  first
    | go_loud (go_region_held3 (fun W => W.cell? ⟨w.heap.size, 0, none⟩ = some (.int .i64 n) ∧ W.cell? ⟨w.heap.size, 1, none⟩ = some (.slice ao L cap)) (go_keep)
        (first
        | (go_at_call 37; with_reducible refine hT.mono ?_; rintro e w1 ⟨b, rfl, hb, hrow, hF1⟩; have hG1 := (Fr.drew [] w0).then hF1; obtain ⟨j0, j1, j2, j3, j4, j5⟩ := HCe.out _ hG1)))
    | fail
  have hbb : b ≠ w.heap.size + 1 := by have : w0.drew.heap.size = w0.heap.size := rfl; omega
  have hFs : Fr [w.heap.size + 1] w1 ((w1.setCell ⟨w.heap.size + 1, 0, none⟩ (.int .i64 n)).setCell ⟨w.heap.size + 1, 1, none⟩ (.slice (some ⟨b, 0, none⟩) L (L + 1))) := (Fr.set w1 ⟨w.heap.size + 1, 0, none⟩ _ (by simp)).then (Fr.set _ ⟨w.heap.size + 1, 1, none⟩ _ (by simp))
  have HR : Hid (_ ∧ _) := ⟨hFs.keep hrow (by simp; exact hbb), (hF0.then hG1).on hFs (by intro x hx; simp at hx; omega)⟩
  have hbw : w.heap.size ≤ b := by have : w0.drew.heap.size = w0.heap.size := rfl; omega
  clear hFs hrow hF1 hG1 hT
  go_wp2
  refine bodyPost_ret (v := (.agg #[.int .i64 n, .slice (some ⟨b, 0, none⟩) L (L + 1)])) (by rw [results_cW rfl]; go_simp) rfl ⟨b, rfl, hbw, HR.out.1, HR.out.2⟩

set_option maxHeartbeats 4000000 in
set_option maxRecDepth 100000 in
theorem leftWs_any (t : Nat) (ao : Option Addr) (L cap : Nat) (ws : List Wt) (w : World) (h : WRs w ao ws) (hLe : L = ws.length) (hL : L < 2^21) (hrow : w.heap[t]? = some (.cells (wtsC (ws ++ [spW])).toArray 51 (0, 0))) :
    Calls Try.prog 39 #[.slice (some ⟨t, 0, none⟩) L (L + 1), .slice ao L cap] w fun e w' => e = .returned (.bool true) ∧ Fr [] w w' := by
  have HL : Hid (L = ws.length) := hLe
  clear hLe
  have hct : ∀ j, j < L → WAt w t (j * 3) (ws.getD j Wt.zero) := by
    intro j hj
    have key : ∀ c, c < 3 → w.cell? ⟨t, j * 3 + c, none⟩ = (wtC (ws.getD j Wt.zero))[c]? := by
      intro c hc
      rw [cell_of_row _ _ _ _ _ _ hrow]
      have := wtsC_get (ws ++ [spW]) j c (by rw [List.length_append, ← HL.out]; simp; omega) hc
      have e : (ws ++ [spW]).getD j Wt.zero = ws.getD j Wt.zero := by simp [List.getD, List.getElem?_append_left (show j < ws.length by rw [← HL.out]; exact hj)]
      rw [e] at this
      simpa using this
    exact ⟨key 0 (by omega), key 1 (by omega), key 2 (by omega)⟩
  have hsp : WAt w t (L * 3) spW := by
    have key : ∀ c, c < 3 → w.cell? ⟨t, L * 3 + c, none⟩ = (wtC spW)[c]? := by
      intro c hc
      rw [cell_of_row _ _ _ _ _ _ hrow]
      have := wtsC_get (ws ++ [spW]) L c (by rw [List.length_append, ← HL.out]; simp) hc
      have e : (ws ++ [spW]).getD L Wt.zero = spW := by simp [List.getD, HL.out]
      rw [e] at this
      simpa using this
    exact ⟨key 0 (by omega), key 1 (by omega), key 2 (by omega)⟩
  have hne : ((L : Int) != L) = false := by simp
  have hgd := Try.guardWt
  clear hrow
  go_enter Try.func39, Try.ntmps39
  go_wp2_with fail
  go_loopw [5] (fun ii wr => ∃ (i q : Nat), ii = .int .i64 i ∧ i ≤ L ∧ Hid (wr = w.drewN q)) (fun ii _ => L - (intOf ii).toNat)
  case atStart => exact ⟨0, 0, rfl, Nat.zero_le _, rfl⟩
  case round =>
    obtain ⟨i, q, rfl, hiL, HQ⟩ := hrel
    have hce : ∀ a, wr.cell? a = w.cell? a := fun a => by rw [HQ.out]; rfl
    by_cases hi : i < L
    · have hi' : i < ws.length := by rw [← HL.out]; exact hi
      obtain ⟨b, off, e, _, hc⟩ := h.lies (by omega)
      subst e
      obtain ⟨c0, c1, c2⟩ := hct i hi
      obtain ⟨d0, d1, d2⟩ := hc i hi'
      obtain ⟨x, hxx⟩ : ∃ x, x = ws.getD i Wt.zero := ⟨_, rfl⟩
      rw [← hxx, ← hce] at c0 c1 c2 d0 d1 d2
      clear hxx hct hc hsp hce
      have hq : ∀ w', (Op.equalIn 10000 51 (.agg #[.string x.key, .string x.val, .bool x.drop]) (.agg #[.string x.key, .string x.val, .bool x.drop])).run Try.prog w' = .ok true w' := fun w' => by rw [wt_in w' x x, (sameW_iff x x).2 rfl]
      go_wp2_with fail
      go_quiet (fail)
      go_wp2
      go_roundw
      case rel => exact ⟨i + 1, q + nq, by simp, by omega, by show _ = _; rw [HQ.out]; simp⟩
      case measure => simp [intOf]; omega
    · have hiL' : L ≤ i := by omega
      obtain ⟨c0, c1, c2⟩ := hsp
      rw [← hce] at c0 c1 c2
      have hFq : Fr [] w wr := by rw [HQ.out]; exact Fr.drewN _ _ _
      clear hct hce
      have hq : ∀ w', (Op.equalIn 10000 51 (.agg #[.string ⟨#[115, 112, 97, 114, 101]⟩, .string ⟨#[]⟩, .bool false]) (.agg #[.string ⟨#[115, 112, 97, 114, 101]⟩, .string ⟨#[]⟩, .bool false])).run Try.prog w' = .ok true w' := fun w' => by
        have := wt_in w' spW spW
        rw [(sameW_iff spW spW).2 rfl] at this
        exact this
      simp only [spW] at c0 c1 c2
      go_wp2
      go_ret
      exact ⟨by simp, hFq.then (Fr.alloc [] _ _)⟩
set_option maxHeartbeats 2000000 in
set_option maxRecDepth 100000 in
theorem leftTxn_any (n : Int) (t : Nat) (ao : Option Addr) (L cap : Nat) (ws : List Wt) (w : World) (h : WRs w ao ws) (hLe : L = ws.length) (hL : L < 2^21) (hrow : w.heap[t]? = some (.cells (wtsC (ws ++ [spW])).toArray 51 (0, 0))) :
    Calls Try.prog 28 #[.agg #[.int .i64 n, .slice (some ⟨t, 0, none⟩) L (L + 1)], .agg #[.int .i64 n, .slice ao L cap]] w fun e w' => e = .returned (.bool true) ∧ Fr [] w w' := by
  have HL : Hid (L = ws.length) := hLe
  clear hLe
  have hF0 : Fr [] w ((w.alloc (.cells #[.int .i64 n, .slice (some ⟨t, 0, none⟩) L (L + 1)] 24)).alloc (.cells #[.int .i64 n, .slice ao L cap] 24)) := (Fr.alloc [] w _).then (Fr.alloc [] _ _)
  have hX := leftWs_any t ao L cap ws _ (h.keep hF0) HL.out hL (hF0.keep hrow (by simp))
  have hnn : (n == n) = true := by simp
  go_enter Try.func28, Try.ntmps28
  go_wp2_with fail
  refine hX.mono ?_
  rintro e w1 ⟨rfl, hF1⟩
  have HG : Hid (Fr [] w w1) := hF0.then hF1
  clear hX hF1
  go_wp2
  go_ret
  exact ⟨by simp, HG.out⟩
end Go.Proofs.Ytdojhkgnnbdfkaa

/- Texts of this claim laid together, one behind the other: contracts and plain lemmas; conditions as each names them. -/
import Derived.Test.YtldghdbfhikcoaaGreatDoorGp21
import Derived.Test.YtldghdbfhikcoaaGreatDoorGp5
import Derived.Test.YtldghdbfhikcoaaGreatDoorGp7
import Derived.Test.YtldghdbfhikcoaaGreatDoorGp22
/- What the statements' helpers TwinBytes and LeftBytes answer. Conditions: fewer than 2^41 bytes. -/
namespace Go.Proofs.YtldghdbfhikcoaaGreatDoor
open Go.ChangeShapes Go.WideShapes Go.ChangeAt Go.RowKit Go.Lib

theorem own_full {w : World} {g n : Nat} {xs : List Value} (h : w.ownsRow 0 5 1 (.slice (some ⟨g, 0, none⟩) n n) n xs) : w.heap[g]? = some (.cells xs.toArray 5 (0, 0)) := by
  have hl := h.1
  rcases h.2 with ⟨hh, _⟩ | ⟨g', cap', cur, hh, _, hg, _, _, hcs, ht⟩
  · cases hh
  · cases hh
    rw [hg]
    congr 2
    rw [← Array.toList_inj]
    simp only
    rw [← ht, List.take_of_length_le (by simp [hcs])]

set_option maxHeartbeats 4000000 in
set_option maxRecDepth 100000 in
theorem twin_any (ao : Option Addr) (L cap : Nat) (xs : List Nat) (w : World) (h : BArg w ao L cap xs) (hL : L < 2^40) :
    Calls Tryz.prog 18 #[.slice ao L cap] w fun e w' => ∃ b, e = .returned (.slice (some ⟨b, 0, none⟩) L (L + 1)) ∧ w.heap.size ≤ b ∧ w'.heap[b]? = some (.cells (bts (xs ++ [77])).toArray 5 (0, 0)) ∧ Fr [] w w' := by
  obtain ⟨i0, hi, hz0, hz1, hz2⟩ := info_parts Tryz.infoB
  have HL : Hid (L = xs.length) := h.len
  go_enter Tryz.func18, Tryz.ntmps18
  go_wp2_with (at_make; refine wpList_make_own _ rfl (.const (.int .i64 0)) (.tmp 7) 29 rfl 0 5 i0 (.int .u8 0) 1 Tryz.undBs hi hz0 hz1 .i64 .i64 ((L : Int) + 1) (L + 1) rfl rfl ?bC ?b2 ?b3 ?b4 ?_)
  case bC => simp
  case b2 => rw [hz2]; omega
  case b3 => unfold maxLen; omega
  case b4 => exact Nat.zero_le _
  intro w1 hown hgrow
  obtain ⟨g, hg⟩ : ∃ g, g = w.heap.size := ⟨_, rfl⟩
  have hgw : w.heap.size ≤ g := by omega
  rw [← hg] at hown ⊢
  have h01 : Fr [] w w1 := Fr.grown (S := []) hgrow (by simp)
  clear hgrow hg
  go_wp2_with fail
  go_loopw [3, 4] (fun vv ii wr => ∃ i : Nat, vv = .slice (some ⟨g, 0, none⟩) i (L + 1) ∧ ii = .int .i64 i ∧ i ≤ L ∧ wr.ownsRow 0 5 1 (.slice (some ⟨g, 0, none⟩) i (L + 1)) i (bts (xs.take i)) ∧ Fr [] w wr) (fun _ ii _ => L - (Lib.intOf ii).toNat)
  case atStart => exact ⟨0, rfl, rfl, Nat.zero_le _, hown, h01⟩
  case round =>
    obtain ⟨i, rfl, rfl, hiL, hO, hF⟩ := hrel
    have hsz := (hO.lt g rfl).2
    by_cases hil : i < L
    · obtain ⟨b, off, e, _, hc⟩ := (h.keep hF).lies (by omega)
      subst e
      have hcx := hc i hil
      obtain ⟨x, hx⟩ : ∃ x, x = xs.getD i 0 := ⟨_, rfl⟩
      rw [← hx] at hcx
      have HE : Hid (bts (xs.take (i + 1)) = bts (xs.take i) ++ [.int .u8 (x : Int)]) := by
        show _ = _
        have hget : xs[i]? = some x := by rw [hx, List.getD, List.getElem?_eq_getElem (by rw [← HL.out]; exact hil)]; rfl
        have e : xs.take (i + 1) = xs.take i ++ [x] := by rw [List.take_add_one, hget]; rfl
        rw [e, bts_append]; rfl
      clear hc hx
      go_wp2_with (at_builtin; refine wpList_append_fits _ rfl (.tmp 15) (.tmp 20) 29 rfl 0 5 i0 1 Tryz.undBs hi hz1 g i (L + 1) _ rfl (hO.alloc _) ⟨wr.heap.size, 0, none⟩ 1 1 [.int .u8 (x : Int)] rfl rfl ?c1 ?c2 ?c3 ?_)
      case c1 => intro j u hj; match j, hj with | 0, hj => simp at hj; subst hj; simp [Addr.add]
      case c2 => intro u hu; simp at hu; subst hu; rfl
      case c3 => omega
      intro w2 hO2 hg2
      rw [← HE.out] at hO2
      have hF2 : Fr [] w w2 := (hF.then (Fr.alloc [] wr _)).on (Fr.grown (S := [g]) hg2 (by intro k hk _; cases hk; simp)) (by intro y hy; simp at hy; omega)
      clear hO hg2 hF hcx
      go_wp2
      go_roundw
      case rel => exact ⟨i + 1, rfl, by simp, by omega, hO2, hF2⟩
      case measure => simp [Lib.intOf]; omega
    · have hiL' : L ≤ i := by omega
      obtain rfl : i = L := by omega
      have HE : Hid (bts (xs ++ [77]) = bts (xs.take i) ++ [.int .u8 77]) := by
        show _ = _
        rw [List.take_of_length_le (by rw [← HL.out]; omega), bts_append]; rfl
      go_wp2_with (at_builtin; refine wpList_append_fits _ rfl (.tmp 22) (.tmp 23) 29 rfl 0 5 i0 1 Tryz.undBs hi hz1 g i (i + 1) _ rfl (hO.alloc _) ⟨wr.heap.size, 0, none⟩ 1 1 [.int .u8 77] rfl rfl ?c1 ?c2 ?c3 ?_)
      case c1 => intro j u hj; match j, hj with | 0, hj => simp at hj; subst hj; simp [Addr.add]
      case c2 => intro u hu; simp at hu; subst hu; rfl
      case c3 => omega
      intro w2 hO2 hg2
      rw [← HE.out] at hO2
      have hF2 : Fr [] w w2 := (hF.then (Fr.alloc [] wr _)).on (Fr.grown (S := [g]) hg2 (by intro k hk _; cases hk; simp)) (by intro y hy; simp at hy; omega)
      have hrow := own_full hO2
      have HRow : Hid (w2.heap[g]? = some (.cells (bts (xs ++ [77])).toArray 5 (0, 0))) := hrow
      clear hO hg2 hF hO2 hrow
      go_wp2
      go_ret
      exact ⟨g, rfl, hgw, HRow.out, hF2⟩

set_option maxHeartbeats 4000000 in
set_option maxRecDepth 100000 in
theorem leftBytes_any (t : Nat) (ao : Option Addr) (L cap : Nat) (xs : List Nat) (w : World) (h : BArg w ao L cap xs) (hL : L < 2^40) (hrow : w.heap[t]? = some (.cells (bts (xs ++ [77])).toArray 5 (0, 0))) :
    Calls Tryz.prog 22 #[.slice (some ⟨t, 0, none⟩) L (L + 1), .slice ao L cap] w fun e w' => e = .returned (.bool true) ∧ ∃ q, w' = w.drewN q := by
  have HL : Hid (L = xs.length) := h.len
  have hct : ∀ j, j < L → w.cell? ⟨t, j, none⟩ = some (.int .u8 ((xs.getD j 0 : Nat) : Int)) := by
    intro j hj
    rw [cell_of_row _ _ _ _ _ _ hrow]
    have := bts_get (xs ++ [77]) j (by rw [List.length_append, ← HL.out]; omega)
    have e : (xs ++ [77]).getD j 0 = xs.getD j 0 := by simp [List.getD, List.getElem?_append_left (show j < xs.length by rw [← HL.out]; exact hj)]
    rw [e] at this
    simpa using this
  have hc77 : w.cell? ⟨t, L, none⟩ = some (.int .u8 77) := by
    rw [cell_of_row _ _ _ _ _ _ hrow]
    have := bts_get (xs ++ [77]) L (by rw [List.length_append, ← HL.out]; simp)
    have e : (xs ++ [77]).getD L 0 = 77 := by simp [List.getD, HL.out]
    rw [e] at this
    simpa using this
  have hne : ((L : Int) != L) = false := by simp
  clear hrow
  go_enter Tryz.func22, Tryz.ntmps22
  go_wp2_with fail
  go_loopw [5] (fun ii wr => ∃ (i q : Nat), ii = .int .i64 i ∧ i ≤ L ∧ wr = w.drewN q) (fun ii _ => L - (Lib.intOf ii).toNat)
  case atStart => exact ⟨0, 0, rfl, Nat.zero_le _, rfl⟩
  case round =>
    obtain ⟨i, q, rfl, hi, rfl⟩ := hrel
    by_cases hil : i < L
    · obtain ⟨b, off, e, _, hc⟩ := h.lies (by omega)
      subst e
      have hx := hct i hil
      have hy := hc i hil
      obtain ⟨x, hxx⟩ : ∃ x, x = xs.getD i 0 := ⟨_, rfl⟩
      rw [← hxx] at hx hy
      clear hxx hct hc
      have hb1 : ((x : Int) != x) = false := by simp
      go_wp2_with fail
      go_quiet (fail)
      go_wp2
      go_roundw
      case rel => exact ⟨i + 1, q + nq, by simp, by omega, by simp⟩
      case measure => simp [Lib.intOf]; omega
    · have hiL : L ≤ i := by omega
      clear hct
      go_wp2
      go_ret
      exact ⟨rfl, _, rfl⟩
end Go.Proofs.YtldghdbfhikcoaaGreatDoor

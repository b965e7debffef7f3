/- Texts of this claim laid together, one behind the other: contracts and plain lemmas; conditions as each names them. -/
import Derived.Test.YtaaghcimfcjehaaGreatDoorGp2
import Derived.Deep.Slices
import Derived.Test.YtaaghcimfcjehaaGreatDoorGp8
/- Rows of numbers that can be read; SameInts, TwinInts, LeftInts. Conditions as each names them. -/
namespace Go.Proofs.YtaaghcimfcjehaaGreatDoor
open Go.ChangeShapes Go.WideShapes Go.ChangeAt Go.RowKit Go.Lib Go.Maps
set_option linter.unusedVariables false
set_option linter.unusedSimpArgs false

/-- The slice at ao reads as the numbers ns. -/
structure IRs (w : World) (ao : Option Addr) (ns : List Int) : Prop where
  lies : 0 < ns.length → ∃ b off, ao = some ⟨b, off, none⟩ ∧ b < w.heap.size ∧ ∀ i, i < ns.length → w.cell? ⟨b, off + i, none⟩ = some (.int .i64 (ns.getD i 0))
  few : ns.length ≤ 17592186044416
theorem IRs.keepS {S : List Nat} {w w' : World} {ao : Option Addr} {ns : List Int} (h : IRs w ao ns) (hf : Fr S w w') (hn : 0 < ns.length → ∀ a, ao = some a → a.block ∉ S) : IRs w' ao ns := by
  refine ⟨fun h0 => ?_, h.few⟩
  obtain ⟨b, off, e, hb, hc⟩ := h.lies h0
  exact ⟨b, off, e, Nat.lt_of_lt_of_le hb hf.size, fun i hi => (World.cell?_of_block (hf.block b hb (hn h0 _ e))).trans (hc i hi)⟩
theorem IRs.keep {w w' : World} {ao : Option Addr} {ns : List Int} (h : IRs w ao ns) (hf : Fr [] w w') : IRs w' ao ns := h.keepS hf (by simp)
theorem itake_snoc (ns : List Int) (i : Nat) (h : i < ns.length) : ns.take (i + 1) = ns.take i ++ [ns.getD i 0] := by
  rw [List.take_add_one]
  simp [List.getD, h]
theorem IOw.rs {base : Nat} {w : World} {o : Option Addr} {n c : Nat} {xs : List Int} (h : IOw base w o n c xs) (hn : n ≤ 17592186044416) : IRs w o xs := by
  refine ⟨fun h0 => ?_, by rw [← h.len]; exact hn⟩
  obtain ⟨g, e, _, hg, hc⟩ := h.cells (by rw [h.len]; exact h0)
  exact ⟨g, 0, e, hg, fun j hj => by rw [Nat.zero_add]; exact hc j (by rw [h.len]; exact hj)⟩
set_option maxHeartbeats 2000000 in
set_option maxRecDepth 100000 in
theorem same12 (a b : Option Addr) (L ca cb : Nat) (xs : List Int) (w : World) (ha : IRs w a xs) (hb : IRs w b xs) (hL : L = xs.length) (hLl : L < 2 ^ 40) :
    Calls Tryz.prog 17 #[.slice a L ca, .slice b L cb] w fun e w' => e = .returned (.bool true) ∧ Fr [] w w' := by
  have HL : Hid (L = xs.length) := hL
  have hne : ((L : Int) != L) = false := by simp
  clear hL
  by_cases h0 : 0 < L
  · obtain ⟨ba, oa, rfl, _, hca⟩ := ha.lies (by rw [← HL.out]; exact h0)
    obtain ⟨bb, ob, rfl, _, hcb⟩ := hb.lies (by rw [← HL.out]; exact h0)
    rw [← HL.out] at hca hcb
    go_enter Tryz.func17, Tryz.ntmps17
    go_wp2_with fail
    go_loopw [5] (fun ii wr => ∃ (i q : Nat), ii = .int .i64 i ∧ i ≤ L ∧ wr = w.drewN q) (fun ii _ => L - (RowKit.intOf ii).toNat)
    case atStart => exact ⟨0, 0, rfl, Nat.zero_le _, rfl⟩
    case round =>
      obtain ⟨i, q, rfl, hiL, rfl⟩ := hrel
      by_cases hi : i < L
      · have hx := hca i hi
        have hy := hcb i hi
        obtain ⟨x, hxx⟩ : ∃ x, x = xs.getD i 0 := ⟨_, rfl⟩
        rw [← hxx] at hx hy
        clear hxx hca hcb
        have hb1 : (x != x) = false := by simp
        go_wp2_with fail
        go_quiet (fail)
        go_wp2
        go_roundw
        case rel => exact ⟨i + 1, q + nq, by simp, by omega, by simp⟩
        case measure => simp [RowKit.intOf]; omega
      · go_wp2
        go_ret
        exact ⟨rfl, Fr.drewN _ _ _⟩
  · obtain rfl : L = 0 := by omega
    go_enter Tryz.func17, Tryz.ntmps17
    go_wp2_with fail
    refine wp_loop_rounds 1 ?_
    rw [rounds_succ]
    go_wp2
    go_ret
    exact ⟨rfl, Fr.refl _ _⟩
def intsC (ns : List Int) : List Value := ns.map fun n => Value.int .i64 n
theorem intsC_length (xs : List Int) : (intsC xs).length = xs.length := by simp [intsC]
theorem intsC_get (xs : List Int) (j : Nat) (h : j < xs.length) : (intsC xs)[j]? = some (.int .i64 (xs.getD j 0)) := by simp [intsC, List.getD, h]
theorem Tryz.infoIW : (Tryz.prog.info? 3).map (fun i => (i.zero, i.size, i.bytes)) = some (some (.int .i64 0), 1, 8) := by kernel_rfl
theorem Tryz.undIsW : Tryz.prog.underlying 25 = some (.slice 3) := by kernel_rfl
theorem iown_full {w : World} {g n : Nat} {xs : List Value} (h : w.ownsRow 0 3 1 (.slice (some ⟨g, 0, none⟩) n n) n xs) : w.heap[g]? = some (.cells xs.toArray 3 (0, 0)) := by
  have hl := h.1
  rcases h.2 with ⟨hh, _⟩ | ⟨g', cap', cur, hh, _, hg, _, _, hcs, ht⟩
  · cases hh
  · cases hh
    rw [hg]
    congr 2
    rw [← Array.toList_inj]
    simp only
    rw [← ht, List.take_of_length_le (by simp [hcs])]
set_option maxHeartbeats 4000000 in
set_option maxRecDepth 100000 in
theorem twinIs_any (ao : Option Addr) (L cap : Nat) (ws : List Int) (w : World) (h : IRs w ao ws) (hLe : L = ws.length) (hL : L < 2^21) :
    Calls Tryz.prog 22 #[.slice ao L cap] w fun e w' => ∃ b, e = .returned (.slice (some ⟨b, 0, none⟩) L (L + 1)) ∧ w.heap.size ≤ b ∧ w'.heap[b]? = some (.cells (intsC (ws ++ [7777])).toArray 3 (0, 0)) ∧ Fr [] w w' := by
  obtain ⟨i0, hi, hz0, hz1, hz2⟩ := info_parts Tryz.infoIW
  have HL : Hid (L = ws.length) := hLe
  clear hLe
  go_enter Tryz.func22, Tryz.ntmps22
  go_wp2_with (at_make; refine wpList_make_own _ rfl (.const (.int .i64 0)) (.tmp 7) 25 rfl 0 3 i0 _ 1 Tryz.undIsW hi hz0 hz1 .i64 .i64 ((L : Int) + 1) (L + 1) rfl rfl ?bC ?b2 ?b3 ?b4 ?_)
  case bC => simp
  case b2 => rw [hz2]; omega
  case b3 => unfold maxLen; omega
  case b4 => exact Nat.zero_le _
  intro w1 hown hgrow
  obtain ⟨g, hg⟩ : ∃ g, g = w.heap.size := ⟨_, rfl⟩
  have hgw : w.heap.size ≤ g := by omega
  rw [← hg] at hown ⊢
  have h01 : Fr [] w w1 := Fr.grown (S := []) hgrow (by simp)
  clear hgrow hg
  go_wp2_with fail
  go_loopw [3, 4] (fun vv ii wr => ∃ i : Nat, vv = .slice (some ⟨g, 0, none⟩) i (L + 1) ∧ ii = .int .i64 i ∧ i ≤ L ∧ wr.ownsRow 0 3 1 (.slice (some ⟨g, 0, none⟩) i (L + 1)) i (intsC (ws.take i)) ∧ Fr [] w wr) (fun _ ii _ => L - (RowKit.intOf ii).toNat)
  case atStart => exact ⟨0, rfl, rfl, Nat.zero_le _, hown, h01⟩
  case round =>
    obtain ⟨i, rfl, rfl, hiL, hO, hF⟩ := hrel
    have hsz := (hO.lt g rfl).2
    by_cases hil : i < L
    · have hi' : i < ws.length := by rw [← HL.out]; exact hil
      obtain ⟨b, off, e, _, hc⟩ := (h.keep hF).lies (by omega)
      subst e
      have d0 := hc i hi'
      obtain ⟨x, hx⟩ : ∃ x, x = ws.getD i 0 := ⟨_, rfl⟩
      rw [← hx] at d0
      have HE : Hid (intsC (ws.take (i + 1)) = intsC (ws.take i) ++ [.int .i64 x]) := by
        show _ = _
        rw [itake_snoc ws i hi', ← hx]; simp [intsC]
      clear hc hx
      go_wp2_with (at_builtin; refine wpList_append_fits _ rfl (.tmp 15) (.tmp 20) 25 rfl 0 3 i0 1 Tryz.undIsW hi hz1 g i (L + 1) _ rfl (hO.alloc _) ⟨wr.heap.size, 0, none⟩ 1 1 [.int .i64 x] rfl rfl ?c1 ?c2 ?c3 ?_)
      case c1 => intro j u hj; match j, hj with | 0, hj => simp at hj; subst hj; simp [Addr.add]
      case c2 => intro u hu; simp at hu; subst hu; rfl
      case c3 => omega
      intro w2 hO2 hg2
      rw [← HE.out] at hO2
      have hF2 : Fr [] w w2 := (hF.then (Fr.alloc [] wr _)).on (Fr.grown (S := [g]) hg2 (by intro k hk _; cases hk; simp)) (by intro y hy; simp at hy; omega)
      clear hO hg2 hF d0
      go_wp2
      go_roundw
      case rel => exact ⟨i + 1, rfl, by simp, by omega, hO2, hF2⟩
      case measure => simp [RowKit.intOf]; omega
    · have hiL' : L ≤ i := by omega
      obtain rfl : i = L := by omega
      have HE : Hid (intsC (ws ++ [7777]) = intsC (ws.take i) ++ [.int .i64 7777]) := by
        show _ = _
        rw [List.take_of_length_le (by rw [← HL.out]; omega)]; simp [intsC]
      go_wp2_with (at_builtin; refine wpList_append_fits _ rfl (.tmp 22) (.tmp 23) 25 rfl 0 3 i0 1 Tryz.undIsW hi hz1 g i (i + 1) _ rfl (hO.alloc _) ⟨wr.heap.size, 0, none⟩ 1 1 [.int .i64 7777] rfl rfl ?c1 ?c2 ?c3 ?_)
      case c1 => intro j u hj; match j, hj with | 0, hj => simp at hj; subst hj; simp [Addr.add]
      case c2 => intro u hu; simp at hu; subst hu; rfl
      case c3 => omega
      intro w2 hO2 hg2
      rw [← HE.out] at hO2
      have hF2 : Fr [] w w2 := (hF.then (Fr.alloc [] wr _)).on (Fr.grown (S := [g]) hg2 (by intro k hk _; cases hk; simp)) (by intro y hy; simp at hy; omega)
      have HRow : Hid (w2.heap[g]? = some (.cells (intsC (ws ++ [7777])).toArray 3 (0, 0))) := iown_full hO2
      clear hO hg2 hF hO2
      go_wp2
      go_ret
      exact ⟨g, rfl, hgw, HRow.out, hF2⟩
set_option maxHeartbeats 4000000 in
set_option maxRecDepth 100000 in
theorem leftIs_any (t : Nat) (ao : Option Addr) (L cap : Nat) (ws : List Int) (w : World) (h : IRs w ao ws) (hLe : L = ws.length) (hL : L < 2^21) (hrow : w.heap[t]? = some (.cells (intsC (ws ++ [7777])).toArray 3 (0, 0))) :
    Calls Tryz.prog 34 #[.slice (some ⟨t, 0, none⟩) L (L + 1), .slice ao L cap] w fun e w' => e = .returned (.bool true) ∧ Fr [] w w' := by
  have HL : Hid (L = ws.length) := hLe
  clear hLe
  have hct : ∀ j, j < L → w.cell? ⟨t, j, none⟩ = some (.int .i64 (ws.getD j 0)) := by
    intro j hj
    rw [cell_of_row _ _ _ _ _ _ hrow, List.getElem?_toArray, intsC_get _ _ (by rw [List.length_append, ← HL.out]; simp; omega)]
    have e : (ws ++ [7777]).getD j 0 = ws.getD j 0 := by simp [List.getD, List.getElem?_append_left (show j < ws.length by rw [← HL.out]; exact hj)]
    rw [e]
  have hsp : w.cell? ⟨t, L, none⟩ = some (.int .i64 7777) := by
    rw [cell_of_row _ _ _ _ _ _ hrow, List.getElem?_toArray, intsC_get _ _ (by rw [List.length_append, ← HL.out]; simp)]
    have e : (ws ++ [7777]).getD L 0 = 7777 := by simp [List.getD, HL.out]
    rw [e]
  have hne : ((L : Int) != L) = false := by simp
  clear hrow
  go_enter Tryz.func34, Tryz.ntmps34
  go_wp2_with fail
  go_loopw [5] (fun ii wr => ∃ (i q : Nat), ii = .int .i64 i ∧ i ≤ L ∧ Hid (wr = w.drewN q)) (fun ii _ => L - (RowKit.intOf ii).toNat)
  case atStart => exact ⟨0, 0, rfl, Nat.zero_le _, rfl⟩
  case round =>
    obtain ⟨i, q, rfl, hiL, HQ⟩ := hrel
    have hce : ∀ a, wr.cell? a = w.cell? a := fun a => by rw [HQ.out]; rfl
    by_cases hi : i < L
    · have hi' : i < ws.length := by rw [← HL.out]; exact hi
      obtain ⟨b, off, e, _, hc⟩ := h.lies (by omega)
      subst e
      have c0 := hct i hi
      have d0 := hc i hi'
      obtain ⟨x, hxx⟩ : ∃ x, x = ws.getD i 0 := ⟨_, rfl⟩
      rw [← hxx, ← hce] at c0 d0
      clear hxx hct hc hsp hce
      have hq : (x != x) = false := by simp
      go_wp2_with fail
      go_quiet (fail)
      go_wp2
      go_roundw
      case rel => exact ⟨i + 1, q + nq, by simp, by omega, by show _ = _; rw [HQ.out]; simp⟩
      case measure => simp [RowKit.intOf]; omega
    · have hiL' : L ≤ i := by omega
      have c0 := hsp
      rw [← hce] at c0
      have hFq : Fr [] w wr := by rw [HQ.out]; exact Fr.drewN _ _ _
      clear hct hce hsp
      go_wp2
      go_ret
      exact ⟨by simp, hFq⟩
theorem IRs.of_open {w : World} {a : Addr} {len cap : Nat} {zs : List Int} (hl : len ≤ cap) (hz : zs.length = cap) (hc : ∀ i, i < zs.length → w.cell? (a.add i) = some (.int .i64 (zs.getD i 0))) (hb : len ≤ 17592186044416) : IRs w (some a) (zs.take len) := by
  refine ⟨fun h0 => ?_, by simp; omega⟩
  rw [List.length_take] at h0
  obtain ⟨b, off, spot⟩ := a
  have hspot : spot = none := by simpa [Addr.add] using World.cell?_spot (hc 0 (by omega))
  subst hspot
  refine ⟨b, off, rfl, ?_, fun j hj => ?_⟩
  · have := World.block_lt_of_cell? w _ (hc 0 (by omega))
    simpa [Addr.add] using this
  · rw [List.length_take] at hj
    have h1 := hc j (by omega)
    rw [show (⟨b, off, none⟩ : Addr).add j = ⟨b, off + j, none⟩ from by simp [Addr.add]] at h1
    rw [h1]
    congr 2
    simp only [List.getD]
    rw [List.getElem?_take_of_lt (by omega)]
end Go.Proofs.YtaaghcimfcjehaaGreatDoor
/- A stub: the numbers beyond are not asked for here. -/
/- A gate's New. Conditions as each names them. -/
namespace Go.Proofs.YtaaghcimfcjehaaGreatDoor
open Go.ChangeShapes Go.WideShapes Go.ChangeAt Go.RowKit Go.Lib Go.Maps
set_option linter.unusedVariables false
set_option linter.unusedSimpArgs false

/-- These may be a mark and those beyond it. -/
def Gok (m : Int) (xs : List Int) : Prop := Gt m xs ∧ m + 1 ∉ xs
def newC (m : Int) : Array Value := (Value.bool true :: Value.int .i64 m :: u64s (List.replicate 1024 0)).toArray
set_option maxRecDepth 100000 in
theorem zero_gate (m : Int) : (Tryz.zeroCells193.setIfInBounds 0 (Value.bool true)).setIfInBounds 1 (Value.int .i64 m) = newC m := by kernel_rfl
set_option maxHeartbeats 4000000 in
set_option maxRecDepth 100000 in
theorem anew_any (m : Int) (ao : Option Addr) (L cap : Nat) (xs : List Int) (w : World) (hX : IRs w ao xs) (hL : L = xs.length) :
    Calls Tryz.prog 74 #[.int .i64 m, .slice ao L cap] w fun e w' => Fr [] w w' ∧ ((Gok m xs ∧ ∃ g ws, e = .returned (.tuple #[.pointer (some ⟨g, 0, none⟩), .int .i64 0]) ∧ w.heap.size ≤ g ∧ GM w' g m ws ∧ Wds ws xs) ∨ (¬ Gok m xs ∧ e = .returned (.tuple #[.pointer none, .int .i64 1]))) := by
  by_cases h0 : m < 0
  · have HN : Hid (¬ Gok m xs) := fun h => by have := h.1.low; omega
    go_enter Tryz.func74, Tryz.ntmps74
    go_wp2
    refine bodyPost_ret (results_tmp2 rfl _ _ _) rfl ?_
    exact ⟨Fr.refl _ _, Or.inr ⟨HN.out, rfl⟩⟩
  by_cases h1 : 65536 < m
  · have HN : Hid (¬ Gok m xs) := fun h => by have := h.1.top; omega
    go_enter Tryz.func74, Tryz.ntmps74
    go_wp2
    refine bodyPost_ret (results_tmp2 rfl _ _ _) rfl ?_
    exact ⟨Fr.refl _ _, Or.inr ⟨HN.out, rfl⟩⟩
  have HL : Hid (L = xs.length) := hL
  have hLL : L ≤ 17592186044416 := by rw [hL]; exact hX.few
  have HX : Hid (∀ W, Fr [] w W → IRs W ao xs) := fun W hf => hX.keep hf
  have HM : Hid (GM (w.alloc (.cells ((Tryz.zeroCells193.setIfInBounds 0 (Value.bool true)).setIfInBounds 1 (Value.int .i64 m)) 193)) w.heap.size m (List.replicate 1024 0)) := ⟨by rw [zero_gate]; exact heap_alloc_new w _⟩
  clear hX hL
  go_enter Tryz.func74, Tryz.ntmps74
  go_wp2_with fail
  obtain ⟨g, hg⟩ : ∃ g, g = w.heap.size := ⟨_, rfl⟩
  have hgw : w.heap.size ≤ g := by omega
  rw [← hg] at HM ⊢
  clear hg
  have HI0 : Hid (Fr [] w (w.alloc (.cells ((Tryz.zeroCells193.setIfInBounds 0 (Value.bool true)).setIfInBounds 1 (Value.int .i64 m)) 193))) := Fr.alloc _ _ _
  go_loopw [7, 9, 23] (fun ll nn ii wr => ∃ (i : Nat) (lst : Int) (ws : List Nat), ll = .int .i64 lst ∧ ii = .int .i64 i ∧ i ≤ L ∧ m + 2 ≤ lst ∧ lst ≤ 65537 + 1 ∧ Hid (GM wr g m ws ∧ Wds ws (xs.take i)) ∧ Hid (Fr [] w wr) ∧ Hid (Gok m (xs.take i) ∧ (∀ x ∈ xs.take i, x < lst) ∧ (lst = m + 2 ∨ lst - 1 ∈ xs.take i))) (fun _ _ ii _ => L - (RowKit.intOf ii).toNat)
  case atStart => exact ⟨0, m + 2, List.replicate 1024 0, rfl, rfl, Nat.zero_le _, by omega, by omega, ⟨HM.out, Wds.zero⟩, HI0, ⟨⟨⟨h0, h1, List.Pairwise.nil, by simp⟩, by simp⟩, by simp, Or.inl rfl⟩⟩
  case round =>
    obtain ⟨i, lst, ws, rfl, rfl, hi1, hl1, hl2, HG, HF, HI⟩ := hrel
    by_cases hi : i < L
    · have hix : i < xs.length := by rw [← HL.out]; exact hi
      obtain ⟨b, off, rfl, _, hc⟩ := (HX.out _ HF.out).lies (by omega)
      have hci := hc i hix
      have HT := itake_snoc xs i hix
      have hmem : xs.getD i 0 ∈ xs := by simp [List.getD, hix]
      have hprec : ∀ y ∈ xs.take i, Ris xs → y < xs.getD i 0 := by
        intro y hy hr
        have h3 : Ris (xs.take (i + 1)) := List.Pairwise.sublist (List.take_sublist _ _) hr
        rw [HT] at h3
        exact (List.pairwise_append.1 h3).2.2 y hy _ (by simp)
      obtain ⟨x, hx⟩ : ∃ x, x = xs.getD i 0 := ⟨_, rfl⟩
      rw [← hx] at hci HT hmem hprec
      have HT : Hid (xs.take (i + 1) = xs.take i ++ [x]) := HT
      clear hx hc
      by_cases h2 : x < lst
      · have HN : Hid (¬ Gok m xs) := by
          intro hG
          have hb := hG.1.bey x hmem
          have hne : x ≠ m + 1 := fun e => hG.2 (e ▸ hmem)
          rcases HI.out.2.2 with e | e
          · omega
          · have := hprec _ e hG.1.ris
            omega
        clear hprec hmem
        go_wp2
        refine bodyPost_ret (results_tmp2 rfl _ _ _) rfl ?_
        exact ⟨HF.out, Or.inr ⟨HN.out, rfl⟩⟩
      by_cases h3 : 65536 < x
      · have HN : Hid (¬ Gok m xs) := by
          intro hG
          have hb := hG.1.bey x hmem
          omega
        clear hprec hmem
        go_wp2
        refine bodyPost_ret (results_tmp2 rfl _ _ _) rfl ?_
        exact ⟨HF.out, Or.inr ⟨HN.out, rfl⟩⟩
      have HS : Hid (Calls _ _ _ _ _) := aset_any x wr HG.out.1 HG.out.2 (by omega) (by omega)
      have HW : Hid (Wds (ws.set (wdOf x) (ws.getD (wdOf x) 0 ||| pw2 (btOf x))) (xs.take (i + 1))) := by
        show Wds _ _
        rw [HT.out]
        exact HG.out.2.put (by omega) (by omega) (fun y => by simp [or_comm])
      have HI2 : Hid (Gok m (xs.take (i + 1)) ∧ (∀ y ∈ xs.take (i + 1), y < x + 1) ∧ (x + 1 = m + 2 ∨ x + 1 - 1 ∈ xs.take (i + 1))) := by
        obtain ⟨⟨g1, g2⟩, g3, _⟩ := HI.out
        rw [Hid, HT.out]
        refine ⟨⟨⟨g1.low, g1.top, Ris.snoc g1.ris (fun y hy => by have := g3 y hy; omega), fun y hy => ?_⟩, fun hy => ?_⟩, fun y hy => ?_, Or.inr (by rw [show x + 1 - 1 = x by omega]; simp)⟩
        · rcases List.mem_append.1 hy with e | e
          · exact g1.bey y e
          · simp at e; subst e; omega
        · rcases List.mem_append.1 hy with e | e
          · exact g2 e
          · simp at e; omega
        · rcases List.mem_append.1 hy with e | e
          · have := g3 y e; omega
          · simp at e; omega
      clear hprec hmem HI
      go_wp2_with fail
      refine Calls.mono HS.out ?_
      rintro e w3 ⟨rfl, hG3, hF3⟩
      have HG3 : Hid (GM w3 g m (ws.set (wdOf x) (ws.getD (wdOf x) 0 ||| pw2 (btOf x))) ∧ Wds (ws.set (wdOf x) (ws.getD (wdOf x) 0 ||| pw2 (btOf x))) (xs.take (i + 1))) := ⟨hG3, HW.out⟩
      have HF3 : Hid (Fr [] w w3) := HF.out.on hF3 (by simpa using hgw)
      clear hG3 hF3 HG HF HS HW
      go_wp2
      go_roundw
      case rel => exact ⟨i + 1, x + 1, _, rfl, by simp, by omega, by omega, by omega, HG3, HF3, HI2⟩
      case measure => simp [RowKit.intOf]; omega
    · have HE : Hid (xs.take i = xs) := List.take_of_length_le (by rw [← HL.out]; omega)
      go_wp2
      refine bodyPost_ret (results_tmp2 rfl _ _ _) rfl ?_
      have h5 := HI.out.1
      have h6 := HG.out
      rw [HE.out] at h5 h6
      exact ⟨HF.out, Or.inl ⟨h5, g, ws, rfl, hgw, h6.1, h6.2⟩⟩
end Go.Proofs.YtaaghcimfcjehaaGreatDoor

/- Texts of this claim laid together, one behind the other: contracts and plain lemmas; conditions as each names them. -/
import Derived.Test.YtpdkdgmaofhlkaaGp2
import Derived.OwnWalk
import Derived.Laws.MakeOwn
import Derived.Lib.SliceRun
/- Rows of numbers that came in; what the statements' helpers TwinInts and LeftInts answer. Conditions: as many numbers as may come in. -/
namespace Go.Proofs.Ytpdkdgmaofhlkaa
open Go.ChangeShapes Go.WideShapes Go.ChangeAt Go.RowKit Go.Lib
set_option linter.unusedVariables false
set_option linter.unusedSimpArgs false

/-- The slice at ao reads as the numbers ns. -/
structure IRs (w : World) (ao : Option Addr) (ns : List Int) : Prop where
  lies : 0 < ns.length → ∃ b off, ao = some ⟨b, off, none⟩ ∧ b < w.heap.size ∧ ∀ i, i < ns.length → w.cell? ⟨b, off + i, none⟩ = some (.int .i64 (ns.getD i 0))
  few : ns.length ≤ 17592186044416
theorem IRs.keepS {S : List Nat} {w w' : World} {ao : Option Addr} {ns : List Int} (h : IRs w ao ns) (hf : Fr S w w') (hn : 0 < ns.length → ∀ a, ao = some a → a.block ∉ S) : IRs w' ao ns := by
  refine ⟨fun h0 => ?_, h.few⟩
  obtain ⟨b, off, e, hb, hc⟩ := h.lies h0
  exact ⟨b, off, e, Nat.lt_of_lt_of_le hb hf.size, fun i hi => (World.cell?_of_block (hf.block b hb (hn h0 _ e))).trans (hc i hi)⟩
theorem IRs.keep {w w' : World} {ao : Option Addr} {ns : List Int} (h : IRs w ao ns) (hf : Fr [] w w') : IRs w' ao ns := h.keepS hf (by simp)
theorem IRs.of_open {w : World} {a : Addr} {len cap : Nat} {zs : List Int} (hl : len ≤ cap) (hz : zs.length = cap) (hc : ∀ i, i < zs.length → w.cell? (a.add i) = some (.int .i64 (zs.getD i 0))) (hb : len ≤ 17592186044416) : IRs w (some a) (zs.take len) := by
  refine ⟨fun h0 => ?_, by simp; omega⟩
  rw [List.length_take] at h0
  obtain ⟨b, off, spot⟩ := a
  have hspot : spot = none := by simpa [Addr.add] using World.cell?_spot (hc 0 (by omega))
  subst hspot
  refine ⟨b, off, rfl, ?_, fun j hj => ?_⟩
  · have := World.block_lt_of_cell? w _ (hc 0 (by omega))
    simpa [Addr.add] using this
  · rw [List.length_take] at hj
    have h1 := hc j (by omega)
    rw [show (⟨b, off, none⟩ : Addr).add j = ⟨b, off + j, none⟩ from by simp [Addr.add]] at h1
    rw [h1]
    congr 2
    simp only [List.getD]
    rw [List.getElem?_take_of_lt (by omega)]
theorem itake_snoc (ns : List Int) (i : Nat) (h : i < ns.length) : ns.take (i + 1) = ns.take i ++ [ns.getD i 0] := by
  rw [List.take_add_one]
  simp [List.getD, h]
def intsT (ns : List Int) : List Value := ns.map fun n => Value.int .i64 n
theorem intsT_length (xs : List Int) : (intsT xs).length = xs.length := by simp [intsT]
theorem intsT_get (xs : List Int) (j : Nat) (h : j < xs.length) : (intsT xs)[j]? = some (.int .i64 (xs.getD j 0)) := by simp [intsT, List.getD, h]
theorem Try.infoIW : (Try.prog.info? 3).map (fun i => (i.zero, i.size, i.bytes)) = some (some (.int .i64 0), 1, 8) := by kernel_rfl
theorem Try.undIsW : Try.prog.underlying 42 = some (.slice 3) := by kernel_rfl
theorem iown_full {w : World} {g n : Nat} {xs : List Value} (h : w.ownsRow 0 3 1 (.slice (some ⟨g, 0, none⟩) n n) n xs) : w.heap[g]? = some (.cells xs.toArray 3 (0, 0)) := by
  have hl := h.1
  rcases h.2 with ⟨hh, _⟩ | ⟨g', cap', cur, hh, _, hg, _, _, hcs, ht⟩
  · cases hh
  · cases hh
    rw [hg]
    congr 2
    rw [← Array.toList_inj]
    simp only
    rw [← ht, List.take_of_length_le (by simp [hcs])]
set_option maxHeartbeats 4000000 in
set_option maxRecDepth 100000 in
theorem twinIs_any (ao : Option Addr) (L cap : Nat) (ws : List Int) (w : World) (h : IRs w ao ws) (hLe : L = ws.length) (hL : L ≤ 17592186044416) :
    Calls Try.prog 25 #[.slice ao L cap] w fun e w' => ∃ b, e = .returned (.slice (some ⟨b, 0, none⟩) L (L + 1)) ∧ w.heap.size ≤ b ∧ w'.heap[b]? = some (.cells (intsT (ws ++ [7777])).toArray 3 (0, 0)) ∧ Fr [] w w' := by
  obtain ⟨i0, hi, hz0, hz1, hz2⟩ := info_parts Try.infoIW
  have HL : Hid (L = ws.length) := hLe
  clear hLe
  go_enter Try.func25, Try.ntmps25
  go_wp2_with (at_make; refine wpList_make_own _ rfl (.const (.int .i64 0)) (.tmp 7) 42 rfl 0 3 i0 _ 1 Try.undIsW hi hz0 hz1 .i64 .i64 ((L : Int) + 1) (L + 1) rfl rfl ?bC ?b2 ?b3 ?b4 ?_)
  case bC => simp
  case b2 => rw [hz2]; omega
  case b3 => unfold maxLen; omega
  case b4 => exact Nat.zero_le _
  intro w1 hown hgrow
  obtain ⟨g, hg⟩ : ∃ g, g = w.heap.size := ⟨_, rfl⟩
  have hgw : w.heap.size ≤ g := by omega
  rw [← hg] at hown ⊢
  have h01 : Fr [] w w1 := Fr.grown (S := []) hgrow (by simp)
  clear hgrow hg
  go_wp2_with fail
  go_loopw [3, 4] (fun vv ii wr => ∃ i : Nat, vv = .slice (some ⟨g, 0, none⟩) i (L + 1) ∧ ii = .int .i64 i ∧ i ≤ L ∧ wr.ownsRow 0 3 1 (.slice (some ⟨g, 0, none⟩) i (L + 1)) i (intsT (ws.take i)) ∧ Fr [] w wr) (fun _ ii _ => L - (RowKit.intOf ii).toNat)
  case atStart => exact ⟨0, rfl, rfl, Nat.zero_le _, hown, h01⟩
  case round =>
    obtain ⟨i, rfl, rfl, hiL, hO, hF⟩ := hrel
    have hsz := (hO.lt g rfl).2
    by_cases hil : i < L
    · have hi' : i < ws.length := by rw [← HL.out]; exact hil
      obtain ⟨b, off, e, _, hc⟩ := (h.keep hF).lies (by omega)
      subst e
      have d0 := hc i hi'
      obtain ⟨x, hx⟩ : ∃ x, x = ws.getD i 0 := ⟨_, rfl⟩
      rw [← hx] at d0
      have HE : Hid (intsT (ws.take (i + 1)) = intsT (ws.take i) ++ [.int .i64 x]) := by
        show _ = _
        rw [itake_snoc ws i hi', ← hx]; simp [intsT]
      clear hc hx
      go_wp2_with (at_builtin; refine wpList_append_fits _ rfl (.tmp 15) (.tmp 20) 42 rfl 0 3 i0 1 Try.undIsW hi hz1 g i (L + 1) _ rfl (hO.alloc _) ⟨wr.heap.size, 0, none⟩ 1 1 [.int .i64 x] rfl rfl ?c1 ?c2 ?c3 ?_)
      case c1 => intro j u hj; match j, hj with | 0, hj => simp at hj; subst hj; simp [Addr.add]
      case c2 => intro u hu; simp at hu; subst hu; rfl
      case c3 => omega
      intro w2 hO2 hg2
      rw [← HE.out] at hO2
      have hF2 : Fr [] w w2 := (hF.then (Fr.alloc [] wr _)).on (Fr.grown (S := [g]) hg2 (by intro k hk _; cases hk; simp)) (by intro y hy; simp at hy; omega)
      clear hO hg2 hF d0
      go_wp2
      go_roundw
      case rel => exact ⟨i + 1, rfl, by simp, by omega, hO2, hF2⟩
      case measure => simp [RowKit.intOf]; omega
    · have hiL' : L ≤ i := by omega
      obtain rfl : i = L := by omega
      have HE : Hid (intsT (ws ++ [7777]) = intsT (ws.take i) ++ [.int .i64 7777]) := by
        show _ = _
        rw [List.take_of_length_le (by rw [← HL.out]; omega)]; simp [intsT]
      go_wp2_with (at_builtin; refine wpList_append_fits _ rfl (.tmp 22) (.tmp 23) 42 rfl 0 3 i0 1 Try.undIsW hi hz1 g i (i + 1) _ rfl (hO.alloc _) ⟨wr.heap.size, 0, none⟩ 1 1 [.int .i64 7777] rfl rfl ?c1 ?c2 ?c3 ?_)
      case c1 => intro j u hj; match j, hj with | 0, hj => simp at hj; subst hj; simp [Addr.add]
      case c2 => intro u hu; simp at hu; subst hu; rfl
      case c3 => omega
      intro w2 hO2 hg2
      rw [← HE.out] at hO2
      have hF2 : Fr [] w w2 := (hF.then (Fr.alloc [] wr _)).on (Fr.grown (S := [g]) hg2 (by intro k hk _; cases hk; simp)) (by intro y hy; simp at hy; omega)
      have HRow : Hid (w2.heap[g]? = some (.cells (intsT (ws ++ [7777])).toArray 3 (0, 0))) := iown_full hO2
      clear hO hg2 hF hO2
      go_wp2
      go_ret
      exact ⟨g, rfl, hgw, HRow.out, hF2⟩
set_option maxHeartbeats 4000000 in
set_option maxRecDepth 100000 in
theorem leftIs_any (t : Nat) (ao : Option Addr) (L cap : Nat) (ws : List Int) (w : World) (h : IRs w ao ws) (hLe : L = ws.length) (hL : L ≤ 17592186044416) (hrow : w.heap[t]? = some (.cells (intsT (ws ++ [7777])).toArray 3 (0, 0))) :
    Calls Try.prog 27 #[.slice (some ⟨t, 0, none⟩) L (L + 1), .slice ao L cap] w fun e w' => e = .returned (.bool true) ∧ Fr [] w w' := by
  have HL : Hid (L = ws.length) := hLe
  clear hLe
  have hct : ∀ j, j < L → w.cell? ⟨t, j, none⟩ = some (.int .i64 (ws.getD j 0)) := by
    intro j hj
    rw [cell_of_row _ _ _ _ _ _ hrow, List.getElem?_toArray, intsT_get _ _ (by rw [List.length_append, ← HL.out]; simp; omega)]
    have e : (ws ++ [7777]).getD j 0 = ws.getD j 0 := by simp [List.getD, List.getElem?_append_left (show j < ws.length by rw [← HL.out]; exact hj)]
    rw [e]
  have hsp : w.cell? ⟨t, L, none⟩ = some (.int .i64 7777) := by
    rw [cell_of_row _ _ _ _ _ _ hrow, List.getElem?_toArray, intsT_get _ _ (by rw [List.length_append, ← HL.out]; simp)]
    have e : (ws ++ [7777]).getD L 0 = 7777 := by simp [List.getD, HL.out]
    rw [e]
  have hne : ((L : Int) != L) = false := by simp
  clear hrow
  go_enter Try.func27, Try.ntmps27
  go_wp2_with fail
  go_loopw [5] (fun ii wr => ∃ (i q : Nat), ii = .int .i64 i ∧ i ≤ L ∧ Hid (wr = w.drewN q)) (fun ii _ => L - (RowKit.intOf ii).toNat)
  case atStart => exact ⟨0, 0, rfl, Nat.zero_le _, rfl⟩
  case round =>
    obtain ⟨i, q, rfl, hiL, HQ⟩ := hrel
    have hce : ∀ a, wr.cell? a = w.cell? a := fun a => by rw [HQ.out]; rfl
    by_cases hi : i < L
    · have hi' : i < ws.length := by rw [← HL.out]; exact hi
      obtain ⟨b, off, e, _, hc⟩ := h.lies (by omega)
      subst e
      have c0 := hct i hi
      have d0 := hc i hi'
      obtain ⟨x, hxx⟩ : ∃ x, x = ws.getD i 0 := ⟨_, rfl⟩
      rw [← hxx, ← hce] at c0 d0
      clear hxx hct hc hsp hce
      have hq : (x != x) = false := by simp
      go_wp2_with fail
      go_quiet (fail)
      go_wp2
      go_roundw
      case rel => exact ⟨i + 1, q + nq, by simp, by omega, by show _ = _; rw [HQ.out]; simp⟩
      case measure => simp [RowKit.intOf]; omega
    · have hiL' : L ≤ i := by omega
      have c0 := hsp
      rw [← hce] at c0
      have hFq : Fr [] w wr := by rw [HQ.out]; exact Fr.drewN _ _ _
      clear hct hce hsp
      go_wp2
      go_ret
      exact ⟨by simp, hFq⟩
theorem Try.undIs15 : Try.prog.underlying 42 = some (.slice 3) := by kernel_rfl
theorem Try.infoI15 : (Try.prog.info? 3).map (fun i => (i.zero, i.size, i.bytes)) = some (some (.int .i64 0), 1, 8) := by kernel_rfl
theorem infoI15_parts : ∃ i, Try.prog.info? 3 = some i ∧ i.zero = some (.int .i64 0) ∧ i.size = 1 ∧ i.bytes = 8 := by
  have h := Try.infoI15
  cases hi : Try.prog.info? 3 with
  | none => rw [hi] at h; cases h
  | some i =>
    rw [hi] at h
    simp only [Option.map_some, Option.some.injEq, Prod.mk.injEq] at h
    exact ⟨i, rfl, h.1, h.2.1, h.2.2⟩
def intsC (ns : List Int) : List Value := ns.map fun n => .int .i64 n
theorem intsC_length (ns : List Int) : (intsC ns).length = ns.length := by simp [intsC]
theorem intsC_get (ns : List Int) (j : Nat) (h : j < ns.length) : (intsC ns)[j]? = some (.int .i64 (ns.getD j 0)) := by simp [intsC, List.getD, h]
set_option maxHeartbeats 2000000 in
set_option maxRecDepth 100000 in
theorem cloneI_any (ao : Option Addr) (L cap : Nat) (ns : List Int) (w : World) (hI : IRs w ao ns) (hL : L = ns.length) (hc : L ≤ 131072) :
    Calls Try.prog 43 #[.slice ao L cap] w fun e w' => ∃ ro rc, e = .returned (.slice ro L rc) ∧ IRs w' ro ns ∧ w'.ownsRow w.heap.size 3 1 (.slice ro L rc) L (intsC ns) ∧ Fr [] w w' := by
  have q22 : ∀ (w : World) (a : Option Addr) (n c n' c' : Nat), (binOp .eql 42 (.slice a n c) (.slice none n' c')).run Try.prog w = .ok (.bool a.isNone) w := fun w a n c n' c' => Lib.run_eql_slice_nil w _ _ a n c n' c' Try.undIs15
  cases ao with
  | none =>
    obtain rfl : L = 0 := by
      rcases Nat.eq_zero_or_pos ns.length with h | h
      · omega
      · obtain ⟨b, off, e, _⟩ := hI.lies h
        cases e
    obtain rfl : ns = [] := List.eq_nil_of_length_eq_zero hL.symm
    clear hI hL
    go_enter Try.func43, Try.ntmps43
    go_wp2
    go_ret
    exact ⟨none, 0, rfl, ⟨fun h => by simp at h, by simp⟩, ⟨rfl, .inl ⟨rfl, rfl⟩⟩, Fr.refl _ _⟩
  | some a =>
    obtain ⟨i0, hi, hz0, hz1, hz2⟩ := infoI15_parts
    have hc2 : Hid (∀ j u, (intsC ns)[j]? = some u → w.cell? (a.add j) = some u) := by
      intro j u hu
      have hj : j < ns.length := by have := (List.getElem?_eq_some_iff.1 hu).1; rwa [intsC_length] at this
      obtain ⟨b, off, e, _, hcc⟩ := hI.lies (by omega)
      cases e
      rw [Addr.add_lit, hcc j hj]
      rw [intsC_get ns j hj] at hu
      exact hu
    have HL : Hid (L = ns.length) := hL
    have HF : Hid (ns.length ≤ 131072) := by show _ ≤ _; omega
    clear hI hL
    go_enter Try.func43, Try.ntmps43
    go_wp2_with (at_builtin; refine wpList_append_own _ rfl _ _ 42 rfl w.heap.size 3 i0 (.int .i64 0) 1 8 Try.undIs15 hi hz0 hz1 hz2 rfl (by decide) _ _ _ rfl (World.ownsRow_made w #[] 0 (Nat.le_refl _) (Nat.zero_le _) (by simp)) a L cap (intsC ns) rfl ?qc1 ?qc2 ?qc3 ?qc4 ?qc5 ?qc6 ?_)
    case qc1 => rw [intsC_length, HL.out, Nat.mul_one]
    case qc2 =>
      intro j u hj
      exact Lib.cell?_alloc_some _ (hc2.out j u hj)
    case qc3 =>
      intro u hu
      obtain ⟨_, _, rfl⟩ := List.mem_map.1 hu
      rfl
    case qc4 => rw [Nat.zero_add]; have := HL.out; have := HF.out; simp only [maxLen]; omega
    case qc5 => rw [Nat.zero_add]; have := HL.out; have := HF.out; omega
    case qc6 => simp
    intro v' w1 hown hgrow hnil
    obtain ⟨ro, rc, rfl⟩ : ∃ ro rc, v' = .slice ro L rc := by
      rcases hown.2 with ⟨hh, h0⟩ | ⟨g, cap', _, hh, _⟩
      · exact ⟨none, 0, by rw [hh]; have : L = 0 := by omega
                           rw [this]⟩
      · exact ⟨_, cap', by rw [hh]⟩
    have HO : Hid (IRs w1 ro ns ∧ w1.ownsRow w.heap.size 3 1 (.slice ro L rc) L (intsC ns) ∧ Fr [] w w1) := by
      have hown2 : w1.ownsRow w.heap.size 3 1 (.slice ro L rc) L (intsC ns) := by simpa using hown
      refine ⟨?_, hown2, (Fr.alloc [] w _).on (Fr.grown (S := [w.heap.size]) hgrow (by intro k hk _; simp [Value.ownBlock] at hk; simp [hk])) (by simp)⟩
      · rcases hown2.2 with ⟨hv, h0⟩ | ⟨g, cap', cur, hv, hbase, hg, h1, h2, h3, ht⟩
        · have : ns = [] := List.eq_nil_of_length_eq_zero (by have := HL.out; omega)
          subst this
          exact ⟨fun h => by simp at h, by simp⟩
        · cases hv
          refine ⟨fun h0 => ⟨g, 0, rfl, lt_of_block hg, fun i hi => ?_⟩, by have := HF.out; omega⟩
          rw [cell_of_row _ _ _ _ _ _ hg, Nat.zero_add, ← Array.getElem?_toList, ← intsC_get ns i hi, ← ht, List.getElem?_take_of_lt (by have := HL.out; omega)]
    clear hown hgrow hnil
    go_wp2
    go_ret
    exact ⟨ro, rc, rfl, HO.out⟩
end Go.Proofs.Ytpdkdgmaofhlkaa
/- Which calls may be: Check, the program's and the document's. Conditions: texts of fewer than 2^63 bytes. -/
namespace Go.Proofs.Ytpdkdgmaofhlkaa
open Go.ChangeShapes Go.WideShapes Go.ChangeAt Go.RowKit Go.Lib
set_option linter.unusedVariables false
set_option linter.unusedSimpArgs false

/-- May a key be? -/
def okK (k : ByteArray) : Prop := 1 ≤ k.size ∧ k.size ≤ 64
instance (k : ByteArray) : Decidable (okK k) := by unfold okK; infer_instance
/-- May a call be? -/
def okC (k : Int) (key en : ByteArray) : Prop := (k = 1 ∧ okK key ∧ en.size = 0) ∨ (k = 2 ∧ key.size ≤ 64 ∧ en.size ≤ 64) ∨ ((k = 3 ∨ k = 4) ∧ key.size = 0 ∧ en.size = 0)
instance (k : Int) (key en : ByteArray) : Decidable (okC k key en) := by unfold okC; infer_instance
theorem tl_nil17 (s : ByteArray) : s.toList = [] ↔ s.size = 0 := by
  rw [ByteArray.toList_eq]
  cases s with
  | mk d => simp [ByteArray.size, ← Array.toList_eq_nil_iff]
theorem tl_beq17 (s : ByteArray) : (s.toList == ([] : List UInt8)) = decide (s.size = 0) := by
  have := tl_nil17 s
  by_cases h : s.size = 0
  · rw [this.2 h]; simp [h]
  · simp [h, this]
theorem eNil17 : (⟨#[]⟩ : ByteArray).toList = [] := (tl_nil17 _).2 rfl
set_option maxHeartbeats 1000000 in
theorem qiskey_any (key : ByteArray) (w : World) : Calls Try.prog 45 #[.string key] w fun e w' => e = .returned (.bool (decide (okK key))) ∧ w = w' := by
  have hE := tl_beq17 key
  have hE2 : (key.toList != ([] : List UInt8)) = !decide (key.size = 0) := by rw [bne, hE]
  by_cases h : key.size = 0
  · have hd : decide (okK key) = false := decide_eq_false (fun h2 => by have := h2.1; omega)
    rw [hd]
    simp only [h, decide_true, Bool.not_true] at hE hE2
    have e0 := eNil17
    clear hd
    go_enter Try.func45, Try.ntmps45
    go_wp2
    all_goals (go_ret; exact ⟨rfl, rfl⟩)
  · have hd : decide (okK key) = decide ((key.size : Int) ≤ 64) := by
      rw [Bool.eq_iff_iff, decide_eq_true_eq, decide_eq_true_eq]
      unfold okK
      omega
    rw [hd]
    simp only [h, decide_false, Bool.not_false] at hE hE2
    have e0 := eNil17
    clear hd
    go_enter Try.func45, Try.ntmps45
    go_wp2
    all_goals (go_ret; exact ⟨rfl, rfl⟩)
set_option maxHeartbeats 1000000 in
theorem qisbound_any (key : ByteArray) (w : World) : Calls Try.prog 46 #[.string key] w fun e w' => e = .returned (.bool (decide (key.size ≤ 64))) ∧ w = w' := by
  have hE := tl_beq17 key
  have e0 := eNil17
  by_cases h : key.size = 0
  · have hd : decide (key.size ≤ 64) = true := by simp; omega
    rw [hd]
    simp only [h, decide_true] at hE
    clear hd
    go_enter Try.func46, Try.ntmps46
    go_wp2
    all_goals (go_ret; exact ⟨rfl, rfl⟩)
  · have hd : decide (key.size ≤ 64) = decide (okK key) := by
      rw [Bool.eq_iff_iff, decide_eq_true_eq, decide_eq_true_eq]
      unfold okK
      omega
    rw [hd]
    simp only [h, decide_false] at hE
    clear hd
    go_enter Try.func46, Try.ntmps46
    go_wp2_with (first | (refine (qiskey_any key _).mono ?_; rintro e w1 ⟨rfl, rfl⟩))
    all_goals (go_ret; exact ⟨rfl, rfl⟩)
set_option maxHeartbeats 1000000 in
theorem yokey_any (s : ByteArray) (w : World) : Calls Try.prog 20 #[.string s] w fun e w' => e = .returned (.bool (decide (okK s))) ∧ w = w' := by
  by_cases h : 1 ≤ s.size
  · have h' : (0 : Int) < s.size := by omega
    have h0 : 0 < s.size := by omega
    have hd : decide (okK s) = decide ((s.size : Int) ≤ 64) := by
      rw [Bool.eq_iff_iff, decide_eq_true_eq, decide_eq_true_eq]
      unfold okK
      omega
    rw [hd]
    clear hd
    go_enter Try.func20, Try.ntmps20
    go_wp2
    all_goals (go_ret; exact ⟨rfl, rfl⟩)
  · have h' : ¬ (0 : Int) < s.size := by omega
    have h0 : ¬ 0 < s.size := by omega
    have hd : decide (okK s) = false := decide_eq_false (fun h2 => by have := h2.1; omega)
    rw [hd]
    clear hd
    go_enter Try.func20, Try.ntmps20
    go_wp2
    all_goals (go_ret; exact ⟨rfl, rfl⟩)
set_option maxHeartbeats 4000000 in
set_option maxRecDepth 100000 in
theorem qmaybe_any (k : Int) (key en : ByteArray) (w : World) (hk : 0 ≤ k ∧ k ≤ 255) : Calls Try.prog 19 #[.agg #[.int .u8 k, .string key, .string en]] w fun e w' => e = .returned (.bool (decide (okC k key en))) ∧ Fr [] w w' := by
  have e0 := eNil17
  have hE1 := tl_beq17 key
  have hE2 := tl_beq17 en
  have HF : Hid (Fr [] w (w.alloc (.cells #[.int .u8 k, .string key, .string en] 24))) := Fr.alloc _ _ _
  by_cases h1 : k = 1
  · subst h1
    by_cases hA : okK key
    · by_cases hB : en.size = 0
      · have E : decide (okC 1 key en) = true := decide_eq_true (by unfold okC; simp [hA, hB])
        rw [E]
        have HK := fun w => (qiskey_any key w)
        rw [decide_eq_true hA] at HK
        simp only [hB, decide_true] at hE2
        clear E
        go_enter Try.func19, Try.ntmps19
        go_wp2_with (first | (refine (HK _).mono ?_; rintro e w1 ⟨rfl, rfl⟩))
        all_goals (go_ret; exact ⟨rfl, HF.out⟩)
      · have E : decide (okC 1 key en) = false := decide_eq_false (by unfold okC; simp [hB])
        rw [E]
        have HK := fun w => (qiskey_any key w)
        rw [decide_eq_true hA] at HK
        simp only [hB, decide_false] at hE2
        clear E
        go_enter Try.func19, Try.ntmps19
        go_wp2_with (first | (refine (HK _).mono ?_; rintro e w1 ⟨rfl, rfl⟩))
        all_goals (go_ret; exact ⟨rfl, HF.out⟩)
    · have E : decide (okC 1 key en) = false := decide_eq_false (by unfold okC; simp [hA])
      rw [E]
      have HK := fun w => (qiskey_any key w)
      rw [decide_eq_false hA] at HK
      clear E
      go_enter Try.func19, Try.ntmps19
      go_wp2_with (first | (refine (HK _).mono ?_; rintro e w1 ⟨rfl, rfl⟩))
      all_goals (go_ret; exact ⟨rfl, HF.out⟩)
  by_cases h2 : k = 2
  · subst h2
    by_cases hA : key.size ≤ 64
    · by_cases hB : en.size ≤ 64
      · have E : decide (okC 2 key en) = true := decide_eq_true (by unfold okC; simp [hA, hB])
        rw [E]
        have HK := fun w => (qisbound_any key w)
        rw [decide_eq_true hA] at HK
        have HK2 := fun w => (qisbound_any en w)
        rw [decide_eq_true hB] at HK2
        clear E
        go_enter Try.func19, Try.ntmps19
        go_wp2_with (first | (refine (HK _).mono ?_; rintro e w1 ⟨rfl, rfl⟩) | (refine (HK2 _).mono ?_; rintro e w1 ⟨rfl, rfl⟩))
        all_goals (go_ret; exact ⟨rfl, HF.out⟩)
      · have E : decide (okC 2 key en) = false := decide_eq_false (by unfold okC; simp [hB])
        rw [E]
        have HK := fun w => (qisbound_any key w)
        rw [decide_eq_true hA] at HK
        have HK2 := fun w => (qisbound_any en w)
        rw [decide_eq_false hB] at HK2
        clear E
        go_enter Try.func19, Try.ntmps19
        go_wp2_with (first | (refine (HK _).mono ?_; rintro e w1 ⟨rfl, rfl⟩) | (refine (HK2 _).mono ?_; rintro e w1 ⟨rfl, rfl⟩))
        all_goals (go_ret; exact ⟨rfl, HF.out⟩)
    · have E : decide (okC 2 key en) = false := decide_eq_false (by unfold okC; simp [hA])
      rw [E]
      have HK := fun w => (qisbound_any key w)
      rw [decide_eq_false hA] at HK
      clear E
      go_enter Try.func19, Try.ntmps19
      go_wp2_with (first | (refine (HK _).mono ?_; rintro e w1 ⟨rfl, rfl⟩))
      all_goals (go_ret; exact ⟨rfl, HF.out⟩)
  by_cases h3 : k = 3
  · subst h3
    by_cases hA : key.size = 0
    · by_cases hB : en.size = 0
      · have E : decide (okC 3 key en) = true := decide_eq_true (by unfold okC; simp [hA, hB])
        rw [E]
        simp only [hA, decide_true] at hE1
        simp only [hB, decide_true] at hE2
        clear E
        go_enter Try.func19, Try.ntmps19
        go_wp2
        all_goals (go_ret; exact ⟨rfl, HF.out⟩)
      · have E : decide (okC 3 key en) = false := decide_eq_false (by unfold okC; simp [hB])
        rw [E]
        simp only [hA, decide_true] at hE1
        simp only [hB, decide_false] at hE2
        clear E
        go_enter Try.func19, Try.ntmps19
        go_wp2
        all_goals (go_ret; exact ⟨rfl, HF.out⟩)
    · have E : decide (okC 3 key en) = false := decide_eq_false (by unfold okC; simp [hA])
      rw [E]
      simp only [hA, decide_false] at hE1
      clear E
      go_enter Try.func19, Try.ntmps19
      go_wp2
      all_goals (go_ret; exact ⟨rfl, HF.out⟩)
  by_cases h4 : k = 4
  · subst h4
    by_cases hA : key.size = 0
    · by_cases hB : en.size = 0
      · have E : decide (okC 4 key en) = true := decide_eq_true (by unfold okC; simp [hA, hB])
        rw [E]
        simp only [hA, decide_true] at hE1
        simp only [hB, decide_true] at hE2
        clear E
        go_enter Try.func19, Try.ntmps19
        go_wp2
        all_goals (go_ret; exact ⟨rfl, HF.out⟩)
      · have E : decide (okC 4 key en) = false := decide_eq_false (by unfold okC; simp [hB])
        rw [E]
        simp only [hA, decide_true] at hE1
        simp only [hB, decide_false] at hE2
        clear E
        go_enter Try.func19, Try.ntmps19
        go_wp2
        all_goals (go_ret; exact ⟨rfl, HF.out⟩)
    · have E : decide (okC 4 key en) = false := decide_eq_false (by unfold okC; simp [hA])
      rw [E]
      simp only [hA, decide_false] at hE1
      clear E
      go_enter Try.func19, Try.ntmps19
      go_wp2
      all_goals (go_ret; exact ⟨rfl, HF.out⟩)
  have E : decide (okC k key en) = false := decide_eq_false (by unfold okC; simp [h1, h2, h3, h4])
  rw [E]
  clear E
  go_enter Try.func19, Try.ntmps19
  go_wp2
  all_goals (go_ret; exact ⟨rfl, HF.out⟩)
/-- What Check answers. -/
def ckE (k : Int) (key en : ByteArray) : Int := if okC k key en then 0 else 1
set_option maxHeartbeats 1000000 in
theorem qcheck_any (k : Int) (key en : ByteArray) (w : World) (hk : 0 ≤ k ∧ k ≤ 255) : Calls Try.prog 7 #[.agg #[.int .u8 k, .string key, .string en]] w fun e w' => e = .returned (.int .i64 (ckE k key en)) ∧ Fr [] w w' := by
  have HM := fun w => qmaybe_any k key en w hk
  by_cases h : okC k key en
  · have E : ckE k key en = 0 := if_pos h
    rw [E]
    rw [decide_eq_true h] at HM
    clear E h
    go_enter Try.func7, Try.ntmps7
    go_wp2_with fail
    refine (HM _).mono ?_
    rintro e w1 ⟨rfl, hf⟩
    have HF : Hid (Fr [] w w1) := (Fr.alloc _ _ _).then hf
    clear hf HM
    go_wp2
    go_ret
    exact ⟨rfl, HF.out⟩
  · have E : ckE k key en = 1 := if_neg h
    rw [E]
    rw [decide_eq_false h] at HM
    clear E h
    go_enter Try.func7, Try.ntmps7
    go_wp2_with fail
    refine (HM _).mono ?_
    rintro e w1 ⟨rfl, hf⟩
    have HF : Hid (Fr [] w w1) := (Fr.alloc _ _ _).then hf
    clear hf HM
    go_wp2
    go_ret
    exact ⟨rfl, HF.out⟩
end Go.Proofs.Ytpdkdgmaofhlkaa

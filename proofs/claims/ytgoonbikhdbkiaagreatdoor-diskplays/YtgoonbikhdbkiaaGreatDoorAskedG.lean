/- What the statements' function asked answers of a disk that is not there. Conditions: the op's row of bytes is one that came in, of fewer than 2^40 bytes. -/
import Derived.Test.YtgoonbikhdbkiaaGreatDoorPair
namespace Go.Proofs.YtgoonbikhdbkiaaGreatDoor
open Go.ChangeShapes Go.WideShapes Go.ChangeAt Go.RowKit Go.Lib

theorem Gone.keep {w w' : World} {p : Value} (h : Gone w p) (hf : Fr [] w w') : Gone w' p := by
  rcases h with h | ⟨z, h1, h2⟩
  · exact Or.inl h
  · exact Or.inr ⟨z, h1, (World.cell?_of_block (hf.block z (World.block_lt_of_cell? w _ h2) (by simp))).trans h2⟩
/-- An op as a value. -/
abbrev opV (k s a : Int) (bo : Option Addr) (M cb : Nat) (n : Int) : Value := .agg #[.int .u8 k, .int .i64 s, .int .i64 a, .slice bo M cb, .int .i64 n]
/-- Its variable. -/
def OpBox (w : World) (ob : Nat) (k s a : Int) (bo : Option Addr) (M cb : Nat) (n : Int) : Prop := w.heap[ob]? = some (.cells #[.int .u8 k, .int .i64 s, .int .i64 a, .slice bo M cb, .int .i64 n] 47 (0, 0))
section
variable {w w' : World} {ob : Nat} {k s a : Int} {bo : Option Addr} {M cb : Nat} {n : Int}
theorem OpBox.c0 (h : OpBox w ob k s a bo M cb n) : w.cell? ⟨ob, 0, none⟩ = some (.int .u8 k) := cell_of_row _ _ _ _ _ _ h
theorem OpBox.c1 (h : OpBox w ob k s a bo M cb n) : w.cell? ⟨ob, 1, none⟩ = some (.int .i64 s) := cell_of_row _ _ _ _ _ _ h
theorem OpBox.c2 (h : OpBox w ob k s a bo M cb n) : w.cell? ⟨ob, 2, none⟩ = some (.int .i64 a) := cell_of_row _ _ _ _ _ _ h
theorem OpBox.c3 (h : OpBox w ob k s a bo M cb n) : w.cell? ⟨ob, 3, none⟩ = some (.slice bo M cb) := cell_of_row _ _ _ _ _ _ h
theorem OpBox.c4 (h : OpBox w ob k s a bo M cb n) : w.cell? ⟨ob, 4, none⟩ = some (.int .i64 n) := cell_of_row _ _ _ _ _ _ h
theorem OpBox.keep {S : List Nat} (h : OpBox w ob k s a bo M cb n) (hf : Fr S w w') (hn : ob ∉ S) : OpBox w' ob k s a bo M cb n := hf.keep h hn
theorem OpBox.lt (h : OpBox w ob k s a bo M cb n) : ob < w.heap.size := lt_of_block h
end
/-- A twin of bytes, as what came in. -/
theorem twin_arg {w : World} {b L : Nat} {xs : List Nat} (hL : L = xs.length) (hl : ∀ x ∈ xs, x < 256) (hm : L < 2^40) (h : w.heap[b]? = some (.cells (bts (xs ++ [77])).toArray 5 (0, 0))) : BArg w (some ⟨b, 0, none⟩) L (L + 1) xs := by
  refine ⟨hL, hl, by omega, by omega, fun h0 => ⟨b, 0, rfl, lt_of_block h, fun j hj => ?_⟩⟩
  rw [cell_of_row _ _ _ _ _ _ h]
  have := bts_get (xs ++ [77]) j (by rw [List.length_append, ← hL]; omega)
  have e : (xs ++ [77]).getD j 0 = xs.getD j 0 := by simp [List.getD, List.getElem?_append_left (show j < xs.length by rw [← hL]; exact hj)]
  rw [e] at this
  simpa using this
theorem row_put {w : World} {b j : Nat} {cs : Array Value} {t : TypeId} (x : Value) (h : w.heap[b]? = some (.cells cs t (0, 0))) : (w.setCell ⟨b, j, none⟩ x).heap[b]? = some (.cells (cs.setIfInBounds j x) t (0, 0)) := row_setCell x h

set_option maxHeartbeats 4000000 in
set_option maxRecDepth 100000 in
theorem askedG_write (p : Value) (s a : Int) (bo : Option Addr) (M cb : Nat) (ys : List Nat) (n : Int) (w : World) (hG : Gone w p) (hB : BArg w bo M cb ys) (hM : M < 2^40) :
    Calls Tryz.prog 7 #[p, .pointer none, opV 1 s a bo M cb n] w fun e w' => e = .returned (.bool true) ∧ Fr [] w w' := by
  have HG : Hid (Gone w p) := hG
  have HB : Hid (BArg w bo M cb ys) := hB
  clear hG hB
  obtain ⟨ob, hob⟩ : ∃ ob, ob = w.heap.size := ⟨_, rfl⟩
  obtain ⟨w1, hw1⟩ : ∃ w1, w1 = w.alloc (.cells #[.int .u8 1, .int .i64 s, .int .i64 a, .slice bo M cb, .int .i64 n] 47) := ⟨_, rfl⟩
  have hO : OpBox w1 ob 1 s a bo M cb n := by rw [hw1, hob]; exact heap_alloc_new w _
  have hF1 : Fr [] w w1 := by rw [hw1]; exact Fr.alloc [] w _
  have HF1 : Hid (Fr [] w w1) := hF1
  have HO : Hid (OpBox w1 ob 1 s a bo M cb n) := hO
  have c0 := hO.c0
  have c3 := hO.c3
  go_enter Tryz.func7, Tryz.ntmps7
  go_upto_region 1 with fail
  rw [← hw1, ← hob]
  clear hw1 hob hO hF1
  go_wp2_with fail
  refine (twin_any bo M cb ys w1 (HB.out.keep HF1.out) hM).mono ?_
  rintro e w2 ⟨tb, rfl, htb, hrow, hF2⟩
  have hO2 := HO.out.keep hF2 (by simp)
  have HO2 : Hid (OpBox w2 ob 1 s a bo M cb n) := hO2
  have HR2 : Hid (w2.heap[tb]? = some (.cells (bts (ys ++ [77])).toArray 5 (0, 0))) := hrow
  have HF2 : Hid (Fr [] w w2) := HF1.out.then hF2
  have HTB : Hid (w.heap.size ≤ tb) := by show _ ≤ _; have := HF1.out.size; omega
  have c1 := hO2.c1
  have c2 := hO2.c2
  have c3 := hO2.c3
  clear hO2 hrow hF2 htb
  go_wp2_with fail
  refine (nil_write s a bo M cb).mono ?_
  rintro e _ ⟨rfl, rfl⟩
  go_wp2_with fail
  refine (gone_write (HG.out.keep HF2.out) s a _ _ _).mono ?_
  rintro e _ ⟨rfl, rfl⟩
  go_wp2_with fail
  refine (leftBytes_any tb bo M cb ys w2 (HB.out.keep HF2.out) hM HR2.out).mono ?_
  rintro e w3 ⟨rfl, q, hw3⟩
  have HF3 : Hid (Fr [] w w3) := by rw [hw3]; exact HF2.out.then (Fr.drewN [] _ _)
  have HR3 : Hid (w3.heap[tb]? = some (.cells (bts (ys ++ [77])).toArray 5 (0, 0))) := by rw [hw3]; exact HR2.out
  have HML : Hid ((bts (ys ++ [77])).toArray.size = M + 1) := by show _ = _; have := HB.out.len; simp [bts_length]; omega
  clear hw3 c1 c2 c3 c0
  go_wp2_with fail
  go_loopw [11] (fun ii wr => ∃ (i : Nat) (cur : Array Value), ii = .int .i64 i ∧ i ≤ M ∧ Hid (Fr [tb] w3 wr) ∧ Hid (wr.heap[tb]? = some (.cells cur 5 (0, 0))) ∧ Hid (cur.size = M + 1)) (fun ii _ => M - (intOf ii).toNat)
  case atStart => exact ⟨0, _, rfl, Nat.zero_le _, Fr.refl _ _, HR3, HML⟩
  case round =>
    obtain ⟨i, cur, rfl, hi, HFr, HCur, HCs⟩ := hrel
    by_cases hiM : i < M
    · have hcell : wr.cell? ⟨tb, i, none⟩ = some cur[i]! := by
        rw [cell_of_row _ _ _ _ _ _ HCur.out]
        have : i < cur.size := by rw [HCs.out]; omega
        simp [this]
      have hfz : wr.frozen? ⟨tb, i, none⟩ = false := by simp [World.frozen?, HCur.out]
      have HCur' : Hid ((wr.setCell ⟨tb, i, none⟩ (.int .u8 238)).heap[tb]? = some (.cells (cur.setIfInBounds i (.int .u8 238)) 5 (0, 0))) := row_put _ HCur.out
      have HCs' : Hid ((cur.setIfInBounds i (Value.int .u8 238)).size = M + 1) := by show _ = _; rw [Array.size_setIfInBounds]; exact HCs.out
      have HFr' : Hid (Fr [tb] w3 (wr.setCell ⟨tb, i, none⟩ (.int .u8 238))) := HFr.out.then (Fr.set _ _ _ (by simp))
      obtain ⟨x, hx⟩ : ∃ x, x = cur[i]! := ⟨_, rfl⟩
      rw [← hx] at hcell
      clear hx
      go_wp2
      go_roundw
      case rel => exact ⟨i + 1, _, by simp, by omega, HFr', HCur', HCs'⟩
      case measure => simp [intOf]; omega
    · have hi' : M ≤ i := by omega
      have HF : Hid (Fr [] w wr) := HF3.out.on HFr.out (by intro x hx; simp at hx; have := HTB.out; omega)
      go_wp2
      go_ret
      exact ⟨rfl, HF.out⟩
set_option maxHeartbeats 4000000 in
set_option maxRecDepth 100000 in
theorem askedG_rest (p : Value) (k s a : Int) (bo : Option Addr) (M cb : Nat) (n : Int) (w : World) (hG : Gone w p) (hk : k ≠ 1) :
    Calls Tryz.prog 7 #[p, .pointer none, opV k s a bo M cb n] w fun e w' => e = .returned (.bool true) ∧ Fr [] w w' := by
  obtain ⟨ob, hob⟩ : ∃ ob, ob = w.heap.size := ⟨_, rfl⟩
  obtain ⟨w1, hw1⟩ : ∃ w1, w1 = w.alloc (.cells #[.int .u8 k, .int .i64 s, .int .i64 a, .slice bo M cb, .int .i64 n] 47) := ⟨_, rfl⟩
  have hO : OpBox w1 ob k s a bo M cb n := by rw [hw1, hob]; exact heap_alloc_new w _
  have hF1 : Fr [] w w1 := by rw [hw1]; exact Fr.alloc [] w _
  have HF1 : Hid (Fr [] w w1) := hF1
  have HG1 : Hid (Gone w1 p) := hG.keep hF1
  have c0 := hO.c0
  have c1 := hO.c1
  have c4 := hO.c4
  have b1 : (k == 1) = false := by simp [hk]
  clear hG
  go_enter Tryz.func7, Tryz.ntmps7
  go_upto_region 1 with fail
  rw [← hw1, ← hob]
  clear hw1 hob hO hF1
  by_cases h2 : k = 2
  · subst h2
    go_wp2_with fail
    go_quiet ((first | (go_at_call 16; exact Calls.quiet_of_same ((gone_clear (HG1.out.keep (Fr.drewN [] w1 _)) s).mono (fun _ _ h => ⟨h.1, h.2.symm⟩))) | (go_at_call 17; exact Calls.quiet_of_same ((nil_clear s).mono (fun _ _ h => ⟨h.1, h.2.symm⟩)))))
    go_wp2
    go_ret
    exact ⟨rfl, HF1.out.then (Fr.drewN [] _ _)⟩
  · have b2 : (k == 2) = false := by simp [h2]
    by_cases h4 : k = 4
    · subst h4
      go_wp2_with fail
      go_quiet ((first | (go_at_call 18; exact Calls.quiet_of_same ((gone_cut (HG1.out.keep (Fr.drewN [] w1 _)) n).mono (fun _ _ h => ⟨h.1, h.2.symm⟩))) | (go_at_call 19; exact Calls.quiet_of_same ((nil_cut n).mono (fun _ _ h => ⟨h.1, h.2.symm⟩)))))
      go_wp2
      go_ret
      exact ⟨rfl, HF1.out.then (Fr.drewN [] _ _)⟩
    · have b4 : (k == 4) = false := by simp [h4]
      by_cases h5 : k = 5
      · subst h5
        go_wp2_with fail
        refine (gone_mend HG1.out).mono ?_
        rintro e _ ⟨rfl, rfl⟩
        go_wp2_with fail
        refine nil_mend.mono ?_
        rintro e _ ⟨rfl, rfl⟩
        go_wp2
        go_ret
        exact ⟨rfl, HF1.out⟩
      · have b5 : (k == 5) = false := by simp [h5]
        go_wp2_with fail
        refine (gone_read HG1.out s).mono ?_
        rintro e _ ⟨rfl, rfl⟩
        go_wp2_with fail
        refine (nil_read s).mono ?_
        rintro e _ ⟨rfl, rfl⟩
        go_wp2_with fail
        refine (same_yes none none 0 0 0 0 [] [] w1 (Rs.nil _ _) (Rs.nil _ _) rfl rfl rfl).mono ?_
        rintro e w2 ⟨rfl, q, rfl⟩
        go_wp2
        go_ret
        exact ⟨rfl, HF1.out.then (Fr.drewN [] _ _)⟩
set_option maxHeartbeats 1000000 in
theorem looksG (p : Value) (w : World) (hG : Gone w p) :
    Calls Tryz.prog 8 #[p, .pointer none] w fun e w' => e = .returned (.bool true) ∧ w = w' := by
  go_enter Tryz.func8, Tryz.ntmps8
  go_wp2_with fail
  refine (gone_dead hG).mono ?_
  rintro e _ ⟨rfl, rfl⟩
  go_wp2_with fail
  refine nil_dead.mono ?_
  rintro e _ ⟨rfl, rfl⟩
  go_wp2_with fail
  refine (gone_capacity hG).mono ?_
  rintro e _ ⟨rfl, rfl⟩
  go_wp2_with fail
  refine nil_capacity.mono ?_
  rintro e _ ⟨rfl, rfl⟩
  go_wp2_with fail
  refine (gone_writes hG).mono ?_
  rintro e _ ⟨rfl, rfl⟩
  go_wp2_with fail
  refine nil_writes.mono ?_
  rintro e _ ⟨rfl, rfl⟩
  go_wp2
  go_ret
  exact ⟨rfl, rfl⟩
theorem askedG (p : Value) (k s a : Int) (bo : Option Addr) (M cb : Nat) (ys : List Nat) (n : Int) (w : World) (hG : Gone w p) (hB : BArg w bo M cb ys) (hM : M < 2^40) :
    Calls Tryz.prog 7 #[p, .pointer none, opV k s a bo M cb n] w fun e w' => e = .returned (.bool true) ∧ Fr [] w w' := by
  by_cases hk : k = 1
  · subst hk
    exact askedG_write p s a bo M cb ys n w hG hB hM
  · exact askedG_rest p k s a bo M cb n w hG hk
end Go.Proofs.YtgoonbikhdbkiaaGreatDoor

/- Texts of this claim laid together, one behind the other: contracts and plain lemmas; conditions as each names them. -/
import Derived.Test.YtpdkdgmaofhlkaaGreatDoorGp27
import Derived.Test.YtpdkdgmaofhlkaaGreatDoorGp2
import Derived.Test.YtpdkdgmaofhlkaaGreatDoorGp26
import Derived.Lib.AppendZerosOnto
import Derived.Maps.RangeWalk
/- entries of several rows in the order of their keys: together. Conditions as each names them. -/
namespace Go.Proofs.YtpdkdgmaofhlkaaGreatDoor
open Go.ChangeShapes Go.WideShapes Go.ChangeAt Go.RowKit Go.Lib Go.Sort Go.Shelf
set_option linter.unusedVariables false
set_option linter.unusedSimpArgs false

def cfE (x y : Ey) : Int := Lib.compareBytes x.key.data.toList y.key.data.toList
theorem ltOf_cfE : ltOf cfE = ltB Ey.key := by
  funext x y
  unfold ltOf cfE ltB
  rw [ByteArray.toList_eq, ByteArray.toList_eq]
  have h := bl_cmp x.key.data.toList y.key.data.toList
  cases hb : Op.bytesLess x.key.data.toList y.key.data.toList with
  | true => simpa using h.2 hb
  | false =>
    rw [hb] at h
    simpa using h
theorem twoE (x : Ey) : ∃ a b, eyC x = [a, b] := ⟨_, _, rfl⟩
theorem oneE (x : Ey) : ∀ v ∈ eyC x, v.oneCell' = true := fun v hv => eysC_oneCell [x] v (by simpa [eysC] using hv)
theorem keyE_any (x : Ey) (W : World) : Calls Tryz.prog 73 #[.agg (eyC x).toArray] W fun e w' => e = .returned (.string x.key) ∧ ∃ q os', w' = grow (W.drewN q) os' := by
  obtain ⟨k, v⟩ := x
  simp only [eyC]
  go_enter Tryz.func73, Tryz.ntmps73
  go_wp2
  go_ret
  exact ⟨rfl, 0, _, by rw [alloc_eq_grow]; rfl⟩
set_option maxHeartbeats 1000000 in
theorem cmpE_any (x y : Ey) (kb : Nat) (W : World) (hlt : kb < W.heap.size) (hk : W.cell? ⟨kb, 0, none⟩ = some (.func (.func 73) #[] #[])) : Calls Tryz.prog 110 #[.agg (eyC x).toArray, .agg (eyC y).toArray, .pointer (some ⟨kb, 0, none⟩)] W fun e w' => e = .returned (.int .i64 (cfE x y)) ∧ ∃ q os', w' = grow (W.drewN q) os' := by
  have mixed : Tryz.prog.follows .mixedOrders = true := by kernel_rfl
  obtain ⟨W2, HW2⟩ : ∃ W2, Hid ((W.alloc (.cells (eyC x).toArray 102)).alloc (.cells (eyC y).toArray 102) = W2) := ⟨_, rfl⟩
  have hA : Fr [] W W2 := by rw [← HW2.out]; exact (Fr.alloc [] W _).then (Fr.alloc [] _ _)
  have hb0 : W2.heap[W.heap.size]? = some (.cells (eyC x).toArray 102 (0, 0)) := by rw [← HW2.out]; exact (Fr.alloc [] _ _).keep (heap_alloc_new W _) (by simp)
  have hb1 : W2.heap[W.heap.size + 1]? = some (.cells (eyC y).toArray 102 (0, 0)) := by
    rw [← HW2.out]
    have := heap_alloc_new (W.alloc (.cells (eyC x).toArray 102)) (.cells (eyC y).toArray 102)
    simpa using this
  have HG : Hid (∃ os', W2 = grow W os') := by
    rw [← HW2.out]
    exact ⟨_, by rw [alloc_eq_grow, alloc_eq_grow, grow_grow]⟩
  have k0 : ∀ n os, (grow (W2.drewN n) os).cell? ⟨kb, 0, none⟩ = some (.func (.func 73) #[] #[]) := fun n os => cell_grown (Nat.lt_of_lt_of_le hlt hA.size) ((World.cell?_of_block (hA.block kb hlt (by simp))).trans hk) n os
  have hs0 : W.heap.size < W2.heap.size := lt_of_block hb0
  have hs1 : W.heap.size + 1 < W2.heap.size := lt_of_block hb1
  have HC : Hid (∀ a b W', Calls Tryz.prog 111 #[.string a, .string b] W' fun e w' => e = .returned (.int .i64 (Lib.compareBytes a.data.toList b.data.toList)) ∧ ∃ q os', w' = grow (W'.drewN q) os') := fun a b W' => (scmp_any a b W').mono (by rintro e w' ⟨rfl, rfl⟩; exact ⟨rfl, 0, #[], by rw [grow_empty]; rfl⟩)
  have HX : Hid (∀ W', Calls Tryz.prog 73 #[.agg (eyC x).toArray] W' fun e w' => e = .returned (.string x.key) ∧ ∃ q os', w' = grow (W'.drewN q) os') := fun W' => keyE_any x W'
  have HY : Hid (∀ W', Calls Tryz.prog 73 #[.agg (eyC y).toArray] W' fun e w' => e = .returned (.string y.key) ∧ ∃ q os', w' = grow (W'.drewN q) os') := fun W' => keyE_any y W'
  obtain ⟨r, hr⟩ : ∃ r, r = cfE x y := ⟨_, rfl⟩
  have HC2 : Hid (∀ W', Calls Tryz.prog 111 #[.string x.key, .string y.key] W' fun e w' => e = .returned (.int .i64 r) ∧ ∃ q os', w' = grow (W'.drewN q) os') := fun W' => by rw [hr]; exact HC.out _ _ W'
  rw [← hr]
  clear hr HC
  obtain ⟨k, v⟩ := x
  obtain ⟨k2, v2⟩ := y
  simp only [eyC] at hb0 hb1 HX HY HC2 HW2 ⊢
  have a0 : ∀ n os, (grow (W2.drewN n) os).cell? ⟨W.heap.size, 0, none⟩ = some (.string k) := fun n os => cell_grown hs0 (by rw [cell_of_row _ _ _ _ _ _ hb0]; rfl) n os
  have a1 : ∀ n os, (grow (W2.drewN n) os).cell? ⟨W.heap.size, 1, none⟩ = some (.string v) := fun n os => cell_grown hs0 (by rw [cell_of_row _ _ _ _ _ _ hb0]; rfl) n os
  have b0 : ∀ n os, (grow (W2.drewN n) os).cell? ⟨W.heap.size + 1, 0, none⟩ = some (.string k2) := fun n os => cell_grown hs1 (by rw [cell_of_row _ _ _ _ _ _ hb1]; rfl) n os
  have b1 : ∀ n os, (grow (W2.drewN n) os).cell? ⟨W.heap.size + 1, 1, none⟩ = some (.string v2) := fun n os => cell_grown hs1 (by rw [cell_of_row _ _ _ _ _ _ hb1]; rfl) n os
  clear hb0 hb1 hA hk
  go_enter Tryz.func110, Tryz.ntmps110
  go_upto_region 1 with fail
  rw [HW2.out]
  go_quiet_grown (first | (go_at_call 111; with_reducible exact Calls.grown_of (HC2.out _)) | (go_at_call 73; first | with_reducible exact Calls.grown_of (HX.out _) | with_reducible exact Calls.grown_of (HY.out _)))
  go_wp2
  go_ret
  obtain ⟨os', hos⟩ := HG.out
  refine ⟨rfl, nq, os' ++ osq, ?_⟩
  rw [hos]
  show grow (grow (W.drewN nq) os') osq = _
  rw [grow_grow]
set_option maxHeartbeats 1000000 in
theorem sortE_any (base : Nat) (ro : Option Addr) (M cap kb : Nat) (ps : List Ey) (w : World) (hrow : w.ownsRow base 102 2 (.slice ro M cap) M (eysC ps)) (hM : M = ps.length) (hlen : M < 1099511627776) (hlt : kb < w.heap.size) (hk : w.cell? ⟨kb, 0, none⟩ = some (.func (.func 73) #[] #[])) (hne : ∀ a, ro = some a → kb ≠ a.block) :
    Calls Tryz.prog 109 #[.slice ro M cap, .func (.func 110) #[] #[.pointer (some ⟨kb, 0, none⟩)]] w fun e w' => e = .returned (.tuple #[]) ∧ w'.ownsRow base 102 2 (.slice ro M cap) M (eysC (sortB Ey.key ps)) ∧ Fr (Value.slice ro M cap).ownBlock.toList w w' := by
  subst hM
  rcases Nat.eq_zero_or_pos ps.length with h0 | h0
  · have e0 : ps = [] := List.eq_nil_of_length_eq_zero h0
    subst e0
    refine (SoE.sortSt_none ro cap _ w).mono ?_
    rintro e w' ⟨rfl, rfl⟩
    exact ⟨rfl, hrow, Fr.refl _ _⟩
  · obtain ⟨g, rfl, hg⟩ := own_some hrow h0
    rw [eysC_flat] at hrow
    have hrow' := hrow
    obtain ⟨hl, hr⟩ := hrow'
    rcases hr with ⟨hh, _⟩ | ⟨g', cap', cur, hh, hbase, hb, h1, h2, h3, h4⟩
    · cases hh
    cases hh
    have hkg : kb ≠ g := hne _ rfl
    have eg : ∀ args w, (callFunc 110 args).run Tryz.prog w = .ok (.enter 110 args) w := enters_of Tryz.func110 (by kernel_rfl) rfl
    have hcmp : CmpLays Tryz.prog 110 #[.pointer (some ⟨kb, 0, none⟩)] eyC 2 cfE g 0 ps.toArray.size w := fun m os dk _ x y => cmpE_any x y kb _ (Nat.lt_of_lt_of_le hlt (size_sortWorldK_c eyC 2 w g 0 m dk os)) (cell_sorted eyC dk hkg hk hlt)
    have hO : KO (ltOf cfE) (fun x : Ey => x.key.toList) := by rw [ltOf_cfE]; exact koB Ey.key
    have R : RowK eyC 2 w g 0 ps.toArray := ⟨fun x => rfl, oneE, holds_is eyC twoE hb h4, lt_of_block hb⟩
    have hcon := SoE.sortSt_any eyC cfE (fun x : Ey => x.key.toList) hO 110 #[.pointer (some ⟨kb, 0, none⟩)] g 0 cap ps.toArray w eg hcmp R (by simpa using hlen)
    have hsz : ps.toArray.size = ps.length := by simp
    rw [hsz] at hcon
    refine hcon.mono ?_
    rintro e w' ⟨rfl, d', hz, hs, ht, hS⟩
    rw [ltOf_cfE] at hs
    have hd := sorted_is Ey.key (d := ps.toArray) (d' := d') (by rw [hsz]; exact hz) (by rw [hsz]; exact hs) (by rw [hsz]; exact ht)
    obtain ⟨q1, q2⟩ := row_sorted eyC twoE hrow (qs := sortB Ey.key ps) (by simpa using hd) hz hS
    exact ⟨rfl, by rw [eysC_flat]; exact q1, q2.mono (by intro x hx _; simpa [Value.ownBlock] using hx)⟩
set_option maxHeartbeats 1000000 in
theorem togE_any (ao : Option Addr) (N cap : Nat) (es : List ElE) (w : World) (h : LLE w ao es) (hN : N = es.length) :
    Calls Tryz.prog 72 #[.func (.func 73) #[] #[], .slice ao N cap] w fun e w' => ∃ ro M rc, e = .returned (.slice ro M rc) ∧ M = (flaE es).length ∧ w'.ownsRow w.heap.size 102 2 (.slice ro M rc) M (eysC (sortB Ey.key (flaE es))) ∧ Fr [] w w' := by
  obtain ⟨W, HW⟩ : ∃ W, Hid (w.alloc (.cells #[.func (.func 73) #[] #[]] 108) = W) := ⟨_, rfl⟩
  have hA : Fr [] w W := by rw [← HW.out]; exact Fr.alloc [] w _
  have hb : W.heap[w.heap.size]? = some (.cells #[.func (.func 73) #[] #[]] 108 (0, 0)) := by rw [← HW.out]; exact heap_alloc_new w _
  have HC : Hid (Calls _ _ _ _ _) := concatE_any ao N cap es W (h.keep hA) hN
  have HM : Hid ((flaE es).length < 1099511627776) := by
    have h1 := h.bound es.length
    have h2 := h.few
    rw [List.take_length] at h1
    show _ < _
    omega
  have HS : Hid (∀ (w1 : World) (ro : Option Addr) (M rc : Nat), M = (flaE es).length → w1.ownsRow W.heap.size 102 2 (.slice ro M rc) M (eysC (flaE es)) → Fr [] W w1 → Calls Tryz.prog 109 #[.slice ro M rc, .func (.func 110) #[] #[.pointer (some ⟨w.heap.size, 0, none⟩)]] w1 fun e w' => e = .returned (.tuple #[]) ∧ w'.ownsRow w.heap.size 102 2 (.slice ro M rc) M (eysC (sortB Ey.key (flaE es))) ∧ Fr [] w w') := fun w1 ro M rc h1 h2 h3 => by
    have hb1 := h3.keep hb (by simp)
    have hlt : w.heap.size < W.heap.size := lt_of_block hb
    refine (sortE_any W.heap.size ro M rc w.heap.size (flaE es) w1 h2 h1 (by rw [h1]; exact HM.out) (lt_of_block hb1) (by rw [cell_of_row _ _ _ _ _ _ hb1]; rfl) ?_).mono ?_
    · intro a ha
      obtain ⟨q1, _⟩ := owns_cells h2 (k := a.block) (by rw [ha]; rfl)
      omega
    · rintro e w' ⟨rfl, h4, h5⟩
      exact ⟨rfl, own_base h4 hA.size, (hA.then h3).on h5 (fun x hx => Nat.le_trans hA.size (own_blocksE h2 x hx))⟩
  clear h hN hb hA
  go_enter Tryz.func72, Tryz.ntmps72
  go_upto_region 1 with fail
  rw [HW.out]
  go_wp2_with fail
  refine Calls.mono HC.out ?_
  rintro e w1 ⟨ro, M, rc, rfl, hMM, hO, hF⟩
  have HSq : Hid (Calls _ _ _ _ _) := HS.out w1 ro M rc hMM hO hF
  have HMM : Hid (M = (flaE es).length) := hMM
  clear hMM hO hF HC HS
  go_wp2_with fail
  refine Calls.mono HSq.out ?_
  rintro e w2 ⟨rfl, hq⟩
  have HQ : Hid (_ ∧ _) := hq
  clear hq HSq
  go_wp2
  go_ret
  exact ⟨ro, M, rc, rfl, HMM.out, HQ.out⟩
end Go.Proofs.YtpdkdgmaofhlkaaGreatDoor
/- Laying a thing into its place, step by step, as mathematics. No conditions. -/
namespace Go.Proofs.YtpdkdgmaofhlkaaGreatDoor
open Go.Sort
set_option linter.unusedVariables false
set_option linter.unusedSimpArgs false
section
variable {α : Type}
/-- What stands in the new row behind the i-th round: d says that x is laid. -/
structure InsP (lt : α → α → Bool) (x : α) (ls os : List α) (d : Bool) (i : Nat) : Prop where
  no : d = false → os = ls.take i ∧ insK lt x ls = ls.take i ++ insK lt x (ls.drop i)
  yes : d = true → os ++ ls.drop i = insK lt x ls
  len : os.length ≤ i + 1
variable {lt : α → α → Bool} {x : α} {ls os : List α} {i : Nat}
theorem InsP.start : InsP lt x ls [] false 0 := ⟨fun _ => ⟨by simp, by simp⟩, fun h => (by cases h), by simp⟩
theorem ins_drop (z : α) (h : i < ls.length) : ls.drop i = ls.getD i z :: ls.drop (i + 1) := by
  rw [List.drop_eq_getElem_cons h]
  simp [List.getD, h]
theorem ins_take (z : α) (h : i < ls.length) : ls.take (i + 1) = ls.take i ++ [ls.getD i z] := by
  rw [List.take_add_one]
  simp [List.getD, h]
theorem InsP.skip (h : InsP lt x ls os false i) (z : α) (hi : i < ls.length) (hl : lt x (ls.getD i z) = false) : InsP lt x ls (os ++ [ls.getD i z]) false (i + 1) := by
  obtain ⟨h1, h2⟩ := h.no rfl
  refine ⟨fun _ => ⟨?_, ?_⟩, fun h => (by cases h), ?_⟩
  · rw [h1, ins_take z hi]
  · rw [h2, ins_drop z hi, insK, hl, ins_take z hi]
    simp
  · have := h.len
    rw [h1, List.length_append, List.length_take]
    simp
    omega
theorem InsP.here (h : InsP lt x ls os false i) (z : α) (hi : i < ls.length) (hl : lt x (ls.getD i z) = true) : InsP lt x ls (os ++ [x] ++ [ls.getD i z]) true (i + 1) := by
  obtain ⟨h1, h2⟩ := h.no rfl
  refine ⟨fun h => (by cases h), fun _ => ?_, ?_⟩
  · rw [h2, ins_drop z hi, insK, if_pos hl, h1]
    simp
  · rw [h1, List.length_append, List.length_append, List.length_take]
    simp
    omega
theorem InsP.late (h : InsP lt x ls os true i) (z : α) (hi : i < ls.length) : InsP lt x ls (os ++ [ls.getD i z]) true (i + 1) := by
  refine ⟨fun h => (by cases h), fun _ => ?_, ?_⟩
  · rw [← h.yes rfl, ins_drop z hi]
    simp
  · have := h.len
    rw [List.length_append]
    simp
    omega
theorem InsP.endNo (h : InsP lt x ls os false i) (hi : ls.length ≤ i) : os ++ [x] = insK lt x ls := by
  obtain ⟨h1, h2⟩ := h.no rfl
  rw [h2, h1, List.drop_of_length_le hi]
  rfl
theorem InsP.endYes (h : InsP lt x ls os true i) (hi : ls.length ≤ i) : os = insK lt x ls := by
  have := h.yes rfl
  rw [List.drop_of_length_le hi, List.append_nil] at this
  exact this
end
end Go.Proofs.YtpdkdgmaofhlkaaGreatDoor
/- The document's way to lay one of entries into its place. Conditions as each names them. -/
namespace Go.Proofs.YtpdkdgmaofhlkaaGreatDoor
open Go.ChangeShapes Go.WideShapes Go.ChangeAt Go.RowKit Go.Lib Go.Sort
set_option linter.unusedVariables false
set_option linter.unusedSimpArgs false
/-- One more, behind a row of one's own. -/
theorem wpList_oneE (w0 w : World) {ops : Array Oper} {rest : List Oper} {o : Oper} {a : Act} {Q : Exit → Act → World → Prop} (hgd : o.guard = none) (s x : Operand)
    (ho : o.op = .call { callee := .builtin .append, args := #[s, x], argTypes := #[50, 50] })
    (so : Option Addr) (N c : Nat) (hs : List Ey) (hsv : a.eval s = .slice so N c) (hK : w.ownsRow w0.heap.size 102 2 (.slice so N c) N (eysC hs)) (hN : N < 1099511627776) (h0 : w0.heap.size ≤ w.heap.size) (p : Ey) (hx : a.eval x = .slice (some ⟨w.heap.size, 0, none⟩) 1 1)
    (h : ∀ so' c' w', w'.ownsRow w0.heap.size 102 2 (.slice so' (N + 1) c') (N + 1) (eysC (hs ++ [p])) → Fr (Value.slice so N c).ownBlock.toList w w' → wpList Tryz.prog ops Q rest (a.put o.dst (.slice so' (N + 1) c')) w') : wpList Tryz.prog ops Q (o :: rest) a (w.alloc (.cells #[.string p.key, .string p.val] 102)) := by
  obtain ⟨i0, hi, hz0, hz1, hz2⟩ := infoKE_parts
  have hmx : 1099511627777 ≤ maxLen := by unfold maxLen; omega
  refine wpList_append_own (w.alloc (.cells #[.string p.key, .string p.val] 102)) hgd s x 50 ho w0.heap.size 102 i0 _ 2 32 Tryz.undKE hi hz0 hz1 hz2 rfl (by decide) (.slice so N c) N (eysC hs) hsv (owns_keepB hK (Fr.alloc [] w _) (by simp)) ⟨w.heap.size, 0, none⟩ 1 1 (eyC p) hx rfl ?_ (oneE p) (by omega) (by omega) (by simp; omega) ?_
  · intro j u hu
    have hr := heap_alloc_new w (.cells #[.string p.key, .string p.val] 102)
    rw [Addr.add_lit, cell_of_row _ _ _ _ _ _ hr, Nat.zero_add]
    simpa [eyC] using hu
  · intro v' w' hown' hg' _
    obtain ⟨bo, cap', rfl⟩ : ∃ bo cap', v' = .slice bo (N + 1) cap' := by
      rcases hown'.2 with ⟨_, h1⟩ | ⟨g, cap, _, rfl, _⟩
      · omega
      · exact ⟨_, cap, rfl⟩
    refine h bo cap' w' ?_ (((Fr.alloc [] w _).mono (by intro y hy _; simp at hy)).then (Fr.grown hg' (fun y hy _ => Option.mem_toList.2 hy)))
    rw [eysC_append]
    have : eysC [p] = eyC p := by simp [eysC]
    rw [this]
    exact hown'
/-- What the loop keeps. -/
structure InsIE (W0 wr : World) (bo : Option Addr) (n bc : Nat) (x : Ey) (ls os : List Ey) (d : Bool) (i : Nat) : Prop where
  len : n = os.length
  own : wr.ownsRow W0.heap.size 102 2 (.slice bo n bc) n (eysC os)
  ins : InsP (ltB Ey.key) x ls os d i
  fr : Fr [] W0 wr
theorem InsIE.keep {W0 wr w2 : World} {bo : Option Addr} {n bc : Nat} {x : Ey} {ls os : List Ey} {d : Bool} {i : Nat} (h : InsIE W0 wr bo n bc x ls os d i) (hf : Fr [] wr w2) : InsIE W0 w2 bo n bc x ls os d i := ⟨h.len, owns_keepB h.own hf (by simp), h.ins, h.fr.then hf⟩
end Go.Proofs.YtpdkdgmaofhlkaaGreatDoor
/- Appending rows of keys with their versions; slices.Grow of nothing. Conditions as each names them. -/
namespace Go.Proofs.YtpdkdgmaofhlkaaGreatDoor
open Go.ChangeShapes Go.WideShapes Go.ChangeAt Go.RowKit Go.Lib
set_option linter.unusedVariables false
set_option linter.unusedSimpArgs false
theorem run_append_noneH {P : Program} (w : World) (t ty e : TypeId) (i : TypeInfo) (size c base : Nat) (ht : P.underlying t = some (.slice e)) (hi : P.info? e = some i)
    (v : Value) (n : Nat) (xs : List Value) (hown : w.ownsRow base e size v n xs) :
    (Builtin.append_ #[t, t] ty #[v, .slice none 0 c]).run P w = .ok v w := by
  rcases hown.2 with ⟨rfl, rfl⟩ | ⟨g, cap, cur, rfl, _, _, hnc, _⟩
  · simp [Builtin.append_, run_underlying ht, sizeOf, typeInfo, hi, Builtin.lenOf, Builtin.firstCells]
  · simp [Builtin.append_, run_underlying ht, sizeOf, typeInfo, hi, Builtin.lenOf, Builtin.firstCells, hnc, storeCells]
theorem own_shapeH {w : World} {base : Nat} {e : TypeId} {size : Nat} {v : Value} {n : Nat} {xs : List Value} (h : w.ownsRow base e size v n xs) : ∃ bo cap, v = .slice bo n cap := by
  rcases h.2 with ⟨hv, hn⟩ | ⟨g, cap, cur, hv, _⟩
  · exact ⟨none, 0, by rw [hv, hn]⟩
  · exact ⟨_, cap, hv⟩
theorem own_blocksH {w : World} {base : Nat} {e : TypeId} {size : Nat} {v : Value} {n : Nat} {xs : List Value} (h : w.ownsRow base e size v n xs) : ∀ k ∈ v.ownBlock.toList, base ≤ k := by
  intro k hk
  rcases h.2 with ⟨rfl, _⟩ | ⟨g, cap, cur, rfl, hb, _⟩
  · simp [Value.ownBlock] at hk
  · simp [Value.ownBlock] at hk
    omega
theorem wpList_appH (w : World) {ops : Array Oper} {rest : List Oper} {o : Oper} {a : Act} {Q : Exit → Act → World → Prop} (hgd : o.guard = none) (s x : Operand)
    (ho : o.op = .call { callee := .builtin .append, args := #[s, x], argTypes := #[51, 51] })
    (base : Nat) (v : Value) (qs : List Hd) (hs : a.eval s = v) (hown : w.ownsRow base 97 2 v qs.length (hdsC qs))
    (xo : Option Addr) (m c : Nat) (rs : List Hd) (hx : a.eval x = .slice xo m c) (hB : RrH w xo rs) (hm : m = rs.length) (hn : qs.length + m < 2199023255552) (hbase : base ≤ w.heap.size)
    (h : ∀ bo n' cap' w', n' = (qs ++ rs).length → w'.ownsRow base 97 2 (.slice bo n' cap') n' (hdsC (qs ++ rs)) → Fr v.ownBlock.toList w w' → wpList Tryz.prog ops Q rest (a.put o.dst (.slice bo n' cap')) w') : wpList Tryz.prog ops Q (o :: rest) a w := by
  obtain ⟨i0, hi, hz0, hz1, hz2⟩ := infoKH_parts
  have hl : (hdsC rs).length = m * 2 := by rw [hdsC_length, hm]
  have hmx : 2199023255552 ≤ maxLen := by unfold maxLen; omega
  cases xo with
  | none =>
    refine wpList_plain hgd fun K hK => ?_
    obtain rfl : rs = [] := hB.none
    obtain rfl : m = 0 := hm
    have hr := run_append_noneH (P := Tryz.prog) w 51 o.type 97 i0 2 c base Tryz.undKH hi v qs.length (hdsC qs) hown
    obtain ⟨bo, cap', rfl⟩ := own_shapeH hown
    unfold Oper.wp execOp
    simp only [ho, resolve, invoke, builtin, Sem.run_bind, Sem.run_pure, Result.andThen_ok, List.map_toArray, List.map_cons, List.map_nil, hs, hx, hr]
    exact hK _ _ (h bo _ cap' w (by simp) (by simpa using hown) (Fr.refl _ _))
  | some ad =>
    have hlies : ∀ j u, (hdsC rs)[j]? = some u → w.cell? (ad.add j) = some u := by
      intro j u hu
      obtain ⟨b, off, e, _, hc⟩ := hB j u hu
      cases e
      rw [Addr.add_lit]
      exact hc
    refine wpList_append_own w hgd s x 51 ho base 97 i0 _ 2 40 Tryz.undKH hi hz0 hz1 hz2 rfl (by decide) v qs.length (hdsC qs) hs hown ad m c (hdsC rs) hx hl hlies (hdsC_oneCell rs) (by omega) (by omega) hbase ?_
    intro v' w' hown' hg' _
    have hlen : (qs ++ rs).length = qs.length + m := by rw [List.length_append, hm]
    obtain ⟨bo, cap', rfl⟩ := own_shapeH hown'
    exact h bo _ cap' w' hlen.symm (by rw [hdsC_append]; exact hown') (Fr.grown hg' (fun y hy _ => Option.mem_toList.2 hy))
set_option maxHeartbeats 2000000 in
set_option maxRecDepth 100000 in
theorem growH_none (w : World) :
    Calls Tryz.prog 120 #[.slice none 0 0, .int .i64 0] w fun e w' => e = .returned (.slice none 0 0) ∧ Fr [] w w' := by
  go_enter Tryz.func120, Tryz.ntmps120
  go_wp2
  go_ret
  exact ⟨rfl, Fr.refl _ _⟩
set_option maxHeartbeats 2000000 in
set_option maxRecDepth 100000 in
theorem growH_any (n : Nat) (w : World) (hn : 0 < n) (hb : n ≤ 2199023255552) :
    Calls Tryz.prog 120 #[.slice none 0 0, .int .i64 (n : Int)] w fun e w' => ∃ cap, e = .returned (.slice (some ⟨w.heap.size, 0, none⟩) 0 cap) ∧ w'.ownsRow w.heap.size 97 2 (.slice (some ⟨w.heap.size, 0, none⟩) 0 cap) 0 [] ∧ Fr [] w w' := by
  obtain ⟨i0, hi, hz0, hz1, hz2⟩ := infoKH_parts
  have hold : (Builtin.firstCells i0.size 0 (.slice none 0 0)).run Tryz.prog w.drew = .ok ([] : List Value).toArray w.drew := run_firstCells_none w.drew i0.size 0 0 0
  have hrz : ∀ ty, (Builtin.append_ #[51, 3] ty #[.slice none 0 0, .int .i64 (n : Int)]).run Tryz.prog w =
      .ok (.slice (some ⟨w.heap.size, 0, none⟩) n (grownCap w n 0 97)) (w.drew.alloc (.cells (([] : List Value).toArray ++ Builtin.zeroCells (Value.cells (.agg #[.string ⟨#[]⟩, .slice none 0 0])) n ++ Builtin.zeroCells (Value.cells (.agg #[.string ⟨#[]⟩, .slice none 0 0])) (grownCap w n 0 97 - n)) 97)) := fun ty => by
    have h := Lib.run_append_grow_zeros w 51 3 ty 97 i0 _ .i64 .i64 Tryz.undKH Tryz.undI9 hi hz0 none 0 0 [] hold n (by omega) (by rw [hz1]; decide) (by omega) (by omega) (by rw [hz2]; omega) (by rw [hz2]; exact growslice_fits (by omega) (by omega))
    rw [Nat.zero_add] at h
    exact h
  have hGn : n ≤ grownCap w n 0 97 := grownCap_ge w _ _ _
  have hGm := grownCap_le_maxLen w n 0 97 (by unfold maxLen; omega)
  obtain ⟨G, hG⟩ : ∃ G, G = grownCap w n 0 97 := ⟨_, rfl⟩
  rw [← hG] at hrz hGn hGm
  have hG63 : G ≤ 9223372036854775807 := by unfold maxLen at hGm; omega
  obtain ⟨cur, hcur⟩ : ∃ cur, cur = ([] : List Value).toArray ++ Builtin.zeroCells (Value.cells (.agg #[.string ⟨#[]⟩, .slice none 0 0])) n ++ Builtin.zeroCells (Value.cells (.agg #[.string ⟨#[]⟩, .slice none 0 0])) (G - n) := ⟨_, rfl⟩
  have hcs : cur.size = G * 2 := by
    rw [hcur]
    simp only [Array.size_append, size_zeroCells, Value.cells, List.size_toArray, List.length_nil, List.length_cons]
    omega
  rw [← hcur] at hrz
  have HOw : Hid ((w.drew.alloc (.cells cur 97)).ownsRow w.heap.size 97 2 (.slice (some ⟨w.heap.size, 0, none⟩) 0 G) 0 []) := ⟨rfl, .inr ⟨w.heap.size, G, cur, rfl, Nat.le_refl _, heap_alloc_new w.drew _, Nat.zero_le _, hGm, hcs, by simp⟩⟩
  have HF : Hid (Fr [] w (w.drew.alloc (.cells cur 97))) := (Fr.drew [] w).then (Fr.alloc [] _ _)
  have h1 : ¬ ((n : Int) < 0) := by omega
  have h4 : (n : Int) > 0 := by omega
  clear hold hG hcur hcs hGn
  go_enter Tryz.func120, Tryz.ntmps120
  go_wp2_with (at_builtin; refine Lib.wpList_append_run _ rfl _ _ _ _ rfl _ _ rfl rfl _ _ (hrz _) ?_)
  all_goals (go_ret; exact ⟨G, rfl, HOw.out, HF.out⟩)
end Go.Proofs.YtpdkdgmaofhlkaaGreatDoor

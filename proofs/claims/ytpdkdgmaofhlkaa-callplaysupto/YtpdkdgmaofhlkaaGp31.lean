/- Texts of this claim laid together, one behind the other: contracts and plain lemmas; conditions as each names them. -/
import Derived.Test.YtpdkdgmaofhlkaaGp30
import Derived.Test.YtpdkdgmaofhlkaaGp27
/- entries of several rows in the order of their keys: together. Conditions as each names them. -/
namespace Go.Proofs.Ytpdkdgmaofhlkaa
open Go.ChangeShapes Go.WideShapes Go.ChangeAt Go.RowKit Go.Lib Go.Sort Go.Shelf
set_option linter.unusedVariables false
set_option linter.unusedSimpArgs false

def cfE (x y : Ey) : Int := Lib.compareBytes x.key.data.toList y.key.data.toList
theorem ltOf_cfE : ltOf cfE = ltB Ey.key := by
  funext x y
  unfold ltOf cfE ltB
  rw [ByteArray.toList_eq, ByteArray.toList_eq]
  have h := bl_cmp x.key.data.toList y.key.data.toList
  cases hb : Op.bytesLess x.key.data.toList y.key.data.toList with
  | true => simpa using h.2 hb
  | false =>
    rw [hb] at h
    simpa using h
theorem twoE (x : Ey) : ∃ a b, eyC x = [a, b] := ⟨_, _, rfl⟩
theorem oneE (x : Ey) : ∀ v ∈ eyC x, v.oneCell' = true := fun v hv => eysC_oneCell [x] v (by simpa [eysC] using hv)
theorem keyE_any (x : Ey) (W : World) : Calls Try.prog 67 #[.agg (eyC x).toArray] W fun e w' => e = .returned (.string x.key) ∧ ∃ q os', w' = grow (W.drewN q) os' := by
  obtain ⟨k, v⟩ := x
  simp only [eyC]
  go_enter Try.func67, Try.ntmps67
  go_wp2
  go_ret
  exact ⟨rfl, 0, _, by rw [alloc_eq_grow]; rfl⟩
set_option maxHeartbeats 1000000 in
theorem cmpE_any (x y : Ey) (kb : Nat) (W : World) (hlt : kb < W.heap.size) (hk : W.cell? ⟨kb, 0, none⟩ = some (.func (.func 67) #[] #[])) : Calls Try.prog 81 #[.agg (eyC x).toArray, .agg (eyC y).toArray, .pointer (some ⟨kb, 0, none⟩)] W fun e w' => e = .returned (.int .i64 (cfE x y)) ∧ ∃ q os', w' = grow (W.drewN q) os' := by
  have mixed : Try.prog.follows .mixedOrders = true := by kernel_rfl
  obtain ⟨W2, HW2⟩ : ∃ W2, Hid ((W.alloc (.cells (eyC x).toArray 85)).alloc (.cells (eyC y).toArray 85) = W2) := ⟨_, rfl⟩
  have hA : Fr [] W W2 := by rw [← HW2.out]; exact (Fr.alloc [] W _).then (Fr.alloc [] _ _)
  have hb0 : W2.heap[W.heap.size]? = some (.cells (eyC x).toArray 85 (0, 0)) := by rw [← HW2.out]; exact (Fr.alloc [] _ _).keep (heap_alloc_new W _) (by simp)
  have hb1 : W2.heap[W.heap.size + 1]? = some (.cells (eyC y).toArray 85 (0, 0)) := by
    rw [← HW2.out]
    have := heap_alloc_new (W.alloc (.cells (eyC x).toArray 85)) (.cells (eyC y).toArray 85)
    simpa using this
  have HG : Hid (∃ os', W2 = grow W os') := by
    rw [← HW2.out]
    exact ⟨_, by rw [alloc_eq_grow, alloc_eq_grow, grow_grow]⟩
  have k0 : ∀ n os, (grow (W2.drewN n) os).cell? ⟨kb, 0, none⟩ = some (.func (.func 67) #[] #[]) := fun n os => cell_grown (Nat.lt_of_lt_of_le hlt hA.size) ((World.cell?_of_block (hA.block kb hlt (by simp))).trans hk) n os
  have hs0 : W.heap.size < W2.heap.size := lt_of_block hb0
  have hs1 : W.heap.size + 1 < W2.heap.size := lt_of_block hb1
  have HC : Hid (∀ a b W', Calls Try.prog 82 #[.string a, .string b] W' fun e w' => e = .returned (.int .i64 (Lib.compareBytes a.data.toList b.data.toList)) ∧ ∃ q os', w' = grow (W'.drewN q) os') := fun a b W' => (scmp_any a b W').mono (by rintro e w' ⟨rfl, rfl⟩; exact ⟨rfl, 0, #[], by rw [grow_empty]; rfl⟩)
  have HX : Hid (∀ W', Calls Try.prog 67 #[.agg (eyC x).toArray] W' fun e w' => e = .returned (.string x.key) ∧ ∃ q os', w' = grow (W'.drewN q) os') := fun W' => keyE_any x W'
  have HY : Hid (∀ W', Calls Try.prog 67 #[.agg (eyC y).toArray] W' fun e w' => e = .returned (.string y.key) ∧ ∃ q os', w' = grow (W'.drewN q) os') := fun W' => keyE_any y W'
  obtain ⟨r, hr⟩ : ∃ r, r = cfE x y := ⟨_, rfl⟩
  have HC2 : Hid (∀ W', Calls Try.prog 82 #[.string x.key, .string y.key] W' fun e w' => e = .returned (.int .i64 r) ∧ ∃ q os', w' = grow (W'.drewN q) os') := fun W' => by rw [hr]; exact HC.out _ _ W'
  rw [← hr]
  clear hr HC
  obtain ⟨k, v⟩ := x
  obtain ⟨k2, v2⟩ := y
  simp only [eyC] at hb0 hb1 HX HY HC2 HW2 ⊢
  have a0 : ∀ n os, (grow (W2.drewN n) os).cell? ⟨W.heap.size, 0, none⟩ = some (.string k) := fun n os => cell_grown hs0 (by rw [cell_of_row _ _ _ _ _ _ hb0]; rfl) n os
  have a1 : ∀ n os, (grow (W2.drewN n) os).cell? ⟨W.heap.size, 1, none⟩ = some (.string v) := fun n os => cell_grown hs0 (by rw [cell_of_row _ _ _ _ _ _ hb0]; rfl) n os
  have b0 : ∀ n os, (grow (W2.drewN n) os).cell? ⟨W.heap.size + 1, 0, none⟩ = some (.string k2) := fun n os => cell_grown hs1 (by rw [cell_of_row _ _ _ _ _ _ hb1]; rfl) n os
  have b1 : ∀ n os, (grow (W2.drewN n) os).cell? ⟨W.heap.size + 1, 1, none⟩ = some (.string v2) := fun n os => cell_grown hs1 (by rw [cell_of_row _ _ _ _ _ _ hb1]; rfl) n os
  clear hb0 hb1 hA hk
  go_enter Try.func81, Try.ntmps81
  go_upto_region 1 with fail
  rw [HW2.out]
  go_quiet_grown (first | (go_at_call 82; with_reducible exact Calls.grown_of (HC2.out _)) | (go_at_call 67; first | with_reducible exact Calls.grown_of (HX.out _) | with_reducible exact Calls.grown_of (HY.out _)))
  go_wp2
  go_ret
  obtain ⟨os', hos⟩ := HG.out
  refine ⟨rfl, nq, os' ++ osq, ?_⟩
  rw [hos]
  show grow (grow (W.drewN nq) os') osq = _
  rw [grow_grow]
set_option maxHeartbeats 1000000 in
theorem sortE_any (base : Nat) (ro : Option Addr) (M cap kb : Nat) (ps : List Ey) (w : World) (hrow : w.ownsRow base 85 2 (.slice ro M cap) M (eysC ps)) (hM : M = ps.length) (hlen : M < 1099511627776) (hlt : kb < w.heap.size) (hk : w.cell? ⟨kb, 0, none⟩ = some (.func (.func 67) #[] #[])) (hne : ∀ a, ro = some a → kb ≠ a.block) :
    Calls Try.prog 80 #[.slice ro M cap, .func (.func 81) #[] #[.pointer (some ⟨kb, 0, none⟩)]] w fun e w' => e = .returned (.tuple #[]) ∧ w'.ownsRow base 85 2 (.slice ro M cap) M (eysC (sortB Ey.key ps)) ∧ Fr (Value.slice ro M cap).ownBlock.toList w w' := by
  subst hM
  rcases Nat.eq_zero_or_pos ps.length with h0 | h0
  · have e0 : ps = [] := List.eq_nil_of_length_eq_zero h0
    subst e0
    refine (SoE.sortSt_none ro cap _ w).mono ?_
    rintro e w' ⟨rfl, rfl⟩
    exact ⟨rfl, hrow, Fr.refl _ _⟩
  · obtain ⟨g, rfl, hg⟩ := own_some hrow h0
    rw [eysC_flat] at hrow
    have hrow' := hrow
    obtain ⟨hl, hr⟩ := hrow'
    rcases hr with ⟨hh, _⟩ | ⟨g', cap', cur, hh, hbase, hb, h1, h2, h3, h4⟩
    · cases hh
    cases hh
    have hkg : kb ≠ g := hne _ rfl
    have eg : ∀ args w, (callFunc 81 args).run Try.prog w = .ok (.enter 81 args) w := enters_of Try.func81 (by kernel_rfl) rfl
    have hcmp : CmpLays Try.prog 81 #[.pointer (some ⟨kb, 0, none⟩)] eyC 2 cfE g 0 ps.toArray.size w := fun m os dk _ x y => cmpE_any x y kb _ (Nat.lt_of_lt_of_le hlt (size_sortWorldK_c eyC 2 w g 0 m dk os)) (cell_sorted eyC dk hkg hk hlt)
    have hO : KO (ltOf cfE) (fun x : Ey => x.key.toList) := by rw [ltOf_cfE]; exact koB Ey.key
    have R : RowK eyC 2 w g 0 ps.toArray := ⟨fun x => rfl, oneE, holds_is eyC twoE hb h4, lt_of_block hb⟩
    have hcon := SoE.sortSt_any eyC cfE (fun x : Ey => x.key.toList) hO 81 #[.pointer (some ⟨kb, 0, none⟩)] g 0 cap ps.toArray w eg hcmp R (by simpa using hlen)
    have hsz : ps.toArray.size = ps.length := by simp
    rw [hsz] at hcon
    refine hcon.mono ?_
    rintro e w' ⟨rfl, d', hz, hs, ht, hS⟩
    rw [ltOf_cfE] at hs
    have hd := sorted_is Ey.key (d := ps.toArray) (d' := d') (by rw [hsz]; exact hz) (by rw [hsz]; exact hs) (by rw [hsz]; exact ht)
    obtain ⟨q1, q2⟩ := row_sorted eyC twoE hrow (qs := sortB Ey.key ps) (by simpa using hd) hz hS
    exact ⟨rfl, by rw [eysC_flat]; exact q1, q2.mono (by intro x hx _; simpa [Value.ownBlock] using hx)⟩
set_option maxHeartbeats 1000000 in
theorem togE_any (ao : Option Addr) (N cap : Nat) (es : List ElE) (w : World) (h : LLE w ao es) (hN : N = es.length) :
    Calls Try.prog 66 #[.func (.func 67) #[] #[], .slice ao N cap] w fun e w' => ∃ ro M rc, e = .returned (.slice ro M rc) ∧ M = (flaE es).length ∧ w'.ownsRow w.heap.size 85 2 (.slice ro M rc) M (eysC (sortB Ey.key (flaE es))) ∧ Fr [] w w' := by
  obtain ⟨W, HW⟩ : ∃ W, Hid (w.alloc (.cells #[.func (.func 67) #[] #[]] 116) = W) := ⟨_, rfl⟩
  have hA : Fr [] w W := by rw [← HW.out]; exact Fr.alloc [] w _
  have hb : W.heap[w.heap.size]? = some (.cells #[.func (.func 67) #[] #[]] 116 (0, 0)) := by rw [← HW.out]; exact heap_alloc_new w _
  have HC : Hid (Calls _ _ _ _ _) := concatE_any ao N cap es W (h.keep hA) hN
  have HM : Hid ((flaE es).length < 1099511627776) := by
    have h1 := h.bound es.length
    have h2 := h.few
    rw [List.take_length] at h1
    show _ < _
    omega
  have HS : Hid (∀ (w1 : World) (ro : Option Addr) (M rc : Nat), M = (flaE es).length → w1.ownsRow W.heap.size 85 2 (.slice ro M rc) M (eysC (flaE es)) → Fr [] W w1 → Calls Try.prog 80 #[.slice ro M rc, .func (.func 81) #[] #[.pointer (some ⟨w.heap.size, 0, none⟩)]] w1 fun e w' => e = .returned (.tuple #[]) ∧ w'.ownsRow w.heap.size 85 2 (.slice ro M rc) M (eysC (sortB Ey.key (flaE es))) ∧ Fr [] w w') := fun w1 ro M rc h1 h2 h3 => by
    have hb1 := h3.keep hb (by simp)
    have hlt : w.heap.size < W.heap.size := lt_of_block hb
    refine (sortE_any W.heap.size ro M rc w.heap.size (flaE es) w1 h2 h1 (by rw [h1]; exact HM.out) (lt_of_block hb1) (by rw [cell_of_row _ _ _ _ _ _ hb1]; rfl) ?_).mono ?_
    · intro a ha
      obtain ⟨q1, _⟩ := owns_cells h2 (k := a.block) (by rw [ha]; rfl)
      omega
    · rintro e w' ⟨rfl, h4, h5⟩
      exact ⟨rfl, own_base h4 hA.size, (hA.then h3).on h5 (fun x hx => Nat.le_trans hA.size (own_blocksE h2 x hx))⟩
  clear h hN hb hA
  go_enter Try.func66, Try.ntmps66
  go_upto_region 1 with fail
  rw [HW.out]
  go_wp2_with fail
  refine Calls.mono HC.out ?_
  rintro e w1 ⟨ro, M, rc, rfl, hMM, hO, hF⟩
  have HSq : Hid (Calls _ _ _ _ _) := HS.out w1 ro M rc hMM hO hF
  have HMM : Hid (M = (flaE es).length) := hMM
  clear hMM hO hF HC HS
  go_wp2_with fail
  refine Calls.mono HSq.out ?_
  rintro e w2 ⟨rfl, hq⟩
  have HQ : Hid (_ ∧ _) := hq
  clear hq HSq
  go_wp2
  go_ret
  exact ⟨ro, M, rc, rfl, HMM.out, HQ.out⟩
end Go.Proofs.Ytpdkdgmaofhlkaa
/- Laying a thing into its place, step by step, as mathematics. No conditions. -/
namespace Go.Proofs.Ytpdkdgmaofhlkaa
open Go.Sort
set_option linter.unusedVariables false
set_option linter.unusedSimpArgs false
section
variable {α : Type}
/-- What stands in the new row behind the i-th round: d says that x is laid. -/
structure InsP (lt : α → α → Bool) (x : α) (ls os : List α) (d : Bool) (i : Nat) : Prop where
  no : d = false → os = ls.take i ∧ insK lt x ls = ls.take i ++ insK lt x (ls.drop i)
  yes : d = true → os ++ ls.drop i = insK lt x ls
  len : os.length ≤ i + 1
variable {lt : α → α → Bool} {x : α} {ls os : List α} {i : Nat}
theorem InsP.start : InsP lt x ls [] false 0 := ⟨fun _ => ⟨by simp, by simp⟩, fun h => (by cases h), by simp⟩
theorem ins_drop (z : α) (h : i < ls.length) : ls.drop i = ls.getD i z :: ls.drop (i + 1) := by
  rw [List.drop_eq_getElem_cons h]
  simp [List.getD, h]
theorem ins_take (z : α) (h : i < ls.length) : ls.take (i + 1) = ls.take i ++ [ls.getD i z] := by
  rw [List.take_add_one]
  simp [List.getD, h]
theorem InsP.skip (h : InsP lt x ls os false i) (z : α) (hi : i < ls.length) (hl : lt x (ls.getD i z) = false) : InsP lt x ls (os ++ [ls.getD i z]) false (i + 1) := by
  obtain ⟨h1, h2⟩ := h.no rfl
  refine ⟨fun _ => ⟨?_, ?_⟩, fun h => (by cases h), ?_⟩
  · rw [h1, ins_take z hi]
  · rw [h2, ins_drop z hi, insK, hl, ins_take z hi]
    simp
  · have := h.len
    rw [h1, List.length_append, List.length_take]
    simp
    omega
theorem InsP.here (h : InsP lt x ls os false i) (z : α) (hi : i < ls.length) (hl : lt x (ls.getD i z) = true) : InsP lt x ls (os ++ [x] ++ [ls.getD i z]) true (i + 1) := by
  obtain ⟨h1, h2⟩ := h.no rfl
  refine ⟨fun h => (by cases h), fun _ => ?_, ?_⟩
  · rw [h2, ins_drop z hi, insK, if_pos hl, h1]
    simp
  · rw [h1, List.length_append, List.length_append, List.length_take]
    simp
    omega
theorem InsP.late (h : InsP lt x ls os true i) (z : α) (hi : i < ls.length) : InsP lt x ls (os ++ [ls.getD i z]) true (i + 1) := by
  refine ⟨fun h => (by cases h), fun _ => ?_, ?_⟩
  · rw [← h.yes rfl, ins_drop z hi]
    simp
  · have := h.len
    rw [List.length_append]
    simp
    omega
theorem InsP.endNo (h : InsP lt x ls os false i) (hi : ls.length ≤ i) : os ++ [x] = insK lt x ls := by
  obtain ⟨h1, h2⟩ := h.no rfl
  rw [h2, h1, List.drop_of_length_le hi]
  rfl
theorem InsP.endYes (h : InsP lt x ls os true i) (hi : ls.length ≤ i) : os = insK lt x ls := by
  have := h.yes rfl
  rw [List.drop_of_length_le hi, List.append_nil] at this
  exact this
end
end Go.Proofs.Ytpdkdgmaofhlkaa
/- The document's way to lay one of entries into its place. Conditions as each names them. -/
namespace Go.Proofs.Ytpdkdgmaofhlkaa
open Go.ChangeShapes Go.WideShapes Go.ChangeAt Go.RowKit Go.Lib Go.Sort
set_option linter.unusedVariables false
set_option linter.unusedSimpArgs false
/-- One more, behind a row of one's own. -/
theorem wpList_oneE (w0 w : World) {ops : Array Oper} {rest : List Oper} {o : Oper} {a : Act} {Q : Exit → Act → World → Prop} (hgd : o.guard = none) (s x : Operand)
    (ho : o.op = .call { callee := .builtin .append, args := #[s, x], argTypes := #[43, 43] })
    (so : Option Addr) (N c : Nat) (hs : List Ey) (hsv : a.eval s = .slice so N c) (hK : w.ownsRow w0.heap.size 85 2 (.slice so N c) N (eysC hs)) (hN : N < 1099511627776) (h0 : w0.heap.size ≤ w.heap.size) (p : Ey) (hx : a.eval x = .slice (some ⟨w.heap.size, 0, none⟩) 1 1)
    (h : ∀ so' c' w', w'.ownsRow w0.heap.size 85 2 (.slice so' (N + 1) c') (N + 1) (eysC (hs ++ [p])) → Fr (Value.slice so N c).ownBlock.toList w w' → wpList Try.prog ops Q rest (a.put o.dst (.slice so' (N + 1) c')) w') : wpList Try.prog ops Q (o :: rest) a (w.alloc (.cells #[.string p.key, .string p.val] 85)) := by
  obtain ⟨i0, hi, hz0, hz1, hz2⟩ := infoKE_parts
  have hmx : 1099511627777 ≤ maxLen := by unfold maxLen; omega
  refine wpList_append_own (w.alloc (.cells #[.string p.key, .string p.val] 85)) hgd s x 43 ho w0.heap.size 85 i0 _ 2 32 Try.undKE hi hz0 hz1 hz2 rfl (by decide) (.slice so N c) N (eysC hs) hsv (owns_keepB hK (Fr.alloc [] w _) (by simp)) ⟨w.heap.size, 0, none⟩ 1 1 (eyC p) hx rfl ?_ (oneE p) (by omega) (by omega) (by simp; omega) ?_
  · intro j u hu
    have hr := heap_alloc_new w (.cells #[.string p.key, .string p.val] 85)
    rw [Addr.add_lit, cell_of_row _ _ _ _ _ _ hr, Nat.zero_add]
    simpa [eyC] using hu
  · intro v' w' hown' hg' _
    obtain ⟨bo, cap', rfl⟩ : ∃ bo cap', v' = .slice bo (N + 1) cap' := by
      rcases hown'.2 with ⟨_, h1⟩ | ⟨g, cap, _, rfl, _⟩
      · omega
      · exact ⟨_, cap, rfl⟩
    refine h bo cap' w' ?_ (((Fr.alloc [] w _).mono (by intro y hy _; simp at hy)).then (Fr.grown hg' (fun y hy _ => Option.mem_toList.2 hy)))
    rw [eysC_append]
    have : eysC [p] = eyC p := by simp [eysC]
    rw [this]
    exact hown'
/-- What the loop keeps. -/
structure InsIE (W0 wr : World) (bo : Option Addr) (n bc : Nat) (x : Ey) (ls os : List Ey) (d : Bool) (i : Nat) : Prop where
  len : n = os.length
  own : wr.ownsRow W0.heap.size 85 2 (.slice bo n bc) n (eysC os)
  ins : InsP (ltB Ey.key) x ls os d i
  fr : Fr [] W0 wr
theorem InsIE.keep {W0 wr w2 : World} {bo : Option Addr} {n bc : Nat} {x : Ey} {ls os : List Ey} {d : Bool} {i : Nat} (h : InsIE W0 wr bo n bc x ls os d i) (hf : Fr [] wr w2) : InsIE W0 w2 bo n bc x ls os d i := ⟨h.len, owns_keepB h.own hf (by simp), h.ins, h.fr.then hf⟩
set_option maxHeartbeats 4000000 in
set_option maxRecDepth 100000 in
theorem ycEntry_any (ao : Option Addr) (N cap : Nat) (ls : List Ey) (x : Ey) (w : World) (hR : RrE w ao ls) (hN : N = ls.length) (hm : N < 137438953472) :
    Calls Try.prog 59 #[.slice ao N cap, .agg #[.string x.key, .string x.val]] w fun e w' => ∃ ro rc, e = .returned (.slice ro (N + 1) rc) ∧ w'.ownsRow w.heap.size 85 2 (.slice ro (N + 1) rc) (N + 1) (eysC (insK (ltB Ey.key) x ls)) ∧ Fr [] w w' := by
  have mixed : Try.prog.follows .mixedOrders = true := by kernel_rfl
  obtain ⟨W0, HW0⟩ : ∃ W0, Hid (w.alloc (.cells #[.string x.key, .string x.val] 85) = W0) := ⟨_, rfl⟩
  have hA : Fr [] w W0 := by rw [← HW0.out]; exact Fr.alloc [] w _
  have hb : W0.heap[w.heap.size]? = some (.cells #[.string x.key, .string x.val] 85 (0, 0)) := by rw [← HW0.out]; exact heap_alloc_new w _
  have HX : Hid (∀ W, Fr [] W0 W → W.cell? ⟨w.heap.size, 0, none⟩ = some (.string x.key) ∧ W.cell? ⟨w.heap.size, 1, none⟩ = some (.string x.val)) := fun W hf => by
    have := hf.keep hb (by simp)
    exact ⟨by rw [cell_of_row _ _ _ _ _ _ this]; rfl, by rw [cell_of_row _ _ _ _ _ _ this]; rfl⟩
  have HL : Hid (∀ W i, Fr [] W0 W → i < N → ∃ b off, ao = some ⟨b, off, none⟩ ∧ W.cell? ⟨b, off + i * 2, none⟩ = some (.string (ls.getD i Ey.zero).key) ∧ W.cell? ⟨b, off + i * 2 + 1, none⟩ = some (.string (ls.getD i Ey.zero).val)) := fun W i hf hi => by
    have hi' : i < ls.length := by rw [← hN]; exact hi
    have hR' := hR.keep (hA.then hf)
    have hc : ∀ c, c < 2 → (eysC ls)[i * 2 + c]? = (eyC (ls.getD i Ey.zero))[c]? := fun c hc => eysC_get ls i c hi' hc
    obtain ⟨b, off, e, _, h0⟩ := hR' (i * 2) _ (hc 0 (by omega))
    obtain ⟨b', off', e', _, h1⟩ := hR' (i * 2 + 1) _ (hc 1 (by omega))
    rw [e] at e'
    cases e'
    exact ⟨b, off, e, h0, by rw [show off + i * 2 + 1 = off + (i * 2 + 1) by omega]; exact h1⟩
  have HN : Hid (N = ls.length) := hN
  have HF0 : Hid (Fr [] w W0) := hA
  clear hR hN hA hb
  go_enter Try.func59, Try.ntmps59
  go_upto_region 4 with fail
  rw [HW0.out]
  clear HW0
  go_loopw [5, 6, 7] (fun s5 s6 s7 wr => ∃ (bo : Option Addr) (n bc : Nat) (d : Bool) (i : Nat) (os : List Ey), s5 = .slice bo n bc ∧ s6 = .bool d ∧ s7 = .int .i64 i ∧ i ≤ N ∧ n ≤ i + 1 ∧ Hid (InsIE W0 wr bo n bc x ls os d i)) (fun _ _ s7 _ => N - (RowKit.intOf s7).toNat)
  case atStart => exact ⟨none, 0, 0, false, 0, [], rfl, rfl, by first | rfl | simp, Nat.zero_le _, by omega, rfl, ⟨rfl, .inl ⟨rfl, rfl⟩⟩, InsP.start, Fr.refl _ _⟩
  case round =>
    obtain ⟨bo, n, bc, d, i, os, rfl, rfl, rfl, hiN, hni, HI⟩ := hrel
    by_cases hi : i < N
    · obtain ⟨b, off, rfl, l0, l1⟩ := HL.out wr i HI.out.fr hi
      obtain ⟨x0, x1⟩ := HX.out wr HI.out.fr
      have hlt : (i : Int) < (N : Int) := by omega
      have hi' : i < ls.length := by rw [← HN.out]; exact hi
      cases d with
      | true =>
        have HE : Hid (∀ so' c' w2, w2.ownsRow W0.heap.size 85 2 (.slice so' (n + 1) c') (n + 1) (eysC (os ++ [ls.getD i Ey.zero])) → Fr [] W0 w2 → InsIE W0 w2 so' (n + 1) c' x ls (os ++ [ls.getD i Ey.zero]) true (i + 1)) := fun so' c' w2 h1 h2 => ⟨by rw [HI.out.len]; simp, h1, HI.out.ins.late Ey.zero hi', h2⟩
        clear x0 x1
        obtain ⟨y, hy⟩ : ∃ y, y = ls.getD i Ey.zero := ⟨_, rfl⟩
        rw [← hy] at l0 l1 HE
        clear hy
        obtain ⟨k2, v2⟩ := y
        simp only at l0 l1
        go_wp2_with fail
        go_quiet (fail)
        have HI2 := HI.out.keep (Fr.drewN [] wr nq)
        have HJ : Hid (InsIE W0 (wr.drewN nq) bo n bc x ls os true i) := HI2
        clear HI2 HI
        go_upto_region 5 with (at_builtin; refine wpList_oneE W0 (wr.drewN nq) rfl _ _ rfl bo n bc os rfl HJ.out.own (by omega) HJ.out.fr.size ⟨k2, v2⟩ rfl ?_; intro so' c' w2 hO2 hf2; have HE2 : Hid (InsIE W0 w2 so' (n + 1) c' x ls (os ++ [⟨k2, v2⟩]) true (i + 1)) := HE.out so' c' w2 hO2 (HJ.out.fr.on hf2 (own_blocksE HJ.out.own)); clear hO2 hf2 HE; go_frame)
        go_wp2
        go_roundw
        case rel => exact ⟨so', n + 1, c', true, i + 1, _, rfl, rfl, by simp, by omega, by omega, HE2⟩
        case measure => simp [RowKit.intOf]; omega
      | false =>
        cases hb : ltB Ey.key x (ls.getD i Ey.zero) with
        | false =>
          have HE : Hid (∀ so' c' w2, w2.ownsRow W0.heap.size 85 2 (.slice so' (n + 1) c') (n + 1) (eysC (os ++ [ls.getD i Ey.zero])) → Fr [] W0 w2 → InsIE W0 w2 so' (n + 1) c' x ls (os ++ [ls.getD i Ey.zero]) false (i + 1)) := fun so' c' w2 h1 h2 => ⟨by rw [HI.out.len]; simp, h1, HI.out.ins.skip Ey.zero hi' hb, h2⟩
          unfold ltB at hb
          obtain ⟨y, hy⟩ : ∃ y, y = ls.getD i Ey.zero := ⟨_, rfl⟩
          rw [← hy] at l0 l1 HE hb
          clear hy
          obtain ⟨k2, v2⟩ := y
          simp only at l0 l1 hb
          go_wp2_with fail
          go_quiet (fail)
          have HI2 := HI.out.keep (Fr.drewN [] wr nq)
          have HJ : Hid (InsIE W0 (wr.drewN nq) bo n bc x ls os false i) := HI2
          clear HI2 HI hb
          go_upto_region 5 with (at_builtin; refine wpList_oneE W0 (wr.drewN nq) rfl _ _ rfl bo n bc os rfl HJ.out.own (by omega) HJ.out.fr.size ⟨k2, v2⟩ rfl ?_; intro so' c' w2 hO2 hf2; have HE2 : Hid (InsIE W0 w2 so' (n + 1) c' x ls (os ++ [⟨k2, v2⟩]) false (i + 1)) := HE.out so' c' w2 hO2 (HJ.out.fr.on hf2 (own_blocksE HJ.out.own)); clear hO2 hf2 HE; go_frame)
          go_wp2
          go_roundw
          case rel => exact ⟨so', n + 1, c', false, i + 1, _, rfl, rfl, by simp, by omega, by omega, HE2⟩
          case measure => simp [RowKit.intOf]; omega
        | true =>
          have hni2 : n ≤ i := by
            have h1 := HI.out.len
            have h2 := (HI.out.ins.no rfl).1
            rw [h2, List.length_take] at h1
            omega
          have HE : Hid (∀ so' c' w2, w2.ownsRow W0.heap.size 85 2 (.slice so' (n + 1 + 1) c') (n + 1 + 1) (eysC (os ++ [x] ++ [ls.getD i Ey.zero])) → Fr [] W0 w2 → InsIE W0 w2 so' (n + 1 + 1) c' x ls (os ++ [x] ++ [ls.getD i Ey.zero]) true (i + 1)) := fun so' c' w2 h1 h2 => ⟨by rw [HI.out.len]; simp, h1, HI.out.ins.here Ey.zero hi' hb, h2⟩
          unfold ltB at hb
          obtain ⟨y, hy⟩ : ∃ y, y = ls.getD i Ey.zero := ⟨_, rfl⟩
          rw [← hy] at l0 l1 HE hb
          have HY : Hid (y = ls.getD i Ey.zero) := hy
          clear hy
          obtain ⟨k2, v2⟩ := y
          simp only at l0 l1 hb
          go_wp2_with fail
          go_quiet (fail)
          have HI2 := HI.out.keep (Fr.drewN [] wr nq)
          have HJ : Hid (InsIE W0 (wr.drewN nq) bo n bc x ls os false i) := HI2
          clear HI2 HI hb
          go_upto_region 8 with (at_builtin; refine wpList_oneE W0 (wr.drewN nq) rfl _ _ rfl bo n bc os rfl HJ.out.own (by omega) HJ.out.fr.size x rfl ?_; intro so' c' w2 hO2 hf2; have HG : Hid (w2.ownsRow W0.heap.size 85 2 (.slice so' (n + 1) c') (n + 1) (eysC (os ++ [x])) ∧ Fr [] W0 w2) := ⟨hO2, HJ.out.fr.on hf2 (own_blocksE HJ.out.own)⟩; clear hO2 hf2; go_frame)
          clear HJ l0 l1 x0 x1
          obtain ⟨b', off', e', l0, l1⟩ := HL.out w2 i HG.out.2 hi
          cases e'
          rw [← HY.out] at l0 l1
          simp only at l0 l1
          go_upto_region 5 with (at_builtin; refine wpList_oneE W0 w2 rfl _ _ rfl so' (n + 1) c' (os ++ [x]) rfl HG.out.1 (by omega) HG.out.2.size ⟨k2, v2⟩ rfl ?_; intro so2 c2' w3 hO3 hf3; have HE2 : Hid (InsIE W0 w3 so2 (n + 1 + 1) c2' x ls (os ++ [x] ++ [⟨k2, v2⟩]) true (i + 1)) := HE.out so2 c2' w3 hO3 (HG.out.2.on hf3 (own_blocksE HG.out.1)); clear hO3 hf3 HE; go_frame)
          go_wp2
          go_roundw
          case rel => exact ⟨so2, n + 1 + 1, c2', true, i + 1, _, rfl, rfl, by simp, by omega, by omega, HE2⟩
          case measure => simp [RowKit.intOf]; omega
    · have hle : ls.length ≤ i := by rw [← HN.out]; omega
      have hge : ¬ ((i : Int) < (N : Int)) := by omega
      cases d with
      | true =>
        have HQ : Hid (n = N + 1 ∧ wr.ownsRow w.heap.size 85 2 (.slice bo n bc) n (eysC (insK (ltB Ey.key) x ls)) ∧ Fr [] w wr) := by
          have e := HI.out.ins.endYes hle
          have h1 := HI.out.own
          rw [e] at h1
          refine ⟨?_, own_base h1 HF0.out.size, HF0.out.then HI.out.fr⟩
          rw [HI.out.len, e, insK_length, HN.out]
        clear HI
        obtain ⟨rfl, hq1, hq2⟩ := HQ.out
        go_wp2
        go_ret
        exact ⟨bo, bc, rfl, HQ.out.2⟩
      | false =>
        obtain ⟨x0, x1⟩ := HX.out wr HI.out.fr
        have hnN : n ≤ N := by
          have h1 := HI.out.len
          have h2 := (HI.out.ins.no rfl).1
          rw [h2, List.length_take] at h1
          omega
        have HQ : Hid (∀ so' c' w2, w2.ownsRow W0.heap.size 85 2 (.slice so' (n + 1) c') (n + 1) (eysC (os ++ [x])) → Fr [] W0 w2 → n = N ∧ w2.ownsRow w.heap.size 85 2 (.slice so' (n + 1) c') (n + 1) (eysC (insK (ltB Ey.key) x ls)) ∧ Fr [] w w2) := fun so' c' w2 h1 h2 => by
          have e := HI.out.ins.endNo hle
          rw [e] at h1
          refine ⟨?_, own_base h1 HF0.out.size, HF0.out.then h2⟩
          have e2 := congrArg List.length e
          rw [insK_length, List.length_append, ← HI.out.len, ← HN.out] at e2
          simp at e2
          exact e2
        go_upto_region 10 with fail
        go_wp2_with (at_builtin; refine wpList_oneE W0 wr rfl _ _ rfl bo n bc os rfl HI.out.own (by omega) HI.out.fr.size x rfl ?_; intro so' c' w2 hO2 hf2; have HE2 : Hid (n = N ∧ w2.ownsRow w.heap.size 85 2 (.slice so' (n + 1) c') (n + 1) (eysC (insK (ltB Ey.key) x ls)) ∧ Fr [] w w2) := HQ.out so' c' w2 hO2 (HI.out.fr.on hf2 (own_blocksE HI.out.own)); clear hO2 hf2 HQ; go_frame)
        go_ret
        obtain ⟨e, h1, h2⟩ := HE2.out
        subst e
        exact ⟨so', c', rfl, h1, h2⟩
end Go.Proofs.Ytpdkdgmaofhlkaa

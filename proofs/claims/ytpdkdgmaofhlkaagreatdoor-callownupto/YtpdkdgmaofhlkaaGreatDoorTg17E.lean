/- entries of several rows in the order of their keys: together. Conditions as each names them. -/
import Derived.Test.YtpdkdgmaofhlkaaGreatDoorTc17
import Derived.Test.YtpdkdgmaofhlkaaGreatDoorCn17E
namespace Go.Proofs.YtpdkdgmaofhlkaaGreatDoor
open Go.ChangeShapes Go.WideShapes Go.ChangeAt Go.RowKit Go.Lib Go.Sort Go.Shelf
set_option linter.unusedVariables false
set_option linter.unusedSimpArgs false

def cfE (x y : Ey) : Int := Lib.compareBytes x.key.data.toList y.key.data.toList
theorem ltOf_cfE : ltOf cfE = ltB Ey.key := by
  funext x y
  unfold ltOf cfE ltB
  rw [ByteArray.toList_eq, ByteArray.toList_eq]
  have h := bl_cmp x.key.data.toList y.key.data.toList
  cases hb : Op.bytesLess x.key.data.toList y.key.data.toList with
  | true => simpa using h.2 hb
  | false =>
    rw [hb] at h
    simpa using h
theorem twoE (x : Ey) : ∃ a b, eyC x = [a, b] := ⟨_, _, rfl⟩
theorem oneE (x : Ey) : ∀ v ∈ eyC x, v.oneCell' = true := fun v hv => eysC_oneCell [x] v (by simpa [eysC] using hv)
theorem keyE_any (x : Ey) (W : World) : Calls Tryz.prog 73 #[.agg (eyC x).toArray] W fun e w' => e = .returned (.string x.key) ∧ ∃ q os', w' = grow (W.drewN q) os' := by
  obtain ⟨k, v⟩ := x
  simp only [eyC]
  go_enter Tryz.func73, Tryz.ntmps73
  go_wp2
  go_ret
  exact ⟨rfl, 0, _, by rw [alloc_eq_grow]; rfl⟩
set_option maxHeartbeats 1000000 in
theorem cmpE_any (x y : Ey) (kb : Nat) (W : World) (hlt : kb < W.heap.size) (hk : W.cell? ⟨kb, 0, none⟩ = some (.func (.func 73) #[] #[])) : Calls Tryz.prog 110 #[.agg (eyC x).toArray, .agg (eyC y).toArray, .pointer (some ⟨kb, 0, none⟩)] W fun e w' => e = .returned (.int .i64 (cfE x y)) ∧ ∃ q os', w' = grow (W.drewN q) os' := by
  have mixed : Tryz.prog.follows .mixedOrders = true := by kernel_rfl
  obtain ⟨W2, HW2⟩ : ∃ W2, Hid ((W.alloc (.cells (eyC x).toArray 102)).alloc (.cells (eyC y).toArray 102) = W2) := ⟨_, rfl⟩
  have hA : Fr [] W W2 := by rw [← HW2.out]; exact (Fr.alloc [] W _).then (Fr.alloc [] _ _)
  have hb0 : W2.heap[W.heap.size]? = some (.cells (eyC x).toArray 102 (0, 0)) := by rw [← HW2.out]; exact (Fr.alloc [] _ _).keep (heap_alloc_new W _) (by simp)
  have hb1 : W2.heap[W.heap.size + 1]? = some (.cells (eyC y).toArray 102 (0, 0)) := by
    rw [← HW2.out]
    have := heap_alloc_new (W.alloc (.cells (eyC x).toArray 102)) (.cells (eyC y).toArray 102)
    simpa using this
  have HG : Hid (∃ os', W2 = grow W os') := by
    rw [← HW2.out]
    exact ⟨_, by rw [alloc_eq_grow, alloc_eq_grow, grow_grow]⟩
  have k0 : ∀ n os, (grow (W2.drewN n) os).cell? ⟨kb, 0, none⟩ = some (.func (.func 73) #[] #[]) := fun n os => cell_grown (Nat.lt_of_lt_of_le hlt hA.size) ((World.cell?_of_block (hA.block kb hlt (by simp))).trans hk) n os
  have hs0 : W.heap.size < W2.heap.size := lt_of_block hb0
  have hs1 : W.heap.size + 1 < W2.heap.size := lt_of_block hb1
  have HC : Hid (∀ a b W', Calls Tryz.prog 111 #[.string a, .string b] W' fun e w' => e = .returned (.int .i64 (Lib.compareBytes a.data.toList b.data.toList)) ∧ ∃ q os', w' = grow (W'.drewN q) os') := fun a b W' => (scmp_any a b W').mono (by rintro e w' ⟨rfl, rfl⟩; exact ⟨rfl, 0, #[], by rw [grow_empty]; rfl⟩)
  have HX : Hid (∀ W', Calls Tryz.prog 73 #[.agg (eyC x).toArray] W' fun e w' => e = .returned (.string x.key) ∧ ∃ q os', w' = grow (W'.drewN q) os') := fun W' => keyE_any x W'
  have HY : Hid (∀ W', Calls Tryz.prog 73 #[.agg (eyC y).toArray] W' fun e w' => e = .returned (.string y.key) ∧ ∃ q os', w' = grow (W'.drewN q) os') := fun W' => keyE_any y W'
  obtain ⟨r, hr⟩ : ∃ r, r = cfE x y := ⟨_, rfl⟩
  have HC2 : Hid (∀ W', Calls Tryz.prog 111 #[.string x.key, .string y.key] W' fun e w' => e = .returned (.int .i64 r) ∧ ∃ q os', w' = grow (W'.drewN q) os') := fun W' => by rw [hr]; exact HC.out _ _ W'
  rw [← hr]
  clear hr HC
  obtain ⟨k, v⟩ := x
  obtain ⟨k2, v2⟩ := y
  simp only [eyC] at hb0 hb1 HX HY HC2 HW2 ⊢
  have a0 : ∀ n os, (grow (W2.drewN n) os).cell? ⟨W.heap.size, 0, none⟩ = some (.string k) := fun n os => cell_grown hs0 (by rw [cell_of_row _ _ _ _ _ _ hb0]; rfl) n os
  have a1 : ∀ n os, (grow (W2.drewN n) os).cell? ⟨W.heap.size, 1, none⟩ = some (.string v) := fun n os => cell_grown hs0 (by rw [cell_of_row _ _ _ _ _ _ hb0]; rfl) n os
  have b0 : ∀ n os, (grow (W2.drewN n) os).cell? ⟨W.heap.size + 1, 0, none⟩ = some (.string k2) := fun n os => cell_grown hs1 (by rw [cell_of_row _ _ _ _ _ _ hb1]; rfl) n os
  have b1 : ∀ n os, (grow (W2.drewN n) os).cell? ⟨W.heap.size + 1, 1, none⟩ = some (.string v2) := fun n os => cell_grown hs1 (by rw [cell_of_row _ _ _ _ _ _ hb1]; rfl) n os
  clear hb0 hb1 hA hk
  go_enter Tryz.func110, Tryz.ntmps110
  go_upto_region 1 with fail
  rw [HW2.out]
  go_quiet_grown (first | (go_at_call 111; with_reducible exact Calls.grown_of (HC2.out _)) | (go_at_call 73; first | with_reducible exact Calls.grown_of (HX.out _) | with_reducible exact Calls.grown_of (HY.out _)))
  go_wp2
  go_ret
  obtain ⟨os', hos⟩ := HG.out
  refine ⟨rfl, nq, os' ++ osq, ?_⟩
  rw [hos]
  show grow (grow (W.drewN nq) os') osq = _
  rw [grow_grow]
set_option maxHeartbeats 1000000 in
theorem sortE_any (base : Nat) (ro : Option Addr) (M cap kb : Nat) (ps : List Ey) (w : World) (hrow : w.ownsRow base 102 2 (.slice ro M cap) M (eysC ps)) (hM : M = ps.length) (hlen : M < 1099511627776) (hlt : kb < w.heap.size) (hk : w.cell? ⟨kb, 0, none⟩ = some (.func (.func 73) #[] #[])) (hne : ∀ a, ro = some a → kb ≠ a.block) :
    Calls Tryz.prog 109 #[.slice ro M cap, .func (.func 110) #[] #[.pointer (some ⟨kb, 0, none⟩)]] w fun e w' => e = .returned (.tuple #[]) ∧ w'.ownsRow base 102 2 (.slice ro M cap) M (eysC (sortB Ey.key ps)) ∧ Fr (Value.slice ro M cap).ownBlock.toList w w' := by
  subst hM
  rcases Nat.eq_zero_or_pos ps.length with h0 | h0
  · have e0 : ps = [] := List.eq_nil_of_length_eq_zero h0
    subst e0
    refine (SoE.sortSt_none ro cap _ w).mono ?_
    rintro e w' ⟨rfl, rfl⟩
    exact ⟨rfl, hrow, Fr.refl _ _⟩
  · obtain ⟨g, rfl, hg⟩ := own_some hrow h0
    rw [eysC_flat] at hrow
    have hrow' := hrow
    obtain ⟨hl, hr⟩ := hrow'
    rcases hr with ⟨hh, _⟩ | ⟨g', cap', cur, hh, hbase, hb, h1, h2, h3, h4⟩
    · cases hh
    cases hh
    have hkg : kb ≠ g := hne _ rfl
    have eg : ∀ args w, (callFunc 110 args).run Tryz.prog w = .ok (.enter 110 args) w := enters_of Tryz.func110 (by kernel_rfl) rfl
    have hcmp : CmpLays Tryz.prog 110 #[.pointer (some ⟨kb, 0, none⟩)] eyC 2 cfE g 0 ps.toArray.size w := fun m os dk _ x y => cmpE_any x y kb _ (Nat.lt_of_lt_of_le hlt (size_sortWorldK_c eyC 2 w g 0 m dk os)) (cell_sorted eyC dk hkg hk hlt)
    have hO : KO (ltOf cfE) (fun x : Ey => x.key.toList) := by rw [ltOf_cfE]; exact koB Ey.key
    have R : RowK eyC 2 w g 0 ps.toArray := ⟨fun x => rfl, oneE, holds_is eyC twoE hb h4, lt_of_block hb⟩
    have hcon := SoE.sortSt_any eyC cfE (fun x : Ey => x.key.toList) hO 110 #[.pointer (some ⟨kb, 0, none⟩)] g 0 cap ps.toArray w eg hcmp R (by simpa using hlen)
    have hsz : ps.toArray.size = ps.length := by simp
    rw [hsz] at hcon
    refine hcon.mono ?_
    rintro e w' ⟨rfl, d', hz, hs, ht, hS⟩
    rw [ltOf_cfE] at hs
    have hd := sorted_is Ey.key (d := ps.toArray) (d' := d') (by rw [hsz]; exact hz) (by rw [hsz]; exact hs) (by rw [hsz]; exact ht)
    obtain ⟨q1, q2⟩ := row_sorted eyC twoE hrow (qs := sortB Ey.key ps) (by simpa using hd) hz hS
    exact ⟨rfl, by rw [eysC_flat]; exact q1, q2.mono (by intro x hx _; simpa [Value.ownBlock] using hx)⟩
set_option maxHeartbeats 1000000 in
theorem togE_any (ao : Option Addr) (N cap : Nat) (es : List ElE) (w : World) (h : LLE w ao es) (hN : N = es.length) :
    Calls Tryz.prog 72 #[.func (.func 73) #[] #[], .slice ao N cap] w fun e w' => ∃ ro M rc, e = .returned (.slice ro M rc) ∧ M = (flaE es).length ∧ w'.ownsRow w.heap.size 102 2 (.slice ro M rc) M (eysC (sortB Ey.key (flaE es))) ∧ Fr [] w w' := by
  obtain ⟨W, HW⟩ : ∃ W, Hid (w.alloc (.cells #[.func (.func 73) #[] #[]] 108) = W) := ⟨_, rfl⟩
  have hA : Fr [] w W := by rw [← HW.out]; exact Fr.alloc [] w _
  have hb : W.heap[w.heap.size]? = some (.cells #[.func (.func 73) #[] #[]] 108 (0, 0)) := by rw [← HW.out]; exact heap_alloc_new w _
  have HC : Hid (Calls _ _ _ _ _) := concatE_any ao N cap es W (h.keep hA) hN
  have HM : Hid ((flaE es).length < 1099511627776) := by
    have h1 := h.bound es.length
    have h2 := h.few
    rw [List.take_length] at h1
    show _ < _
    omega
  have HS : Hid (∀ (w1 : World) (ro : Option Addr) (M rc : Nat), M = (flaE es).length → w1.ownsRow W.heap.size 102 2 (.slice ro M rc) M (eysC (flaE es)) → Fr [] W w1 → Calls Tryz.prog 109 #[.slice ro M rc, .func (.func 110) #[] #[.pointer (some ⟨w.heap.size, 0, none⟩)]] w1 fun e w' => e = .returned (.tuple #[]) ∧ w'.ownsRow w.heap.size 102 2 (.slice ro M rc) M (eysC (sortB Ey.key (flaE es))) ∧ Fr [] w w') := fun w1 ro M rc h1 h2 h3 => by
    have hb1 := h3.keep hb (by simp)
    have hlt : w.heap.size < W.heap.size := lt_of_block hb
    refine (sortE_any W.heap.size ro M rc w.heap.size (flaE es) w1 h2 h1 (by rw [h1]; exact HM.out) (lt_of_block hb1) (by rw [cell_of_row _ _ _ _ _ _ hb1]; rfl) ?_).mono ?_
    · intro a ha
      obtain ⟨q1, _⟩ := owns_cells h2 (k := a.block) (by rw [ha]; rfl)
      omega
    · rintro e w' ⟨rfl, h4, h5⟩
      exact ⟨rfl, own_base h4 hA.size, (hA.then h3).on h5 (fun x hx => Nat.le_trans hA.size (own_blocksE h2 x hx))⟩
  clear h hN hb hA
  go_enter Tryz.func72, Tryz.ntmps72
  go_upto_region 1 with fail
  rw [HW.out]
  go_wp2_with fail
  refine Calls.mono HC.out ?_
  rintro e w1 ⟨ro, M, rc, rfl, hMM, hO, hF⟩
  have HSq : Hid (Calls _ _ _ _ _) := HS.out w1 ro M rc hMM hO hF
  have HMM : Hid (M = (flaE es).length) := hMM
  clear hMM hO hF HC HS
  go_wp2_with fail
  refine Calls.mono HSq.out ?_
  rintro e w2 ⟨rfl, hq⟩
  have HQ : Hid (_ ∧ _) := hq
  clear hq HSq
  go_wp2
  go_ret
  exact ⟨ro, M, rc, rfl, HMM.out, HQ.out⟩
end Go.Proofs.YtpdkdgmaofhlkaaGreatDoor

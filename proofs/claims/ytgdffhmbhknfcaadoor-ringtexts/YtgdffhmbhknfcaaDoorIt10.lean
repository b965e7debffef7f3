/- A ring's All: the things, told one by one: the contract of the iterator that it makes, for whatever loop body. Conditions as each names them. -/
import Derived.Test.YtgdffhmbhknfcaaDoorRgf
namespace Go.Proofs.YtgdffhmbhknfcaaDoor
open Go.ChangeShapes Go.WideShapes Go.ChangeAt Go.RowKit Go.Lib
set_option linter.unusedVariables false
attribute [local go_sem] Oper.semAt_some

theorem gall_any (p : Option Addr) (w : World) : Calls Tryd.prog 12 #[.pointer p] w fun e w' => e = .returned (.func (Fn.func 19) #[] #[.pointer (some ⟨w.heap.size, 0, none⟩)]) ∧ w' = w.alloc (.cells #[.pointer p] 23) := by
  go_enter Tryd.func12, Tryd.ntmps12
  go_wp2
  go_ret
  exact ⟨rfl, rfl⟩
theorem gall1_no (m l bb : Nat) (p : Option Addr) (W : World) (hbb : W.cell? ⟨bb, 0, none⟩ = some (.pointer p)) (h : NoR W p) :
    CallsIn Fence.wide (m + 1) Tryd.prog 19 #[.func (.yield l) #[] #[], .pointer (some ⟨bb, 0, none⟩)] W fun e W' => (∃ v, e = .returned v) ∧ W = W' := by
  have HL : Hid (Calls _ _ _ _ _) := glen_no p W h
  refine callsIn_of_wp Tryd.func19 rfl trivial ?_ rfl
  simp only [Tryd.ntmps19, List.size_toArray, List.length_cons, List.length_nil, Nat.reduceAdd, Nat.reduceSub, Array.replicate_succ, Array.replicate_zero, List.push_toArray, List.append_toArray, List.nil_append, List.cons_append]
  gi_wp2_with fail
  rename_i hK
  refine hK _ _ ?_
  clear hK
  gi_wp2_with fail
  refine ⟨trivial, (callsIn_wide.2 HL.out).mono ?_⟩
  rintro e w1 ⟨rfl, rfl⟩
  gi_wp2
  refine bodyPost_ret (results_none rfl _ _ _) rfl ?_
  exact ⟨⟨_, rfl⟩, rfl⟩
/-- Where the iterator has ended. -/
def AllEnd (J Jx : Nat → Nat → World → Prop) (go : Nat → Bool) (K : Nat) (W' : World) : Prop :=
  ∃ s, J s K W' ∨ ∃ i, i < K ∧ go i = false ∧ (∀ j, j < i → go j = true) ∧ Jx s i W'
theorem ERow.at_ {w : World} {k i : Nat} {xs : List ByteArray} (h : ERow w k xs) (hi : i < xs.length) : w.cell? ⟨k, i, none⟩ = some (.string (xs.getD i (⟨#[]⟩ : ByteArray))) := by
  rw [cell_of_row _ _ _ _ _ _ h, List.getElem?_toArray]
  exact vals_get xs i hi
set_option maxHeartbeats 8000000 in
set_option maxRecDepth 100000 in
theorem gall1_in (m l bb g : Nat) {C N F K : Nat} {pb : Option Nat} {ps xs : List ByteArray} {cl : Bool} (W : World) (J Jx : Nat → Nat → World → Prop) (go : Nat → Bool)
    (hbb : W.cell? ⟨bb, 0, none⟩ = some (.pointer (some ⟨g, 0, none⟩))) (hbl : bb < W.heap.size) (hR : RgM W g pb C N F K ps xs cl)
    (h0 : ∀ s, W.heap.size ≤ s → J s 0 W) (hJ0 : ∀ s i w w', J s i w → Fr [] w w' → J s i w')
    (hY : ∀ (s i : Nat) (w : World), J s i w → W.heap.size ≤ s → s ≤ w.heap.size → i < K →
      YieldAt Fence.wide m Tryd.prog l #[.string (xs.getD i (⟨#[]⟩ : ByteArray))] w fun e w' => e = .returned (.bool (go i)) ∧ (go i = true → J s (i + 1) w') ∧ (go i = false → Jx s i w') ∧ w.heap.size ≤ w'.heap.size ∧ ∀ k, W.heap.size ≤ k ∧ k < s → w'.heap[k]? = w.heap[k]?) :
    CallsIn Fence.wide (m + 1) Tryd.prog 19 #[.func (.yield l) #[] #[], .pointer (some ⟨bb, 0, none⟩)] W fun e W' => (∃ v, e = .returned v) ∧ AllEnd J Jx go K W' := by
  have HL : Hid (Calls _ _ _ _ _) := glen_any W hR
  have hKx : K = xs.length := hR.pl.cnt.symm
  have hK : K ≤ 65536 := by have := hR.cap; have := hR.pl.fit; omega
  have HKx : Hid (K = xs.length) := hKx
  have HS : Hid (∀ w, Fr [] W w → w.cell? ⟨bb, 0, none⟩ = some (.pointer (some ⟨g, 0, none⟩)) ∧ w.cell? ⟨g, 3, none⟩ = some (.int .i64 (K : Int))) := fun w hf => ⟨(World.cell?_of_block (hf.block bb hbl (by simp))).trans hbb, (hR.keep hf (by simp) (by simp)).c3⟩
  have HU : Hid (∀ w, Fr [] W w → 1 ≤ K → Calls Tryd.prog 21 #[.pointer (some ⟨g, 0, none⟩), .int .i64 (K : Int)] w fun e w' => ∃ k, e = .returned (.slice (some ⟨k, 0, none⟩) K K) ∧ w.heap.size ≤ k ∧ ERow w' k xs ∧ Fr [] w w') := fun w hf h1 => by
    have := gunr_any w K (hR.keep hf (by simp) (by simp)) ⟨h1, hK⟩
    rw [hR.pl.all] at this
    exact this
  clear hR hKx
  by_cases hK0 : K = 0
  · subst hK0
    rw [show ((0 : Nat) : Int) = 0 from rfl] at HL
    refine callsIn_of_wp Tryd.func19 rfl trivial ?_ rfl
    simp only [Tryd.ntmps19, List.size_toArray, List.length_cons, List.length_nil, Nat.reduceAdd, Nat.reduceSub, Array.replicate_succ, Array.replicate_zero, List.push_toArray, List.append_toArray, List.nil_append, List.cons_append]
    gi_wp2_with fail
    rename_i hK
    refine hK _ _ ?_
    clear hK
    gi_wp2_with fail
    refine ⟨trivial, (callsIn_wide.2 HL.out).mono ?_⟩
    rintro e w1 ⟨rfl, rfl⟩
    gi_wp2
    refine bodyPost_ret (results_none rfl _ _ _) rfl ?_
    exact ⟨⟨_, rfl⟩, W.heap.size, Or.inl (h0 _ (Nat.le_refl _))⟩
  · have hK1 : ¬ (K : Int) = 0 := by omega
    have hKp : 1 ≤ K := by omega
    refine callsIn_of_wp Tryd.func19 rfl trivial ?_ rfl
    simp only [Tryd.ntmps19, List.size_toArray, List.length_cons, List.length_nil, Nat.reduceAdd, Nat.reduceSub, Array.replicate_succ, Array.replicate_zero, List.push_toArray, List.append_toArray, List.nil_append, List.cons_append]
    gi_wp2_with fail
    rename_i hK
    refine hK _ _ ?_
    clear hK
    gi_wp2_with fail
    refine ⟨trivial, (callsIn_wide.2 HL.out).mono ?_⟩
    rintro e w1 ⟨rfl, rfl⟩
    obtain ⟨c0, c3⟩ := HS.out W (Fr.refl _ _)
    gi_wp2_with fail
    refine wpIn_wide.2 ?_
    go_region_held3 (fun w => w.cell? ⟨bb, 0, none⟩ = some (.pointer (some ⟨g, 0, none⟩)) ∧ w.cell? ⟨g, 3, none⟩ = some (.int .i64 (K : Int))) (go_keep)
      (first
        | (with_reducible refine Calls.mono (HU.out _ (Fr.drew _ _) hKp) ?_; rintro e w1 ⟨k, rfl, hk, hE, hF1⟩; have hF1' := (Fr.drew [] W).then hF1; obtain ⟨d0, d3⟩ := HS.out _ hF1'))
    obtain ⟨s, hs⟩ : ∃ s, s = w1.heap.size := ⟨_, rfl⟩
    have hsW : W.heap.size ≤ s := by have := hF1'.size; omega
    have hJ1 : J s 0 w1 := hJ0 s 0 W w1 (h0 s hsW) hF1'
    have hkW : W.heap.size ≤ k := hk
    have hks : k < s := by rw [hs]; exact lt_of_block hE
    have hsw1 : s ≤ w1.heap.size := by omega
    clear hs hF1 hF1' d0 d3 c0 c3 hbb h0 hk
    gi_wp2_with fail
    gi_loopw [19] (fun ii wr => ∃ i : Nat, ii = .int .i64 i ∧ i ≤ K ∧ J s i wr ∧ ERow wr k xs ∧ s ≤ wr.heap.size ∧ Hid (∀ j, j < i → go j = true)) (fun ii _ => K - (intOf ii).toNat)
    case atStart => exact ⟨0, rfl, Nat.zero_le _, hJ1, hE, hsw1, fun j hj => absurd hj (by omega)⟩
    case round =>
      obtain ⟨i, rfl, hiK, hJi, hEi, hsi, HG⟩ := hrel
      by_cases hi : i < K
      · have e0 := hEi.at_ (i := i) (by have := HKx.out; omega)
        obtain ⟨fn, tmps, assign, body, hy, hRo⟩ := hY s i wr hJi hsW hsi hi
        obtain ⟨x, hx⟩ : ∃ x, x = xs.getD i (⟨#[]⟩ : ByteArray) := ⟨_, rfl⟩
        rw [← hx] at e0 hy
        obtain ⟨B, hB⟩ : ∃ B, B = go i := ⟨_, rfl⟩
        rw [← hB] at hRo
        have HB : Hid (B = go i) := hB
        clear hx hB
        cases B with
        | true =>
          gi_wp2_with fail
          refine hRo.mono ?_
          rintro e W6 ⟨rfl, hJt, _, hsz, hkp⟩
          have hE6 : ERow W6 k xs := (hkp k ⟨hkW, hks⟩).trans hEi
          have hJ6 := hJt (by trivial)
          clear hkp hRo hy hJt
          have HG6 : Hid (∀ j, j < i + 1 → go j = true) := fun j hj => by
            rcases Nat.lt_or_ge j i with h | h
            · exact HG.out j h
            · obtain rfl : j = i := by omega
              exact HB.out.symm
          gi_wp2
          exact ⟨⟨i + 1, by simp, by omega, hJ6, hE6, by omega, HG6⟩, by simp [intOf]; omega⟩
        | false =>
          gi_wp2_with fail
          refine hRo.mono ?_
          rintro e W6 ⟨rfl, _, hJt, hsz, hkp⟩
          have hJ6 := hJt (by trivial)
          clear hkp hRo hy hJt
          gi_wp2
          refine bodyPost_ret (results_none rfl _ _ _) rfl ?_
          exact ⟨⟨_, rfl⟩, s, Or.inr ⟨i, hi, HB.out.symm, HG.out, hJ6⟩⟩
      · obtain rfl : i = K := by omega
        gi_wp2
        go_end0
        exact ⟨⟨_, rfl⟩, s, Or.inl hJi⟩
/-- What All makes of the ring at p tells the things xs, one by one. -/
def Tells (w : World) (p : Option Addr) (xs : List ByteArray) : Prop :=
  ∀ (m l bb : Nat) (W : World) (J Jx : Nat → Nat → World → Prop) (go : Nat → Bool), Fr [] w W → W.cell? ⟨bb, 0, none⟩ = some (.pointer p) → bb < W.heap.size →
    (∀ s, W.heap.size ≤ s → J s 0 W) → (∀ s i w w', J s i w → Fr [] w w' → J s i w') →
    (∀ (s i : Nat) (w : World), J s i w → W.heap.size ≤ s → s ≤ w.heap.size → i < xs.length →
      YieldAt Fence.wide m Tryd.prog l #[.string (xs.getD i (⟨#[]⟩ : ByteArray))] w fun e w' => e = .returned (.bool (go i)) ∧ (go i = true → J s (i + 1) w') ∧ (go i = false → Jx s i w') ∧ w.heap.size ≤ w'.heap.size ∧ ∀ k, W.heap.size ≤ k ∧ k < s → w'.heap[k]? = w.heap[k]?) →
    CallsIn Fence.wide (m + 1) Tryd.prog 19 #[.func (.yield l) #[] #[], .pointer (some ⟨bb, 0, none⟩)] W fun e W' => (∃ v, e = .returned v) ∧ AllEnd J Jx go xs.length W'
theorem tells_any {g C : Nat} {pb : Option Nat} {xs : List ByteArray} {cl : Bool} {w : World} (hR : Rg w g pb C xs cl) : Tells w (some ⟨g, 0, none⟩) xs := by
  obtain ⟨N, F, K, ps, hR⟩ := hR
  intro m l bb W J Jx go hf hbb hbl h0 hJ0 hY
  have hK : xs.length = K := hR.pl.cnt
  rw [hK] at hY ⊢
  exact gall1_in m l bb g W J Jx go hbb hbl (hR.keep hf (by simp) (by simp)) h0 hJ0 hY
theorem tells_no {p : Option Addr} {w : World} (h : NoR w p) : Tells w p [] := by
  intro m l bb W J Jx go hf hbb hbl h0 hJ0 hY
  refine (gall1_no m l bb p W hbb (h.keep hf (by simp))).mono ?_
  rintro e W' ⟨hv, rfl⟩
  exact ⟨hv, W.heap.size, Or.inl (h0 _ (Nat.le_refl _))⟩
end Go.Proofs.YtgdffhmbhknfcaaDoor

/- A part of a row in memory of its own (slices.Clone, part); At; Collect. Conditions as each names them. -/
import Derived.Test.YtakbodlicfmkjaaGreatVk
import Derived.Lib.SliceRun
namespace Go.Proofs.YtakbodlicfmkjaaGreat.O
open Go.ChangeShapes Go.WideShapes Go.ChangeAt Go.RowKit Go.Lib
set_option linter.unusedVariables false
set_option linter.unusedSimpArgs false
theorem Tryz.undVnsE : Tryz.prog.underlying 124 = some (.slice (Tryz.prog.elem 124)) := by kernel_rfl
theorem Tryz.elemVns : Tryz.prog.elem 124 = 128 := by kernel_rfl
theorem Tryz.sizeOfVn (w : World) : (Go.sizeOf 128).run Tryz.prog w = .ok 3 w := by kernel_rfl
theorem Tryz.infoVn : (Tryz.prog.info? 128).map (fun i => (i.zero, i.size, i.bytes)) = some (some (.agg #[.int .i64 0, .string ⟨#[]⟩, .bool false]), 3, 32) := by kernel_rfl
theorem infoVn_parts : ∃ i, Tryz.prog.info? 128 = some i ∧ i.zero = some (.agg #[.int .i64 0, .string ⟨#[]⟩, .bool false]) ∧ i.size = 3 ∧ i.bytes = 32 := by
  have h := Tryz.infoVn
  cases hi : Tryz.prog.info? 128 with
  | none => rw [hi] at h; cases h
  | some i =>
    rw [hi] at h
    simp only [Option.map_some, Option.some.injEq, Prod.mk.injEq] at h
    exact ⟨i, rfl, h.1, h.2.1, h.2.2⟩
theorem slV_lh (ro : Option Addr) (N rc i j : Nat) (h1 : i ≤ j) (h2 : j ≤ rc) (w : World) : (Instr.sliceAt 124 (.slice ro N rc) (some (.int .i64 (i : Int))) (some (.int .i64 (j : Int))) none).run Tryz.prog w = .ok (.slice (fromV ro rc i) (j - i) (rc - i)) w := by
  rw [run_sliceAt_slice w 124 _ _ _ _ Tryz.undVnsE, run_slice_lh w 124 _ _ _ Tryz.undVnsE .i64 .i64 (i : Int) (j : Int) (by omega) (by omega) (by omega), Tryz.elemVns, Tryz.sizeOfVn]
  simp [Result.andThen, sliced, fromV]
theorem slV_h (ro : Option Addr) (N rc i : Nat) (h1 : i ≤ rc) (w : World) : (Instr.sliceAt 124 (.slice ro N rc) none (some (.int .i64 (i : Int))) none).run Tryz.prog w = .ok (.slice ro i rc) w := by
  rw [run_sliceAt_slice w 124 _ _ _ _ Tryz.undVnsE, run_slice_h w 124 _ _ _ Tryz.undVnsE .i64 (i : Int) (by omega) (by omega), Tryz.elemVns, Tryz.sizeOfVn]
  cases ro <;> simp [Result.andThen, sliced, Addr.add]
theorem slV_l (ro : Option Addr) (N rc K : Nat) (h1 : K ≤ N) (w : World) : (Instr.sliceAt 124 (.slice ro N rc) (some (.int .i64 (K : Int))) none none).run Tryz.prog w = .ok (.slice (fromV ro rc K) (N - K) (rc - K)) w := by
  rw [run_sliceAt_slice w 124 _ _ _ _ Tryz.undVnsE, run_slice_l w 124 _ _ _ Tryz.undVnsE .i64 (K : Int) (by omega) (by omega), Tryz.elemVns, Tryz.sizeOfVn]
  simp [Result.andThen, sliced, fromV]
theorem slV_hm (ro : Option Addr) (N rc i : Nat) (k l : Int) (hk : k = (i : Int)) (hl : l = (i : Int)) (h1 : i ≤ rc) (w : World) : (Instr.sliceAt 124 (.slice ro N rc) none (some (.int .i64 k)) (some (.int .i64 l))).run Tryz.prog w = .ok (.slice ro i i) w := by
  subst hk hl
  rw [run_sliceAt_slice w 124 _ _ _ _ Tryz.undVnsE, run_slice_hm w 124 _ _ _ Tryz.undVnsE .i64 .i64 (i : Int) (i : Int) (by omega) (by omega) (by omega), Tryz.elemVns, Tryz.sizeOfVn]
  cases ro <;> simp [Result.andThen, sliced, Addr.add]
/-- A row of versions of one's own, made since a world; its spare room may be cut off. -/
structure VOut (w w' : World) (ro : Option Addr) (N rc : Nat) (vs : List Vn) : Prop where
  own : ∃ rc', rc ≤ rc' ∧ w'.ownsRow w.heap.size 128 3 (.slice ro N rc') N (vnsC vs)
  len : N = vs.length
  cap : N ≤ rc
theorem VOut.later {w w1 w2 : World} {ro : Option Addr} {N rc : Nat} {vs : List Vn} (h : VOut w1 w2 ro N rc vs) (hs : w.heap.size ≤ w1.heap.size) : VOut w w2 ro N rc vs := by
  obtain ⟨rc', hr, ho⟩ := h.own
  refine ⟨⟨rc', hr, ho.1, ?_⟩, h.len, h.cap⟩
  rcases ho.2 with hh | ⟨g, cap, cur, e, hb, hgg, rest⟩
  · exact .inl hh
  · exact .inr ⟨g, cap, cur, e, by omega, hgg, rest⟩
theorem VOut.rs {w w' : World} {ro : Option Addr} {N rc : Nat} {vs : List Vn} (h : VOut w w' ro N rc vs) (hl : vs.length ≤ 4398046511104) (he : ∀ x ∈ vs, VEach x) : VRs w' ro vs := by
  obtain ⟨rc', hr, ho⟩ := h.own
  exact VRs.of_own ho h.len hl he
theorem own_cap {w : World} {base : Nat} {e : TypeId} {size : Nat} {ro : Option Addr} {N rc : Nat} {xs : List Value} (h : w.ownsRow base e size (.slice ro N rc) N xs) : N ≤ rc := by
  rcases h.2 with ⟨hv, hn⟩ | ⟨g, cap, cur, hv, _, _, hnc, _⟩
  · cases hv; omega
  · cases hv; exact hnc
theorem VOut.of {w w' : World} {ro : Option Addr} {N rc : Nat} {vs : List Vn} (h : w'.ownsRow w.heap.size 128 3 (.slice ro N rc) N (vnsC vs)) (hl : N = vs.length) : VOut w w' ro N rc vs := ⟨⟨rc, Nat.le_refl _, h⟩, hl, own_cap h⟩
theorem VOut.cut {w w' : World} {ro : Option Addr} {N rc : Nat} {vs : List Vn} (h : VOut w w' ro N rc vs) : VOut w w' ro N N vs := by
  obtain ⟨rc', hr, ho⟩ := h.own
  exact ⟨⟨rc', Nat.le_trans h.cap hr, ho⟩, h.len, Nat.le_refl _⟩
set_option maxHeartbeats 2000000 in
set_option maxRecDepth 100000 in
theorem clone_any (ao : Option Addr) (L cap : Nat) (vs : List Vn) (w : World) (hV : VRs w ao vs) (hL : L = vs.length) :
    Calls Tryz.prog 113 #[.slice ao L cap] w fun e w' => ∃ ro rc, e = .returned (.slice ro L rc) ∧ VOut w w' ro L rc vs ∧ Fr [] w w' := by
  have q22 : ∀ (w : World) (a : Option Addr) (n c n' c' : Nat), (binOp .eql 124 (.slice a n c) (.slice none n' c')).run Tryz.prog w = .ok (.bool a.isNone) w := fun w a n c n' c' => Lib.run_eql_slice_nil w _ _ a n c n' c' Tryz.undVns'
  cases ao with
  | none =>
    obtain rfl : L = 0 := by
      rcases Nat.eq_zero_or_pos vs.length with h | h
      · omega
      · obtain ⟨b, off, e, _⟩ := hV.lies h
        cases e
    obtain rfl : vs = [] := List.eq_nil_of_length_eq_zero hL.symm
    clear hV hL
    go_enter Tryz.func113, Tryz.ntmps113
    go_wp2
    go_ret
    exact ⟨none, 0, rfl, VOut.of ⟨rfl, .inl ⟨rfl, rfl⟩⟩ rfl, Fr.refl _ _⟩
  | some a =>
    obtain ⟨i0, hi, hz0, hz1, hz2⟩ := infoVn_parts
    have hc : Hid (∀ j u, (vnsC vs)[j]? = some u → w.cell? (a.add j) = some u) := by
      intro j u hu
      obtain ⟨b, off, e, hc⟩ := hV.cells hu
      cases e
      rw [Addr.add_lit]
      exact hc
    have hf := hV.few
    have HL : Hid (L = vs.length) := hL
    have HF : Hid (vs.length ≤ 4398046511104) := hf
    clear hV hL hf
    go_enter Tryz.func113, Tryz.ntmps113
    go_wp2_with (at_builtin; refine wpList_append_own _ rfl _ _ 124 rfl w.heap.size 128 i0 (.agg #[.int .i64 0, .string ⟨#[]⟩, .bool false]) 3 32 Tryz.undVns' hi hz0 hz1 hz2 rfl (by decide) _ _ _ rfl (World.ownsRow_made w #[] 0 (Nat.le_refl _) (Nat.zero_le _) (by simp)) a L cap (vnsC vs) rfl ?qc1 ?qc2 ?qc3 ?qc4 ?qc5 ?qc6 ?_)
    case qc1 => rw [vnsC_length, HL.out]
    case qc2 =>
      intro j u hj
      exact Lib.cell?_alloc_some _ (hc.out j u hj)
    case qc3 => exact vnsC_oneCell vs
    case qc4 => rw [Nat.zero_add]; have := HL.out; have := HF.out; simp only [maxLen]; omega
    case qc5 => rw [Nat.zero_add]; have := HL.out; have := HF.out; omega
    case qc6 => simp
    intro v' w1 hown hgrow hnil
    obtain ⟨ro, rc, rfl⟩ : ∃ ro rc, v' = .slice ro L rc := by
      rcases hown.2 with ⟨hh, h0⟩ | ⟨g, cap', _, hh, _⟩
      · exact ⟨none, 0, by rw [hh]; have : L = 0 := by omega
                           rw [this]⟩
      · exact ⟨_, cap', by rw [hh]⟩
    have HO : Hid (VOut w w1 ro L rc vs ∧ Fr [] w w1) := ⟨VOut.of (by simpa using hown) HL.out, (Fr.alloc [] w _).on (Fr.grown (S := [w.heap.size]) hgrow (by intro k hk _; simp [Value.ownBlock] at hk; simp [hk])) (by simp)⟩
    clear hown hgrow hnil
    go_wp2
    go_ret
    exact ⟨ro, rc, rfl, HO.out⟩
set_option maxHeartbeats 2000000 in
set_option maxRecDepth 100000 in
theorem part_any (ao : Option Addr) (L cap i j : Nat) (vs : List Vn) (w : World) (hV : VRs w ao vs) (hL : L = vs.length) (hcap : L ≤ cap) (hij : i ≤ j) (hj : j ≤ L) :
    Calls Tryz.prog 328 #[.slice ao L cap, .int .i64 (i : Int), .int .i64 (j : Int)] w fun e w' => ∃ ro, e = .returned (.slice ro (j - i) (j - i)) ∧ VOut w w' ro (j - i) (j - i) ((vs.drop i).take (j - i)) ∧ Fr [] w w' := by
  have s1 : ∀ W, (Instr.sliceAt 124 (.slice ao L cap) (some (.int .i64 (i : Int))) (some (.int .i64 (j : Int))) none).run Tryz.prog W = .ok (.slice (fromV ao cap i) (j - i) (cap - i)) W := slV_lh ao L cap i j hij (by omega)
  have hlen : j - i = ((vs.drop i).take (j - i)).length := by simp only [List.length_take, List.length_drop]; omega
  have HC : Hid (Calls _ _ _ _ _) := clone_any (fromV ao cap i) (j - i) (cap - i) ((vs.drop i).take (j - i)) w (hV.from cap i j hij (by omega) (by omega)) hlen
  have hLL : L ≤ 4398046511104 := by have := hV.few; omega
  clear hV hlen hL
  go_enter Tryz.func328, Tryz.ntmps328
  go_wp2_with fail
  refine Calls.mono HC.out ?_
  rintro e w1 ⟨ro, rc, rfl, hO, hF⟩
  have hd : ((j : Int) - (i : Int)) = ((j - i : Nat) : Int) := by omega
  have s2 : ∀ W, (Instr.sliceAt 124 (.slice ro (j - i) rc) none (some (.int .i64 ((j : Int) - (i : Int)))) (some (.int .i64 ((j : Int) - (i : Int))))).run Tryz.prog W = .ok (.slice ro (j - i) (j - i)) W := slV_hm ro (j - i) rc (j - i) _ _ hd hd hO.cap
  have HO : Hid (VOut w w1 ro (j - i) (j - i) ((vs.drop i).take (j - i))) := hO.cut
  clear hO HC hd
  go_wp2
  go_ret
  exact ⟨ro, rfl, HO.out, hF⟩
/-- What Collect tells. -/
def CoTold (vs : List Vn) (k : Int) (us : List Vn) (n c : Nat) : Prop := (c = 1 ∧ ¬ okV vs ∧ us = [] ∧ n = 0) ∨ (c = 0 ∧ okV vs ∧ ∃ d, UpTo vs k d ∧ n = d - 1 ∧ us = vs.drop n)
set_option maxHeartbeats 2000000 in
set_option maxRecDepth 100000 in
theorem collect_any (ao : Option Addr) (L cap : Nat) (k : Int) (vs : List Vn) (w : World) (hV : VRs w ao vs) (hL : L = vs.length) (hcap : L ≤ cap) :
    Calls Tryz.prog 323 #[.slice ao L cap, .int .i64 k] w fun e w' => ∃ ro N rc us n c, e = .returned (.tuple #[.slice ro N rc, .int .i64 ((n : Nat) : Int), .int .i64 ((c : Nat) : Int)]) ∧ CoTold vs k us n c ∧ VOut w w' ro N rc us ∧ Fr [] w w' := by
  by_cases hok : okV vs
  · have hck := CkT.of hok
    have HV : Hid (∀ W, Fr [] w W → VRs W ao vs) := fun W hf => hV.keep hf
    have HL : Hid (L = vs.length) := hL
    have HO : Hid (okV vs) := hok
    have hL2 : L ≤ 65536 := by have := okV_few hok; omega
    have HC : Hid (Calls _ _ _ _ _) := vcheck_any ao L cap 0 vs w hV hL hck
    clear hV hL hok hck
    go_enter Tryz.func323, Tryz.ntmps323
    go_wp2_with fail
    refine Calls.mono HC.out ?_
    rintro e w1 ⟨rfl, hF1⟩
    have HU : Hid (Calls _ _ _ _ _) := upTo_any ao L cap k vs w1 (HV.out _ hF1) HL.out HO.out.2
    clear HC
    go_wp2_with fail
    refine Calls.mono HU.out ?_
    rintro e w2 ⟨d, rfl, hd, hF2⟩
    have hdL : d ≤ L := by have := hd.le; have := HL.out; omega
    have hG2 := hF1.then hF2
    have HD : Hid (UpTo vs k d) := hd
    clear hd HU
    have hmx : max ((d : Int) - 1) 0 = ((d - 1 : Nat) : Int) := by omega
    have HP : Hid (Calls _ _ _ _ _) := part_any ao L cap (d - 1) L vs w2 (HV.out _ hG2) HL.out hcap (by omega) (Nat.le_refl _)
    by_cases h0 : d = 0
    · subst h0
      simp only [Nat.zero_sub] at HP
      go_wp2_with fail
      refine Calls.mono HP.out ?_
      rintro e w3 ⟨ro, rfl, hO, hF3⟩
      have hdr : (vs.drop 0).take (L - 0) = vs := by rw [HL.out]; simp
      rw [hdr] at hO
      have HR : Hid (VOut w w3 ro (L - 0) (L - 0) vs ∧ Fr [] w w3) := ⟨hO.later hG2.size, hG2.then hF3⟩
      clear hO hdr HP
      go_wp2
      refine bodyPost_ret (results_tmp3 rfl _ _ _) rfl ?_
      exact ⟨ro, _, _, vs, 0, 0, rfl, Or.inr ⟨rfl, HO.out, 0, HD.out, rfl, rfl⟩, HR.out⟩
    · obtain ⟨d', rfl⟩ : ∃ d', d = d' + 1 := ⟨d - 1, by omega⟩
      simp only [Nat.add_sub_cancel] at HP
      have hmx2 : (((d' + 1 : Nat) : Int) - 1) = (d' : Int) := by omega
      go_wp2_with fail
      refine Calls.mono HP.out ?_
      rintro e w3 ⟨ro, rfl, hO, hF3⟩
      have hdr : (vs.drop d').take (L - d') = vs.drop d' := by rw [HL.out, List.take_of_length_le (by simp)]
      rw [hdr] at hO
      have HR : Hid (VOut w w3 ro (L - d') (L - d') (vs.drop d') ∧ Fr [] w w3) := ⟨hO.later hG2.size, hG2.then hF3⟩
      clear hO hdr HP
      go_wp2
      refine bodyPost_ret (results_tmp3 rfl _ _ _) rfl ?_
      exact ⟨ro, _, _, vs.drop d', d', 0, rfl, Or.inr ⟨rfl, HO.out, d' + 1, HD.out, rfl, rfl⟩, HR.out⟩
  · have hck : CkT vs 1 := Or.inr ⟨rfl, hok⟩
    have HO : Hid (¬ okV vs) := hok
    have HC : Hid (Calls _ _ _ _ _) := vcheck_any ao L cap 1 vs w hV hL hck
    clear hV hL hok hck
    go_enter Tryz.func323, Tryz.ntmps323
    go_wp2_with fail
    refine Calls.mono HC.out ?_
    rintro e w1 ⟨rfl, hF1⟩
    clear HC
    go_wp2
    refine bodyPost_ret (results_tmp3 rfl _ _ _) rfl ?_
    exact ⟨none, 0, 0, [], 0, 1, rfl, Or.inl ⟨rfl, HO.out, rfl, rfl⟩, VOut.of ⟨rfl, .inl ⟨rfl, rfl⟩⟩ rfl, hF1⟩
end Go.Proofs.YtakbodlicfmkjaaGreat.O

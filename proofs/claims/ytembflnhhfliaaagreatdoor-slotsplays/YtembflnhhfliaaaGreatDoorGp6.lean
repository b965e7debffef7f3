/- Texts of this claim laid together, one behind the other: contracts and plain lemmas; conditions as each names them. -/
import Derived.Test.YtembflnhhfliaaaGreatDoorGp5
import Derived.Lib.SliceRun
import Derived.Deep.Cut
import Derived.Lib.AppendZerosOnto
import Derived.Maps.RangeWalk
import Derived.Deep.RegionHeld3
import Derived.Test.YtembflnhhfliaaaGreatDoorGp1
import Derived.Lib.Bytealg
import Derived.Sort.Walk0
import Derived.Maps.OwnOps
import Derived.Maps.OwnSet
import Derived.Maps.Views
import Derived.OwnWalk
/- May versions be: contract of Check; a part of a row in memory of its own: Clone, part; At and Collect. Conditions as each names them. -/
namespace Go.Proofs.YtembflnhhfliaaaGreatDoor
open Go.ChangeShapes Go.WideShapes Go.ChangeAt Go.RowKit Go.Lib
set_option linter.unusedVariables false
set_option linter.unusedSimpArgs false
def lastN (vs : List Vn) (i : Nat) : Int := if i = 0 then 0 else (vs.getD (i - 1) Vn.zero).num
theorem okV_snoc {a : List Vn} {x : Vn} : okV (a ++ [x]) ↔ okV a ∧ okX x ∧ ∀ y ∈ a, y.num < x.num := by
  unfold okV Ris
  rw [List.pairwise_append]
  simp only [List.mem_append, List.mem_singleton, List.pairwise_cons, List.not_mem_nil, false_implies, implies_true, List.Pairwise.nil, and_true, true_and, forall_eq]
  constructor
  · rintro ⟨h1, h2, h3⟩
    exact ⟨⟨fun y hy => h1 y (Or.inl hy), h2⟩, h1 x (Or.inr rfl), h3⟩
  · rintro ⟨⟨h1, h2⟩, h3, h4⟩
    exact ⟨fun y hy => by rcases hy with hy | hy; (exact h1 y hy); (rw [hy]; exact h3), h2, h4⟩
theorem okV_step {vs : List Vn} {i : Nat} (h : okV (vs.take i)) (hi : i < vs.length) :
    okV (vs.take (i + 1)) ↔ lastN vs i < (vs.getD i Vn.zero).num ∧ (vs.getD i Vn.zero).num ≤ 65536 ∧ (vs.getD i Vn.zero).val.size ≤ 1024 ∧ ((vs.getD i Vn.zero).drop = true → (vs.getD i Vn.zero).val = noS) := by
  rw [vtake_snoc vs i hi, okV_snoc]
  have hg : ∀ j, j < i → (vs.take i).getD j Vn.zero = vs.getD j Vn.zero := fun j hj => by simp [List.getD, List.getElem?_take_of_lt hj]
  have hl : (vs.take i).length = i := by simp; omega
  constructor
  · rintro ⟨_, h2, h3⟩
    refine ⟨?_, h2.2.1, h2.2.2.1, h2.2.2.2⟩
    unfold lastN
    split
    · have := h2.1; omega
    · have := h3 ((vs.take i).getD (i - 1) Vn.zero) (vgetD_mem _ _ (by omega))
      rwa [hg _ (by omega)] at this
  · rintro ⟨h1, h2, h3, h4⟩
    have key : ∀ j, j < i → (vs.getD j Vn.zero).num ≤ lastN vs i := by
      intro j hj
      unfold lastN
      rw [if_neg (by omega)]
      by_cases e : j = i - 1
      · subst e; exact Int.le_refl _
      · have := ris_get h.2 (show j < i - 1 by omega) (by omega)
        rw [hg _ (by omega), hg _ (by omega)] at this
        omega
    refine ⟨h, ⟨?_, h2, h3, h4⟩, ?_⟩
    · by_cases e : i = 0
      · unfold lastN at h1
        rw [if_pos e] at h1
        omega
      · have a := (h.1 _ (vgetD_mem _ 0 (by omega))).1
        rw [hg 0 (by omega)] at a
        have b := key 0 (by omega)
        omega
    · intro y hy
      obtain ⟨j, hj, e⟩ := List.mem_iff_getElem.1 hy
      have : y = vs.getD j Vn.zero := by
        rw [← hg j (by omega), ← e, List.getD, List.getElem?_eq_getElem hj]
        rfl
      rw [this]
      have := key j (by omega)
      omega
theorem CkT.bad {vs : List Vn} {c i : Nat} (h : CkT vs c) (hb : ¬ okV (vs.take (i + 1))) : c = 1 := by
  rcases h with ⟨_, h⟩ | ⟨h, _⟩
  · exact absurd (okV_sub h (List.take_sublist _ _)) hb
  · exact h
theorem lastN_succ (vs : List Vn) (i : Nat) : lastN vs (i + 1) = (vs.getD i Vn.zero).num := by unfold lastN; rw [if_neg (by omega), Nat.add_sub_cancel]
set_option maxHeartbeats 8000000 in
set_option maxRecDepth 100000 in
theorem vcheck_any (ao : Option Addr) (L cap c : Nat) (vs : List Vn) (w : World) (hV : VRs w ao vs) (hL : L = vs.length) (hc : CkT vs c) :
    Calls Tryz.prog 181 #[.slice ao L cap] w fun e w' => e = .returned (.int .i64 (c : Int)) ∧ Fr [] w w' := by
  have HL : Hid (L = vs.length) := hL
  have HC : Hid (CkT vs c) := hc
  have HV : Hid (VRs w ao vs) := hV
  have hLL : L ≤ 4398046511104 := by have := hV.few; omega
  clear hV hL hc
  go_enter Tryz.func181, Tryz.ntmps181
  go_wp2_with fail
  go_loop [3, 8] (fun ss ii => ∃ (i : Nat) (last : Int), ss = .int .i64 last ∧ ii = .int .i64 i ∧ i ≤ L ∧ Hid (last = lastN vs i ∧ okV (vs.take i))) (fun _ ii => L - (RowKit.intOf ii).toNat)
  case atStart => exact ⟨0, 0, rfl, rfl, Nat.zero_le _, ⟨by simp [lastN], okV_sub okV_nil (by simp)⟩⟩
  case round =>
    obtain ⟨i, last, rfl, rfl, hiL, HI⟩ := hrel
    by_cases hi : i < L
    · have hi' : i < vs.length := by rw [← HL.out]; exact hi
      obtain ⟨b, off, rfl, hbl, hat⟩ := HV.out.lies (by omega)
      obtain ⟨c0, c1, c2⟩ := hat i hi'
      have hE := HV.out.each _ (vgetD_mem vs i hi')
      have hst := okV_step HI.out.2 hi'
      rw [← HI.out.1] at hst
      have hls := lastN_succ vs i
      obtain ⟨⟨n, val, drop⟩, hx⟩ : ∃ x, x = vs.getD i Vn.zero := ⟨_, rfl⟩
      rw [← hx] at c0 c1 c2 hE hst hls
      simp only at c0 c1 c2 hst hls
      have hvz : val.size ≤ 140737488355328 := hE.v
      have HS : Hid _ := hst
      have HLs : Hid (lastN vs (i + 1) = n) := hls
      clear hat hst hls hx hE
      by_cases h1 : n ≤ last
      · obtain rfl : c = 1 := HC.out.bad (i := i) (fun h => by have := (HS.out.1 h).1; omega)
        go_wp2
        go_ret
        exact ⟨rfl, Fr.refl _ _⟩
      · by_cases h2 : 65536 < n
        · obtain rfl : c = 1 := HC.out.bad (i := i) (fun h => by have := (HS.out.1 h).2.1; omega)
          have h1' : last < n := by omega
          clear h1
          go_wp2
          go_ret
          exact ⟨rfl, Fr.refl _ _⟩
        · have h1' : last < n := by omega
          have h2' : n ≤ 65536 := by omega
          clear h1 h2
          by_cases h3 : 1024 < val.size
          · obtain rfl : c = 1 := HC.out.bad (i := i) (fun h => by have := (HS.out.1 h).2.2.1; omega)
            have h3' : (1024 : Int) < val.size := by omega
            go_wp2
            go_ret
            exact ⟨rfl, Fr.refl _ _⟩
          · have h3' : (val.size : Int) ≤ 1024 := by omega
            clear h3
            cases drop with
            | false =>
              have HN : Hid (okV (vs.take (i + 1))) := HS.out.2 ⟨h1', h2', by omega, fun h => by cases h⟩
              go_wp2
              refine ⟨⟨i + 1, n, rfl, by simp, by omega, ⟨HLs.out.symm, HN.out⟩⟩, ?_⟩
              simp [RowKit.intOf]
              omega
            | true =>
              by_cases h4 : val.toList = []
              · have h5 : val.toList.isEmpty = true := by rw [h4]; rfl
                have HN : Hid (okV (vs.take (i + 1))) := HS.out.2 ⟨h1', h2', by omega, fun _ => (noS_iff _).1 ((tl_nil _).1 h4)⟩
                go_wp2
                refine ⟨⟨i + 1, n, rfl, by simp, by omega, ⟨HLs.out.symm, HN.out⟩⟩, ?_⟩
                simp [RowKit.intOf]
                omega
              · obtain rfl : c = 1 := HC.out.bad (i := i) (fun h => h4 ((tl_nil _).2 ((noS_iff _).2 ((HS.out.1 h).2.2.2 rfl))))
                have h5 : val.toList.isEmpty = false := by
                  cases hq : val.toList with
                  | nil => exact absurd hq h4
                  | cons a r => rfl
                go_wp2
                go_ret
                exact ⟨rfl, Fr.refl _ _⟩
    · obtain rfl : c = 0 := by
        have hok := HI.out.2
        rw [List.take_of_length_le (by have := HL.out; omega)] at hok
        exact HC.out.one (CkT.of hok)
      go_wp2
      go_ret
      exact ⟨rfl, Fr.refl _ _⟩
end Go.Proofs.YtembflnhhfliaaaGreatDoor
/- A part of a row in memory of its own (slices.Clone, part); At; Collect. Conditions as each names them. -/
namespace Go.Proofs.YtembflnhhfliaaaGreatDoor
open Go.ChangeShapes Go.WideShapes Go.ChangeAt Go.RowKit Go.Lib
set_option linter.unusedVariables false
set_option linter.unusedSimpArgs false
theorem Tryz.undVnsE : Tryz.prog.underlying 132 = some (.slice (Tryz.prog.elem 132)) := by kernel_rfl
theorem Tryz.elemVns : Tryz.prog.elem 132 = 136 := by kernel_rfl
theorem Tryz.sizeOfVn (w : World) : (Go.sizeOf 136).run Tryz.prog w = .ok 3 w := by kernel_rfl
theorem Tryz.infoVn : (Tryz.prog.info? 136).map (fun i => (i.zero, i.size, i.bytes)) = some (some (.agg #[.int .i64 0, .string ⟨#[]⟩, .bool false]), 3, 32) := by kernel_rfl
theorem infoVn_parts : ∃ i, Tryz.prog.info? 136 = some i ∧ i.zero = some (.agg #[.int .i64 0, .string ⟨#[]⟩, .bool false]) ∧ i.size = 3 ∧ i.bytes = 32 := by
  have h := Tryz.infoVn
  cases hi : Tryz.prog.info? 136 with
  | none => rw [hi] at h; cases h
  | some i =>
    rw [hi] at h
    simp only [Option.map_some, Option.some.injEq, Prod.mk.injEq] at h
    exact ⟨i, rfl, h.1, h.2.1, h.2.2⟩
theorem slV_lh (ro : Option Addr) (N rc i j : Nat) (h1 : i ≤ j) (h2 : j ≤ rc) (w : World) : (Instr.sliceAt 132 (.slice ro N rc) (some (.int .i64 (i : Int))) (some (.int .i64 (j : Int))) none).run Tryz.prog w = .ok (.slice (fromV ro rc i) (j - i) (rc - i)) w := by
  rw [run_sliceAt_slice w 132 _ _ _ _ Tryz.undVnsE, run_slice_lh w 132 _ _ _ Tryz.undVnsE .i64 .i64 (i : Int) (j : Int) (by omega) (by omega) (by omega), Tryz.elemVns, Tryz.sizeOfVn]
  simp [Result.andThen, sliced, fromV]
theorem slV_h (ro : Option Addr) (N rc i : Nat) (h1 : i ≤ rc) (w : World) : (Instr.sliceAt 132 (.slice ro N rc) none (some (.int .i64 (i : Int))) none).run Tryz.prog w = .ok (.slice ro i rc) w := by
  rw [run_sliceAt_slice w 132 _ _ _ _ Tryz.undVnsE, run_slice_h w 132 _ _ _ Tryz.undVnsE .i64 (i : Int) (by omega) (by omega), Tryz.elemVns, Tryz.sizeOfVn]
  cases ro <;> simp [Result.andThen, sliced, Addr.add]
theorem slV_l (ro : Option Addr) (N rc K : Nat) (h1 : K ≤ N) (w : World) : (Instr.sliceAt 132 (.slice ro N rc) (some (.int .i64 (K : Int))) none none).run Tryz.prog w = .ok (.slice (fromV ro rc K) (N - K) (rc - K)) w := by
  rw [run_sliceAt_slice w 132 _ _ _ _ Tryz.undVnsE, run_slice_l w 132 _ _ _ Tryz.undVnsE .i64 (K : Int) (by omega) (by omega), Tryz.elemVns, Tryz.sizeOfVn]
  simp [Result.andThen, sliced, fromV]
theorem slV_hm (ro : Option Addr) (N rc i : Nat) (k l : Int) (hk : k = (i : Int)) (hl : l = (i : Int)) (h1 : i ≤ rc) (w : World) : (Instr.sliceAt 132 (.slice ro N rc) none (some (.int .i64 k)) (some (.int .i64 l))).run Tryz.prog w = .ok (.slice ro i i) w := by
  subst hk hl
  rw [run_sliceAt_slice w 132 _ _ _ _ Tryz.undVnsE, run_slice_hm w 132 _ _ _ Tryz.undVnsE .i64 .i64 (i : Int) (i : Int) (by omega) (by omega) (by omega), Tryz.elemVns, Tryz.sizeOfVn]
  cases ro <;> simp [Result.andThen, sliced, Addr.add]
/-- A row of versions of one's own, made since a world; its spare room may be cut off. -/
structure VOut (w w' : World) (ro : Option Addr) (N rc : Nat) (vs : List Vn) : Prop where
  own : ∃ rc', rc ≤ rc' ∧ w'.ownsRow w.heap.size 136 3 (.slice ro N rc') N (vnsC vs)
  len : N = vs.length
  cap : N ≤ rc
theorem VOut.later {w w1 w2 : World} {ro : Option Addr} {N rc : Nat} {vs : List Vn} (h : VOut w1 w2 ro N rc vs) (hs : w.heap.size ≤ w1.heap.size) : VOut w w2 ro N rc vs := by
  obtain ⟨rc', hr, ho⟩ := h.own
  refine ⟨⟨rc', hr, ho.1, ?_⟩, h.len, h.cap⟩
  rcases ho.2 with hh | ⟨g, cap, cur, e, hb, hgg, rest⟩
  · exact .inl hh
  · exact .inr ⟨g, cap, cur, e, by omega, hgg, rest⟩
theorem VOut.rs {w w' : World} {ro : Option Addr} {N rc : Nat} {vs : List Vn} (h : VOut w w' ro N rc vs) (hl : vs.length ≤ 4398046511104) (he : ∀ x ∈ vs, VEach x) : VRs w' ro vs := by
  obtain ⟨rc', hr, ho⟩ := h.own
  exact VRs.of_own ho h.len hl he
theorem own_cap {w : World} {base : Nat} {e : TypeId} {size : Nat} {ro : Option Addr} {N rc : Nat} {xs : List Value} (h : w.ownsRow base e size (.slice ro N rc) N xs) : N ≤ rc := by
  rcases h.2 with ⟨hv, hn⟩ | ⟨g, cap, cur, hv, _, _, hnc, _⟩
  · cases hv; omega
  · cases hv; exact hnc
theorem VOut.of {w w' : World} {ro : Option Addr} {N rc : Nat} {vs : List Vn} (h : w'.ownsRow w.heap.size 136 3 (.slice ro N rc) N (vnsC vs)) (hl : N = vs.length) : VOut w w' ro N rc vs := ⟨⟨rc, Nat.le_refl _, h⟩, hl, own_cap h⟩
theorem VOut.cut {w w' : World} {ro : Option Addr} {N rc : Nat} {vs : List Vn} (h : VOut w w' ro N rc vs) : VOut w w' ro N N vs := by
  obtain ⟨rc', hr, ho⟩ := h.own
  exact ⟨⟨rc', Nat.le_trans h.cap hr, ho⟩, h.len, Nat.le_refl _⟩
set_option maxHeartbeats 2000000 in
set_option maxRecDepth 100000 in
theorem clone_any (ao : Option Addr) (L cap : Nat) (vs : List Vn) (w : World) (hV : VRs w ao vs) (hL : L = vs.length) :
    Calls Tryz.prog 182 #[.slice ao L cap] w fun e w' => ∃ ro rc, e = .returned (.slice ro L rc) ∧ VOut w w' ro L rc vs ∧ Fr [] w w' := by
  have q22 : ∀ (w : World) (a : Option Addr) (n c n' c' : Nat), (binOp .eql 132 (.slice a n c) (.slice none n' c')).run Tryz.prog w = .ok (.bool a.isNone) w := fun w a n c n' c' => Lib.run_eql_slice_nil w _ _ a n c n' c' Tryz.undVns'
  cases ao with
  | none =>
    obtain rfl : L = 0 := by
      rcases Nat.eq_zero_or_pos vs.length with h | h
      · omega
      · obtain ⟨b, off, e, _⟩ := hV.lies h
        cases e
    obtain rfl : vs = [] := List.eq_nil_of_length_eq_zero hL.symm
    clear hV hL
    go_enter Tryz.func182, Tryz.ntmps182
    go_wp2
    go_ret
    exact ⟨none, 0, rfl, VOut.of ⟨rfl, .inl ⟨rfl, rfl⟩⟩ rfl, Fr.refl _ _⟩
  | some a =>
    obtain ⟨i0, hi, hz0, hz1, hz2⟩ := infoVn_parts
    have hc : Hid (∀ j u, (vnsC vs)[j]? = some u → w.cell? (a.add j) = some u) := by
      intro j u hu
      obtain ⟨b, off, e, hc⟩ := hV.cells hu
      cases e
      rw [Addr.add_lit]
      exact hc
    have hf := hV.few
    have HL : Hid (L = vs.length) := hL
    have HF : Hid (vs.length ≤ 4398046511104) := hf
    clear hV hL hf
    go_enter Tryz.func182, Tryz.ntmps182
    go_wp2_with (at_builtin; refine wpList_append_own _ rfl _ _ 132 rfl w.heap.size 136 i0 (.agg #[.int .i64 0, .string ⟨#[]⟩, .bool false]) 3 32 Tryz.undVns' hi hz0 hz1 hz2 rfl (by decide) _ _ _ rfl (World.ownsRow_made w #[] 0 (Nat.le_refl _) (Nat.zero_le _) (by simp)) a L cap (vnsC vs) rfl ?qc1 ?qc2 ?qc3 ?qc4 ?qc5 ?qc6 ?_)
    case qc1 => rw [vnsC_length, HL.out]
    case qc2 =>
      intro j u hj
      exact Lib.cell?_alloc_some _ (hc.out j u hj)
    case qc3 => exact vnsC_oneCell vs
    case qc4 => rw [Nat.zero_add]; have := HL.out; have := HF.out; simp only [maxLen]; omega
    case qc5 => rw [Nat.zero_add]; have := HL.out; have := HF.out; omega
    case qc6 => simp
    intro v' w1 hown hgrow hnil
    obtain ⟨ro, rc, rfl⟩ : ∃ ro rc, v' = .slice ro L rc := by
      rcases hown.2 with ⟨hh, h0⟩ | ⟨g, cap', _, hh, _⟩
      · exact ⟨none, 0, by rw [hh]; have : L = 0 := by omega
                           rw [this]⟩
      · exact ⟨_, cap', by rw [hh]⟩
    have HO : Hid (VOut w w1 ro L rc vs ∧ Fr [] w w1) := ⟨VOut.of (by simpa using hown) HL.out, (Fr.alloc [] w _).on (Fr.grown (S := [w.heap.size]) hgrow (by intro k hk _; simp [Value.ownBlock] at hk; simp [hk])) (by simp)⟩
    clear hown hgrow hnil
    go_wp2
    go_ret
    exact ⟨ro, rc, rfl, HO.out⟩
/-- What Collect tells. -/
def CoTold (vs : List Vn) (k : Int) (us : List Vn) (n c : Nat) : Prop := (c = 1 ∧ ¬ okV vs ∧ us = [] ∧ n = 0) ∨ (c = 0 ∧ okV vs ∧ ∃ d, UpTo vs k d ∧ n = d - 1 ∧ us = vs.drop n)
end Go.Proofs.YtembflnhhfliaaaGreatDoor
/- At; the statements' own helpers on versions: SameVersions, VersionsSize. Conditions as each names them. -/
namespace Go.Proofs.YtembflnhhfliaaaGreatDoor
open Go.ChangeShapes Go.WideShapes Go.ChangeAt Go.RowKit Go.Lib
set_option linter.unusedVariables false
set_option linter.unusedSimpArgs false
theorem results_ctt {fn : Func} {p q r : Tmp} {t : TypeId} (h : fn.results = #[.cell p t, .tmp q, .tmp r]) (tmps : Array Value) (P : Program) (w : World) :
    (results fn tmps).run P w = ((asAddr (tmps.getD p undef)).run P w).andThen fun a w₁ => ((loadVar t a).run P w₁).andThen fun x w₂ => .ok (.tuple #[x, tmps.getD q undef, tmps.getD r undef]) w₂ := by
  simp only [results, h]
  simp [Sem.run_bind, Result.andThen]
theorem vrow3 {w : World} {b : Nat} {t : TypeId} {x0 x1 x2 : Value} (h : w.heap[b]? = some (.cells #[x0, x1, x2] t (0, 0))) (a0 a1 a2 : Value) : (((w.setCell ⟨b, 0, none⟩ a0).setCell ⟨b, 1, none⟩ a1).setCell ⟨b, 2, none⟩ a2).heap[b]? = some (.cells #[a0, a1, a2] t (0, 0)) := by
  have k : ∀ (W : World) (cs : Array Value) (o : Nat) (v : Value), W.heap[b]? = some (.cells cs t (0, 0)) → (W.setCell ⟨b, o, none⟩ v).heap[b]? = some (.cells (cs.setIfInBounds o v) t (0, 0)) := by
    intro W cs o v hW
    obtain ⟨hlt, hk⟩ := Array.getElem?_eq_some_iff.1 hW
    show (W.heap.modify b _)[b]? = _
    rw [Array.getElem?_eq_getElem (by rw [Array.size_modify]; exact hlt), Array.getElem_modify_self, hk]
    rfl
  have := k _ _ 2 a2 (k _ _ 1 a1 (k _ _ 0 a0 h))
  simpa using this
theorem vfrozen {w : World} {b : Nat} {cs : Array Value} {t : TypeId} (h : w.heap[b]? = some (.cells cs t (0, 0))) (j : Nat) : w.frozen? ⟨b, j, none⟩ = false := by simp [World.frozen?, h]
/-- What At tells. -/
def AtTold (vs : List Vn) (k : Int) (x : Vn) (ok : Bool) (c : Nat) : Prop := (c = 1 ∧ ¬ okV vs ∧ x = Vn.zero ∧ ok = false) ∨ (c = 0 ∧ okV vs ∧ ∃ d, UpTo vs k d ∧ x = atV vs d ∧ ok = decide (0 < d))
theorem vsame_upto (xs ys : List Vn) (hl : xs.length = ys.length) (h : ∀ j, j < xs.length → xs.getD j Vn.zero = ys.getD j Vn.zero) : xs = ys := by
  apply List.ext_getElem hl
  intro i h1 h2
  have := h i h1
  simpa [List.getD, h1, h2] using this
set_option maxHeartbeats 4000000 in
set_option maxRecDepth 100000 in
theorem sameVs_any (ro ro' : Option Addr) (N M rc rc' : Nat) (R : Bool) (xs ys : List Vn) (w : World) (h1 : VRs w ro xs) (h2 : VRs w ro' ys) (hN : N = xs.length) (hM : M = ys.length) (hR : R = true ↔ xs = ys) :
    Calls Tryz.prog 177 #[.slice ro N rc, .slice ro' M rc'] w fun e w' => e = .returned (.bool R) ∧ Fr [] w w' := by
  have HR : Hid (R = true ↔ xs = ys) := hR
  have HN : Hid (N = xs.length) := hN
  have HM : Hid (M = ys.length) := hM
  have hNf : N ≤ 4398046511104 := by have := h1.few; omega
  have hMf : M ≤ 4398046511104 := by have := h2.few; omega
  have HE : Hid (∀ W, Fr [] w W → VRs W ro xs ∧ VRs W ro' ys) := fun W hf => ⟨h1.keep hf, h2.keep hf⟩
  have hg := Tryz.guardVn
  have hq : ∀ (x y : Vn) (W : World), (Op.equalIn 10000 136 (.agg #[.int .i64 x.num, .string x.val, .bool x.drop]) (.agg #[.int .i64 y.num, .string y.val, .bool y.drop])).run Tryz.prog W = .ok (sameV x y) W := fun x y W => vn_in W x y
  clear hN hM hR h1 h2
  by_cases hNM : N = M
  · subst hNM
    have hne : ((N : Int) != N) = false := by simp
    go_enter Tryz.func177, Tryz.ntmps177
    go_wp2_with fail
    go_loopw [5] (fun ii wr => ∃ (i : Nat), ii = .int .i64 i ∧ i ≤ N ∧ Fr [] w wr ∧ Hid (∀ j, j < i → xs.getD j Vn.zero = ys.getD j Vn.zero)) (fun ii _ => N - (RowKit.intOf ii).toNat)
    case atStart => exact ⟨0, rfl, Nat.zero_le _, Fr.refl _ _, fun j hj => by omega⟩
    case round =>
      obtain ⟨i, rfl, hiN, hFr, HI⟩ := hrel
      by_cases hi : i < N
      · have hi1 : i < xs.length := by rw [← HN.out]; exact hi
        have hi2 : i < ys.length := by rw [← HM.out]; exact hi
        obtain ⟨b, o, rfl, _, hat⟩ := (HE.out _ hFr).1.lies (by omega)
        obtain ⟨c0, c1, c2⟩ := hat i hi1
        obtain ⟨b', o', rfl, _, hat'⟩ := (HE.out _ hFr).2.lies (by omega)
        obtain ⟨e0, e1, e2⟩ := hat' i hi2
        obtain ⟨x, hx⟩ : ∃ x, x = xs.getD i Vn.zero := ⟨_, rfl⟩
        obtain ⟨y, hy⟩ : ∃ y, y = ys.getD i Vn.zero := ⟨_, rfl⟩
        rw [← hx] at c0 c1 c2
        rw [← hy] at e0 e1 e2
        have hqq := hq x y
        obtain ⟨S, hS⟩ : ∃ S, sameV x y = S := ⟨_, rfl⟩
        rw [hS] at hqq
        have HS : Hid (sameV x y = S) := hS
        have HX : Hid (x = xs.getD i Vn.zero ∧ y = ys.getD i Vn.zero) := ⟨hx, hy⟩
        clear hS hx hy hat hat' hq
        obtain ⟨n1, v1, p1⟩ := x
        obtain ⟨n2, v2, p2⟩ := y
        simp only at c0 c1 c2 e0 e1 e2 hqq
        cases S with
        | true =>
          have HI2 : Hid (∀ j, j < i + 1 → xs.getD j Vn.zero = ys.getD j Vn.zero) := by
            intro j hj
            by_cases hji : j = i
            · subst hji
              rw [← HX.out.1, ← HX.out.2]
              exact (sameV_iff _ _).1 HS.out
            · exact HI.out j (by omega)
          go_wp2_with fail
          go_quiet (fail)
          go_wp2
          exact ⟨⟨i + 1, by simp, by omega, hFr.then (Fr.drewN _ _ _), HI2⟩, by simp [RowKit.intOf]; omega⟩
        | false =>
          obtain rfl : R = false := by
            cases R with
            | false => rfl
            | true =>
              have e := HR.out.1 rfl
              subst e
              have h9 := (sameV_iff _ _).2 (HX.out.1.trans HX.out.2.symm)
              rw [HS.out] at h9
              cases h9
          go_wp2_with fail
          go_quiet (fail)
          go_wp2
          go_ret
          exact ⟨rfl, hFr.then (Fr.drewN _ _ _)⟩
      · obtain rfl : R = true := HR.out.2 (vsame_upto _ _ (by rw [← HN.out, HM.out]) (fun j hj => HI.out j (by rw [← HN.out] at hj; omega)))
        go_wp2
        go_ret
        exact ⟨rfl, hFr⟩
  · have hne : ((N : Int) != M) = true := by rw [bne_iff_ne]; omega
    obtain rfl : R = false := by
      cases R with
      | false => rfl
      | true =>
        have e := HR.out.1 rfl
        subst e
        exact absurd (HN.out.trans HM.out.symm) hNM
    clear hNM
    go_enter Tryz.func177, Tryz.ntmps177
    go_wp2
    go_ret
    exact ⟨rfl, Fr.refl _ _⟩
end Go.Proofs.YtembflnhhfliaaaGreatDoor
/- Appends of versions; slices.Grow of nothing; slices.Concat of three; Put. Conditions as each names them. -/
namespace Go.Proofs.YtembflnhhfliaaaGreatDoor
open Go.ChangeShapes Go.WideShapes Go.ChangeAt Go.RowKit Go.Lib
set_option linter.unusedVariables false
set_option linter.unusedSimpArgs false
theorem vrun_append_none {P : Program} (w : World) (t ty e : TypeId) (i : TypeInfo) (size c base : Nat) (ht : P.underlying t = some (.slice e)) (hi : P.info? e = some i)
    (v : Value) (n : Nat) (xs : List Value) (hown : w.ownsRow base e size v n xs) :
    (Builtin.append_ #[t, t] ty #[v, .slice none 0 c]).run P w = .ok v w := by
  rcases hown.2 with ⟨rfl, rfl⟩ | ⟨g, cap, cur, rfl, _, _, hnc, _⟩
  · simp [Builtin.append_, run_underlying ht, sizeOf, typeInfo, hi, Builtin.lenOf, Builtin.firstCells]
  · simp [Builtin.append_, run_underlying ht, sizeOf, typeInfo, hi, Builtin.lenOf, Builtin.firstCells, hnc, storeCells]
theorem own_shapeV {w : World} {base : Nat} {e : TypeId} {size : Nat} {v : Value} {n : Nat} {xs : List Value} (h : w.ownsRow base e size v n xs) : ∃ bo cap, v = .slice bo n cap := by
  rcases h.2 with ⟨hv, hn⟩ | ⟨g, cap, cur, hv, _⟩
  · exact ⟨none, 0, by rw [hv, hn]⟩
  · exact ⟨_, cap, hv⟩
/-- Versions of a row, behind a row of one's own. -/
theorem wpList_appV (w : World) {ops : Array Oper} {rest : List Oper} {o : Oper} {a : Act} {Q : Exit → Act → World → Prop} (hgd : o.guard = none) (s x : Operand)
    (ho : o.op = .call { callee := .builtin .append, args := #[s, x], argTypes := #[132, 132] })
    (base : Nat) (v : Value) (qs : List Vn) (hs : a.eval s = v) (hown : w.ownsRow base 136 3 v qs.length (vnsC qs))
    (xo : Option Addr) (m c : Nat) (rs : List Vn) (hx : a.eval x = .slice xo m c) (hB : VRs w xo rs) (hm : m = rs.length) (hn : qs.length + m < 2199023255552) (hbase : base ≤ w.heap.size)
    (h : ∀ bo n' cap' w', n' = (qs ++ rs).length → w'.ownsRow base 136 3 (.slice bo n' cap') n' (vnsC (qs ++ rs)) → Fr v.ownBlock.toList w w' → wpList Tryz.prog ops Q rest (a.put o.dst (.slice bo n' cap')) w') : wpList Tryz.prog ops Q (o :: rest) a w := by
  obtain ⟨i0, hi, hz0, hz1, hz2⟩ := infoVn_parts
  have hl : (vnsC rs).length = m * 3 := by rw [vnsC_length, hm]
  have hmx : 2199023255552 ≤ maxLen := by unfold maxLen; omega
  cases xo with
  | none =>
    refine wpList_plain hgd fun K hK => ?_
    have hrs : rs = [] := by
      rcases Nat.eq_zero_or_pos rs.length with h0 | h0
      · exact List.eq_nil_of_length_eq_zero h0
      · obtain ⟨_, _, e, _⟩ := hB.lies h0
        cases e
    subst hrs
    obtain rfl : m = 0 := hm
    have hr := vrun_append_none (P := Tryz.prog) w 132 o.type 136 i0 3 c base Tryz.undVns' hi v qs.length (vnsC qs) hown
    obtain ⟨bo, cap', rfl⟩ := own_shapeV hown
    unfold Oper.wp execOp
    simp only [ho, resolve, invoke, builtin, Sem.run_bind, Sem.run_pure, Result.andThen_ok, List.map_toArray, List.map_cons, List.map_nil, hs, hx, hr]
    exact hK _ _ (h bo _ cap' w (by simp) (by simpa using hown) (Fr.refl _ _))
  | some ad =>
    have hlies : ∀ j u, (vnsC rs)[j]? = some u → w.cell? (ad.add j) = some u := by
      intro j u hu
      obtain ⟨b, off, e, hc⟩ := hB.cells hu
      cases e
      rw [Addr.add_lit]
      exact hc
    refine wpList_append_own w hgd s x 132 ho base 136 i0 _ 3 32 Tryz.undVns' hi hz0 hz1 hz2 rfl (by decide) v qs.length (vnsC qs) hs hown ad m c (vnsC rs) hx hl hlies (vnsC_oneCell rs) (by omega) (by omega) hbase ?_
    intro v' w' hown' hg' _
    have hlen : (qs ++ rs).length = qs.length + m := by rw [List.length_append, hm]
    obtain ⟨bo, cap', rfl⟩ := own_shapeV hown'
    exact h bo _ cap' w' hlen.symm (by rw [vnsC_append]; exact hown') (Fr.grown hg' (fun y hy _ => Option.mem_toList.2 hy))
end Go.Proofs.YtembflnhhfliaaaGreatDoor
/- slices.Concat of three rows of versions. Conditions as named. -/
namespace Go.Proofs.YtembflnhhfliaaaGreatDoor
open Go.ChangeShapes Go.WideShapes Go.ChangeAt Go.RowKit Go.Lib
set_option linter.unusedVariables false
set_option linter.unusedSimpArgs false
theorem own_blocks {w : World} {base : Nat} {e : TypeId} {size : Nat} {v : Value} {n : Nat} {xs : List Value} (h : w.ownsRow base e size v n xs) : ∀ k ∈ v.ownBlock.toList, base ≤ k := by
  intro k hk
  rcases h.2 with ⟨rfl, _⟩ | ⟨g, cap, cur, rfl, hb, _⟩
  · simp [Value.ownBlock] at hk
  · simp [Value.ownBlock] at hk
    omega
end Go.Proofs.YtembflnhhfliaaaGreatDoor
/- Put. Conditions as named. -/
namespace Go.Proofs.YtembflnhhfliaaaGreatDoor
open Go.ChangeShapes Go.WideShapes Go.ChangeAt Go.RowKit Go.Lib
set_option linter.unusedVariables false
set_option linter.unusedSimpArgs false
theorem okV_one (v : Vn) : okV [v] ↔ okX v := by
  constructor
  · intro h; exact h.1 v (by simp)
  · intro h; exact ⟨fun x hx => by rw [List.mem_singleton] at hx; rw [hx]; exact h, List.pairwise_singleton _ _⟩
/-- Is that number there already? -/
def There (vs : List Vn) (v : Vn) (d : Nat) : Prop := 0 < d ∧ (vs.getD (d - 1) Vn.zero).num = v.num
/-- What Put tells. -/
def PuTold (vs : List Vn) (v : Vn) (us : List Vn) (ok : Bool) (c : Nat) : Prop := (c = 1 ∧ ¬ (okV vs ∧ okX v) ∧ us = [] ∧ ok = false) ∨ (c = 0 ∧ okV vs ∧ okX v ∧ ∃ d, UpTo vs v.num d ∧ ((There vs v d ∧ us = vs ∧ ok = false) ∨ (¬ There vs v d ∧ us = vs.take d ++ [v] ++ vs.drop d ∧ ok = true)))
end Go.Proofs.YtembflnhhfliaaaGreatDoor
/- The order of keys, byte by byte: strict and total; what comparing tells. No conditions. -/
namespace Go.Proofs.YtembflnhhfliaaaGreatDoor
set_option linter.unusedVariables false

theorem bl_irrefl : ∀ a : List UInt8, Op.bytesLess a a = false
  | [] => rfl
  | x :: xs => by simp [Op.bytesLess, bl_irrefl xs]
theorem bl_cmp : ∀ a b : List UInt8, (Lib.compareBytes a b < 0 ↔ Op.bytesLess a b = true)
  | [], [] => by simp [Lib.compareBytes, Op.bytesLess]
  | [], _ :: _ => by simp [Lib.compareBytes, Op.bytesLess]
  | _ :: _, [] => by simp [Lib.compareBytes, Op.bytesLess]
  | x :: xs, y :: ys => by
    have ih := bl_cmp xs ys
    unfold Lib.compareBytes Op.bytesLess
    by_cases h1 : x < y
    · simp [h1]
    · by_cases h2 : y < x
      · simp [h1, h2]
        intro e
        subst e
        exact absurd h2 h1
      · simp [h1, h2]
        have e : x = y := UInt8.le_antisymm (UInt8.not_lt.1 h2) (UInt8.not_lt.1 h1)
        simp [e, ih]
theorem bl_lt (a b : List UInt8) : Op.bytesLess a b = true ↔ a < b := by rw [bytesLess_eq]; simp
theorem bl_trans {a b c : List UInt8} (h1 : Op.bytesLess a b = true) (h2 : Op.bytesLess b c = true) : Op.bytesLess a c = true := by
  rw [bl_lt] at *
  exact List.lt_trans h1 h2
theorem bl_ntrans {a b c : List UInt8} (h1 : Op.bytesLess a b = false) (h2 : Op.bytesLess b c = false) : Op.bytesLess a c = false := by
  rw [bytesLess_eq] at *
  simp only [decide_eq_false_iff_not, List.not_lt] at *
  exact List.le_trans h2 h1
theorem bl_eq {a b : List UInt8} (h1 : Op.bytesLess a b = false) (h2 : Op.bytesLess b a = false) : a = b := by
  rw [bytesLess_eq] at *
  simp only [decide_eq_false_iff_not, List.not_lt] at *
  exact List.le_antisymm h2 h1
theorem bl_asymm {a b : List UInt8} (h1 : Op.bytesLess a b = true) : Op.bytesLess b a = false := by
  cases h : Op.bytesLess b a with
  | false => rfl
  | true => have := bl_trans h1 h; rw [bl_irrefl] at this; cases this
end Go.Proofs.YtembflnhhfliaaaGreatDoor
/- Rows of one's own, keys as a map reads them. Plain lemmas. -/
namespace Go.Proofs.YtembflnhhfliaaaGreatDoor
open Go.ChangeShapes Go.WideShapes Go.ChangeAt Go.RowKit Go.Lib Go.Maps
set_option linter.unusedVariables false
set_option linter.unusedSimpArgs false
theorem bytes_eq {a b : ByteArray} (h : a.data.toList = b.data.toList) : a = b := by
  cases a; cases b
  simp only at h
  congr
  exact Array.toList_inj.1 h
def kl7 (s : ByteArray) : Lit := .string s.data.toList
theorem kl7_inj {s t : ByteArray} (h : kl7 s = kl7 t) : s = t := bytes_eq (by simpa [kl7] using h)
theorem owns_keepB {S : List Nat} {w w' : World} {base : Nat} {e : TypeId} {size : Nat} {v : Value} {n : Nat} {xs : List Value} (h : w.ownsRow base e size v n xs) (hf : Fr S w w') (hn : ∀ k, v.ownBlock = some k → k ∉ S) : w'.ownsRow base e size v n xs := by
  refine ⟨h.1, ?_⟩
  rcases h.2 with h0 | ⟨g, cap, cur, hv, hb, hg, hr⟩
  · exact Or.inl h0
  · exact Or.inr ⟨g, cap, cur, hv, hb, hf.keep hg (hn g (by rw [hv]; rfl)), hr⟩
theorem owns_cells {w : World} {base : Nat} {e : TypeId} {size : Nat} {v : Value} {n : Nat} {xs : List Value} (h : w.ownsRow base e size v n xs) {k : Nat} (hk : v.ownBlock = some k) : base ≤ k ∧ ∃ cur, w.heap[k]? = some (.cells cur e (0, 0)) := by
  rcases h.2 with ⟨rfl, _⟩ | ⟨g, cap, cur, rfl, hb, hg, hr⟩
  · simp [Value.ownBlock] at hk
  · simp [Value.ownBlock] at hk
    subst hk
    exact ⟨hb, cur, hg⟩
theorem box_set {w : World} {b : Nat} {t : TypeId} {v : Value} (h : w.heap[b]? = some (.cells #[v] t (0, 0))) (u : Value) : (w.setCell ⟨b, 0, none⟩ u).heap[b]? = some (.cells #[u] t (0, 0)) := by
  obtain ⟨hlt, hk⟩ := Array.getElem?_eq_some_iff.1 h
  show (w.heap.modify b _)[b]? = _
  rw [Array.getElem?_eq_getElem (by rw [Array.size_modify]; exact hlt), Array.getElem_modify_self, hk]
  rfl
theorem own_base {w : World} {base base' : Nat} {e : TypeId} {size : Nat} {v : Value} {n : Nat} {xs : List Value} (h : w.ownsRow base e size v n xs) (hb : base' ≤ base) : w.ownsRow base' e size v n xs := by
  refine ⟨h.1, ?_⟩
  rcases h.2 with h0 | ⟨g, cap, cur, hv, hg, hr⟩
  · exact Or.inl h0
  · exact Or.inr ⟨g, cap, cur, hv, by omega, hr⟩
theorem own_shape2 {w : World} {base : Nat} {e : TypeId} {v : Value} {n : Nat} {xs : List Value} (h : w.ownsRow base e 2 v n xs) : ∃ ao cap, v = .slice ao n cap := by
  rcases h.2 with ⟨rfl, h0⟩ | ⟨g, cap, _, rfl, _⟩
  · exact ⟨none, 0, by rw [h0]⟩
  · exact ⟨_, cap, rfl⟩
theorem own_apart {w : World} {b1 b2 : Nat} {e1 e2 : TypeId} {s1 s2 : Nat} {v1 v2 : Value} {n1 n2 : Nat} {x1 x2 : List Value} (h1 : w.ownsRow b1 e1 s1 v1 n1 x1) (h2 : w.ownsRow b2 e2 s2 v2 n2 x2) (hne : e1 ≠ e2) : ∀ k, v1.ownBlock = some k → k ∉ v2.ownBlock.toList := by
  intro k hk hm
  obtain ⟨_, c1, e⟩ := owns_cells h1 hk
  obtain ⟨_, c2, e'⟩ := owns_cells h2 (Option.mem_toList.1 hm)
  rw [e] at e'
  simp only [Option.some.injEq, Obj.cells.injEq] at e'
  exact hne e'.2.1
theorem far_cell {S : List Nat} {w w' : World} (hf : Fr S w w') {k o : Nat} {x : Value} (hc : w.cell? ⟨k, o, none⟩ = some x) (hl : k < w.heap.size) (hn : k ∉ S) : w'.cell? ⟨k, o, none⟩ = some x := (World.cell?_of_block (hf.block k hl hn)).trans hc
end Go.Proofs.YtembflnhhfliaaaGreatDoor
/- Numbers in a row; named: which versions are named. Conditions as each names them. -/
namespace Go.Proofs.YtembflnhhfliaaaGreatDoor
open Go.ChangeShapes Go.WideShapes Go.ChangeAt Go.RowKit Go.Lib
set_option linter.unusedVariables false
set_option linter.unusedSimpArgs false
/-- The slice at ao reads as the numbers ns. -/
structure IRs (w : World) (ao : Option Addr) (ns : List Int) : Prop where
  lies : 0 < ns.length → ∃ b off, ao = some ⟨b, off, none⟩ ∧ b < w.heap.size ∧ ∀ i, i < ns.length → w.cell? ⟨b, off + i, none⟩ = some (.int .i64 (ns.getD i 0))
  few : ns.length ≤ 17592186044416
theorem IRs.keepS {S : List Nat} {w w' : World} {ao : Option Addr} {ns : List Int} (h : IRs w ao ns) (hf : Fr S w w') (hn : 0 < ns.length → ∀ a, ao = some a → a.block ∉ S) : IRs w' ao ns := by
  refine ⟨fun h0 => ?_, h.few⟩
  obtain ⟨b, off, e, hb, hc⟩ := h.lies h0
  exact ⟨b, off, e, Nat.lt_of_lt_of_le hb hf.size, fun i hi => (World.cell?_of_block (hf.block b hb (hn h0 _ e))).trans (hc i hi)⟩
theorem IRs.keep {w w' : World} {ao : Option Addr} {ns : List Int} (h : IRs w ao ns) (hf : Fr [] w w') : IRs w' ao ns := h.keepS hf (by simp)
theorem itake_snoc (ns : List Int) (i : Nat) (h : i < ns.length) : ns.take (i + 1) = ns.take i ++ [ns.getD i 0] := by
  rw [List.take_add_one]
  simp [List.getD, h]
/-- Of each version: is its number one of these? -/
def mkB (vs : List Vn) (ns : List Int) : List Value := vs.map fun v => .bool (decide (v.num ∈ ns))
theorem mkB_length (vs : List Vn) (ns : List Int) : (mkB vs ns).length = vs.length := by simp [mkB]
theorem mkB_get (vs : List Vn) (ns : List Int) (i : Nat) (h : i < vs.length) : (mkB vs ns)[i]? = some (.bool (decide ((vs.getD i Vn.zero).num ∈ ns))) := by
  simp [mkB, List.getD, h]
theorem mkB_same {vs : List Vn} {ns : List Int} {n : Int} (h : ∀ y ∈ vs, y.num ≠ n) : mkB vs (ns ++ [n]) = mkB vs ns := by
  unfold mkB
  refine List.map_congr_left fun v hv => ?_
  have := h v hv
  congr 2
  simp [List.mem_append, this]
theorem mkB_step {vs : List Vn} (hR : Ris vs) {ns : List Int} {n : Int} {d : Nat} (hd : d < vs.length) (e : (vs.getD d Vn.zero).num = n) : mkB vs (ns ++ [n]) = (mkB vs ns).set d (.bool true) := by
  apply List.ext_getElem?
  intro i
  by_cases hi : i < vs.length
  · rw [mkB_get _ _ _ hi, List.getElem?_set, mkB_length, mkB_get _ _ _ hi]
    by_cases hid : d = i
    · subst hid
      rw [if_pos rfl, if_pos hd, e]
      simp
    · rw [if_neg hid]
      have hne : (vs.getD i Vn.zero).num ≠ n := by
        rw [← e]
        rcases Nat.lt_trichotomy i d with h | h | h
        · have := ris_get hR h hd; omega
        · omega
        · have := ris_get hR h hi; omega
      congr 2
      simp only [List.mem_append, List.mem_singleton, hne, or_false]
  · rw [List.getElem?_eq_none (by rw [mkB_length]; omega), List.getElem?_eq_none (by rw [List.length_set, mkB_length]; omega)]
theorem vrow_setCell {w : World} {b j : Nat} {cs : Array Value} {t : TypeId} (x : Value) (h : w.heap[b]? = some (.cells cs t (0, 0))) : (w.setCell ⟨b, j, none⟩ x).heap[b]? = some (.cells (cs.setIfInBounds j x) t (0, 0)) := by
  have hlt := lt_of_block h
  have h' : w.heap[b] = .cells cs t (0, 0) := by simpa [Array.getElem?_eq_getElem hlt] using h
  show (w.heap.modify b _)[b]? = _
  rw [Array.getElem?_eq_getElem (by simpa using hlt), Array.getElem_modify_self, h']
  rfl
/-- A row of bools of one's own. -/
structure BRow (w : World) (g L : Nat) (bs : List Value) : Prop where
  row : ∃ cur, w.heap[g]? = some (.cells cur 4 (0, 0)) ∧ cur.toList = bs
  len : bs.length = L
theorem BRow.keep {S : List Nat} {w w' : World} {g L : Nat} {bs : List Value} (h : BRow w g L bs) (hf : Fr S w w') (hn : g ∉ S) : BRow w' g L bs := by
  obtain ⟨cur, h1, h2⟩ := h.row
  exact ⟨⟨cur, hf.keep h1 hn, h2⟩, h.len⟩
theorem BRow.put {w : World} {g L : Nat} {bs : List Value} (h : BRow w g L bs) (j : Nat) (x : Value) : BRow (w.setCell ⟨g, j, none⟩ x) g L (bs.set j x) := by
  obtain ⟨cur, h1, h2⟩ := h.row
  exact ⟨⟨_, vrow_setCell x h1, by rw [Array.toList_setIfInBounds, h2]⟩, by rw [List.length_set]; exact h.len⟩
theorem BRow.cell {w : World} {g L : Nat} {bs : List Value} (h : BRow w g L bs) {i : Nat} {u : Value} (hu : bs[i]? = some u) : w.cell? ⟨g, i, none⟩ = some u := by
  obtain ⟨cur, h1, h2⟩ := h.row
  rw [cell_of_row _ _ _ _ _ _ h1, ← Array.getElem?_toList, h2]
  exact hu
theorem Tryz.infoBoolF : (Tryz.prog.info? 4).map (fun i => (i.zero, i.size, i.bytes)) = some (some (.bool false), 1, 1) := by kernel_rfl
theorem infoBool_parts : ∃ i, Tryz.prog.info? 4 = some i ∧ i.zero = some (.bool false) ∧ i.size = 1 ∧ i.bytes = 1 := by
  have h := Tryz.infoBoolF
  cases hi : Tryz.prog.info? 4 with
  | none => rw [hi] at h; cases h
  | some i =>
    rw [hi] at h
    simp only [Option.map_some, Option.some.injEq, Prod.mk.injEq] at h
    exact ⟨i, rfl, h.1, h.2.1, h.2.2⟩
theorem madeF (vs : List Vn) : (madeCells (Value.bool false).cells vs.length).toList = mkB vs [] := by
  apply List.ext_getElem
  · simp [madeCells, mkB]
  · intro i h1 h2
    simp [madeCells, mkB, Value.cells, Nat.mod_one]
end Go.Proofs.YtembflnhhfliaaaGreatDoor

/- Texts of this claim laid together, one behind the other: contracts and plain lemmas; conditions as each names them. -/
import Derived.Test.YtdojhkgnnbdfkaaGreatGp7
import Derived.Lib.SliceRun
import Derived.Deep.Cut
import Derived.Lib.AppendZerosOnto
import Derived.Maps.RangeWalk
import Derived.Deep.RegionHeld3
import Derived.Test.YtdojhkgnnbdfkaaGreatGp1
import Derived.Lib.Bytealg
import Derived.Sort.Walk0
import Derived.Maps.OwnOps
import Derived.Maps.OwnSet
import Derived.Maps.Views
/- May versions be: contract of Check; a part of a row in memory of its own: Clone, part; At and Collect. Conditions as each names them. -/
namespace Go.Proofs.YtdojhkgnnbdfkaaGreat
open Go.ChangeShapes Go.WideShapes Go.ChangeAt Go.RowKit Go.Lib
set_option linter.unusedVariables false
set_option linter.unusedSimpArgs false
def lastN (vs : List Vn) (i : Nat) : Int := if i = 0 then 0 else (vs.getD (i - 1) Vn.zero).num
theorem okV_snoc {a : List Vn} {x : Vn} : okV (a ++ [x]) ↔ okV a ∧ okX x ∧ ∀ y ∈ a, y.num < x.num := by
  unfold okV Ris
  rw [List.pairwise_append]
  simp only [List.mem_append, List.mem_singleton, List.pairwise_cons, List.not_mem_nil, false_implies, implies_true, List.Pairwise.nil, and_true, true_and, forall_eq]
  constructor
  · rintro ⟨h1, h2, h3⟩
    exact ⟨⟨fun y hy => h1 y (Or.inl hy), h2⟩, h1 x (Or.inr rfl), h3⟩
  · rintro ⟨⟨h1, h2⟩, h3, h4⟩
    exact ⟨fun y hy => by rcases hy with hy | hy; (exact h1 y hy); (rw [hy]; exact h3), h2, h4⟩
theorem okV_step {vs : List Vn} {i : Nat} (h : okV (vs.take i)) (hi : i < vs.length) :
    okV (vs.take (i + 1)) ↔ lastN vs i < (vs.getD i Vn.zero).num ∧ (vs.getD i Vn.zero).num ≤ 65536 ∧ (vs.getD i Vn.zero).val.size ≤ 1024 ∧ ((vs.getD i Vn.zero).drop = true → (vs.getD i Vn.zero).val = noS) := by
  rw [vtake_snoc vs i hi, okV_snoc]
  have hg : ∀ j, j < i → (vs.take i).getD j Vn.zero = vs.getD j Vn.zero := fun j hj => by simp [List.getD, List.getElem?_take_of_lt hj]
  have hl : (vs.take i).length = i := by simp; omega
  constructor
  · rintro ⟨_, h2, h3⟩
    refine ⟨?_, h2.2.1, h2.2.2.1, h2.2.2.2⟩
    unfold lastN
    split
    · have := h2.1; omega
    · have := h3 ((vs.take i).getD (i - 1) Vn.zero) (vgetD_mem _ _ (by omega))
      rwa [hg _ (by omega)] at this
  · rintro ⟨h1, h2, h3, h4⟩
    have key : ∀ j, j < i → (vs.getD j Vn.zero).num ≤ lastN vs i := by
      intro j hj
      unfold lastN
      rw [if_neg (by omega)]
      by_cases e : j = i - 1
      · subst e; exact Int.le_refl _
      · have := ris_get h.2 (show j < i - 1 by omega) (by omega)
        rw [hg _ (by omega), hg _ (by omega)] at this
        omega
    refine ⟨h, ⟨?_, h2, h3, h4⟩, ?_⟩
    · by_cases e : i = 0
      · unfold lastN at h1
        rw [if_pos e] at h1
        omega
      · have a := (h.1 _ (vgetD_mem _ 0 (by omega))).1
        rw [hg 0 (by omega)] at a
        have b := key 0 (by omega)
        omega
    · intro y hy
      obtain ⟨j, hj, e⟩ := List.mem_iff_getElem.1 hy
      have : y = vs.getD j Vn.zero := by
        rw [← hg j (by omega), ← e, List.getD, List.getElem?_eq_getElem hj]
        rfl
      rw [this]
      have := key j (by omega)
      omega
theorem CkT.bad {vs : List Vn} {c i : Nat} (h : CkT vs c) (hb : ¬ okV (vs.take (i + 1))) : c = 1 := by
  rcases h with ⟨_, h⟩ | ⟨h, _⟩
  · exact absurd (okV_sub h (List.take_sublist _ _)) hb
  · exact h
theorem lastN_succ (vs : List Vn) (i : Nat) : lastN vs (i + 1) = (vs.getD i Vn.zero).num := by unfold lastN; rw [if_neg (by omega), Nat.add_sub_cancel]
set_option maxHeartbeats 8000000 in
set_option maxRecDepth 100000 in
theorem vcheck_any (ao : Option Addr) (L cap c : Nat) (vs : List Vn) (w : World) (hV : VRs w ao vs) (hL : L = vs.length) (hc : CkT vs c) :
    Calls Tryz.prog 46 #[.slice ao L cap] w fun e w' => e = .returned (.int .i64 (c : Int)) ∧ Fr [] w w' := by
  have HL : Hid (L = vs.length) := hL
  have HC : Hid (CkT vs c) := hc
  have HV : Hid (VRs w ao vs) := hV
  have hLL : L ≤ 4398046511104 := by have := hV.few; omega
  clear hV hL hc
  go_enter Tryz.func46, Tryz.ntmps46
  go_wp2_with fail
  go_loop [3, 8] (fun ss ii => ∃ (i : Nat) (last : Int), ss = .int .i64 last ∧ ii = .int .i64 i ∧ i ≤ L ∧ Hid (last = lastN vs i ∧ okV (vs.take i))) (fun _ ii => L - (RowKit.intOf ii).toNat)
  case atStart => exact ⟨0, 0, rfl, rfl, Nat.zero_le _, ⟨by simp [lastN], okV_sub okV_nil (by simp)⟩⟩
  case round =>
    obtain ⟨i, last, rfl, rfl, hiL, HI⟩ := hrel
    by_cases hi : i < L
    · have hi' : i < vs.length := by rw [← HL.out]; exact hi
      obtain ⟨b, off, rfl, hbl, hat⟩ := HV.out.lies (by omega)
      obtain ⟨c0, c1, c2⟩ := hat i hi'
      have hE := HV.out.each _ (vgetD_mem vs i hi')
      have hst := okV_step HI.out.2 hi'
      rw [← HI.out.1] at hst
      have hls := lastN_succ vs i
      obtain ⟨⟨n, val, drop⟩, hx⟩ : ∃ x, x = vs.getD i Vn.zero := ⟨_, rfl⟩
      rw [← hx] at c0 c1 c2 hE hst hls
      simp only at c0 c1 c2 hst hls
      have hvz : val.size ≤ 140737488355328 := hE.v
      have HS : Hid _ := hst
      have HLs : Hid (lastN vs (i + 1) = n) := hls
      clear hat hst hls hx hE
      by_cases h1 : n ≤ last
      · obtain rfl : c = 1 := HC.out.bad (i := i) (fun h => by have := (HS.out.1 h).1; omega)
        go_wp2
        go_ret
        exact ⟨rfl, Fr.refl _ _⟩
      · by_cases h2 : 65536 < n
        · obtain rfl : c = 1 := HC.out.bad (i := i) (fun h => by have := (HS.out.1 h).2.1; omega)
          have h1' : last < n := by omega
          clear h1
          go_wp2
          go_ret
          exact ⟨rfl, Fr.refl _ _⟩
        · have h1' : last < n := by omega
          have h2' : n ≤ 65536 := by omega
          clear h1 h2
          by_cases h3 : 1024 < val.size
          · obtain rfl : c = 1 := HC.out.bad (i := i) (fun h => by have := (HS.out.1 h).2.2.1; omega)
            have h3' : (1024 : Int) < val.size := by omega
            go_wp2
            go_ret
            exact ⟨rfl, Fr.refl _ _⟩
          · have h3' : (val.size : Int) ≤ 1024 := by omega
            clear h3
            cases drop with
            | false =>
              have HN : Hid (okV (vs.take (i + 1))) := HS.out.2 ⟨h1', h2', by omega, fun h => by cases h⟩
              go_wp2
              refine ⟨⟨i + 1, n, rfl, by simp, by omega, ⟨HLs.out.symm, HN.out⟩⟩, ?_⟩
              simp [RowKit.intOf]
              omega
            | true =>
              by_cases h4 : val.toList = []
              · have h5 : val.toList.isEmpty = true := by rw [h4]; rfl
                have HN : Hid (okV (vs.take (i + 1))) := HS.out.2 ⟨h1', h2', by omega, fun _ => (noS_iff _).1 ((tl_nil _).1 h4)⟩
                go_wp2
                refine ⟨⟨i + 1, n, rfl, by simp, by omega, ⟨HLs.out.symm, HN.out⟩⟩, ?_⟩
                simp [RowKit.intOf]
                omega
              · obtain rfl : c = 1 := HC.out.bad (i := i) (fun h => h4 ((tl_nil _).2 ((noS_iff _).2 ((HS.out.1 h).2.2.2 rfl))))
                have h5 : val.toList.isEmpty = false := by
                  cases hq : val.toList with
                  | nil => exact absurd hq h4
                  | cons a r => rfl
                go_wp2
                go_ret
                exact ⟨rfl, Fr.refl _ _⟩
    · obtain rfl : c = 0 := by
        have hok := HI.out.2
        rw [List.take_of_length_le (by have := HL.out; omega)] at hok
        exact HC.out.one (CkT.of hok)
      go_wp2
      go_ret
      exact ⟨rfl, Fr.refl _ _⟩
end Go.Proofs.YtdojhkgnnbdfkaaGreat
/- A part of a row in memory of its own (slices.Clone, part); At; Collect. Conditions as each names them. -/
namespace Go.Proofs.YtdojhkgnnbdfkaaGreat
open Go.ChangeShapes Go.WideShapes Go.ChangeAt Go.RowKit Go.Lib
set_option linter.unusedVariables false
set_option linter.unusedSimpArgs false
theorem Tryz.undVnsE : Tryz.prog.underlying 56 = some (.slice (Tryz.prog.elem 56)) := by kernel_rfl
theorem Tryz.elemVns : Tryz.prog.elem 56 = 74 := by kernel_rfl
theorem Tryz.sizeOfVn (w : World) : (Go.sizeOf 74).run Tryz.prog w = .ok 3 w := by kernel_rfl
theorem Tryz.infoVn : (Tryz.prog.info? 74).map (fun i => (i.zero, i.size, i.bytes)) = some (some (.agg #[.int .i64 0, .string ⟨#[]⟩, .bool false]), 3, 32) := by kernel_rfl
theorem infoVn_parts : ∃ i, Tryz.prog.info? 74 = some i ∧ i.zero = some (.agg #[.int .i64 0, .string ⟨#[]⟩, .bool false]) ∧ i.size = 3 ∧ i.bytes = 32 := by
  have h := Tryz.infoVn
  cases hi : Tryz.prog.info? 74 with
  | none => rw [hi] at h; cases h
  | some i =>
    rw [hi] at h
    simp only [Option.map_some, Option.some.injEq, Prod.mk.injEq] at h
    exact ⟨i, rfl, h.1, h.2.1, h.2.2⟩
theorem slV_lh (ro : Option Addr) (N rc i j : Nat) (h1 : i ≤ j) (h2 : j ≤ rc) (w : World) : (Instr.sliceAt 56 (.slice ro N rc) (some (.int .i64 (i : Int))) (some (.int .i64 (j : Int))) none).run Tryz.prog w = .ok (.slice (fromV ro rc i) (j - i) (rc - i)) w := by
  rw [run_sliceAt_slice w 56 _ _ _ _ Tryz.undVnsE, run_slice_lh w 56 _ _ _ Tryz.undVnsE .i64 .i64 (i : Int) (j : Int) (by omega) (by omega) (by omega), Tryz.elemVns, Tryz.sizeOfVn]
  simp [Result.andThen, sliced, fromV]
theorem slV_h (ro : Option Addr) (N rc i : Nat) (h1 : i ≤ rc) (w : World) : (Instr.sliceAt 56 (.slice ro N rc) none (some (.int .i64 (i : Int))) none).run Tryz.prog w = .ok (.slice ro i rc) w := by
  rw [run_sliceAt_slice w 56 _ _ _ _ Tryz.undVnsE, run_slice_h w 56 _ _ _ Tryz.undVnsE .i64 (i : Int) (by omega) (by omega), Tryz.elemVns, Tryz.sizeOfVn]
  cases ro <;> simp [Result.andThen, sliced, Addr.add]
theorem slV_l (ro : Option Addr) (N rc K : Nat) (h1 : K ≤ N) (w : World) : (Instr.sliceAt 56 (.slice ro N rc) (some (.int .i64 (K : Int))) none none).run Tryz.prog w = .ok (.slice (fromV ro rc K) (N - K) (rc - K)) w := by
  rw [run_sliceAt_slice w 56 _ _ _ _ Tryz.undVnsE, run_slice_l w 56 _ _ _ Tryz.undVnsE .i64 (K : Int) (by omega) (by omega), Tryz.elemVns, Tryz.sizeOfVn]
  simp [Result.andThen, sliced, fromV]
theorem slV_hm (ro : Option Addr) (N rc i : Nat) (k l : Int) (hk : k = (i : Int)) (hl : l = (i : Int)) (h1 : i ≤ rc) (w : World) : (Instr.sliceAt 56 (.slice ro N rc) none (some (.int .i64 k)) (some (.int .i64 l))).run Tryz.prog w = .ok (.slice ro i i) w := by
  subst hk hl
  rw [run_sliceAt_slice w 56 _ _ _ _ Tryz.undVnsE, run_slice_hm w 56 _ _ _ Tryz.undVnsE .i64 .i64 (i : Int) (i : Int) (by omega) (by omega) (by omega), Tryz.elemVns, Tryz.sizeOfVn]
  cases ro <;> simp [Result.andThen, sliced, Addr.add]
/-- A row of versions of one's own, made since a world; its spare room may be cut off. -/
structure VOut (w w' : World) (ro : Option Addr) (N rc : Nat) (vs : List Vn) : Prop where
  own : ∃ rc', rc ≤ rc' ∧ w'.ownsRow w.heap.size 74 3 (.slice ro N rc') N (vnsC vs)
  len : N = vs.length
  cap : N ≤ rc
theorem VOut.later {w w1 w2 : World} {ro : Option Addr} {N rc : Nat} {vs : List Vn} (h : VOut w1 w2 ro N rc vs) (hs : w.heap.size ≤ w1.heap.size) : VOut w w2 ro N rc vs := by
  obtain ⟨rc', hr, ho⟩ := h.own
  refine ⟨⟨rc', hr, ho.1, ?_⟩, h.len, h.cap⟩
  rcases ho.2 with hh | ⟨g, cap, cur, e, hb, hgg, rest⟩
  · exact .inl hh
  · exact .inr ⟨g, cap, cur, e, by omega, hgg, rest⟩
theorem VOut.rs {w w' : World} {ro : Option Addr} {N rc : Nat} {vs : List Vn} (h : VOut w w' ro N rc vs) (hl : vs.length ≤ 4398046511104) (he : ∀ x ∈ vs, VEach x) : VRs w' ro vs := by
  obtain ⟨rc', hr, ho⟩ := h.own
  exact VRs.of_own ho h.len hl he
theorem own_cap {w : World} {base : Nat} {e : TypeId} {size : Nat} {ro : Option Addr} {N rc : Nat} {xs : List Value} (h : w.ownsRow base e size (.slice ro N rc) N xs) : N ≤ rc := by
  rcases h.2 with ⟨hv, hn⟩ | ⟨g, cap, cur, hv, _, _, hnc, _⟩
  · cases hv; omega
  · cases hv; exact hnc
theorem VOut.of {w w' : World} {ro : Option Addr} {N rc : Nat} {vs : List Vn} (h : w'.ownsRow w.heap.size 74 3 (.slice ro N rc) N (vnsC vs)) (hl : N = vs.length) : VOut w w' ro N rc vs := ⟨⟨rc, Nat.le_refl _, h⟩, hl, own_cap h⟩
theorem VOut.cut {w w' : World} {ro : Option Addr} {N rc : Nat} {vs : List Vn} (h : VOut w w' ro N rc vs) : VOut w w' ro N N vs := by
  obtain ⟨rc', hr, ho⟩ := h.own
  exact ⟨⟨rc', Nat.le_trans h.cap hr, ho⟩, h.len, Nat.le_refl _⟩
set_option maxHeartbeats 2000000 in
set_option maxRecDepth 100000 in
theorem clone_any (ao : Option Addr) (L cap : Nat) (vs : List Vn) (w : World) (hV : VRs w ao vs) (hL : L = vs.length) :
    Calls Tryz.prog 47 #[.slice ao L cap] w fun e w' => ∃ ro rc, e = .returned (.slice ro L rc) ∧ VOut w w' ro L rc vs ∧ Fr [] w w' := by
  have q22 : ∀ (w : World) (a : Option Addr) (n c n' c' : Nat), (binOp .eql 56 (.slice a n c) (.slice none n' c')).run Tryz.prog w = .ok (.bool a.isNone) w := fun w a n c n' c' => Lib.run_eql_slice_nil w _ _ a n c n' c' Tryz.undVns'
  cases ao with
  | none =>
    obtain rfl : L = 0 := by
      rcases Nat.eq_zero_or_pos vs.length with h | h
      · omega
      · obtain ⟨b, off, e, _⟩ := hV.lies h
        cases e
    obtain rfl : vs = [] := List.eq_nil_of_length_eq_zero hL.symm
    clear hV hL
    go_enter Tryz.func47, Tryz.ntmps47
    go_wp2
    go_ret
    exact ⟨none, 0, rfl, VOut.of ⟨rfl, .inl ⟨rfl, rfl⟩⟩ rfl, Fr.refl _ _⟩
  | some a =>
    obtain ⟨i0, hi, hz0, hz1, hz2⟩ := infoVn_parts
    have hc : Hid (∀ j u, (vnsC vs)[j]? = some u → w.cell? (a.add j) = some u) := by
      intro j u hu
      obtain ⟨b, off, e, hc⟩ := hV.cells hu
      cases e
      rw [Addr.add_lit]
      exact hc
    have hf := hV.few
    have HL : Hid (L = vs.length) := hL
    have HF : Hid (vs.length ≤ 4398046511104) := hf
    clear hV hL hf
    go_enter Tryz.func47, Tryz.ntmps47
    go_wp2_with (at_builtin; refine wpList_append_own _ rfl _ _ 56 rfl w.heap.size 74 i0 (.agg #[.int .i64 0, .string ⟨#[]⟩, .bool false]) 3 32 Tryz.undVns' hi hz0 hz1 hz2 rfl (by decide) _ _ _ rfl (World.ownsRow_made w #[] 0 (Nat.le_refl _) (Nat.zero_le _) (by simp)) a L cap (vnsC vs) rfl ?qc1 ?qc2 ?qc3 ?qc4 ?qc5 ?qc6 ?_)
    case qc1 => rw [vnsC_length, HL.out]
    case qc2 =>
      intro j u hj
      exact Lib.cell?_alloc_some _ (hc.out j u hj)
    case qc3 => exact vnsC_oneCell vs
    case qc4 => rw [Nat.zero_add]; have := HL.out; have := HF.out; simp only [maxLen]; omega
    case qc5 => rw [Nat.zero_add]; have := HL.out; have := HF.out; omega
    case qc6 => simp
    intro v' w1 hown hgrow hnil
    obtain ⟨ro, rc, rfl⟩ : ∃ ro rc, v' = .slice ro L rc := by
      rcases hown.2 with ⟨hh, h0⟩ | ⟨g, cap', _, hh, _⟩
      · exact ⟨none, 0, by rw [hh]; have : L = 0 := by omega
                           rw [this]⟩
      · exact ⟨_, cap', by rw [hh]⟩
    have HO : Hid (VOut w w1 ro L rc vs ∧ Fr [] w w1) := ⟨VOut.of (by simpa using hown) HL.out, (Fr.alloc [] w _).on (Fr.grown (S := [w.heap.size]) hgrow (by intro k hk _; simp [Value.ownBlock] at hk; simp [hk])) (by simp)⟩
    clear hown hgrow hnil
    go_wp2
    go_ret
    exact ⟨ro, rc, rfl, HO.out⟩
/-- What Collect tells. -/
def CoTold (vs : List Vn) (k : Int) (us : List Vn) (n c : Nat) : Prop := (c = 1 ∧ ¬ okV vs ∧ us = [] ∧ n = 0) ∨ (c = 0 ∧ okV vs ∧ ∃ d, UpTo vs k d ∧ n = d - 1 ∧ us = vs.drop n)
end Go.Proofs.YtdojhkgnnbdfkaaGreat
/- At; the statements' own helpers on versions: SameVersions, VersionsSize. Conditions as each names them. -/
namespace Go.Proofs.YtdojhkgnnbdfkaaGreat
open Go.ChangeShapes Go.WideShapes Go.ChangeAt Go.RowKit Go.Lib
set_option linter.unusedVariables false
set_option linter.unusedSimpArgs false
theorem results_ctt {fn : Func} {p q r : Tmp} {t : TypeId} (h : fn.results = #[.cell p t, .tmp q, .tmp r]) (tmps : Array Value) (P : Program) (w : World) :
    (results fn tmps).run P w = ((asAddr (tmps.getD p undef)).run P w).andThen fun a w₁ => ((loadVar t a).run P w₁).andThen fun x w₂ => .ok (.tuple #[x, tmps.getD q undef, tmps.getD r undef]) w₂ := by
  simp only [results, h]
  simp [Sem.run_bind, Result.andThen]
theorem vrow3 {w : World} {b : Nat} {t : TypeId} {x0 x1 x2 : Value} (h : w.heap[b]? = some (.cells #[x0, x1, x2] t (0, 0))) (a0 a1 a2 : Value) : (((w.setCell ⟨b, 0, none⟩ a0).setCell ⟨b, 1, none⟩ a1).setCell ⟨b, 2, none⟩ a2).heap[b]? = some (.cells #[a0, a1, a2] t (0, 0)) := by
  have k : ∀ (W : World) (cs : Array Value) (o : Nat) (v : Value), W.heap[b]? = some (.cells cs t (0, 0)) → (W.setCell ⟨b, o, none⟩ v).heap[b]? = some (.cells (cs.setIfInBounds o v) t (0, 0)) := by
    intro W cs o v hW
    obtain ⟨hlt, hk⟩ := Array.getElem?_eq_some_iff.1 hW
    show (W.heap.modify b _)[b]? = _
    rw [Array.getElem?_eq_getElem (by rw [Array.size_modify]; exact hlt), Array.getElem_modify_self, hk]
    rfl
  have := k _ _ 2 a2 (k _ _ 1 a1 (k _ _ 0 a0 h))
  simpa using this
theorem vfrozen {w : World} {b : Nat} {cs : Array Value} {t : TypeId} (h : w.heap[b]? = some (.cells cs t (0, 0))) (j : Nat) : w.frozen? ⟨b, j, none⟩ = false := by simp [World.frozen?, h]
/-- What At tells. -/
def AtTold (vs : List Vn) (k : Int) (x : Vn) (ok : Bool) (c : Nat) : Prop := (c = 1 ∧ ¬ okV vs ∧ x = Vn.zero ∧ ok = false) ∨ (c = 0 ∧ okV vs ∧ ∃ d, UpTo vs k d ∧ x = atV vs d ∧ ok = decide (0 < d))
theorem vsame_upto (xs ys : List Vn) (hl : xs.length = ys.length) (h : ∀ j, j < xs.length → xs.getD j Vn.zero = ys.getD j Vn.zero) : xs = ys := by
  apply List.ext_getElem hl
  intro i h1 h2
  have := h i h1
  simpa [List.getD, h1, h2] using this
end Go.Proofs.YtdojhkgnnbdfkaaGreat
/- Appends of versions; slices.Grow of nothing; slices.Concat of three; Put. Conditions as each names them. -/
namespace Go.Proofs.YtdojhkgnnbdfkaaGreat
open Go.ChangeShapes Go.WideShapes Go.ChangeAt Go.RowKit Go.Lib
set_option linter.unusedVariables false
set_option linter.unusedSimpArgs false
theorem vrun_append_none {P : Program} (w : World) (t ty e : TypeId) (i : TypeInfo) (size c base : Nat) (ht : P.underlying t = some (.slice e)) (hi : P.info? e = some i)
    (v : Value) (n : Nat) (xs : List Value) (hown : w.ownsRow base e size v n xs) :
    (Builtin.append_ #[t, t] ty #[v, .slice none 0 c]).run P w = .ok v w := by
  rcases hown.2 with ⟨rfl, rfl⟩ | ⟨g, cap, cur, rfl, _, _, hnc, _⟩
  · simp [Builtin.append_, run_underlying ht, sizeOf, typeInfo, hi, Builtin.lenOf, Builtin.firstCells]
  · simp [Builtin.append_, run_underlying ht, sizeOf, typeInfo, hi, Builtin.lenOf, Builtin.firstCells, hnc, storeCells]
theorem own_shapeV {w : World} {base : Nat} {e : TypeId} {size : Nat} {v : Value} {n : Nat} {xs : List Value} (h : w.ownsRow base e size v n xs) : ∃ bo cap, v = .slice bo n cap := by
  rcases h.2 with ⟨hv, hn⟩ | ⟨g, cap, cur, hv, _⟩
  · exact ⟨none, 0, by rw [hv, hn]⟩
  · exact ⟨_, cap, hv⟩
/-- Versions of a row, behind a row of one's own. -/
theorem wpList_appV (w : World) {ops : Array Oper} {rest : List Oper} {o : Oper} {a : Act} {Q : Exit → Act → World → Prop} (hgd : o.guard = none) (s x : Operand)
    (ho : o.op = .call { callee := .builtin .append, args := #[s, x], argTypes := #[56, 56] })
    (base : Nat) (v : Value) (qs : List Vn) (hs : a.eval s = v) (hown : w.ownsRow base 74 3 v qs.length (vnsC qs))
    (xo : Option Addr) (m c : Nat) (rs : List Vn) (hx : a.eval x = .slice xo m c) (hB : VRs w xo rs) (hm : m = rs.length) (hn : qs.length + m < 2199023255552) (hbase : base ≤ w.heap.size)
    (h : ∀ bo n' cap' w', n' = (qs ++ rs).length → w'.ownsRow base 74 3 (.slice bo n' cap') n' (vnsC (qs ++ rs)) → Fr v.ownBlock.toList w w' → wpList Tryz.prog ops Q rest (a.put o.dst (.slice bo n' cap')) w') : wpList Tryz.prog ops Q (o :: rest) a w := by
  obtain ⟨i0, hi, hz0, hz1, hz2⟩ := infoVn_parts
  have hl : (vnsC rs).length = m * 3 := by rw [vnsC_length, hm]
  have hmx : 2199023255552 ≤ maxLen := by unfold maxLen; omega
  cases xo with
  | none =>
    refine wpList_plain hgd fun K hK => ?_
    have hrs : rs = [] := by
      rcases Nat.eq_zero_or_pos rs.length with h0 | h0
      · exact List.eq_nil_of_length_eq_zero h0
      · obtain ⟨_, _, e, _⟩ := hB.lies h0
        cases e
    subst hrs
    obtain rfl : m = 0 := hm
    have hr := vrun_append_none (P := Tryz.prog) w 56 o.type 74 i0 3 c base Tryz.undVns' hi v qs.length (vnsC qs) hown
    obtain ⟨bo, cap', rfl⟩ := own_shapeV hown
    unfold Oper.wp execOp
    simp only [ho, resolve, invoke, builtin, Sem.run_bind, Sem.run_pure, Result.andThen_ok, List.map_toArray, List.map_cons, List.map_nil, hs, hx, hr]
    exact hK _ _ (h bo _ cap' w (by simp) (by simpa using hown) (Fr.refl _ _))
  | some ad =>
    have hlies : ∀ j u, (vnsC rs)[j]? = some u → w.cell? (ad.add j) = some u := by
      intro j u hu
      obtain ⟨b, off, e, hc⟩ := hB.cells hu
      cases e
      rw [Addr.add_lit]
      exact hc
    refine wpList_append_own w hgd s x 56 ho base 74 i0 _ 3 32 Tryz.undVns' hi hz0 hz1 hz2 rfl (by decide) v qs.length (vnsC qs) hs hown ad m c (vnsC rs) hx hl hlies (vnsC_oneCell rs) (by omega) (by omega) hbase ?_
    intro v' w' hown' hg' _
    have hlen : (qs ++ rs).length = qs.length + m := by rw [List.length_append, hm]
    obtain ⟨bo, cap', rfl⟩ := own_shapeV hown'
    exact h bo _ cap' w' hlen.symm (by rw [vnsC_append]; exact hown') (Fr.grown hg' (fun y hy _ => Option.mem_toList.2 hy))
end Go.Proofs.YtdojhkgnnbdfkaaGreat
/- slices.Concat of three rows of versions. Conditions as named. -/
namespace Go.Proofs.YtdojhkgnnbdfkaaGreat
open Go.ChangeShapes Go.WideShapes Go.ChangeAt Go.RowKit Go.Lib
set_option linter.unusedVariables false
set_option linter.unusedSimpArgs false
theorem own_blocks {w : World} {base : Nat} {e : TypeId} {size : Nat} {v : Value} {n : Nat} {xs : List Value} (h : w.ownsRow base e size v n xs) : ∀ k ∈ v.ownBlock.toList, base ≤ k := by
  intro k hk
  rcases h.2 with ⟨rfl, _⟩ | ⟨g, cap, cur, rfl, hb, _⟩
  · simp [Value.ownBlock] at hk
  · simp [Value.ownBlock] at hk
    omega
end Go.Proofs.YtdojhkgnnbdfkaaGreat
/- Put. Conditions as named. -/
namespace Go.Proofs.YtdojhkgnnbdfkaaGreat
open Go.ChangeShapes Go.WideShapes Go.ChangeAt Go.RowKit Go.Lib
set_option linter.unusedVariables false
set_option linter.unusedSimpArgs false
theorem okV_one (v : Vn) : okV [v] ↔ okX v := by
  constructor
  · intro h; exact h.1 v (by simp)
  · intro h; exact ⟨fun x hx => by rw [List.mem_singleton] at hx; rw [hx]; exact h, List.pairwise_singleton _ _⟩
/-- Is that number there already? -/
def There (vs : List Vn) (v : Vn) (d : Nat) : Prop := 0 < d ∧ (vs.getD (d - 1) Vn.zero).num = v.num
/-- What Put tells. -/
def PuTold (vs : List Vn) (v : Vn) (us : List Vn) (ok : Bool) (c : Nat) : Prop := (c = 1 ∧ ¬ (okV vs ∧ okX v) ∧ us = [] ∧ ok = false) ∨ (c = 0 ∧ okV vs ∧ okX v ∧ ∃ d, UpTo vs v.num d ∧ ((There vs v d ∧ us = vs ∧ ok = false) ∨ (¬ There vs v d ∧ us = vs.take d ++ [v] ++ vs.drop d ∧ ok = true)))
end Go.Proofs.YtdojhkgnnbdfkaaGreat
/- The order of keys, byte by byte: strict and total; what comparing tells. No conditions. -/
namespace Go.Proofs.YtdojhkgnnbdfkaaGreat
set_option linter.unusedVariables false

theorem bl_irrefl : ∀ a : List UInt8, Op.bytesLess a a = false
  | [] => rfl
  | x :: xs => by simp [Op.bytesLess, bl_irrefl xs]
theorem bl_cmp : ∀ a b : List UInt8, (Lib.compareBytes a b < 0 ↔ Op.bytesLess a b = true)
  | [], [] => by simp [Lib.compareBytes, Op.bytesLess]
  | [], _ :: _ => by simp [Lib.compareBytes, Op.bytesLess]
  | _ :: _, [] => by simp [Lib.compareBytes, Op.bytesLess]
  | x :: xs, y :: ys => by
    have ih := bl_cmp xs ys
    unfold Lib.compareBytes Op.bytesLess
    by_cases h1 : x < y
    · simp [h1]
    · by_cases h2 : y < x
      · simp [h1, h2]
        intro e
        subst e
        exact absurd h2 h1
      · simp [h1, h2]
        have e : x = y := UInt8.le_antisymm (UInt8.not_lt.1 h2) (UInt8.not_lt.1 h1)
        simp [e, ih]
theorem bl_lt (a b : List UInt8) : Op.bytesLess a b = true ↔ a < b := by rw [bytesLess_eq]; simp
theorem bl_trans {a b c : List UInt8} (h1 : Op.bytesLess a b = true) (h2 : Op.bytesLess b c = true) : Op.bytesLess a c = true := by
  rw [bl_lt] at *
  exact List.lt_trans h1 h2
theorem bl_ntrans {a b c : List UInt8} (h1 : Op.bytesLess a b = false) (h2 : Op.bytesLess b c = false) : Op.bytesLess a c = false := by
  rw [bytesLess_eq] at *
  simp only [decide_eq_false_iff_not, List.not_lt] at *
  exact List.le_trans h2 h1
theorem bl_eq {a b : List UInt8} (h1 : Op.bytesLess a b = false) (h2 : Op.bytesLess b a = false) : a = b := by
  rw [bytesLess_eq] at *
  simp only [decide_eq_false_iff_not, List.not_lt] at *
  exact List.le_antisymm h2 h1
theorem bl_asymm {a b : List UInt8} (h1 : Op.bytesLess a b = true) : Op.bytesLess b a = false := by
  cases h : Op.bytesLess b a with
  | false => rfl
  | true => have := bl_trans h1 h; rw [bl_irrefl] at this; cases this
end Go.Proofs.YtdojhkgnnbdfkaaGreat
/- Rows of one's own, keys as a map reads them. Plain lemmas. -/
namespace Go.Proofs.YtdojhkgnnbdfkaaGreat
open Go.ChangeShapes Go.WideShapes Go.ChangeAt Go.RowKit Go.Lib Go.Maps
set_option linter.unusedVariables false
set_option linter.unusedSimpArgs false
theorem bytes_eq {a b : ByteArray} (h : a.data.toList = b.data.toList) : a = b := by
  cases a; cases b
  simp only at h
  congr
  exact Array.toList_inj.1 h
def kl7 (s : ByteArray) : Lit := .string s.data.toList
theorem kl7_inj {s t : ByteArray} (h : kl7 s = kl7 t) : s = t := bytes_eq (by simpa [kl7] using h)
theorem owns_keepB {S : List Nat} {w w' : World} {base : Nat} {e : TypeId} {size : Nat} {v : Value} {n : Nat} {xs : List Value} (h : w.ownsRow base e size v n xs) (hf : Fr S w w') (hn : ∀ k, v.ownBlock = some k → k ∉ S) : w'.ownsRow base e size v n xs := by
  refine ⟨h.1, ?_⟩
  rcases h.2 with h0 | ⟨g, cap, cur, hv, hb, hg, hr⟩
  · exact Or.inl h0
  · exact Or.inr ⟨g, cap, cur, hv, hb, hf.keep hg (hn g (by rw [hv]; rfl)), hr⟩
theorem owns_cells {w : World} {base : Nat} {e : TypeId} {size : Nat} {v : Value} {n : Nat} {xs : List Value} (h : w.ownsRow base e size v n xs) {k : Nat} (hk : v.ownBlock = some k) : base ≤ k ∧ ∃ cur, w.heap[k]? = some (.cells cur e (0, 0)) := by
  rcases h.2 with ⟨rfl, _⟩ | ⟨g, cap, cur, rfl, hb, hg, hr⟩
  · simp [Value.ownBlock] at hk
  · simp [Value.ownBlock] at hk
    subst hk
    exact ⟨hb, cur, hg⟩
theorem box_set {w : World} {b : Nat} {t : TypeId} {v : Value} (h : w.heap[b]? = some (.cells #[v] t (0, 0))) (u : Value) : (w.setCell ⟨b, 0, none⟩ u).heap[b]? = some (.cells #[u] t (0, 0)) := by
  obtain ⟨hlt, hk⟩ := Array.getElem?_eq_some_iff.1 h
  show (w.heap.modify b _)[b]? = _
  rw [Array.getElem?_eq_getElem (by rw [Array.size_modify]; exact hlt), Array.getElem_modify_self, hk]
  rfl
theorem own_base {w : World} {base base' : Nat} {e : TypeId} {size : Nat} {v : Value} {n : Nat} {xs : List Value} (h : w.ownsRow base e size v n xs) (hb : base' ≤ base) : w.ownsRow base' e size v n xs := by
  refine ⟨h.1, ?_⟩
  rcases h.2 with h0 | ⟨g, cap, cur, hv, hg, hr⟩
  · exact Or.inl h0
  · exact Or.inr ⟨g, cap, cur, hv, by omega, hr⟩
theorem own_shape2 {w : World} {base : Nat} {e : TypeId} {v : Value} {n : Nat} {xs : List Value} (h : w.ownsRow base e 2 v n xs) : ∃ ao cap, v = .slice ao n cap := by
  rcases h.2 with ⟨rfl, h0⟩ | ⟨g, cap, _, rfl, _⟩
  · exact ⟨none, 0, by rw [h0]⟩
  · exact ⟨_, cap, rfl⟩
theorem own_apart {w : World} {b1 b2 : Nat} {e1 e2 : TypeId} {s1 s2 : Nat} {v1 v2 : Value} {n1 n2 : Nat} {x1 x2 : List Value} (h1 : w.ownsRow b1 e1 s1 v1 n1 x1) (h2 : w.ownsRow b2 e2 s2 v2 n2 x2) (hne : e1 ≠ e2) : ∀ k, v1.ownBlock = some k → k ∉ v2.ownBlock.toList := by
  intro k hk hm
  obtain ⟨_, c1, e⟩ := owns_cells h1 hk
  obtain ⟨_, c2, e'⟩ := owns_cells h2 (Option.mem_toList.1 hm)
  rw [e] at e'
  simp only [Option.some.injEq, Obj.cells.injEq] at e'
  exact hne e'.2.1
theorem far_cell {S : List Nat} {w w' : World} (hf : Fr S w w') {k o : Nat} {x : Value} (hc : w.cell? ⟨k, o, none⟩ = some x) (hl : k < w.heap.size) (hn : k ∉ S) : w'.cell? ⟨k, o, none⟩ = some x := (World.cell?_of_block (hf.block k hl hn)).trans hc
end Go.Proofs.YtdojhkgnnbdfkaaGreat

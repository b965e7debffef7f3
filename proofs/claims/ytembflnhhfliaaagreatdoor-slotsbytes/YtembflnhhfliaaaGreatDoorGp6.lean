/- Contracts and plain lemmas of this claim. -/
import Derived.Test.YtembflnhhfliaaaGreatDoorGp5
import Derived.Lib.SliceRun
import Derived.Deep.Cut
import Derived.Lib.AppendZerosOnto
import Derived.Maps.RangeWalk
import Derived.Deep.RegionHeld3
import Derived.Test.YtembflnhhfliaaaGreatDoorGp1
import Derived.Lib.Bytealg
import Derived.Sort.Walk0
import Derived.Maps.OwnOps
import Derived.Maps.OwnSet
import Derived.Maps.Views
import Derived.OwnWalk
set_option linter.unusedSimpArgs false
set_option linter.unusedVariables false
set_option maxHeartbeats 8000000
set_option maxRecDepth 100000
namespace Go.Proofs.YtembflnhhfliaaaGreatDoor
open Go.ChangeShapes Go.WideShapes Go.ChangeAt Go.RowKit Go.Lib
def zdo (vs : List Vn) (i : Nat) : Int := if i = 0 then 0 else (vs.getD (i - 1) Vn.zero).num
theorem zmw {a : List Vn} {x : Vn} : okV (a ++ [x]) ↔ okV a /\ okX x /\ ∀ y ∈ a, y.num < x.num := by
  unfold okV Ris
  rw [List.pairwise_append]
  simp only [List.mem_append, List.mem_singleton, List.pairwise_cons, List.not_mem_nil, false_implies, implies_true, List.Pairwise.nil, and_true, true_and, forall_eq]
  constructor
  · rintro ⟨h1, h2, h3⟩
    exact ⟨⟨fun y hy => h1 y (Or.inl hy), h2⟩, h1 x (Or.inr rfl), h3⟩
  · rintro ⟨⟨h1, h2⟩, h3, h4⟩
    exact ⟨fun y hy => by rcases hy with hy | hy; (exact h1 y hy); (rw [hy]; exact h3), h2, h4⟩
theorem zvw {vs : List Vn} {i : Nat} (h : okV (vs.take i)) (hi : i < vs.length) :
    okV (vs.take (i + 1)) ↔ zdo vs i < (vs.getD i Vn.zero).num /\ (vs.getD i Vn.zero).num <= 65536 /\ (vs.getD i Vn.zero).val.size <= 1024 /\ ((vs.getD i Vn.zero).drop = true -> (vs.getD i Vn.zero).val = noS) := by
  rw [zcf vs i hi, zmw]
  have hg : ∀ j, j < i -> (vs.take i).getD j Vn.zero = vs.getD j Vn.zero := fun j hj => by simp [List.getD, List.getElem?_take_of_lt hj]
  have hl : (vs.take i).length = i := by simp; omega
  constructor
  · rintro ⟨_, h2, h3⟩
    refine ⟨?_, h2.2.1, h2.2.2.1, h2.2.2.2⟩
    unfold zdo
    split
    · have := h2.1; omega
    · have := h3 ((vs.take i).getD (i - 1) Vn.zero) (zbu _ _ (by omega))
      rwa [hg _ (by omega)] at this
  · rintro ⟨h1, h2, h3, h4⟩
    have key : ∀ j, j < i -> (vs.getD j Vn.zero).num <= zdo vs i := by
      intro j hj
      unfold zdo
      rw [if_neg (by omega)]
      by_cases e : j = i - 1
      · subst e; exact Int.le_refl _
      · have := zib h.2 (show j < i - 1 by omega) (by omega)
        rw [hg _ (by omega), hg _ (by omega)] at this
        omega
    refine ⟨h, ⟨?_, h2, h3, h4⟩, ?_⟩
    · by_cases e : i = 0
      · unfold zdo at h1
        rw [if_pos e] at h1
        omega
      · have a := (h.1 _ (zbu _ 0 (by omega))).1
        rw [hg 0 (by omega)] at a
        have b := key 0 (by omega)
        omega
    · intro y hy
      obtain ⟨j, hj, e⟩ := List.mem_iff_getElem.1 hy
      have : y = vs.getD j Vn.zero := by
        rw [<- hg j (by omega), <- e, List.getD, List.getElem?_eq_getElem hj]
        rfl
      rw [this]
      have := key j (by omega)
      omega
theorem CkT.bad {vs : List Vn} {c i : Nat} (h : CkT vs c) (hb : ¬ okV (vs.take (i + 1))) : c = 1 := by
  rcases h with ⟨_, h⟩ | ⟨h, _⟩
  · exact absurd (zkv h (List.take_sublist _ _)) hb
  · exact h
theorem zqw (vs : List Vn) (i : Nat) : zdo vs (i + 1) = (vs.getD i Vn.zero).num := by unfold zdo; rw [if_neg (by omega), Nat.add_sub_cancel]
theorem zqx (ao : Option Addr) (L cap c : Nat) (vs : List Vn) (w : World) (hV : VRs w ao vs) (hL : L = vs.length) (hc : CkT vs c) :
    Calls Tryz.prog 181 #[.slice ao L cap] w fun e w' => e = .returned (.int .i64 (c : Int)) /\ Fr [] w w' := by
  have HL : Hid (L = vs.length) := hL
  have HC : Hid (CkT vs c) := hc
  have HV : Hid (VRs w ao vs) := hV
  have hLL : L <= 4398046511104 := by have := hV.few; omega
  clear hV hL hc
  go_enter Tryz.func181, Tryz.ntmps181
  go_wp2_with fail
  go_loop [3, 8] (fun ss ii => ∃ (i : Nat) (last : Int), ss = .int .i64 last /\ ii = .int .i64 i /\ i <= L /\ Hid (last = zdo vs i /\ okV (vs.take i))) (fun _ ii => L - (RowKit.intOf ii).toNat)
  case atStart => exact ⟨0, 0, rfl, rfl, Nat.zero_le _, ⟨by simp [zdo], zkv zku (by simp)⟩⟩
  case round =>
    obtain ⟨i, last, rfl, rfl, hiL, HI⟩ := hrel
    by_cases hi : i < L
    · have hi' : i < vs.length := by rw [<- HL.out]; exact hi
      obtain ⟨b, off, rfl, hbl, hat⟩ := HV.out.lies (by omega)
      obtain ⟨c0, c1, c2⟩ := hat i hi'
      have hE := HV.out.each _ (zbu vs i hi')
      have hst := zvw HI.out.2 hi'
      rw [<- HI.out.1] at hst
      have hls := zqw vs i
      obtain ⟨⟨n, val, drop⟩, hx⟩ : ∃ x, x = vs.getD i Vn.zero := ⟨_, rfl⟩
      rw [<- hx] at c0 c1 c2 hE hst hls
      simp only at c0 c1 c2 hst hls
      have hvz : val.size <= 140737488355328 := hE.v
      have HS : Hid _ := hst
      have HLs : Hid (zdo vs (i + 1) = n) := hls
      clear hat hst hls hx hE
      by_cases h1 : n <= last
      · obtain rfl : c = 1 := HC.out.bad (i := i) (fun h => by have := (HS.out.1 h).1; omega)
        go_wp2
        go_ret
        exact ⟨rfl, Fr.refl _ _⟩
      · by_cases h2 : 65536 < n
        · obtain rfl : c = 1 := HC.out.bad (i := i) (fun h => by have := (HS.out.1 h).2.1; omega)
          have h1' : last < n := by omega
          clear h1
          go_wp2
          go_ret
          exact ⟨rfl, Fr.refl _ _⟩
        · have h1' : last < n := by omega
          have h2' : n <= 65536 := by omega
          clear h1 h2
          by_cases h3 : 1024 < val.size
          · obtain rfl : c = 1 := HC.out.bad (i := i) (fun h => by have := (HS.out.1 h).2.2.1; omega)
            have h3' : (1024 : Int) < val.size := by omega
            go_wp2
            go_ret
            exact ⟨rfl, Fr.refl _ _⟩
          · have h3' : (val.size : Int) <= 1024 := by omega
            clear h3
            cases drop with
            | false =>
              have HN : Hid (okV (vs.take (i + 1))) := HS.out.2 ⟨h1', h2', by omega, fun h => by cases h⟩
              go_wp2
              refine ⟨⟨i + 1, n, rfl, by simp, by omega, ⟨HLs.out.symm, HN.out⟩⟩, ?_⟩
              simp [RowKit.intOf]
              omega
            | true =>
              by_cases h4 : val.toList = []
              · have h5 : val.toList.isEmpty = true := by rw [h4]; rfl
                have HN : Hid (okV (vs.take (i + 1))) := HS.out.2 ⟨h1', h2', by omega, fun _ => (zfr _).1 ((zeo _).1 h4)⟩
                go_wp2
                refine ⟨⟨i + 1, n, rfl, by simp, by omega, ⟨HLs.out.symm, HN.out⟩⟩, ?_⟩
                simp [RowKit.intOf]
                omega
              · obtain rfl : c = 1 := HC.out.bad (i := i) (fun h => h4 ((zeo _).2 ((zfr _).2 ((HS.out.1 h).2.2.2 rfl))))
                have h5 : val.toList.isEmpty = false := by
                  cases hq : val.toList with
                  | nil => exact absurd hq h4
                  | cons a r => rfl
                go_wp2
                go_ret
                exact ⟨rfl, Fr.refl _ _⟩
    · obtain rfl : c = 0 := by
        have hok := HI.out.2
        rw [List.take_of_length_le (by have := HL.out; omega)] at hok
        exact HC.out.one (CkT.of hok)
      go_wp2
      go_ret
      exact ⟨rfl, Fr.refl _ _⟩
theorem Tryz.undVnsE : Tryz.prog.underlying 132 = some (.slice (Tryz.prog.elem 132)) := by kernel_rfl
theorem Tryz.elemVns : Tryz.prog.elem 132 = 136 := by kernel_rfl
theorem Tryz.sizeOfVn (w : World) : (Go.sizeOf 136).run Tryz.prog w = .ok 3 w := by kernel_rfl
theorem Tryz.infoVn : (Tryz.prog.info? 136).map (fun i => (i.zero, i.size, i.bytes)) = some (some (.agg #[.int .i64 0, .string ⟨#[]⟩, .bool false]), 3, 32) := by kernel_rfl
theorem zhd : ∃ i, Tryz.prog.info? 136 = some i /\ i.zero = some (.agg #[.int .i64 0, .string ⟨#[]⟩, .bool false]) /\ i.size = 3 /\ i.bytes = 32 := by
  have h := Tryz.infoVn
  cases hi : Tryz.prog.info? 136 with
  | none => rw [hi] at h; cases h
  | some i =>
    rw [hi] at h
    simp only [Option.map_some, Option.some.injEq, Prod.mk.injEq] at h
    exact ⟨i, rfl, h.1, h.2.1, h.2.2⟩
theorem zaaa (ro : Option Addr) (N rc K : Nat) (h1 : K <= N) (w : World) : (Instr.sliceAt 132 (.slice ro N rc) (some (.int .i64 (K : Int))) none none).run Tryz.prog w = .ok (.slice (zed ro rc K) (N - K) (rc - K)) w := by
  rw [run_sliceAt_slice w 132 _ _ _ _ Tryz.undVnsE, run_slice_l w 132 _ _ _ Tryz.undVnsE .i64 (K : Int) (by omega) (by omega), Tryz.elemVns, Tryz.sizeOfVn]
  simp [Result.andThen, sliced, zed]
structure VOut (w w' : World) (ro : Option Addr) (N rc : Nat) (vs : List Vn) : Prop where
  own : ∃ rc', rc <= rc' /\ w'.ownsRow w.heap.size 136 3 (.slice ro N rc') N (vnsC vs)
  len : N = vs.length
  cap : N <= rc
theorem VOut.later {w w1 w2 : World} {ro : Option Addr} {N rc : Nat} {vs : List Vn} (h : VOut w1 w2 ro N rc vs) (hs : w.heap.size <= w1.heap.size) : VOut w w2 ro N rc vs := by
  obtain ⟨rc', hr, ho⟩ := h.own
  refine ⟨⟨rc', hr, ho.1, ?_⟩, h.len, h.cap⟩
  rcases ho.2 with hh | ⟨g, cap, cur, e, hb, hgg, rest⟩
  · exact .inl hh
  · exact .inr ⟨g, cap, cur, e, by omega, hgg, rest⟩
theorem VOut.rs {w w' : World} {ro : Option Addr} {N rc : Nat} {vs : List Vn} (h : VOut w w' ro N rc vs) (hl : vs.length <= 4398046511104) (he : ∀ x ∈ vs, VEach x) : VRs w' ro vs := by
  obtain ⟨rc', hr, ho⟩ := h.own
  exact VRs.of_own ho h.len hl he
theorem zxz {w : World} {base : Nat} {e : TypeId} {size : Nat} {ro : Option Addr} {N rc : Nat} {xs : List Value} (h : w.ownsRow base e size (.slice ro N rc) N xs) : N <= rc := by
  rcases h.2 with ⟨hv, hn⟩ | ⟨g, cap, cur, hv, _, _, hnc, _⟩
  · cases hv; omega
  · cases hv; exact hnc
theorem VOut.of {w w' : World} {ro : Option Addr} {N rc : Nat} {vs : List Vn} (h : w'.ownsRow w.heap.size 136 3 (.slice ro N rc) N (vnsC vs)) (hl : N = vs.length) : VOut w w' ro N rc vs := ⟨⟨rc, Nat.le_refl _, h⟩, hl, zxz h⟩
theorem VOut.cut {w w' : World} {ro : Option Addr} {N rc : Nat} {vs : List Vn} (h : VOut w w' ro N rc vs) : VOut w w' ro N N vs := by
  obtain ⟨rc', hr, ho⟩ := h.own
  exact ⟨⟨rc', Nat.le_trans h.cap hr, ho⟩, h.len, Nat.le_refl _⟩
theorem ztk (ao : Option Addr) (L cap : Nat) (vs : List Vn) (w : World) (hV : VRs w ao vs) (hL : L = vs.length) :
    Calls Tryz.prog 182 #[.slice ao L cap] w fun e w' => ∃ ro rc, e = .returned (.slice ro L rc) /\ VOut w w' ro L rc vs /\ Fr [] w w' := by
  have q22 : ∀ (w : World) (a : Option Addr) (n c n' c' : Nat), (binOp .eql 132 (.slice a n c) (.slice none n' c')).run Tryz.prog w = .ok (.bool a.isNone) w := fun w a n c n' c' => Lib.run_eql_slice_nil w _ _ a n c n' c' Tryz.undVns'
  cases ao with
  | none =>
    obtain rfl : L = 0 := by
      rcases Nat.eq_zero_or_pos vs.length with h | h
      · omega
      · obtain ⟨b, off, e, _⟩ := hV.lies h
        cases e
    obtain rfl : vs = [] := List.eq_nil_of_length_eq_zero hL.symm
    clear hV hL
    go_enter Tryz.func182, Tryz.ntmps182
    go_wp2
    go_ret
    exact ⟨none, 0, rfl, VOut.of ⟨rfl, .inl ⟨rfl, rfl⟩⟩ rfl, Fr.refl _ _⟩
  | some a =>
    obtain ⟨i0, hi, hz0, hz1, hz2⟩ := zhd
    have hc : Hid (∀ j u, (vnsC vs)[j]? = some u -> w.cell? (a.add j) = some u) := by
      intro j u hu
      obtain ⟨b, off, e, hc⟩ := hV.cells hu
      cases e
      rw [Addr.add_lit]
      exact hc
    have hf := hV.few
    have HL : Hid (L = vs.length) := hL
    have HF : Hid (vs.length <= 4398046511104) := hf
    clear hV hL hf
    go_enter Tryz.func182, Tryz.ntmps182
    go_wp2_with (at_builtin; refine wpList_append_own _ rfl _ _ 132 rfl w.heap.size 136 i0 (.agg #[.int .i64 0, .string ⟨#[]⟩, .bool false]) 3 32 Tryz.undVns' hi hz0 hz1 hz2 rfl (by decide) _ _ _ rfl (World.ownsRow_made w #[] 0 (Nat.le_refl _) (Nat.zero_le _) (by simp)) a L cap (vnsC vs) rfl ?qc1 ?qc2 ?qc3 ?qc4 ?qc5 ?qc6 ?_)
    case qc1 => rw [zce, HL.out]
    case qc2 =>
      intro j u hj
      exact Lib.cell?_alloc_some _ (hc.out j u hj)
    case qc3 => exact zmv vs
    case qc4 => rw [Nat.zero_add]; have := HL.out; have := HF.out; simp only [maxLen]; omega
    case qc5 => rw [Nat.zero_add]; have := HL.out; have := HF.out; omega
    case qc6 => simp
    intro v' w1 hown hgrow hnil
    obtain ⟨ro, rc, rfl⟩ : ∃ ro rc, v' = .slice ro L rc := by
      rcases hown.2 with ⟨hh, h0⟩ | ⟨g, cap', _, hh, _⟩
      · exact ⟨none, 0, by rw [hh]; have : L = 0 := by omega
                           rw [this]⟩
      · exact ⟨_, cap', by rw [hh]⟩
    have HO : Hid (VOut w w1 ro L rc vs /\ Fr [] w w1) := ⟨VOut.of (by simpa using hown) HL.out, (Fr.alloc [] w _).on (Fr.grown (S := [w.heap.size]) hgrow (by intro k hk _; simp [Value.ownBlock] at hk; simp [hk])) (by simp)⟩
    clear hown hgrow hnil
    go_wp2
    go_ret
    exact ⟨ro, rc, rfl, HO.out⟩
theorem zaab {w : World} {b : Nat} {t : TypeId} {x0 x1 x2 : Value} (h : w.heap[b]? = some (.cells #[x0, x1, x2] t (0, 0))) (a0 a1 a2 : Value) : (((w.setCell ⟨b, 0, none⟩ a0).setCell ⟨b, 1, none⟩ a1).setCell ⟨b, 2, none⟩ a2).heap[b]? = some (.cells #[a0, a1, a2] t (0, 0)) := by
  have k : ∀ (W : World) (cs : Array Value) (o : Nat) (v : Value), W.heap[b]? = some (.cells cs t (0, 0)) -> (W.setCell ⟨b, o, none⟩ v).heap[b]? = some (.cells (cs.setIfInBounds o v) t (0, 0)) := by
    intro W cs o v hW
    obtain ⟨hlt, hk⟩ := Array.getElem?_eq_some_iff.1 hW
    show (W.heap.modify b _)[b]? = _
    rw [Array.getElem?_eq_getElem (by rw [Array.size_modify]; exact hlt), Array.getElem_modify_self, hk]
    rfl
  have := k _ _ 2 a2 (k _ _ 1 a1 (k _ _ 0 a0 h))
  simpa using this
theorem zfs {w : World} {b : Nat} {cs : Array Value} {t : TypeId} (h : w.heap[b]? = some (.cells cs t (0, 0))) (j : Nat) : w.frozen? ⟨b, j, none⟩ = false := by simp [World.frozen?, h]
theorem zqy (xs ys : List Vn) (hl : xs.length = ys.length) (h : ∀ j, j < xs.length -> xs.getD j Vn.zero = ys.getD j Vn.zero) : xs = ys := by
  apply List.ext_getElem hl
  intro i h1 h2
  have := h i h1
  simpa [List.getD, h1, h2] using this
theorem zqz (ro ro' : Option Addr) (N M rc rc' : Nat) (R : Bool) (xs ys : List Vn) (w : World) (h1 : VRs w ro xs) (h2 : VRs w ro' ys) (hN : N = xs.length) (hM : M = ys.length) (hR : R = true ↔ xs = ys) :
    Calls Tryz.prog 177 #[.slice ro N rc, .slice ro' M rc'] w fun e w' => e = .returned (.bool R) /\ Fr [] w w' := by
  have HR : Hid (R = true ↔ xs = ys) := hR
  have HN : Hid (N = xs.length) := hN
  have HM : Hid (M = ys.length) := hM
  have hNf : N <= 4398046511104 := by have := h1.few; omega
  have hMf : M <= 4398046511104 := by have := h2.few; omega
  have HE : Hid (∀ W, Fr [] w W -> VRs W ro xs /\ VRs W ro' ys) := fun W hf => ⟨h1.keep hf, h2.keep hf⟩
  have hg := Tryz.guardVn
  have hq : ∀ (x y : Vn) (W : World), (Op.equalIn 10000 136 (.agg #[.int .i64 x.num, .string x.val, .bool x.drop]) (.agg #[.int .i64 y.num, .string y.val, .bool y.drop])).run Tryz.prog W = .ok (zia x y) W := fun x y W => zmk W x y
  clear hN hM hR h1 h2
  by_cases hNM : N = M
  · subst hNM
    have hne : ((N : Int) != N) = false := by simp
    go_enter Tryz.func177, Tryz.ntmps177
    go_wp2_with fail
    go_loopw [5] (fun ii wr => ∃ (i : Nat), ii = .int .i64 i /\ i <= N /\ Fr [] w wr /\ Hid (∀ j, j < i -> xs.getD j Vn.zero = ys.getD j Vn.zero)) (fun ii _ => N - (RowKit.intOf ii).toNat)
    case atStart => exact ⟨0, rfl, Nat.zero_le _, Fr.refl _ _, fun j hj => by omega⟩
    case round =>
      obtain ⟨i, rfl, hiN, hFr, HI⟩ := hrel
      by_cases hi : i < N
      · have hi1 : i < xs.length := by rw [<- HN.out]; exact hi
        have hi2 : i < ys.length := by rw [<- HM.out]; exact hi
        obtain ⟨b, o, rfl, _, hat⟩ := (HE.out _ hFr).1.lies (by omega)
        obtain ⟨c0, c1, c2⟩ := hat i hi1
        obtain ⟨b', o', rfl, _, hat'⟩ := (HE.out _ hFr).2.lies (by omega)
        obtain ⟨e0, e1, e2⟩ := hat' i hi2
        obtain ⟨x, hx⟩ : ∃ x, x = xs.getD i Vn.zero := ⟨_, rfl⟩
        obtain ⟨y, hy⟩ : ∃ y, y = ys.getD i Vn.zero := ⟨_, rfl⟩
        rw [<- hx] at c0 c1 c2
        rw [<- hy] at e0 e1 e2
        have hqq := hq x y
        obtain ⟨S, hS⟩ : ∃ S, zia x y = S := ⟨_, rfl⟩
        rw [hS] at hqq
        have HS : Hid (zia x y = S) := hS
        have HX : Hid (x = xs.getD i Vn.zero /\ y = ys.getD i Vn.zero) := ⟨hx, hy⟩
        clear hS hx hy hat hat' hq
        obtain ⟨n1, v1, p1⟩ := x
        obtain ⟨n2, v2, p2⟩ := y
        simp only at c0 c1 c2 e0 e1 e2 hqq
        cases S with
        | true =>
          have HI2 : Hid (∀ j, j < i + 1 -> xs.getD j Vn.zero = ys.getD j Vn.zero) := by
            intro j hj
            by_cases hji : j = i
            · subst hji
              rw [<- HX.out.1, <- HX.out.2]
              exact (zdu _ _).1 HS.out
            · exact HI.out j (by omega)
          go_wp2_with fail
          go_quiet (fail)
          go_wp2
          exact ⟨⟨i + 1, by simp, by omega, hFr.then (Fr.drewN _ _ _), HI2⟩, by simp [RowKit.intOf]; omega⟩
        | false =>
          obtain rfl : R = false := by
            cases R with
            | false => rfl
            | true =>
              have e := HR.out.1 rfl
              subst e
              have h9 := (zdu _ _).2 (HX.out.1.trans HX.out.2.symm)
              rw [HS.out] at h9
              cases h9
          go_wp2_with fail
          go_quiet (fail)
          go_wp2
          go_ret
          exact ⟨rfl, hFr.then (Fr.drewN _ _ _)⟩
      · obtain rfl : R = true := HR.out.2 (zqy _ _ (by rw [<- HN.out, HM.out]) (fun j hj => HI.out j (by rw [<- HN.out] at hj; omega)))
        go_wp2
        go_ret
        exact ⟨rfl, hFr⟩
  · have hne : ((N : Int) != M) = true := by rw [bne_iff_ne]; omega
    obtain rfl : R = false := by
      cases R with
      | false => rfl
      | true =>
        have e := HR.out.1 rfl
        subst e
        exact absurd (HN.out.trans HM.out.symm) hNM
    clear hNM
    go_enter Tryz.func177, Tryz.ntmps177
    go_wp2
    go_ret
    exact ⟨rfl, Fr.refl _ _⟩
theorem zeu : ∀ a : List UInt8, Op.bytesLess a a = false
  | [] => rfl
  | x :: xs => by simp [Op.bytesLess, zeu xs]
theorem zaac (a b : List UInt8) : Op.bytesLess a b = true ↔ a < b := by rw [bytesLess_eq]; simp
theorem zmx {a b c : List UInt8} (h1 : Op.bytesLess a b = true) (h2 : Op.bytesLess b c = true) : Op.bytesLess a c = true := by
  rw [zaac] at *
  exact List.lt_trans h1 h2
theorem zaad {a b : List UInt8} (h1 : Op.bytesLess a b = false) (h2 : Op.bytesLess b a = false) : a = b := by
  rw [bytesLess_eq] at *
  simp only [decide_eq_false_iff_not, List.not_lt] at *
  exact List.le_antisymm h2 h1
theorem zvx {a b : List UInt8} (h1 : Op.bytesLess a b = true) : Op.bytesLess b a = false := by
  cases h : Op.bytesLess b a with
  | false => rfl
  | true => have := zmx h1 h; rw [zeu] at this; cases this
open Go.Maps
theorem zvy {a b : ByteArray} (h : a.data.toList = b.data.toList) : a = b := by
  cases a; cases b
  simp only at h
  congr
  exact Array.toList_inj.1 h
def kl7 (s : ByteArray) : Lit := .string s.data.toList
theorem zpt {s t : ByteArray} (h : kl7 s = kl7 t) : s = t := zvy (by simpa [kl7] using h)
theorem zas {S : List Nat} {w w' : World} {base : Nat} {e : TypeId} {size : Nat} {v : Value} {n : Nat} {xs : List Value} (h : w.ownsRow base e size v n xs) (hf : Fr S w w') (hn : ∀ k, v.ownBlock = some k -> k ∉ S) : w'.ownsRow base e size v n xs := by
  refine ⟨h.1, ?_⟩
  rcases h.2 with h0 | ⟨g, cap, cur, hv, hb, hg, hr⟩
  · exact Or.inl h0
  · exact Or.inr ⟨g, cap, cur, hv, hb, hf.keep hg (hn g (by rw [hv]; rfl)), hr⟩
theorem zak {w : World} {base : Nat} {e : TypeId} {size : Nat} {v : Value} {n : Nat} {xs : List Value} (h : w.ownsRow base e size v n xs) {k : Nat} (hk : v.ownBlock = some k) : base <= k /\ ∃ cur, w.heap[k]? = some (.cells cur e (0, 0)) := by
  rcases h.2 with ⟨rfl, _⟩ | ⟨g, cap, cur, rfl, hb, hg, hr⟩
  · simp [Value.ownBlock] at hk
  · simp [Value.ownBlock] at hk
    subst hk
    exact ⟨hb, cur, hg⟩
theorem zby {w : World} {base base' : Nat} {e : TypeId} {size : Nat} {v : Value} {n : Nat} {xs : List Value} (h : w.ownsRow base e size v n xs) (hb : base' <= base) : w.ownsRow base' e size v n xs := by
  refine ⟨h.1, ?_⟩
  rcases h.2 with h0 | ⟨g, cap, cur, hv, hg, hr⟩
  · exact Or.inl h0
  · exact Or.inr ⟨g, cap, cur, hv, by omega, hr⟩
theorem zbq {S : List Nat} {w w' : World} (hf : Fr S w w') {k o : Nat} {x : Value} (hc : w.cell? ⟨k, o, none⟩ = some x) (hl : k < w.heap.size) (hn : k ∉ S) : w'.cell? ⟨k, o, none⟩ = some x := (World.cell?_of_block (hf.block k hl hn)).trans hc
structure IRs (w : World) (ao : Option Addr) (ns : List Int) : Prop where
  lies : 0 < ns.length -> ∃ b off, ao = some ⟨b, off, none⟩ /\ b < w.heap.size /\ ∀ i, i < ns.length -> w.cell? ⟨b, off + i, none⟩ = some (.int .i64 (ns.getD i 0))
  few : ns.length <= 17592186044416
theorem IRs.keepS {S : List Nat} {w w' : World} {ao : Option Addr} {ns : List Int} (h : IRs w ao ns) (hf : Fr S w w') (hn : 0 < ns.length -> ∀ a, ao = some a -> a.block ∉ S) : IRs w' ao ns := by
  refine ⟨fun h0 => ?_, h.few⟩
  obtain ⟨b, off, e, hb, hc⟩ := h.lies h0
  exact ⟨b, off, e, Nat.lt_of_lt_of_le hb hf.size, fun i hi => (World.cell?_of_block (hf.block b hb (hn h0 _ e))).trans (hc i hi)⟩
theorem IRs.keep {w w' : World} {ao : Option Addr} {ns : List Int} (h : IRs w ao ns) (hf : Fr [] w w') : IRs w' ao ns := h.keepS hf (by simp)
theorem zdg (ns : List Int) (i : Nat) (h : i < ns.length) : ns.take (i + 1) = ns.take i ++ [ns.getD i 0] := by
  rw [List.take_add_one]
  simp [List.getD, h]
def mkB (vs : List Vn) (ns : List Int) : List Value := vs.map fun v => .bool (decide (v.num ∈ ns))
theorem zmy {w : World} {b j : Nat} {cs : Array Value} {t : TypeId} (x : Value) (h : w.heap[b]? = some (.cells cs t (0, 0))) : (w.setCell ⟨b, j, none⟩ x).heap[b]? = some (.cells (cs.setIfInBounds j x) t (0, 0)) := by
  have hlt := lt_of_block h
  have h' : w.heap[b] = .cells cs t (0, 0) := by simpa [Array.getElem?_eq_getElem hlt] using h
  show (w.heap.modify b _)[b]? = _
  rw [Array.getElem?_eq_getElem (by simpa using hlt), Array.getElem_modify_self, h']
  rfl
structure BRow (w : World) (g L : Nat) (bs : List Value) : Prop where
  row : ∃ cur, w.heap[g]? = some (.cells cur 4 (0, 0)) /\ cur.toList = bs
  len : bs.length = L
theorem BRow.keep {S : List Nat} {w w' : World} {g L : Nat} {bs : List Value} (h : BRow w g L bs) (hf : Fr S w w') (hn : g ∉ S) : BRow w' g L bs := by
  obtain ⟨cur, h1, h2⟩ := h.row
  exact ⟨⟨cur, hf.keep h1 hn, h2⟩, h.len⟩
theorem BRow.put {w : World} {g L : Nat} {bs : List Value} (h : BRow w g L bs) (j : Nat) (x : Value) : BRow (w.setCell ⟨g, j, none⟩ x) g L (bs.set j x) := by
  obtain ⟨cur, h1, h2⟩ := h.row
  exact ⟨⟨_, zmy x h1, by rw [Array.toList_setIfInBounds, h2]⟩, by rw [List.length_set]; exact h.len⟩
theorem BRow.cell {w : World} {g L : Nat} {bs : List Value} (h : BRow w g L bs) {i : Nat} {u : Value} (hu : bs[i]? = some u) : w.cell? ⟨g, i, none⟩ = some u := by
  obtain ⟨cur, h1, h2⟩ := h.row
  rw [cell_of_row _ _ _ _ _ _ h1, <- Array.getElem?_toList, h2]
  exact hu
end Go.Proofs.YtembflnhhfliaaaGreatDoor

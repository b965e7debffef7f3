/- Texts of this claim laid together, one behind the other: contracts and plain lemmas; conditions as each names them. -/
import Derived.Test.YtldghdbfhikcoaaGreatDoorGp7
import Derived.Deep.LoopGhost
import Derived.Deep.QuietTactic
import Derived.BigQuiet
import Derived.Lib.SliceRun
/- What versions may be, how many have at most a number, what is read at a mark. Plain lemmas. -/
namespace Go.Proofs.YtldghdbfhikcoaaGreatDoor
set_option linter.unusedVariables false
/-- May a version be? -/
def okX (x : Vn) : Prop := 1 ≤ x.num ∧ x.num ≤ 65536 ∧ x.val.size ≤ 1024 ∧ (x.drop = true → x.val = noS)
/-- Numbers rise. -/
def Ris (vs : List Vn) : Prop := vs.Pairwise fun a b => a.num < b.num
def okV (vs : List Vn) : Prop := (∀ x ∈ vs, okX x) ∧ Ris vs
/-- What Check tells. -/
def CkT (vs : List Vn) (c : Nat) : Prop := (c = 0 ∧ okV vs) ∨ (c = 1 ∧ ¬ okV vs)
theorem CkT.ex (vs : List Vn) : ∃ c, CkT vs c := by
  by_cases h : okV vs
  · exact ⟨0, Or.inl ⟨rfl, h⟩⟩
  · exact ⟨1, Or.inr ⟨rfl, h⟩⟩
theorem CkT.ok {vs : List Vn} (h : CkT vs 0) : okV vs := by
  rcases h with ⟨_, h⟩ | ⟨h, _⟩
  · exact h
  · cases h
theorem CkT.of {vs : List Vn} (h : okV vs) : CkT vs 0 := Or.inl ⟨rfl, h⟩
theorem CkT.one {vs : List Vn} {a b : Nat} (h : CkT vs a) (k : CkT vs b) : a = b := by
  rcases h with ⟨rfl, h⟩ | ⟨rfl, h⟩ <;> rcases k with ⟨rfl, k⟩ | ⟨rfl, k⟩
  · rfl
  · exact absurd h k
  · exact absurd k h
  · rfl
theorem ris_get {vs : List Vn} (h : Ris vs) {i j : Nat} (hij : i < j) (hj : j < vs.length) : (vs.getD i Vn.zero).num < (vs.getD j Vn.zero).num := by
  have := List.pairwise_iff_getElem.1 h i j (by omega) hj hij
  simpa [List.getD, hj, show i < vs.length by omega] using this
theorem ris_of {vs : List Vn} (h : ∀ i j, i < j → j < vs.length → (vs.getD i Vn.zero).num < (vs.getD j Vn.zero).num) : Ris vs := by
  refine List.pairwise_iff_getElem.2 fun i j hi hj hij => ?_
  have := h i j hij hj
  simpa [List.getD, hi, hj] using this
theorem okV_ge {vs : List Vn} (h : okV vs) : ∀ i, i < vs.length → (i : Int) + 1 ≤ (vs.getD i Vn.zero).num := by
  intro i
  induction i with
  | zero => intro hi; have := (h.1 _ (vgetD_mem vs 0 hi)).1; omega
  | succ i ih =>
    intro hi
    have h1 := ih (by omega)
    have h2 := ris_get h.2 (show i < i + 1 by omega) hi
    omega
theorem okV_few {vs : List Vn} (h : okV vs) : vs.length ≤ 65536 := by
  by_cases h0 : vs.length = 0
  · omega
  · have h1 := okV_ge h (vs.length - 1) (by omega)
    have h2 := (h.1 _ (vgetD_mem vs (vs.length - 1) (by omega))).2.1
    omega
theorem okV_nil : okV [] := ⟨by simp, List.Pairwise.nil⟩
theorem okV_sub {vs us : List Vn} (h : okV vs) (hs : us.Sublist vs) : okV us := ⟨fun x hx => h.1 x (hs.subset hx), h.2.sublist hs⟩
theorem okV_drop {vs : List Vn} (h : okV vs) (k : Nat) : okV (vs.drop k) := okV_sub h (List.drop_sublist _ _)
theorem getD_drop (vs : List Vn) (k j : Nat) : (vs.drop k).getD j Vn.zero = vs.getD (k + j) Vn.zero := by simp [List.getD, List.getElem?_drop]
theorem okX_each {x : Vn} (h : okX x) : VEach x := ⟨by have := h.2.2.1; omega, by have := h.1; omega, by have := h.2.1; omega⟩
/-- So many have at most this number, and they stand ahead. -/
structure UpTo (vs : List Vn) (k : Int) (c : Nat) : Prop where
  le : c ≤ vs.length
  lo : ∀ j, j < c → (vs.getD j Vn.zero).num ≤ k
  hi : ∀ j, c ≤ j → j < vs.length → k < (vs.getD j Vn.zero).num
theorem UpTo.one {vs : List Vn} {k : Int} {a b : Nat} (h : UpTo vs k a) (g : UpTo vs k b) : a = b := by
  rcases Nat.lt_trichotomy a b with h1 | h1 | h1
  · have := h.hi a (Nat.le_refl _) (by have := g.le; omega)
    have := g.lo a h1
    omega
  · exact h1
  · have := g.hi b (Nat.le_refl _) (by have := h.le; omega)
    have := h.lo b h1
    omega
theorem UpTo.ex {vs : List Vn} (h : Ris vs) (k : Int) : ∃ c, UpTo vs k c := by
  induction vs with
  | nil => exact ⟨0, Nat.le_refl _, fun j hj => by omega, fun j _ hj => by simp at hj⟩
  | cons x r ih =>
    obtain ⟨c, hc⟩ := ih (List.Pairwise.of_cons h)
    by_cases hx : x.num ≤ k
    · refine ⟨c + 1, by have := hc.le; simp; omega, fun j hj => ?_, fun j h1 h2 => ?_⟩
      · cases j with
        | zero => simpa using hx
        | succ j => simpa using hc.lo j (by omega)
      · cases j with
        | zero => omega
        | succ j => simpa using hc.hi j (by omega) (by simpa using h2)
    · refine ⟨0, Nat.zero_le _, fun j hj => by omega, fun j _ h2 => ?_⟩
      cases j with
      | zero => simp; omega
      | succ j =>
        have := ris_get h (show 0 < j + 1 by omega) h2
        simp only [List.getD_cons_zero] at this
        omega
theorem UpTo.mono {vs : List Vn} {k l : Int} {a b : Nat} (h : UpTo vs k a) (g : UpTo vs l b) (hkl : k ≤ l) : a ≤ b := by
  by_cases h1 : a ≤ b
  · exact h1
  · have := g.hi b (Nat.le_refl _) (by have := h.le; omega)
    have := h.lo b (by omega)
    omega
theorem UpTo.drop {vs : List Vn} {k : Int} {c d : Nat} (h : UpTo vs k c) (hd : d ≤ c) : UpTo (vs.drop d) k (c - d) := by
  refine ⟨by have := h.le; simp; omega, fun j hj => ?_, fun j h1 h2 => ?_⟩
  · rw [getD_drop]; exact h.lo _ (by omega)
  · rw [getD_drop]; exact h.hi _ (by omega) (by simp at h2; omega)
/-- By the search's test. -/
theorem UpTo.count {vs : List Vn} (h : Ris vs) (k : Int) : UpTo vs k ((List.range vs.length).countP fun i => !decide (k < (vs.getD i Vn.zero).num)) := by
  obtain ⟨c, hc⟩ := UpTo.ex h k
  have e : (List.range vs.length).countP (fun i => !decide (k < (vs.getD i Vn.zero).num)) = c := by
    have hle := hc.le
    have e1 : List.range vs.length = List.range c ++ (List.range (vs.length - c)).map (c + ·) := by
      rw [← List.range_add]
      congr 1
      omega
    rw [e1, List.countP_append]
    have a1 : (List.range c).countP (fun i => !decide (k < (vs.getD i Vn.zero).num)) = c := by
      rw [List.countP_eq_length.2]
      · simp
      · intro j hj
        have := hc.lo j (by simpa using hj)
        rw [Bool.not_eq_true', decide_eq_false_iff_not]
        omega
    have a2 : ((List.range (vs.length - c)).map (c + ·)).countP (fun i => !decide (k < (vs.getD i Vn.zero).num)) = 0 := by
      rw [List.countP_eq_zero]
      intro j hj
      obtain ⟨i, hi, rfl⟩ := List.mem_map.1 hj
      have := hc.hi (c + i) (by omega) (by simp at hi; omega)
      rw [Bool.not_eq_true', decide_eq_false_iff_not]
      omega
    omega
  rw [e]
  exact hc
/-- What is read at a mark, of which so many are at it. -/
def atV (vs : List Vn) (c : Nat) : Vn := if c = 0 then Vn.zero else vs.getD (c - 1) Vn.zero
theorem atV_drop (vs : List Vn) (c d : Nat) (h : d < c ∨ d = 0) : atV (vs.drop d) (c - d) = atV vs c := by
  unfold atV
  by_cases h0 : c = 0
  · rw [if_pos (by omega), if_pos h0]
  · rw [if_neg (by omega), if_neg h0, getD_drop]
    congr 1
    omega
end Go.Proofs.YtldghdbfhikcoaaGreatDoor
/- Contracts of package chain's inner functions: Check, passed, sort.Search over it, upTo, stands. Conditions as each names them. -/
namespace Go.Proofs.YtldghdbfhikcoaaGreatDoor
open Go.ChangeShapes Go.WideShapes Go.ChangeAt Go.RowKit Go.Lib
set_option linter.unusedVariables false
set_option linter.unusedSimpArgs false

theorem Fr.cell {w w' : World} (h : Fr [] w w') {a : Addr} {v : Value} (hc : w.cell? a = some v) : w'.cell? a = some v := by
  have hb := World.block_lt_of_cell? _ _ hc
  rw [World.cell?_of_block (h.block a.block hb (by simp))]
  exact hc
end Go.Proofs.YtldghdbfhikcoaaGreatDoor
/- May versions be: contract of Check; a part of a row in memory of its own: Clone, part; At and Collect. Conditions as each names them. -/
namespace Go.Proofs.YtldghdbfhikcoaaGreatDoor
open Go.ChangeShapes Go.WideShapes Go.ChangeAt Go.RowKit Go.Lib
set_option linter.unusedVariables false
set_option linter.unusedSimpArgs false
def lastN (vs : List Vn) (i : Nat) : Int := if i = 0 then 0 else (vs.getD (i - 1) Vn.zero).num
theorem okV_snoc {a : List Vn} {x : Vn} : okV (a ++ [x]) ↔ okV a ∧ okX x ∧ ∀ y ∈ a, y.num < x.num := by
  unfold okV Ris
  rw [List.pairwise_append]
  simp only [List.mem_append, List.mem_singleton, List.pairwise_cons, List.not_mem_nil, false_implies, implies_true, List.Pairwise.nil, and_true, true_and, forall_eq]
  constructor
  · rintro ⟨h1, h2, h3⟩
    exact ⟨⟨fun y hy => h1 y (Or.inl hy), h2⟩, h1 x (Or.inr rfl), h3⟩
  · rintro ⟨⟨h1, h2⟩, h3, h4⟩
    exact ⟨fun y hy => by rcases hy with hy | hy; (exact h1 y hy); (rw [hy]; exact h3), h2, h4⟩
theorem okV_step {vs : List Vn} {i : Nat} (h : okV (vs.take i)) (hi : i < vs.length) :
    okV (vs.take (i + 1)) ↔ lastN vs i < (vs.getD i Vn.zero).num ∧ (vs.getD i Vn.zero).num ≤ 65536 ∧ (vs.getD i Vn.zero).val.size ≤ 1024 ∧ ((vs.getD i Vn.zero).drop = true → (vs.getD i Vn.zero).val = noS) := by
  rw [vtake_snoc vs i hi, okV_snoc]
  have hg : ∀ j, j < i → (vs.take i).getD j Vn.zero = vs.getD j Vn.zero := fun j hj => by simp [List.getD, List.getElem?_take_of_lt hj]
  have hl : (vs.take i).length = i := by simp; omega
  constructor
  · rintro ⟨_, h2, h3⟩
    refine ⟨?_, h2.2.1, h2.2.2.1, h2.2.2.2⟩
    unfold lastN
    split
    · have := h2.1; omega
    · have := h3 ((vs.take i).getD (i - 1) Vn.zero) (vgetD_mem _ _ (by omega))
      rwa [hg _ (by omega)] at this
  · rintro ⟨h1, h2, h3, h4⟩
    have key : ∀ j, j < i → (vs.getD j Vn.zero).num ≤ lastN vs i := by
      intro j hj
      unfold lastN
      rw [if_neg (by omega)]
      by_cases e : j = i - 1
      · subst e; exact Int.le_refl _
      · have := ris_get h.2 (show j < i - 1 by omega) (by omega)
        rw [hg _ (by omega), hg _ (by omega)] at this
        omega
    refine ⟨h, ⟨?_, h2, h3, h4⟩, ?_⟩
    · by_cases e : i = 0
      · unfold lastN at h1
        rw [if_pos e] at h1
        omega
      · have a := (h.1 _ (vgetD_mem _ 0 (by omega))).1
        rw [hg 0 (by omega)] at a
        have b := key 0 (by omega)
        omega
    · intro y hy
      obtain ⟨j, hj, e⟩ := List.mem_iff_getElem.1 hy
      have : y = vs.getD j Vn.zero := by
        rw [← hg j (by omega), ← e, List.getD, List.getElem?_eq_getElem hj]
        rfl
      rw [this]
      have := key j (by omega)
      omega
theorem CkT.bad {vs : List Vn} {c i : Nat} (h : CkT vs c) (hb : ¬ okV (vs.take (i + 1))) : c = 1 := by
  rcases h with ⟨_, h⟩ | ⟨h, _⟩
  · exact absurd (okV_sub h (List.take_sublist _ _)) hb
  · exact h
theorem lastN_succ (vs : List Vn) (i : Nat) : lastN vs (i + 1) = (vs.getD i Vn.zero).num := by unfold lastN; rw [if_neg (by omega), Nat.add_sub_cancel]
set_option maxHeartbeats 8000000 in
set_option maxRecDepth 100000 in
theorem vcheck_any (ao : Option Addr) (L cap c : Nat) (vs : List Vn) (w : World) (hV : VRs w ao vs) (hL : L = vs.length) (hc : CkT vs c) :
    Calls Tryz.prog 107 #[.slice ao L cap] w fun e w' => e = .returned (.int .i64 (c : Int)) ∧ Fr [] w w' := by
  have HL : Hid (L = vs.length) := hL
  have HC : Hid (CkT vs c) := hc
  have HV : Hid (VRs w ao vs) := hV
  have hLL : L ≤ 4398046511104 := by have := hV.few; omega
  clear hV hL hc
  go_enter Tryz.func107, Tryz.ntmps107
  go_wp2_with fail
  go_loop [3, 8] (fun ss ii => ∃ (i : Nat) (last : Int), ss = .int .i64 last ∧ ii = .int .i64 i ∧ i ≤ L ∧ Hid (last = lastN vs i ∧ okV (vs.take i))) (fun _ ii => L - (RowKit.intOf ii).toNat)
  case atStart => exact ⟨0, 0, rfl, rfl, Nat.zero_le _, ⟨by simp [lastN], okV_sub okV_nil (by simp)⟩⟩
  case round =>
    obtain ⟨i, last, rfl, rfl, hiL, HI⟩ := hrel
    by_cases hi : i < L
    · have hi' : i < vs.length := by rw [← HL.out]; exact hi
      obtain ⟨b, off, rfl, hbl, hat⟩ := HV.out.lies (by omega)
      obtain ⟨c0, c1, c2⟩ := hat i hi'
      have hE := HV.out.each _ (vgetD_mem vs i hi')
      have hst := okV_step HI.out.2 hi'
      rw [← HI.out.1] at hst
      have hls := lastN_succ vs i
      obtain ⟨⟨n, val, drop⟩, hx⟩ : ∃ x, x = vs.getD i Vn.zero := ⟨_, rfl⟩
      rw [← hx] at c0 c1 c2 hE hst hls
      simp only at c0 c1 c2 hst hls
      have hvz : val.size ≤ 140737488355328 := hE.v
      have HS : Hid _ := hst
      have HLs : Hid (lastN vs (i + 1) = n) := hls
      clear hat hst hls hx hE
      by_cases h1 : n ≤ last
      · obtain rfl : c = 1 := HC.out.bad (i := i) (fun h => by have := (HS.out.1 h).1; omega)
        go_wp2
        go_ret
        exact ⟨rfl, Fr.refl _ _⟩
      · by_cases h2 : 65536 < n
        · obtain rfl : c = 1 := HC.out.bad (i := i) (fun h => by have := (HS.out.1 h).2.1; omega)
          have h1' : last < n := by omega
          clear h1
          go_wp2
          go_ret
          exact ⟨rfl, Fr.refl _ _⟩
        · have h1' : last < n := by omega
          have h2' : n ≤ 65536 := by omega
          clear h1 h2
          by_cases h3 : 1024 < val.size
          · obtain rfl : c = 1 := HC.out.bad (i := i) (fun h => by have := (HS.out.1 h).2.2.1; omega)
            have h3' : (1024 : Int) < val.size := by omega
            go_wp2
            go_ret
            exact ⟨rfl, Fr.refl _ _⟩
          · have h3' : (val.size : Int) ≤ 1024 := by omega
            clear h3
            cases drop with
            | false =>
              have HN : Hid (okV (vs.take (i + 1))) := HS.out.2 ⟨h1', h2', by omega, fun h => by cases h⟩
              go_wp2
              refine ⟨⟨i + 1, n, rfl, by simp, by omega, ⟨HLs.out.symm, HN.out⟩⟩, ?_⟩
              simp [RowKit.intOf]
              omega
            | true =>
              by_cases h4 : val.toList = []
              · have h5 : val.toList.isEmpty = true := by rw [h4]; rfl
                have HN : Hid (okV (vs.take (i + 1))) := HS.out.2 ⟨h1', h2', by omega, fun _ => (noS_iff _).1 ((tl_nil _).1 h4)⟩
                go_wp2
                refine ⟨⟨i + 1, n, rfl, by simp, by omega, ⟨HLs.out.symm, HN.out⟩⟩, ?_⟩
                simp [RowKit.intOf]
                omega
              · obtain rfl : c = 1 := HC.out.bad (i := i) (fun h => h4 ((tl_nil _).2 ((noS_iff _).2 ((HS.out.1 h).2.2.2 rfl))))
                have h5 : val.toList.isEmpty = false := by
                  cases hq : val.toList with
                  | nil => exact absurd hq h4
                  | cons a r => rfl
                go_wp2
                go_ret
                exact ⟨rfl, Fr.refl _ _⟩
    · obtain rfl : c = 0 := by
        have hok := HI.out.2
        rw [List.take_of_length_le (by have := HL.out; omega)] at hok
        exact HC.out.one (CkT.of hok)
      go_wp2
      go_ret
      exact ⟨rfl, Fr.refl _ _⟩
end Go.Proofs.YtldghdbfhikcoaaGreatDoor
/- A part of a row in memory of its own (slices.Clone, part); At; Collect. Conditions as each names them. -/
namespace Go.Proofs.YtldghdbfhikcoaaGreatDoor
open Go.ChangeShapes Go.WideShapes Go.ChangeAt Go.RowKit Go.Lib
set_option linter.unusedVariables false
set_option linter.unusedSimpArgs false
theorem Tryz.undVnsE : Tryz.prog.underlying 71 = some (.slice (Tryz.prog.elem 71)) := by kernel_rfl
theorem Tryz.elemVns : Tryz.prog.elem 71 = 80 := by kernel_rfl
theorem Tryz.sizeOfVn (w : World) : (Go.sizeOf 80).run Tryz.prog w = .ok 3 w := by kernel_rfl
theorem Tryz.infoVn : (Tryz.prog.info? 80).map (fun i => (i.zero, i.size, i.bytes)) = some (some (.agg #[.int .i64 0, .string ⟨#[]⟩, .bool false]), 3, 32) := by kernel_rfl
theorem infoVn_parts : ∃ i, Tryz.prog.info? 80 = some i ∧ i.zero = some (.agg #[.int .i64 0, .string ⟨#[]⟩, .bool false]) ∧ i.size = 3 ∧ i.bytes = 32 := by
  have h := Tryz.infoVn
  cases hi : Tryz.prog.info? 80 with
  | none => rw [hi] at h; cases h
  | some i =>
    rw [hi] at h
    simp only [Option.map_some, Option.some.injEq, Prod.mk.injEq] at h
    exact ⟨i, rfl, h.1, h.2.1, h.2.2⟩
theorem slV_lh (ro : Option Addr) (N rc i j : Nat) (h1 : i ≤ j) (h2 : j ≤ rc) (w : World) : (Instr.sliceAt 71 (.slice ro N rc) (some (.int .i64 (i : Int))) (some (.int .i64 (j : Int))) none).run Tryz.prog w = .ok (.slice (fromV ro rc i) (j - i) (rc - i)) w := by
  rw [run_sliceAt_slice w 71 _ _ _ _ Tryz.undVnsE, run_slice_lh w 71 _ _ _ Tryz.undVnsE .i64 .i64 (i : Int) (j : Int) (by omega) (by omega) (by omega), Tryz.elemVns, Tryz.sizeOfVn]
  simp [Result.andThen, sliced, fromV]
theorem slV_h (ro : Option Addr) (N rc i : Nat) (h1 : i ≤ rc) (w : World) : (Instr.sliceAt 71 (.slice ro N rc) none (some (.int .i64 (i : Int))) none).run Tryz.prog w = .ok (.slice ro i rc) w := by
  rw [run_sliceAt_slice w 71 _ _ _ _ Tryz.undVnsE, run_slice_h w 71 _ _ _ Tryz.undVnsE .i64 (i : Int) (by omega) (by omega), Tryz.elemVns, Tryz.sizeOfVn]
  cases ro <;> simp [Result.andThen, sliced, Addr.add]
theorem slV_l (ro : Option Addr) (N rc K : Nat) (h1 : K ≤ N) (w : World) : (Instr.sliceAt 71 (.slice ro N rc) (some (.int .i64 (K : Int))) none none).run Tryz.prog w = .ok (.slice (fromV ro rc K) (N - K) (rc - K)) w := by
  rw [run_sliceAt_slice w 71 _ _ _ _ Tryz.undVnsE, run_slice_l w 71 _ _ _ Tryz.undVnsE .i64 (K : Int) (by omega) (by omega), Tryz.elemVns, Tryz.sizeOfVn]
  simp [Result.andThen, sliced, fromV]
theorem slV_hm (ro : Option Addr) (N rc i : Nat) (k l : Int) (hk : k = (i : Int)) (hl : l = (i : Int)) (h1 : i ≤ rc) (w : World) : (Instr.sliceAt 71 (.slice ro N rc) none (some (.int .i64 k)) (some (.int .i64 l))).run Tryz.prog w = .ok (.slice ro i i) w := by
  subst hk hl
  rw [run_sliceAt_slice w 71 _ _ _ _ Tryz.undVnsE, run_slice_hm w 71 _ _ _ Tryz.undVnsE .i64 .i64 (i : Int) (i : Int) (by omega) (by omega) (by omega), Tryz.elemVns, Tryz.sizeOfVn]
  cases ro <;> simp [Result.andThen, sliced, Addr.add]
/-- A row of versions of one's own, made since a world; its spare room may be cut off. -/
structure VOut (w w' : World) (ro : Option Addr) (N rc : Nat) (vs : List Vn) : Prop where
  own : ∃ rc', rc ≤ rc' ∧ w'.ownsRow w.heap.size 80 3 (.slice ro N rc') N (vnsC vs)
  len : N = vs.length
  cap : N ≤ rc
theorem VOut.later {w w1 w2 : World} {ro : Option Addr} {N rc : Nat} {vs : List Vn} (h : VOut w1 w2 ro N rc vs) (hs : w.heap.size ≤ w1.heap.size) : VOut w w2 ro N rc vs := by
  obtain ⟨rc', hr, ho⟩ := h.own
  refine ⟨⟨rc', hr, ho.1, ?_⟩, h.len, h.cap⟩
  rcases ho.2 with hh | ⟨g, cap, cur, e, hb, hgg, rest⟩
  · exact .inl hh
  · exact .inr ⟨g, cap, cur, e, by omega, hgg, rest⟩
theorem VOut.rs {w w' : World} {ro : Option Addr} {N rc : Nat} {vs : List Vn} (h : VOut w w' ro N rc vs) (hl : vs.length ≤ 4398046511104) (he : ∀ x ∈ vs, VEach x) : VRs w' ro vs := by
  obtain ⟨rc', hr, ho⟩ := h.own
  exact VRs.of_own ho h.len hl he
theorem own_cap {w : World} {base : Nat} {e : TypeId} {size : Nat} {ro : Option Addr} {N rc : Nat} {xs : List Value} (h : w.ownsRow base e size (.slice ro N rc) N xs) : N ≤ rc := by
  rcases h.2 with ⟨hv, hn⟩ | ⟨g, cap, cur, hv, _, _, hnc, _⟩
  · cases hv; omega
  · cases hv; exact hnc
theorem VOut.of {w w' : World} {ro : Option Addr} {N rc : Nat} {vs : List Vn} (h : w'.ownsRow w.heap.size 80 3 (.slice ro N rc) N (vnsC vs)) (hl : N = vs.length) : VOut w w' ro N rc vs := ⟨⟨rc, Nat.le_refl _, h⟩, hl, own_cap h⟩
theorem VOut.cut {w w' : World} {ro : Option Addr} {N rc : Nat} {vs : List Vn} (h : VOut w w' ro N rc vs) : VOut w w' ro N N vs := by
  obtain ⟨rc', hr, ho⟩ := h.own
  exact ⟨⟨rc', Nat.le_trans h.cap hr, ho⟩, h.len, Nat.le_refl _⟩
set_option maxHeartbeats 2000000 in
set_option maxRecDepth 100000 in
theorem clone_any (ao : Option Addr) (L cap : Nat) (vs : List Vn) (w : World) (hV : VRs w ao vs) (hL : L = vs.length) :
    Calls Tryz.prog 108 #[.slice ao L cap] w fun e w' => ∃ ro rc, e = .returned (.slice ro L rc) ∧ VOut w w' ro L rc vs ∧ Fr [] w w' := by
  have q22 : ∀ (w : World) (a : Option Addr) (n c n' c' : Nat), (binOp .eql 71 (.slice a n c) (.slice none n' c')).run Tryz.prog w = .ok (.bool a.isNone) w := fun w a n c n' c' => Lib.run_eql_slice_nil w _ _ a n c n' c' Tryz.undVns'
  cases ao with
  | none =>
    obtain rfl : L = 0 := by
      rcases Nat.eq_zero_or_pos vs.length with h | h
      · omega
      · obtain ⟨b, off, e, _⟩ := hV.lies h
        cases e
    obtain rfl : vs = [] := List.eq_nil_of_length_eq_zero hL.symm
    clear hV hL
    go_enter Tryz.func108, Tryz.ntmps108
    go_wp2
    go_ret
    exact ⟨none, 0, rfl, VOut.of ⟨rfl, .inl ⟨rfl, rfl⟩⟩ rfl, Fr.refl _ _⟩
  | some a =>
    obtain ⟨i0, hi, hz0, hz1, hz2⟩ := infoVn_parts
    have hc : Hid (∀ j u, (vnsC vs)[j]? = some u → w.cell? (a.add j) = some u) := by
      intro j u hu
      obtain ⟨b, off, e, hc⟩ := hV.cells hu
      cases e
      rw [Addr.add_lit]
      exact hc
    have hf := hV.few
    have HL : Hid (L = vs.length) := hL
    have HF : Hid (vs.length ≤ 4398046511104) := hf
    clear hV hL hf
    go_enter Tryz.func108, Tryz.ntmps108
    go_wp2_with (at_builtin; refine wpList_append_own _ rfl _ _ 71 rfl w.heap.size 80 i0 (.agg #[.int .i64 0, .string ⟨#[]⟩, .bool false]) 3 32 Tryz.undVns' hi hz0 hz1 hz2 rfl (by decide) _ _ _ rfl (World.ownsRow_made w #[] 0 (Nat.le_refl _) (Nat.zero_le _) (by simp)) a L cap (vnsC vs) rfl ?qc1 ?qc2 ?qc3 ?qc4 ?qc5 ?qc6 ?_)
    case qc1 => rw [vnsC_length, HL.out]
    case qc2 =>
      intro j u hj
      exact Lib.cell?_alloc_some _ (hc.out j u hj)
    case qc3 => exact vnsC_oneCell vs
    case qc4 => rw [Nat.zero_add]; have := HL.out; have := HF.out; simp only [maxLen]; omega
    case qc5 => rw [Nat.zero_add]; have := HL.out; have := HF.out; omega
    case qc6 => simp
    intro v' w1 hown hgrow hnil
    obtain ⟨ro, rc, rfl⟩ : ∃ ro rc, v' = .slice ro L rc := by
      rcases hown.2 with ⟨hh, h0⟩ | ⟨g, cap', _, hh, _⟩
      · exact ⟨none, 0, by rw [hh]; have : L = 0 := by omega
                           rw [this]⟩
      · exact ⟨_, cap', by rw [hh]⟩
    have HO : Hid (VOut w w1 ro L rc vs ∧ Fr [] w w1) := ⟨VOut.of (by simpa using hown) HL.out, (Fr.alloc [] w _).on (Fr.grown (S := [w.heap.size]) hgrow (by intro k hk _; simp [Value.ownBlock] at hk; simp [hk])) (by simp)⟩
    clear hown hgrow hnil
    go_wp2
    go_ret
    exact ⟨ro, rc, rfl, HO.out⟩
/-- What Collect tells. -/
def CoTold (vs : List Vn) (k : Int) (us : List Vn) (n c : Nat) : Prop := (c = 1 ∧ ¬ okV vs ∧ us = [] ∧ n = 0) ∨ (c = 0 ∧ okV vs ∧ ∃ d, UpTo vs k d ∧ n = d - 1 ∧ us = vs.drop n)
end Go.Proofs.YtldghdbfhikcoaaGreatDoor

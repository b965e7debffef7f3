/- Texts of this claim laid together, one behind the other: contracts and plain lemmas; conditions as each names them. -/
import Derived.Test.YtomajifklajilaaGreatGp2
import Derived.Deep.LoopGhost
import Derived.Deep.QuietTactic
import Derived.BigQuiet
import Derived.Lib.SliceRun
/- Contracts of package chain's inner functions: Check, passed, sort.Search over it, upTo, stands. Conditions as each names them. -/
namespace Go.Proofs.YtomajifklajilaaGreat
open Go.ChangeShapes Go.WideShapes Go.ChangeAt Go.RowKit Go.Lib
set_option linter.unusedVariables false
set_option linter.unusedSimpArgs false

theorem Fr.cell {w w' : World} (h : Fr [] w w') {a : Addr} {v : Value} (hc : w.cell? a = some v) : w'.cell? a = some v := by
  have hb := World.block_lt_of_cell? _ _ hc
  rw [World.cell?_of_block (h.block a.block hb (by simp))]
  exact hc
set_option maxHeartbeats 2000000 in
set_option maxRecDepth 100000 in
theorem passed_any (ao : Option Addr) (L cap : Nat) (k : Int) (i : Nat) (B : Bool) (vs : List Vn) (w : World) (hV : VRs w ao vs) (hL : L = vs.length) (hi : i < vs.length) (hB : decide (k < (vs.getD i Vn.zero).num) = B) :
    Calls Tryz.prog 115 #[.agg #[.slice ao L cap, .int .i64 k], .int .i64 (i : Int)] w fun e w' => e = .returned (.bool B) ∧ Fr [] w w' := by
  obtain ⟨b, off, rfl, hbl, hat⟩ := hV.lies (by omega)
  obtain ⟨c0, _, _⟩ := hat i hi
  obtain ⟨n, hn⟩ : ∃ n, n = (vs.getD i Vn.zero).num := ⟨_, rfl⟩
  rw [← hn] at c0 hB
  have hLL : L ≤ 4398046511104 := by have := hV.few; omega
  have hiL : i < L := by omega
  have HB : Hid (decide (k < n) = B) := hB
  clear hat hV hL hi hn hB
  obtain ⟨W, hW⟩ : ∃ W, W = w.alloc (.cells #[.slice (some ⟨b, off, none⟩) L cap, .int .i64 k] 153) := ⟨_, rfl⟩
  have hF : Fr [] w W := by rw [hW]; exact Fr.alloc _ _ _
  have d0 := hF.cell c0
  have d1 : W.cell? ⟨w.heap.size, 0, none⟩ = some (.slice (some ⟨b, off, none⟩) L cap) := by rw [hW, World.cell?_alloc_at _ _ _ _ (by simp)]; rfl
  have d2 : W.cell? ⟨w.heap.size, 1, none⟩ = some (.int .i64 k) := by rw [hW, World.cell?_alloc_at _ _ _ _ (by simp)]; rfl
  have HW : Hid (W = _) := hW
  have HF : Hid (Fr [] w W) := hF
  clear hW hF
  go_enter Tryz.func115, Tryz.ntmps115
  go_wp2_with fail
  rw [← HW.out]
  go_quiet (fail)
  all_goals (
    go_wp2
    go_ret
    rw [HB.out]
    exact ⟨rfl, HF.out.then (Fr.drewN _ _ _)⟩)
set_option maxHeartbeats 4000000 in
set_option maxRecDepth 1000000 in
theorem search_any (n : Nat) (x : Value) (p : Nat → Bool) (w : World) (hsz : n < 4611686018427387904)
    (hf : ∀ (W : World) (i : Nat), Fr [] w W → i < n → Calls Tryz.prog 115 #[x, .int .i64 (i : Int)] W fun e w' => e = .returned (.bool (p i)) ∧ Fr [] W w')
    (hmono : ∀ a b, a ≤ b → b < n → p a = true → p b = true) :
    Calls Tryz.prog 114 #[.int .i64 (n : Int), .func (.func 115) #[x] #[]] w fun e w' => ∃ c : Nat, e = .returned (.int .i64 (c : Int)) ∧ c ≤ n ∧ (∀ t, t < c → p t = false) ∧ (∀ t, c ≤ t → t < n → p t = true) ∧ Fr [] w w' := by
  have HF : Hid _ := hf
  have M : Hid _ := hmono
  clear hf hmono
  go_enter Tryz.func114, Tryz.ntmps114
  go_wp2
  go_loopg [5, 6] n (fun kx s5 s6 wr => ∃ (lo hi : Nat), s5 = .int .i64 lo ∧ s6 = .int .i64 hi ∧ lo ≤ hi ∧ hi ≤ n ∧ hi - lo ≤ kx ∧ Fr [] w wr ∧
    Hid ((∀ t, t < lo → p t = false) ∧ (∀ t, hi ≤ t → t < n → p t = true)))
  case atStart => exact ⟨0, n, rfl, rfl, Nat.zero_le _, Nat.le_refl _, by omega, Fr.refl _ _, (⟨fun t ht => absurd ht (Nat.not_lt_zero _), fun t h1 h2 => by omega⟩ : (∀ t, t < 0 → p t = false) ∧ (∀ t, n ≤ t → t < n → p t = true))⟩
  case round =>
    obtain ⟨lo, hi, rfl, rfl, hlh, hin, hg, hFr, I⟩ := hrel
    by_cases hlt : lo < hi
    · have hc := HF.out _ ((lo + hi) / 2) hFr (by omega)
      rw [show (((lo + hi) / 2 : Nat) : Int) = ((lo : Int) + (hi : Int)) / 2 by omega] at hc
      cases hp : p ((lo + hi) / 2) <;> rw [hp] at hc
      · have HP : Hid (p ((lo + hi) / 2) = false) := hp
        have HC : Hid _ := hc
        clear hp hc
        go_wp2_with (go_at_call 115; refine Calls.mono HC.out ?_; rintro e w' ⟨rfl, hF1⟩)
        go_roundg (hi - ((lo + hi) / 2 + 1))
        case measure => omega
        case rel =>
          have I2 : Hid ((∀ t, t < (lo + hi) / 2 + 1 → p t = false) ∧ (∀ t, hi ≤ t → t < n → p t = true)) := ⟨fun t ht => (by
            cases h : p t with
            | false => rfl
            | true => have := M.out t ((lo + hi) / 2) (by omega) (by omega) h; rw [HP.out] at this; cases this), I.out.2⟩
          exact ⟨(lo + hi) / 2 + 1, hi, by rw [show ((lo : Int) + (hi : Int)) / 2 + 1 = (((lo + hi) / 2 + 1 : Nat) : Int) by omega], rfl, by omega, hin, Nat.le_refl _, hFr.then hF1, I2⟩
      · have HP : Hid (p ((lo + hi) / 2) = true) := hp
        have HC : Hid _ := hc
        clear hp hc
        go_wp2_with (go_at_call 115; refine Calls.mono HC.out ?_; rintro e w' ⟨rfl, hF1⟩)
        go_roundg ((lo + hi) / 2 - lo)
        case measure => omega
        case rel =>
          have I2 : Hid ((∀ t, t < lo → p t = false) ∧ (∀ t, (lo + hi) / 2 ≤ t → t < n → p t = true)) := ⟨I.out.1, fun t ht htn => M.out ((lo + hi) / 2) t ht htn HP.out⟩
          exact ⟨lo, (lo + hi) / 2, rfl, by rw [show ((lo : Int) + (hi : Int)) / 2 = (((lo + hi) / 2 : Nat) : Int) by omega], by omega, by omega, Nat.le_refl _, hFr.then hF1, I2⟩
    · obtain rfl : hi = lo := by omega
      go_wp2
      go_ret
      exact ⟨hi, rfl, hin, I.out.1, I.out.2, hFr⟩
set_option maxHeartbeats 1000000 in
theorem upTo_any (ao : Option Addr) (L cap : Nat) (k : Int) (vs : List Vn) (w : World) (hV : VRs w ao vs) (hL : L = vs.length) (hR : Ris vs) :
    Calls Tryz.prog 108 #[.slice ao L cap, .int .i64 k] w fun e w' => ∃ c : Nat, e = .returned (.int .i64 (c : Int)) ∧ UpTo vs k c ∧ Fr [] w w' := by
  have HS : Hid (Calls _ _ _ _ _) := search_any L (.agg #[.slice ao L cap, .int .i64 k]) (fun i => decide (k < (vs.getD i Vn.zero).num)) w (by have := hV.few; omega)
    (fun W i hF hi => passed_any ao L cap k i _ vs W (hV.keep hF) hL (by omega) rfl)
    (fun a b hab hb h => by
      simp only [decide_eq_true_eq] at h ⊢
      by_cases e : a = b
      · subst e; exact h
      · have := ris_get hR (show a < b by omega) (by omega)
        omega)
  have HL : Hid (L = vs.length) := hL
  have hLL : L ≤ 4398046511104 := by have := hV.few; omega
  clear hV hL hR
  go_enter Tryz.func108, Tryz.ntmps108
  go_wp2_with fail
  refine Calls.mono HS.out ?_
  rintro e w1 ⟨c, rfl, hcL, h1, h2, hF⟩
  have HU : Hid (UpTo vs k c) := ⟨by have := HL.out; omega, fun j hj => by have := h1 j hj; simp only [decide_eq_false_iff_not] at this; omega, fun j hj hj2 => by have := h2 j hj (by have := HL.out; omega); simpa using this⟩
  clear h1 h2 HS
  go_wp2
  go_ret
  exact ⟨c, rfl, HU.out, hF⟩
set_option maxHeartbeats 1000000 in
set_option maxRecDepth 100000 in
theorem stands_any (ao : Option Addr) (L cap c : Nat) (k : Int) (B : Bool) (vs : List Vn) (w : World) (hV : VRs w ao vs) (hL : L = vs.length) (hc : c ≤ L) (hB : B = true ↔ 0 < c ∧ (vs.getD (c - 1) Vn.zero).num = k) :
    Calls Tryz.prog 112 #[.slice ao L cap, .int .i64 (c : Int), .int .i64 k] w fun e w' => e = .returned (.bool B) ∧ Fr [] w w' := by
  have hLL : L ≤ 4398046511104 := by have := hV.few; omega
  by_cases h0 : c = 0
  · subst h0
    obtain rfl : B = false := by
      cases B with
      | false => rfl
      | true => have := hB.1 rfl; omega
    clear hB hV hL
    go_enter Tryz.func112, Tryz.ntmps112
    go_wp2
    go_ret
    exact ⟨rfl, Fr.refl _ _⟩
  · obtain ⟨d, rfl⟩ : ∃ d, c = d + 1 := ⟨c - 1, by omega⟩
    obtain ⟨b, off, rfl, hbl, hat⟩ := hV.lies (by omega)
    obtain ⟨c0, _, _⟩ := hat d (by omega)
    simp only [Nat.add_sub_cancel] at hB
    obtain ⟨n, hn⟩ : ∃ n, n = (vs.getD d Vn.zero).num := ⟨_, rfl⟩
    rw [← hn] at c0 hB
    have HB : Hid ((n == k) = B) := by
      show _ = _
      cases B with
      | true => simpa using (hB.1 rfl).2
      | false =>
        rw [beq_eq_false_iff_ne]
        intro e
        have := hB.2 ⟨by omega, e⟩
        cases this
    clear hB hV hL hat hn h0
    have hdL : d < L := by omega
    go_enter Tryz.func112, Tryz.ntmps112
    go_wp2
    go_ret
    rw [HB.out]
    exact ⟨rfl, Fr.refl _ _⟩
end Go.Proofs.YtomajifklajilaaGreat
/- May versions be: contract of Check; a part of a row in memory of its own: Clone, part; At and Collect. Conditions as each names them. -/
namespace Go.Proofs.YtomajifklajilaaGreat
open Go.ChangeShapes Go.WideShapes Go.ChangeAt Go.RowKit Go.Lib
set_option linter.unusedVariables false
set_option linter.unusedSimpArgs false
def lastN (vs : List Vn) (i : Nat) : Int := if i = 0 then 0 else (vs.getD (i - 1) Vn.zero).num
theorem okV_snoc {a : List Vn} {x : Vn} : okV (a ++ [x]) ↔ okV a ∧ okX x ∧ ∀ y ∈ a, y.num < x.num := by
  unfold okV Ris
  rw [List.pairwise_append]
  simp only [List.mem_append, List.mem_singleton, List.pairwise_cons, List.not_mem_nil, false_implies, implies_true, List.Pairwise.nil, and_true, true_and, forall_eq]
  constructor
  · rintro ⟨h1, h2, h3⟩
    exact ⟨⟨fun y hy => h1 y (Or.inl hy), h2⟩, h1 x (Or.inr rfl), h3⟩
  · rintro ⟨⟨h1, h2⟩, h3, h4⟩
    exact ⟨fun y hy => by rcases hy with hy | hy; (exact h1 y hy); (rw [hy]; exact h3), h2, h4⟩
theorem okV_step {vs : List Vn} {i : Nat} (h : okV (vs.take i)) (hi : i < vs.length) :
    okV (vs.take (i + 1)) ↔ lastN vs i < (vs.getD i Vn.zero).num ∧ (vs.getD i Vn.zero).num ≤ 65536 ∧ (vs.getD i Vn.zero).val.size ≤ 1024 ∧ ((vs.getD i Vn.zero).drop = true → (vs.getD i Vn.zero).val = noS) := by
  rw [vtake_snoc vs i hi, okV_snoc]
  have hg : ∀ j, j < i → (vs.take i).getD j Vn.zero = vs.getD j Vn.zero := fun j hj => by simp [List.getD, List.getElem?_take_of_lt hj]
  have hl : (vs.take i).length = i := by simp; omega
  constructor
  · rintro ⟨_, h2, h3⟩
    refine ⟨?_, h2.2.1, h2.2.2.1, h2.2.2.2⟩
    unfold lastN
    split
    · have := h2.1; omega
    · have := h3 ((vs.take i).getD (i - 1) Vn.zero) (vgetD_mem _ _ (by omega))
      rwa [hg _ (by omega)] at this
  · rintro ⟨h1, h2, h3, h4⟩
    have key : ∀ j, j < i → (vs.getD j Vn.zero).num ≤ lastN vs i := by
      intro j hj
      unfold lastN
      rw [if_neg (by omega)]
      by_cases e : j = i - 1
      · subst e; exact Int.le_refl _
      · have := ris_get h.2 (show j < i - 1 by omega) (by omega)
        rw [hg _ (by omega), hg _ (by omega)] at this
        omega
    refine ⟨h, ⟨?_, h2, h3, h4⟩, ?_⟩
    · by_cases e : i = 0
      · unfold lastN at h1
        rw [if_pos e] at h1
        omega
      · have a := (h.1 _ (vgetD_mem _ 0 (by omega))).1
        rw [hg 0 (by omega)] at a
        have b := key 0 (by omega)
        omega
    · intro y hy
      obtain ⟨j, hj, e⟩ := List.mem_iff_getElem.1 hy
      have : y = vs.getD j Vn.zero := by
        rw [← hg j (by omega), ← e, List.getD, List.getElem?_eq_getElem hj]
        rfl
      rw [this]
      have := key j (by omega)
      omega
theorem CkT.bad {vs : List Vn} {c i : Nat} (h : CkT vs c) (hb : ¬ okV (vs.take (i + 1))) : c = 1 := by
  rcases h with ⟨_, h⟩ | ⟨h, _⟩
  · exact absurd (okV_sub h (List.take_sublist _ _)) hb
  · exact h
theorem lastN_succ (vs : List Vn) (i : Nat) : lastN vs (i + 1) = (vs.getD i Vn.zero).num := by unfold lastN; rw [if_neg (by omega), Nat.add_sub_cancel]
set_option maxHeartbeats 8000000 in
set_option maxRecDepth 100000 in
theorem vcheck_any (ao : Option Addr) (L cap c : Nat) (vs : List Vn) (w : World) (hV : VRs w ao vs) (hL : L = vs.length) (hc : CkT vs c) :
    Calls Tryz.prog 92 #[.slice ao L cap] w fun e w' => e = .returned (.int .i64 (c : Int)) ∧ Fr [] w w' := by
  have HL : Hid (L = vs.length) := hL
  have HC : Hid (CkT vs c) := hc
  have HV : Hid (VRs w ao vs) := hV
  have hLL : L ≤ 4398046511104 := by have := hV.few; omega
  clear hV hL hc
  go_enter Tryz.func92, Tryz.ntmps92
  go_wp2_with fail
  go_loop [3, 8] (fun ss ii => ∃ (i : Nat) (last : Int), ss = .int .i64 last ∧ ii = .int .i64 i ∧ i ≤ L ∧ Hid (last = lastN vs i ∧ okV (vs.take i))) (fun _ ii => L - (RowKit.intOf ii).toNat)
  case atStart => exact ⟨0, 0, rfl, rfl, Nat.zero_le _, ⟨by simp [lastN], okV_sub okV_nil (by simp)⟩⟩
  case round =>
    obtain ⟨i, last, rfl, rfl, hiL, HI⟩ := hrel
    by_cases hi : i < L
    · have hi' : i < vs.length := by rw [← HL.out]; exact hi
      obtain ⟨b, off, rfl, hbl, hat⟩ := HV.out.lies (by omega)
      obtain ⟨c0, c1, c2⟩ := hat i hi'
      have hE := HV.out.each _ (vgetD_mem vs i hi')
      have hst := okV_step HI.out.2 hi'
      rw [← HI.out.1] at hst
      have hls := lastN_succ vs i
      obtain ⟨⟨n, val, drop⟩, hx⟩ : ∃ x, x = vs.getD i Vn.zero := ⟨_, rfl⟩
      rw [← hx] at c0 c1 c2 hE hst hls
      simp only at c0 c1 c2 hst hls
      have hvz : val.size ≤ 140737488355328 := hE.v
      have HS : Hid _ := hst
      have HLs : Hid (lastN vs (i + 1) = n) := hls
      clear hat hst hls hx hE
      by_cases h1 : n ≤ last
      · obtain rfl : c = 1 := HC.out.bad (i := i) (fun h => by have := (HS.out.1 h).1; omega)
        go_wp2
        go_ret
        exact ⟨rfl, Fr.refl _ _⟩
      · by_cases h2 : 65536 < n
        · obtain rfl : c = 1 := HC.out.bad (i := i) (fun h => by have := (HS.out.1 h).2.1; omega)
          have h1' : last < n := by omega
          clear h1
          go_wp2
          go_ret
          exact ⟨rfl, Fr.refl _ _⟩
        · have h1' : last < n := by omega
          have h2' : n ≤ 65536 := by omega
          clear h1 h2
          by_cases h3 : 1024 < val.size
          · obtain rfl : c = 1 := HC.out.bad (i := i) (fun h => by have := (HS.out.1 h).2.2.1; omega)
            have h3' : (1024 : Int) < val.size := by omega
            go_wp2
            go_ret
            exact ⟨rfl, Fr.refl _ _⟩
          · have h3' : (val.size : Int) ≤ 1024 := by omega
            clear h3
            cases drop with
            | false =>
              have HN : Hid (okV (vs.take (i + 1))) := HS.out.2 ⟨h1', h2', by omega, fun h => by cases h⟩
              go_wp2
              refine ⟨⟨i + 1, n, rfl, by simp, by omega, ⟨HLs.out.symm, HN.out⟩⟩, ?_⟩
              simp [RowKit.intOf]
              omega
            | true =>
              by_cases h4 : val.toList = []
              · have h5 : val.toList.isEmpty = true := by rw [h4]; rfl
                have HN : Hid (okV (vs.take (i + 1))) := HS.out.2 ⟨h1', h2', by omega, fun _ => (noS_iff _).1 ((tl_nil _).1 h4)⟩
                go_wp2
                refine ⟨⟨i + 1, n, rfl, by simp, by omega, ⟨HLs.out.symm, HN.out⟩⟩, ?_⟩
                simp [RowKit.intOf]
                omega
              · obtain rfl : c = 1 := HC.out.bad (i := i) (fun h => h4 ((tl_nil _).2 ((noS_iff _).2 ((HS.out.1 h).2.2.2 rfl))))
                have h5 : val.toList.isEmpty = false := by
                  cases hq : val.toList with
                  | nil => exact absurd hq h4
                  | cons a r => rfl
                go_wp2
                go_ret
                exact ⟨rfl, Fr.refl _ _⟩
    · obtain rfl : c = 0 := by
        have hok := HI.out.2
        rw [List.take_of_length_le (by have := HL.out; omega)] at hok
        exact HC.out.one (CkT.of hok)
      go_wp2
      go_ret
      exact ⟨rfl, Fr.refl _ _⟩
end Go.Proofs.YtomajifklajilaaGreat
/- A part of a row in memory of its own (slices.Clone, part); At; Collect. Conditions as each names them. -/
namespace Go.Proofs.YtomajifklajilaaGreat
open Go.ChangeShapes Go.WideShapes Go.ChangeAt Go.RowKit Go.Lib
set_option linter.unusedVariables false
set_option linter.unusedSimpArgs false
theorem Tryz.undVnsE : Tryz.prog.underlying 68 = some (.slice (Tryz.prog.elem 68)) := by kernel_rfl
theorem Tryz.elemVns : Tryz.prog.elem 68 = 110 := by kernel_rfl
theorem Tryz.sizeOfVn (w : World) : (Go.sizeOf 110).run Tryz.prog w = .ok 3 w := by kernel_rfl
theorem Tryz.infoVn : (Tryz.prog.info? 110).map (fun i => (i.zero, i.size, i.bytes)) = some (some (.agg #[.int .i64 0, .string ⟨#[]⟩, .bool false]), 3, 32) := by kernel_rfl
theorem infoVn_parts : ∃ i, Tryz.prog.info? 110 = some i ∧ i.zero = some (.agg #[.int .i64 0, .string ⟨#[]⟩, .bool false]) ∧ i.size = 3 ∧ i.bytes = 32 := by
  have h := Tryz.infoVn
  cases hi : Tryz.prog.info? 110 with
  | none => rw [hi] at h; cases h
  | some i =>
    rw [hi] at h
    simp only [Option.map_some, Option.some.injEq, Prod.mk.injEq] at h
    exact ⟨i, rfl, h.1, h.2.1, h.2.2⟩
theorem slV_lh (ro : Option Addr) (N rc i j : Nat) (h1 : i ≤ j) (h2 : j ≤ rc) (w : World) : (Instr.sliceAt 68 (.slice ro N rc) (some (.int .i64 (i : Int))) (some (.int .i64 (j : Int))) none).run Tryz.prog w = .ok (.slice (fromV ro rc i) (j - i) (rc - i)) w := by
  rw [run_sliceAt_slice w 68 _ _ _ _ Tryz.undVnsE, run_slice_lh w 68 _ _ _ Tryz.undVnsE .i64 .i64 (i : Int) (j : Int) (by omega) (by omega) (by omega), Tryz.elemVns, Tryz.sizeOfVn]
  simp [Result.andThen, sliced, fromV]
theorem slV_h (ro : Option Addr) (N rc i : Nat) (h1 : i ≤ rc) (w : World) : (Instr.sliceAt 68 (.slice ro N rc) none (some (.int .i64 (i : Int))) none).run Tryz.prog w = .ok (.slice ro i rc) w := by
  rw [run_sliceAt_slice w 68 _ _ _ _ Tryz.undVnsE, run_slice_h w 68 _ _ _ Tryz.undVnsE .i64 (i : Int) (by omega) (by omega), Tryz.elemVns, Tryz.sizeOfVn]
  cases ro <;> simp [Result.andThen, sliced, Addr.add]
theorem slV_l (ro : Option Addr) (N rc K : Nat) (h1 : K ≤ N) (w : World) : (Instr.sliceAt 68 (.slice ro N rc) (some (.int .i64 (K : Int))) none none).run Tryz.prog w = .ok (.slice (fromV ro rc K) (N - K) (rc - K)) w := by
  rw [run_sliceAt_slice w 68 _ _ _ _ Tryz.undVnsE, run_slice_l w 68 _ _ _ Tryz.undVnsE .i64 (K : Int) (by omega) (by omega), Tryz.elemVns, Tryz.sizeOfVn]
  simp [Result.andThen, sliced, fromV]
theorem slV_hm (ro : Option Addr) (N rc i : Nat) (k l : Int) (hk : k = (i : Int)) (hl : l = (i : Int)) (h1 : i ≤ rc) (w : World) : (Instr.sliceAt 68 (.slice ro N rc) none (some (.int .i64 k)) (some (.int .i64 l))).run Tryz.prog w = .ok (.slice ro i i) w := by
  subst hk hl
  rw [run_sliceAt_slice w 68 _ _ _ _ Tryz.undVnsE, run_slice_hm w 68 _ _ _ Tryz.undVnsE .i64 .i64 (i : Int) (i : Int) (by omega) (by omega) (by omega), Tryz.elemVns, Tryz.sizeOfVn]
  cases ro <;> simp [Result.andThen, sliced, Addr.add]
/-- A row of versions of one's own, made since a world; its spare room may be cut off. -/
structure VOut (w w' : World) (ro : Option Addr) (N rc : Nat) (vs : List Vn) : Prop where
  own : ∃ rc', rc ≤ rc' ∧ w'.ownsRow w.heap.size 110 3 (.slice ro N rc') N (vnsC vs)
  len : N = vs.length
  cap : N ≤ rc
theorem VOut.later {w w1 w2 : World} {ro : Option Addr} {N rc : Nat} {vs : List Vn} (h : VOut w1 w2 ro N rc vs) (hs : w.heap.size ≤ w1.heap.size) : VOut w w2 ro N rc vs := by
  obtain ⟨rc', hr, ho⟩ := h.own
  refine ⟨⟨rc', hr, ho.1, ?_⟩, h.len, h.cap⟩
  rcases ho.2 with hh | ⟨g, cap, cur, e, hb, hgg, rest⟩
  · exact .inl hh
  · exact .inr ⟨g, cap, cur, e, by omega, hgg, rest⟩
theorem VOut.rs {w w' : World} {ro : Option Addr} {N rc : Nat} {vs : List Vn} (h : VOut w w' ro N rc vs) (hl : vs.length ≤ 4398046511104) (he : ∀ x ∈ vs, VEach x) : VRs w' ro vs := by
  obtain ⟨rc', hr, ho⟩ := h.own
  exact VRs.of_own ho h.len hl he
theorem own_cap {w : World} {base : Nat} {e : TypeId} {size : Nat} {ro : Option Addr} {N rc : Nat} {xs : List Value} (h : w.ownsRow base e size (.slice ro N rc) N xs) : N ≤ rc := by
  rcases h.2 with ⟨hv, hn⟩ | ⟨g, cap, cur, hv, _, _, hnc, _⟩
  · cases hv; omega
  · cases hv; exact hnc
theorem VOut.of {w w' : World} {ro : Option Addr} {N rc : Nat} {vs : List Vn} (h : w'.ownsRow w.heap.size 110 3 (.slice ro N rc) N (vnsC vs)) (hl : N = vs.length) : VOut w w' ro N rc vs := ⟨⟨rc, Nat.le_refl _, h⟩, hl, own_cap h⟩
theorem VOut.cut {w w' : World} {ro : Option Addr} {N rc : Nat} {vs : List Vn} (h : VOut w w' ro N rc vs) : VOut w w' ro N N vs := by
  obtain ⟨rc', hr, ho⟩ := h.own
  exact ⟨⟨rc', Nat.le_trans h.cap hr, ho⟩, h.len, Nat.le_refl _⟩
set_option maxHeartbeats 2000000 in
set_option maxRecDepth 100000 in
theorem clone_any (ao : Option Addr) (L cap : Nat) (vs : List Vn) (w : World) (hV : VRs w ao vs) (hL : L = vs.length) :
    Calls Tryz.prog 89 #[.slice ao L cap] w fun e w' => ∃ ro rc, e = .returned (.slice ro L rc) ∧ VOut w w' ro L rc vs ∧ Fr [] w w' := by
  have q22 : ∀ (w : World) (a : Option Addr) (n c n' c' : Nat), (binOp .eql 68 (.slice a n c) (.slice none n' c')).run Tryz.prog w = .ok (.bool a.isNone) w := fun w a n c n' c' => Lib.run_eql_slice_nil w _ _ a n c n' c' Tryz.undVns'
  cases ao with
  | none =>
    obtain rfl : L = 0 := by
      rcases Nat.eq_zero_or_pos vs.length with h | h
      · omega
      · obtain ⟨b, off, e, _⟩ := hV.lies h
        cases e
    obtain rfl : vs = [] := List.eq_nil_of_length_eq_zero hL.symm
    clear hV hL
    go_enter Tryz.func89, Tryz.ntmps89
    go_wp2
    go_ret
    exact ⟨none, 0, rfl, VOut.of ⟨rfl, .inl ⟨rfl, rfl⟩⟩ rfl, Fr.refl _ _⟩
  | some a =>
    obtain ⟨i0, hi, hz0, hz1, hz2⟩ := infoVn_parts
    have hc : Hid (∀ j u, (vnsC vs)[j]? = some u → w.cell? (a.add j) = some u) := by
      intro j u hu
      obtain ⟨b, off, e, hc⟩ := hV.cells hu
      cases e
      rw [Addr.add_lit]
      exact hc
    have hf := hV.few
    have HL : Hid (L = vs.length) := hL
    have HF : Hid (vs.length ≤ 4398046511104) := hf
    clear hV hL hf
    go_enter Tryz.func89, Tryz.ntmps89
    go_wp2_with (at_builtin; refine wpList_append_own _ rfl _ _ 68 rfl w.heap.size 110 i0 (.agg #[.int .i64 0, .string ⟨#[]⟩, .bool false]) 3 32 Tryz.undVns' hi hz0 hz1 hz2 rfl (by decide) _ _ _ rfl (World.ownsRow_made w #[] 0 (Nat.le_refl _) (Nat.zero_le _) (by simp)) a L cap (vnsC vs) rfl ?qc1 ?qc2 ?qc3 ?qc4 ?qc5 ?qc6 ?_)
    case qc1 => rw [vnsC_length, HL.out]
    case qc2 =>
      intro j u hj
      exact Lib.cell?_alloc_some _ (hc.out j u hj)
    case qc3 => exact vnsC_oneCell vs
    case qc4 => rw [Nat.zero_add]; have := HL.out; have := HF.out; simp only [maxLen]; omega
    case qc5 => rw [Nat.zero_add]; have := HL.out; have := HF.out; omega
    case qc6 => simp
    intro v' w1 hown hgrow hnil
    obtain ⟨ro, rc, rfl⟩ : ∃ ro rc, v' = .slice ro L rc := by
      rcases hown.2 with ⟨hh, h0⟩ | ⟨g, cap', _, hh, _⟩
      · exact ⟨none, 0, by rw [hh]; have : L = 0 := by omega
                           rw [this]⟩
      · exact ⟨_, cap', by rw [hh]⟩
    have HO : Hid (VOut w w1 ro L rc vs ∧ Fr [] w w1) := ⟨VOut.of (by simpa using hown) HL.out, (Fr.alloc [] w _).on (Fr.grown (S := [w.heap.size]) hgrow (by intro k hk _; simp [Value.ownBlock] at hk; simp [hk])) (by simp)⟩
    clear hown hgrow hnil
    go_wp2
    go_ret
    exact ⟨ro, rc, rfl, HO.out⟩
set_option maxHeartbeats 2000000 in
set_option maxRecDepth 100000 in
theorem part_any (ao : Option Addr) (L cap i j : Nat) (vs : List Vn) (w : World) (hV : VRs w ao vs) (hL : L = vs.length) (hcap : L ≤ cap) (hij : i ≤ j) (hj : j ≤ L) :
    Calls Tryz.prog 109 #[.slice ao L cap, .int .i64 (i : Int), .int .i64 (j : Int)] w fun e w' => ∃ ro, e = .returned (.slice ro (j - i) (j - i)) ∧ VOut w w' ro (j - i) (j - i) ((vs.drop i).take (j - i)) ∧ Fr [] w w' := by
  have s1 : ∀ W, (Instr.sliceAt 68 (.slice ao L cap) (some (.int .i64 (i : Int))) (some (.int .i64 (j : Int))) none).run Tryz.prog W = .ok (.slice (fromV ao cap i) (j - i) (cap - i)) W := slV_lh ao L cap i j hij (by omega)
  have hlen : j - i = ((vs.drop i).take (j - i)).length := by simp only [List.length_take, List.length_drop]; omega
  have HC : Hid (Calls _ _ _ _ _) := clone_any (fromV ao cap i) (j - i) (cap - i) ((vs.drop i).take (j - i)) w (hV.from cap i j hij (by omega) (by omega)) hlen
  have hLL : L ≤ 4398046511104 := by have := hV.few; omega
  clear hV hlen hL
  go_enter Tryz.func109, Tryz.ntmps109
  go_wp2_with fail
  refine Calls.mono HC.out ?_
  rintro e w1 ⟨ro, rc, rfl, hO, hF⟩
  have hd : ((j : Int) - (i : Int)) = ((j - i : Nat) : Int) := by omega
  have s2 : ∀ W, (Instr.sliceAt 68 (.slice ro (j - i) rc) none (some (.int .i64 ((j : Int) - (i : Int)))) (some (.int .i64 ((j : Int) - (i : Int))))).run Tryz.prog W = .ok (.slice ro (j - i) (j - i)) W := slV_hm ro (j - i) rc (j - i) _ _ hd hd hO.cap
  have HO : Hid (VOut w w1 ro (j - i) (j - i) ((vs.drop i).take (j - i))) := hO.cut
  clear hO HC hd
  go_wp2
  go_ret
  exact ⟨ro, rfl, HO.out, hF⟩
/-- What Collect tells. -/
def CoTold (vs : List Vn) (k : Int) (us : List Vn) (n c : Nat) : Prop := (c = 1 ∧ ¬ okV vs ∧ us = [] ∧ n = 0) ∨ (c = 0 ∧ okV vs ∧ ∃ d, UpTo vs k d ∧ n = d - 1 ∧ us = vs.drop n)
set_option maxHeartbeats 2000000 in
set_option maxRecDepth 100000 in
theorem collect_any (ao : Option Addr) (L cap : Nat) (k : Int) (vs : List Vn) (w : World) (hV : VRs w ao vs) (hL : L = vs.length) (hcap : L ≤ cap) :
    Calls Tryz.prog 98 #[.slice ao L cap, .int .i64 k] w fun e w' => ∃ ro N rc us n c, e = .returned (.tuple #[.slice ro N rc, .int .i64 ((n : Nat) : Int), .int .i64 ((c : Nat) : Int)]) ∧ CoTold vs k us n c ∧ VOut w w' ro N rc us ∧ Fr [] w w' := by
  by_cases hok : okV vs
  · have hck := CkT.of hok
    have HV : Hid (∀ W, Fr [] w W → VRs W ao vs) := fun W hf => hV.keep hf
    have HL : Hid (L = vs.length) := hL
    have HO : Hid (okV vs) := hok
    have hL2 : L ≤ 65536 := by have := okV_few hok; omega
    have HC : Hid (Calls _ _ _ _ _) := vcheck_any ao L cap 0 vs w hV hL hck
    clear hV hL hok hck
    go_enter Tryz.func98, Tryz.ntmps98
    go_wp2_with fail
    refine Calls.mono HC.out ?_
    rintro e w1 ⟨rfl, hF1⟩
    have HU : Hid (Calls _ _ _ _ _) := upTo_any ao L cap k vs w1 (HV.out _ hF1) HL.out HO.out.2
    clear HC
    go_wp2_with fail
    refine Calls.mono HU.out ?_
    rintro e w2 ⟨d, rfl, hd, hF2⟩
    have hdL : d ≤ L := by have := hd.le; have := HL.out; omega
    have hG2 := hF1.then hF2
    have HD : Hid (UpTo vs k d) := hd
    clear hd HU
    have hmx : max ((d : Int) - 1) 0 = ((d - 1 : Nat) : Int) := by omega
    have HP : Hid (Calls _ _ _ _ _) := part_any ao L cap (d - 1) L vs w2 (HV.out _ hG2) HL.out hcap (by omega) (Nat.le_refl _)
    by_cases h0 : d = 0
    · subst h0
      simp only [Nat.zero_sub] at HP
      go_wp2_with fail
      refine Calls.mono HP.out ?_
      rintro e w3 ⟨ro, rfl, hO, hF3⟩
      have hdr : (vs.drop 0).take (L - 0) = vs := by rw [HL.out]; simp
      rw [hdr] at hO
      have HR : Hid (VOut w w3 ro (L - 0) (L - 0) vs ∧ Fr [] w w3) := ⟨hO.later hG2.size, hG2.then hF3⟩
      clear hO hdr HP
      go_wp2
      refine bodyPost_ret (results_tmp3 rfl _ _ _) rfl ?_
      exact ⟨ro, _, _, vs, 0, 0, rfl, Or.inr ⟨rfl, HO.out, 0, HD.out, rfl, rfl⟩, HR.out⟩
    · obtain ⟨d', rfl⟩ : ∃ d', d = d' + 1 := ⟨d - 1, by omega⟩
      simp only [Nat.add_sub_cancel] at HP
      have hmx2 : (((d' + 1 : Nat) : Int) - 1) = (d' : Int) := by omega
      go_wp2_with fail
      refine Calls.mono HP.out ?_
      rintro e w3 ⟨ro, rfl, hO, hF3⟩
      have hdr : (vs.drop d').take (L - d') = vs.drop d' := by rw [HL.out, List.take_of_length_le (by simp)]
      rw [hdr] at hO
      have HR : Hid (VOut w w3 ro (L - d') (L - d') (vs.drop d') ∧ Fr [] w w3) := ⟨hO.later hG2.size, hG2.then hF3⟩
      clear hO hdr HP
      go_wp2
      refine bodyPost_ret (results_tmp3 rfl _ _ _) rfl ?_
      exact ⟨ro, _, _, vs.drop d', d', 0, rfl, Or.inr ⟨rfl, HO.out, d' + 1, HD.out, rfl, rfl⟩, HR.out⟩
  · have hck : CkT vs 1 := Or.inr ⟨rfl, hok⟩
    have HO : Hid (¬ okV vs) := hok
    have HC : Hid (Calls _ _ _ _ _) := vcheck_any ao L cap 1 vs w hV hL hck
    clear hV hL hok hck
    go_enter Tryz.func98, Tryz.ntmps98
    go_wp2_with fail
    refine Calls.mono HC.out ?_
    rintro e w1 ⟨rfl, hF1⟩
    clear HC
    go_wp2
    refine bodyPost_ret (results_tmp3 rfl _ _ _) rfl ?_
    exact ⟨none, 0, 0, [], 0, 1, rfl, Or.inl ⟨rfl, HO.out, rfl, rfl⟩, VOut.of ⟨rfl, .inl ⟨rfl, rfl⟩⟩ rfl, hF1⟩
end Go.Proofs.YtomajifklajilaaGreat

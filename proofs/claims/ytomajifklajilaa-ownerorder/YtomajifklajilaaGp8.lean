/- Texts of this claim laid together, one behind the other: contracts and plain lemmas; conditions as each names them. -/
import Derived.Test.YtomajifklajilaaGp7
/- rise, mayBe, slices.Clone of numbers: contracts. Conditions as each names them. -/
namespace Go.Proofs.Ytomajifklajilaa
open Go.ChangeShapes Go.WideShapes Go.ChangeAt Go.RowKit Go.Lib
set_option linter.unusedVariables false
set_option linter.unusedSimpArgs false
theorem drop_getD (ns : List Int) (i : Nat) (h : i < ns.length) : ns.drop i = ns.getD i 0 :: ns.drop (i + 1) := by
  rw [List.drop_eq_getElem_cons h]
  simp [List.getD, h]
set_option maxHeartbeats 2000000 in
set_option maxRecDepth 100000 in
theorem orise_any (a : Int) (ao : Option Addr) (L cap : Nat) (ns : List Int) (B : Bool) (w : World) (hI : IRs w ao ns) (hL : L = ns.length) (hB : B = true ↔ Ab a ns) :
    Calls Try.prog 44 #[.int .i64 a, .slice ao L cap] w fun e w' => e = .returned (.bool B) ∧ w = w' := by
  have HI : Hid (IRs w ao ns) := hI
  have HL : Hid (L = ns.length) := hL
  have HB : Hid (B = true ↔ Ab a ns) := hB
  have hLm : L ≤ 17592186044416 := by have := hI.few; omega
  clear hI hL hB
  go_enter Try.func44, Try.ntmps44
  go_wp2_with fail
  go_loopw [0, 9] (fun cc ii wr => ∃ (c : Int) (i : Nat), cc = .int .i64 c ∧ ii = .int .i64 i ∧ i ≤ L ∧ Hid (Ab a ns ↔ Ab c (ns.drop i)) ∧ Hid (w = wr)) (fun _ ii _ => L - (RowKit.intOf ii).toNat)
  case atStart => exact ⟨a, 0, rfl, rfl, Nat.zero_le _, Iff.rfl, rfl⟩
  case round =>
    obtain ⟨c, i, rfl, rfl, hiL, HA, HW⟩ := hrel
    by_cases hi : i < L
    · have hi' : i < ns.length := by rw [← HL.out]; exact hi
      obtain ⟨b, off, rfl, hb, hc⟩ := HI.out.lies (by omega)
      have c0 := hc i hi'
      rw [HW.out] at c0
      have HD : Hid (ns.drop i = ns.getD i 0 :: ns.drop (i + 1)) := drop_getD ns i hi'
      obtain ⟨n, hn⟩ : ∃ n, n = ns.getD i 0 := ⟨_, rfl⟩
      rw [← hn] at c0 HD
      clear hc hb hn
      by_cases h1 : n ≤ c
      · have hN : B = false := by
          cases B with
          | false => rfl
          | true => have := HA.out.1 (HB.out.1 rfl); rw [HD.out] at this; have := this.1; omega
        clear HA HB HD
        subst hN
        go_wp2
        go_ret
        exact ⟨rfl, HW.out⟩
      · by_cases h2 : 65536 < n
        · have hN : B = false := by
            cases B with
            | false => rfl
            | true => have := HA.out.1 (HB.out.1 rfl); rw [HD.out] at this; have := this.2.1; omega
          clear HA HB HD
          subst hN
          go_wp2
          go_ret
          exact ⟨rfl, HW.out⟩
        · have HA2 : Hid (Ab a ns ↔ Ab n (ns.drop (i + 1))) := HA.out.trans (by rw [HD.out]; exact ⟨fun h => h.2.2, fun h => ⟨by omega, by omega, h⟩⟩)
          clear HA HD
          go_wp2_with fail
          go_roundw
          case rel => exact ⟨n, i + 1, rfl, by simp, by omega, HA2, HW⟩
          case measure => simp [RowKit.intOf]; omega
    · have hN : B = true := by
        refine HB.out.2 (HA.out.2 ?_)
        rw [List.drop_of_length_le (by have := HL.out; omega)]
        trivial
      clear HA HB
      subst hN
      go_wp2
      go_ret
      exact ⟨rfl, HW.out⟩
theorem Try.undIs15 : Try.prog.underlying 28 = some (.slice 3) := by kernel_rfl
theorem Try.infoI15 : (Try.prog.info? 3).map (fun i => (i.zero, i.size, i.bytes)) = some (some (.int .i64 0), 1, 8) := by kernel_rfl
theorem infoI15_parts : ∃ i, Try.prog.info? 3 = some i ∧ i.zero = some (.int .i64 0) ∧ i.size = 1 ∧ i.bytes = 8 := by
  have h := Try.infoI15
  cases hi : Try.prog.info? 3 with
  | none => rw [hi] at h; cases h
  | some i =>
    rw [hi] at h
    simp only [Option.map_some, Option.some.injEq, Prod.mk.injEq] at h
    exact ⟨i, rfl, h.1, h.2.1, h.2.2⟩
def intsC (ns : List Int) : List Value := ns.map fun n => .int .i64 n
theorem intsC_length (ns : List Int) : (intsC ns).length = ns.length := by simp [intsC]
theorem intsC_get (ns : List Int) (j : Nat) (h : j < ns.length) : (intsC ns)[j]? = some (.int .i64 (ns.getD j 0)) := by simp [intsC, List.getD, h]
set_option maxHeartbeats 2000000 in
set_option maxRecDepth 100000 in
theorem cloneI_any (ao : Option Addr) (L cap : Nat) (ns : List Int) (w : World) (hI : IRs w ao ns) (hL : L = ns.length) (hc : L ≤ 131072) :
    Calls Try.prog 20 #[.slice ao L cap] w fun e w' => ∃ ro rc, e = .returned (.slice ro L rc) ∧ IRs w' ro ns ∧ (∀ a, ro = some a → w.heap.size ≤ a.block ∧ ∃ cur, w'.heap[a.block]? = some (.cells cur 3 (0, 0))) ∧ Fr [] w w' := by
  have q22 : ∀ (w : World) (a : Option Addr) (n c n' c' : Nat), (binOp .eql 28 (.slice a n c) (.slice none n' c')).run Try.prog w = .ok (.bool a.isNone) w := fun w a n c n' c' => Lib.run_eql_slice_nil w _ _ a n c n' c' Try.undIs15
  cases ao with
  | none =>
    obtain rfl : L = 0 := by
      rcases Nat.eq_zero_or_pos ns.length with h | h
      · omega
      · obtain ⟨b, off, e, _⟩ := hI.lies h
        cases e
    obtain rfl : ns = [] := List.eq_nil_of_length_eq_zero hL.symm
    clear hI hL
    go_enter Try.func20, Try.ntmps20
    go_wp2
    go_ret
    exact ⟨none, 0, rfl, ⟨fun h => by simp at h, by simp⟩, fun a e => (by cases e), Fr.refl _ _⟩
  | some a =>
    obtain ⟨i0, hi, hz0, hz1, hz2⟩ := infoI15_parts
    have hc2 : Hid (∀ j u, (intsC ns)[j]? = some u → w.cell? (a.add j) = some u) := by
      intro j u hu
      have hj : j < ns.length := by have := (List.getElem?_eq_some_iff.1 hu).1; rwa [intsC_length] at this
      obtain ⟨b, off, e, _, hcc⟩ := hI.lies (by omega)
      cases e
      rw [Addr.add_lit, hcc j hj]
      rw [intsC_get ns j hj] at hu
      exact hu
    have HL : Hid (L = ns.length) := hL
    have HF : Hid (ns.length ≤ 131072) := by show _ ≤ _; omega
    clear hI hL
    go_enter Try.func20, Try.ntmps20
    go_wp2_with (at_builtin; refine wpList_append_own _ rfl _ _ 28 rfl w.heap.size 3 i0 (.int .i64 0) 1 8 Try.undIs15 hi hz0 hz1 hz2 rfl (by decide) _ _ _ rfl (World.ownsRow_made w #[] 0 (Nat.le_refl _) (Nat.zero_le _) (by simp)) a L cap (intsC ns) rfl ?qc1 ?qc2 ?qc3 ?qc4 ?qc5 ?qc6 ?_)
    case qc1 => rw [intsC_length, HL.out, Nat.mul_one]
    case qc2 =>
      intro j u hj
      exact Lib.cell?_alloc_some _ (hc2.out j u hj)
    case qc3 =>
      intro u hu
      obtain ⟨_, _, rfl⟩ := List.mem_map.1 hu
      rfl
    case qc4 => rw [Nat.zero_add]; have := HL.out; have := HF.out; simp only [maxLen]; omega
    case qc5 => rw [Nat.zero_add]; have := HL.out; have := HF.out; omega
    case qc6 => simp
    intro v' w1 hown hgrow hnil
    obtain ⟨ro, rc, rfl⟩ : ∃ ro rc, v' = .slice ro L rc := by
      rcases hown.2 with ⟨hh, h0⟩ | ⟨g, cap', _, hh, _⟩
      · exact ⟨none, 0, by rw [hh]; have : L = 0 := by omega
                           rw [this]⟩
      · exact ⟨_, cap', by rw [hh]⟩
    have HO : Hid (IRs w1 ro ns ∧ (∀ a, ro = some a → w.heap.size ≤ a.block ∧ ∃ cur, w1.heap[a.block]? = some (.cells cur 3 (0, 0))) ∧ Fr [] w w1) := by
      have hown2 : w1.ownsRow w.heap.size 3 1 (.slice ro L rc) L (intsC ns) := by simpa using hown
      refine ⟨?_, ?_, (Fr.alloc [] w _).on (Fr.grown (S := [w.heap.size]) hgrow (by intro k hk _; simp [Value.ownBlock] at hk; simp [hk])) (by simp)⟩
      · rcases hown2.2 with ⟨hv, h0⟩ | ⟨g, cap', cur, hv, hbase, hg, h1, h2, h3, ht⟩
        · have : ns = [] := List.eq_nil_of_length_eq_zero (by have := HL.out; omega)
          subst this
          exact ⟨fun h => by simp at h, by simp⟩
        · cases hv
          refine ⟨fun h0 => ⟨g, 0, rfl, lt_of_block hg, fun i hi => ?_⟩, by have := HF.out; omega⟩
          rw [cell_of_row _ _ _ _ _ _ hg, Nat.zero_add, ← Array.getElem?_toList, ← intsC_get ns i hi, ← ht, List.getElem?_take_of_lt (by have := HL.out; omega)]
      · intro a' e
        rcases hown2.2 with ⟨hv, h0⟩ | ⟨g, cap', cur, hv, hbase, hg, h1, h2, h3, ht⟩
        · cases hv; cases e
        · cases hv; cases e
          exact ⟨hbase, cur, hg⟩
    clear hown hgrow hnil
    go_wp2
    go_ret
    exact ⟨ro, rc, rfl, HO.out⟩
end Go.Proofs.Ytomajifklajilaa
/- mayBe: contract. Conditions as each names them. -/
namespace Go.Proofs.Ytomajifklajilaa
open Go.ChangeShapes Go.WideShapes Go.ChangeAt Go.RowKit Go.Lib
set_option linter.unusedVariables false
set_option linter.unusedSimpArgs false
section
variable {k f n : Int} {wk wv : ByteArray} {wd : Bool} {key en : ByteArray} {bo : Option Addr} {bl bc : Nat} {ns : List Int}
set_option maxHeartbeats 2000000 in
set_option maxRecDepth 100000 in
theorem omay_0 (w : World) (h : f = 0 ∨ n < 0 ∨ 65536 < n) : Calls Try.prog 19 #[.agg #[.int .u8 k, .int .i64 f, .int .i64 n, .string wk, .string wv, .bool wd, .string key, .string en, .slice bo bl bc]] w fun e w' => e = .returned (.bool false) ∧ Fr [] w w' := by
  have HF : Hid (Fr [] w (w.alloc (.cells #[.int .u8 k, .int .i64 f, .int .i64 n, .string wk, .string wv, .bool wd, .string key, .string en, .slice bo bl bc] 33))) := Fr.alloc _ _ _
  have e0 := eNil
  by_cases h1 : f = 0
  · subst h1
    clear h
    go_enter Try.func19, Try.ntmps19
    go_wp2
    go_ret
    exact ⟨rfl, HF.out⟩
  · by_cases h2 : n < 0
    · clear h
      go_enter Try.func19, Try.ntmps19
      go_wp2
      go_ret
      exact ⟨rfl, HF.out⟩
    · have h3 : 65536 < n := by omega
      clear h
      go_enter Try.func19, Try.ntmps19
      go_wp2
      go_ret
      exact ⟨rfl, HF.out⟩
set_option maxHeartbeats 4000000 in
set_option maxRecDepth 100000 in
theorem omay_1 (w : World) (h1 : ¬ f = 0) (h2 : ¬ n < 0) (h3 : ¬ 65536 < n) (KE EE NB NW : Bool) (hKE : (key.toList == ([] : List UInt8)) = KE) (hEE : (en.toList == ([] : List UInt8)) = EE) (hNB : decide (bl = 0) = NB) (hNW : (wk.toList == ([] : List UInt8) && (wv.toList == ([] : List UInt8) && wd == false)) = NW) :
    Calls Try.prog 19 #[.agg #[.int .u8 1, .int .i64 f, .int .i64 n, .string wk, .string wv, .bool wd, .string key, .string en, .slice bo bl bc]] w fun e w' => e = .returned (.bool (KE && EE && NB && decide (0 < f) && decide (0 < n) && decide (okWr wk wv wd))) ∧ Fr [] w w' := by
  have HF : Hid (Fr [] w (w.alloc (.cells #[.int .u8 1, .int .i64 f, .int .i64 n, .string wk, .string wv, .bool wd, .string key, .string en, .slice bo bl bc] 33))) := Fr.alloc _ _ _
  have e0 := eNil
  have hq : ∀ W, (binOp .eql 31 (.agg #[.string wk, .string wv, .bool wd]) (.agg #[.string ⟨#[]⟩, .string ⟨#[]⟩, .bool false])).run Try.prog W = .ok (.bool NW) W := fun W => by rw [wt_eql15, eNil, hNW]
  have hNB2 : decide ((bl : Int) = 0) = NB := by rw [← hNB, Bool.eq_iff_iff, decide_eq_true_eq, decide_eq_true_eq]; omega
  have hNB3 : ((bl : Int) == 0) = NB := by rw [← hNB2]; rfl
  clear hNW hNB
  cases KE <;> cases EE <;> cases NB
  all_goals (
    go_enter Try.func19, Try.ntmps19
    go_wp2_with fail
    go_quiet (fail)
    go_wp2_with (first | (refine (oiswrite_any wk wv wd _).mono ?_; rintro e w1 ⟨rfl, hF1⟩)))
  all_goals (first
    | (go_ret; exact ⟨by first | (simp [*]; done) | (simp [*]; intros; omega), HF.out.then (Fr.drewN _ _ _)⟩)
    | (go_ret; exact ⟨by simp [*], (HF.out.then (Fr.drewN _ _ _)).then hF1⟩))
set_option maxHeartbeats 4000000 in
set_option maxRecDepth 100000 in
theorem omay_2 (w : World) (h1 : ¬ f = 0) (h2 : ¬ n < 0) (h3 : ¬ 65536 < n) (KE EE NB NW : Bool) (hKE : (key.toList == ([] : List UInt8)) = KE) (hEE : (en.toList == ([] : List UInt8)) = EE) (hNB : decide (bl = 0) = NB) (hNW : (wk.toList == ([] : List UInt8) && (wv.toList == ([] : List UInt8) && wd == false)) = NW) :
    Calls Try.prog 19 #[.agg #[.int .u8 2, .int .i64 f, .int .i64 n, .string wk, .string wv, .bool wd, .string key, .string en, .slice bo bl bc]] w fun e w' => e = .returned (.bool (NW && NB && decide (okK9 key) && EE)) ∧ Fr [] w w' := by
  have HF : Hid (Fr [] w (w.alloc (.cells #[.int .u8 2, .int .i64 f, .int .i64 n, .string wk, .string wv, .bool wd, .string key, .string en, .slice bo bl bc] 33))) := Fr.alloc _ _ _
  have e0 := eNil
  have hq : ∀ W, (binOp .eql 31 (.agg #[.string wk, .string wv, .bool wd]) (.agg #[.string ⟨#[]⟩, .string ⟨#[]⟩, .bool false])).run Try.prog W = .ok (.bool NW) W := fun W => by rw [wt_eql15, eNil, hNW]
  have hNB2 : decide ((bl : Int) = 0) = NB := by rw [← hNB, Bool.eq_iff_iff, decide_eq_true_eq, decide_eq_true_eq]; omega
  have hNB3 : ((bl : Int) == 0) = NB := by rw [← hNB2]; rfl
  clear hNW hNB
  cases KE <;> cases NW <;> cases NB
  all_goals (
    go_enter Try.func19, Try.ntmps19
    go_wp2_with fail
    go_quiet (fail)
    go_wp2_with (first | (refine (oiskey_any key _).mono ?_; rintro e w1 ⟨rfl, rfl⟩)))
  all_goals (first
    | (go_ret; exact ⟨by first | (simp [*]; done) | (simp [*]; intros; omega), HF.out.then (Fr.drewN _ _ _)⟩)
    | (go_ret; exact ⟨by simp [*], (HF.out.then (Fr.drewN _ _ _)).then hF1⟩))
set_option maxHeartbeats 4000000 in
set_option maxRecDepth 100000 in
theorem omay_3 (w : World) (h1 : ¬ f = 0) (h2 : ¬ n < 0) (h3 : ¬ 65536 < n) (KE EE NB NW : Bool) (hKE : (key.toList == ([] : List UInt8)) = KE) (hEE : (en.toList == ([] : List UInt8)) = EE) (hNB : decide (bl = 0) = NB) (hNW : (wk.toList == ([] : List UInt8) && (wv.toList == ([] : List UInt8) && wd == false)) = NW) :
    Calls Try.prog 19 #[.agg #[.int .u8 3, .int .i64 f, .int .i64 n, .string wk, .string wv, .bool wd, .string key, .string en, .slice bo bl bc]] w fun e w' => e = .returned (.bool (NW && NB && decide (key.size ≤ 64) && decide (en.size ≤ 64))) ∧ Fr [] w w' := by
  have HF : Hid (Fr [] w (w.alloc (.cells #[.int .u8 3, .int .i64 f, .int .i64 n, .string wk, .string wv, .bool wd, .string key, .string en, .slice bo bl bc] 33))) := Fr.alloc _ _ _
  have e0 := eNil
  have hq : ∀ W, (binOp .eql 31 (.agg #[.string wk, .string wv, .bool wd]) (.agg #[.string ⟨#[]⟩, .string ⟨#[]⟩, .bool false])).run Try.prog W = .ok (.bool NW) W := fun W => by rw [wt_eql15, eNil, hNW]
  have hNB2 : decide ((bl : Int) = 0) = NB := by rw [← hNB, Bool.eq_iff_iff, decide_eq_true_eq, decide_eq_true_eq]; omega
  have hNB3 : ((bl : Int) == 0) = NB := by rw [← hNB2]; rfl
  clear hNW hNB
  cases KE <;> cases NW <;> cases NB
  all_goals (
    go_enter Try.func19, Try.ntmps19
    go_wp2_with fail
    go_quiet (fail)
    go_wp2_with (first | (with_reducible refine (oisbound_any key _).mono ?_; rintro e w1 ⟨rfl, rfl⟩) | (with_reducible refine (oisbound_any en _).mono ?_; rintro e w1 ⟨rfl, rfl⟩)))
  all_goals (first
    | (go_ret; exact ⟨by first | (simp [*]; done) | (simp [*]; intros; omega), HF.out.then (Fr.drewN _ _ _)⟩)
    | (go_ret; exact ⟨by simp [*], (HF.out.then (Fr.drewN _ _ _)).then hF1⟩))
set_option maxHeartbeats 4000000 in
set_option maxRecDepth 100000 in
theorem omay_4 (w : World) (h1 : ¬ f = 0) (h2 : ¬ n < 0) (h3 : ¬ 65536 < n) (KE EE NB NW : Bool) (hKE : (key.toList == ([] : List UInt8)) = KE) (hEE : (en.toList == ([] : List UInt8)) = EE) (hNB : decide (bl = 0) = NB) (hNW : (wk.toList == ([] : List UInt8) && (wv.toList == ([] : List UInt8) && wd == false)) = NW) :
    Calls Try.prog 19 #[.agg #[.int .u8 4, .int .i64 f, .int .i64 n, .string wk, .string wv, .bool wd, .string key, .string en, .slice bo bl bc]] w fun e w' => e = .returned (.bool (NW && (KE && EE) && NB)) ∧ Fr [] w w' := by
  have HF : Hid (Fr [] w (w.alloc (.cells #[.int .u8 4, .int .i64 f, .int .i64 n, .string wk, .string wv, .bool wd, .string key, .string en, .slice bo bl bc] 33))) := Fr.alloc _ _ _
  have e0 := eNil
  have hq : ∀ W, (binOp .eql 31 (.agg #[.string wk, .string wv, .bool wd]) (.agg #[.string ⟨#[]⟩, .string ⟨#[]⟩, .bool false])).run Try.prog W = .ok (.bool NW) W := fun W => by rw [wt_eql15, eNil, hNW]
  have hNB2 : decide ((bl : Int) = 0) = NB := by rw [← hNB, Bool.eq_iff_iff, decide_eq_true_eq, decide_eq_true_eq]; omega
  have hNB3 : ((bl : Int) == 0) = NB := by rw [← hNB2]; rfl
  clear hNW hNB
  cases KE <;> cases EE <;> cases NW <;> cases NB
  all_goals (
    go_enter Try.func19, Try.ntmps19
    go_wp2_with fail
    go_quiet (fail)
    go_wp2_with (fail))
  all_goals (first
    | (go_ret; exact ⟨by first | (simp [*]; done) | (simp [*]; intros; omega), HF.out.then (Fr.drewN _ _ _)⟩)
    | (go_ret; exact ⟨by simp [*], (HF.out.then (Fr.drewN _ _ _)).then hF1⟩))
set_option maxHeartbeats 4000000 in
set_option maxRecDepth 100000 in
theorem omay_5 (w : World) (h1 : ¬ f = 0) (h2 : ¬ n < 0) (h3 : ¬ 65536 < n) (KE EE NB NW : Bool) (hKE : (key.toList == ([] : List UInt8)) = KE) (hEE : (en.toList == ([] : List UInt8)) = EE) (hNB : decide (bl = 0) = NB) (hNW : (wk.toList == ([] : List UInt8) && (wv.toList == ([] : List UInt8) && wd == false)) = NW) (RS : Bool) (hI : IRs w bo ns) (hL : bl = ns.length) (hRS : RS = true ↔ Ab n ns) :
    Calls Try.prog 19 #[.agg #[.int .u8 5, .int .i64 f, .int .i64 n, .string wk, .string wv, .bool wd, .string key, .string en, .slice bo bl bc]] w fun e w' => e = .returned (.bool (NW && (KE && EE) && RS)) ∧ Fr [] w w' := by
  have HF : Hid (Fr [] w (w.alloc (.cells #[.int .u8 5, .int .i64 f, .int .i64 n, .string wk, .string wv, .bool wd, .string key, .string en, .slice bo bl bc] 33))) := Fr.alloc _ _ _
  have e0 := eNil
  have hq : ∀ W, (binOp .eql 31 (.agg #[.string wk, .string wv, .bool wd]) (.agg #[.string ⟨#[]⟩, .string ⟨#[]⟩, .bool false])).run Try.prog W = .ok (.bool NW) W := fun W => by rw [wt_eql15, eNil, hNW]
  have hNB2 : decide ((bl : Int) = 0) = NB := by rw [← hNB, Bool.eq_iff_iff, decide_eq_true_eq, decide_eq_true_eq]; omega
  have hNB3 : ((bl : Int) == 0) = NB := by rw [← hNB2]; rfl
  have HRi : Hid (∀ W, Fr [] (w.alloc (.cells #[.int .u8 5, .int .i64 f, .int .i64 n, .string wk, .string wv, .bool wd, .string key, .string en, .slice bo bl bc] 33)) W → Calls Try.prog 44 #[.int .i64 n, .slice bo bl bc] W fun e w1 => e = .returned (.bool RS) ∧ W = w1) := fun W hf => orise_any n bo bl bc ns RS W (hI.keep (HF.out.then hf)) hL hRS
  clear hI hL hRS
  clear hNW hNB
  cases KE <;> cases EE <;> cases NW
  all_goals (
    go_enter Try.func19, Try.ntmps19
    go_wp2_with fail
    go_quiet (fail)
    go_wp2_with (first | (with_reducible refine (HRi.out _ (Fr.drewN _ _ _)).mono ?_; rintro e w1 ⟨rfl, rfl⟩)))
  all_goals (first
    | (go_ret; exact ⟨by first | (simp [*]; done) | (simp [*]; intros; omega), HF.out.then (Fr.drewN _ _ _)⟩)
    | (go_ret; exact ⟨by simp [*], (HF.out.then (Fr.drewN _ _ _)).then hF1⟩))
set_option maxHeartbeats 4000000 in
set_option maxRecDepth 100000 in
theorem omay_6 (w : World) (h1 : ¬ f = 0) (h2 : ¬ n < 0) (h3 : ¬ 65536 < n) (KE EE NB NW : Bool) (hKE : (key.toList == ([] : List UInt8)) = KE) (hEE : (en.toList == ([] : List UInt8)) = EE) (hNB : decide (bl = 0) = NB) (hNW : (wk.toList == ([] : List UInt8) && (wv.toList == ([] : List UInt8) && wd == false)) = NW) (g1 : ¬ k = 1) (g2 : ¬ k = 2) (g3 : ¬ k = 3) (g4 : ¬ k = 4) (g5 : ¬ k = 5) :
    Calls Try.prog 19 #[.agg #[.int .u8 k, .int .i64 f, .int .i64 n, .string wk, .string wv, .bool wd, .string key, .string en, .slice bo bl bc]] w fun e w' => e = .returned (.bool (false)) ∧ Fr [] w w' := by
  have HF : Hid (Fr [] w (w.alloc (.cells #[.int .u8 k, .int .i64 f, .int .i64 n, .string wk, .string wv, .bool wd, .string key, .string en, .slice bo bl bc] 33))) := Fr.alloc _ _ _
  have e0 := eNil
  have hq : ∀ W, (binOp .eql 31 (.agg #[.string wk, .string wv, .bool wd]) (.agg #[.string ⟨#[]⟩, .string ⟨#[]⟩, .bool false])).run Try.prog W = .ok (.bool NW) W := fun W => by rw [wt_eql15, eNil, hNW]
  have hNB2 : decide ((bl : Int) = 0) = NB := by rw [← hNB, Bool.eq_iff_iff, decide_eq_true_eq, decide_eq_true_eq]; omega
  have hNB3 : ((bl : Int) == 0) = NB := by rw [← hNB2]; rfl
  clear hNW hNB
  cases KE
  all_goals (
    go_enter Try.func19, Try.ntmps19
    go_wp2_with fail
    go_quiet (fail)
    go_wp2_with (fail))
  all_goals (first
    | (go_ret; exact ⟨by first | (simp [*]; done) | (simp [*]; intros; omega), HF.out.then (Fr.drewN _ _ _)⟩)
    | (go_ret; exact ⟨by simp [*], (HF.out.then (Fr.drewN _ _ _)).then hF1⟩))
/-- Which requests may be. -/
theorem omay_any (x : Rv) (ns : List Int) (B : Bool) (w : World) (h : RqB w x ns) (hB : B = true ↔ okR (x.q ns)) : Calls Try.prog 19 #[x.v] w fun e w' => e = .returned (.bool B) ∧ Fr [] w w' := by
  obtain ⟨k, f, n, wk, wv, wd, key, en, bo, bl, bc⟩ := x
  have hlen : bl = ns.length := h.len
  have hI : IRs w bo ns := h.is
  by_cases h0 : f = 0 ∨ n < 0 ∨ 65536 < n
  · have hBf : B = false := by
      cases B with
      | false => rfl
      | true => obtain ⟨a1, a2, a3, _⟩ := hB.1 rfl; simp only [Rv.q] at a1 a2 a3; omega
    subst hBf
    exact omay_0 w h0
  · have h1 : ¬ f = 0 := by omega
    have h2 : ¬ n < 0 := by omega
    have h3 : ¬ 65536 < n := by omega
    have h2' : 0 ≤ n := by omega
    have h3' : n ≤ 65536 := by omega
    have hnb : decide (bl = 0) = decide (ns = []) := by
      rw [Bool.eq_iff_iff, decide_eq_true_eq, decide_eq_true_eq, hlen]
      exact List.length_eq_zero_iff
    have hnw : (wk.toList == ([] : List UInt8) && (wv.toList == ([] : List UInt8) && wd == false)) = decide (noWr wk wv wd) := by
      rw [tl_beq, tl_beq]
      cases wd <;> simp [noWr]
    obtain ⟨RS, hRS⟩ : ∃ RS : Bool, RS = true ↔ Ab n ns := by
      by_cases hh : Ab n ns
      · exact ⟨true, fun _ => hh, fun _ => rfl⟩
      · exact ⟨false, fun e => (by cases e), fun e => absurd e hh⟩
    have fin : ∀ R : Bool, (R = true ↔ okR ⟨k, f, n, wk, wv, wd, key, en, ns⟩) → R = B := fun R hR => by
      rw [Bool.eq_iff_iff, hR]
      exact hB.symm
    by_cases g1 : k = 1
    · subst g1
      rw [← fin _ ?_]
      · exact omay_1 w h1 h2 h3 _ _ _ _ (tl_beq key) (tl_beq en) hnb hnw
      · simp [okR, h1, h2', h3', and_assoc]
    by_cases g2 : k = 2
    · subst g2
      rw [← fin _ ?_]
      · exact omay_2 w h1 h2 h3 _ _ _ _ (tl_beq key) (tl_beq en) hnb hnw
      · simp [okR, h1, h2', h3', and_assoc]
    by_cases g3 : k = 3
    · subst g3
      rw [← fin _ ?_]
      · exact omay_3 w h1 h2 h3 _ _ _ _ (tl_beq key) (tl_beq en) hnb hnw
      · simp [okR, h1, h2', h3', and_assoc]
    by_cases g4 : k = 4
    · subst g4
      rw [← fin _ ?_]
      · exact omay_4 w h1 h2 h3 _ _ _ _ (tl_beq key) (tl_beq en) hnb hnw
      · simp [okR, h1, h2', h3', and_assoc]
    by_cases g5 : k = 5
    · subst g5
      rw [← fin _ ?_]
      · exact omay_5 w h1 h2 h3 _ _ _ _ (tl_beq key) (tl_beq en) hnb hnw RS hI hlen hRS
      · simp [okR, hRS, h1, h2', h3', and_assoc]
    rw [← fin _ ?_]
    · exact omay_6 w h1 h2 h3 _ _ _ _ (tl_beq key) (tl_beq en) hnb hnw g1 g2 g3 g4 g5
    · simp [okR, g1, g2, g3, g4, g5]
end
end Go.Proofs.Ytomajifklajilaa
/- Contracts of a ring's unrolled, widen, Put, Take. Conditions as each names them. -/
namespace Go.Proofs.Ytomajifklajilaa
open Go.ChangeShapes Go.WideShapes Go.ChangeAt Go.RowKit Go.Lib
set_option linter.unusedVariables false
set_option linter.unusedSimpArgs false

theorem Try.sizeReq : (Try.prog.info? 33).map (fun i => i.size) = some 9 := by kernel_rfl
/-- A row of these things. -/
def ERow (w : World) (g : Nat) (xs : List Rv) : Prop := w.heap[g]? = some (.cells (vals xs).toArray 33 (0, 0))
theorem ERow.keep {S : List Nat} {w w' : World} {g : Nat} {xs : List Rv} (h : ERow w g xs) (hf : Fr S w w') (hn : g ∉ S) : ERow w' g xs := hf.keep h hn
section
variable {g C N F K : Nat} {pb : Option Nat} {ps xs : List Rv} {cl : Bool}
theorem unr_one {n D : Nat} (hl : ps.length = N) (hF : F < N) (hD : D = min (N - F) n) :
    splice (splice (vals (List.replicate n Rv.zero)) 0 (vals ((ps.drop F).take n))) (D * 9) (vals ((ps.take F).take (n - D))) = vals (unr F n ps) := by
  rw [Nat.mul_comm D 9]
  have e1 : ((ps.drop F).take n).length = D := by simp; omega
  have e2 : splice (vals (List.replicate n Rv.zero)) 0 (vals ((ps.drop F).take n)) = vals ((ps.drop F).take n ++ List.replicate (n - D) Rv.zero) := by
    unfold splice
    rw [vals_length, e1, vals_append, List.take_zero, List.nil_append, Nat.zero_add, vals_drop, List.drop_replicate]
  rw [e2]
  unfold splice unr
  rw [vals_take, vals_length, ← Nat.mul_add, vals_drop, ← vals_append, ← vals_append, List.take_append_of_le_length (by omega), List.take_of_length_le (by omega), List.take_append, List.append_assoc]
  congr 2
  have e3 : (ps.drop F).length = N - F := by simp; omega
  rw [e3]
  by_cases hn : n ≤ N - F
  · obtain rfl : D = n := by omega
    rw [Nat.sub_self, show D - (N - F) = 0 by omega, show D - ps.length = 0 by omega]
    simp
  · obtain rfl : D = N - F := by omega
    congr 1
    rw [List.drop_append, e1, List.drop_replicate]
    have : ((ps.take F).take (n - (N - F))).length = min F (n - (N - F)) := by simp; omega
    rw [this, List.drop_of_length_le (by omega), List.nil_append]
    congr 1
    omega
set_option maxHeartbeats 4000000 in
set_option maxRecDepth 100000 in
theorem gunr_any (w : World) (n : Nat) (h : RgM w g pb C N F K ps xs cl) (hn : 1 ≤ n ∧ n ≤ 65536) :
    Calls Try.prog 60 #[.pointer (some ⟨g, 0, none⟩), .int .i64 (n : Int)] w fun e w' => ∃ k, e = .returned (.slice (some ⟨k, 0, none⟩) n n) ∧ w.heap.size ≤ k ∧ ERow w' k (unr F n ps) ∧ Fr [] w w' := by
  obtain ⟨hn1, hn2⟩ := hn
  obtain ⟨i0, hi0, hz00, hz1, hz2⟩ := infoReq_parts
  have hz0 : i0.zero = some (.agg #[.int .u8 0, .int .i64 0, .int .i64 0, .string ⟨#[]⟩, .string ⟨#[]⟩, .bool false, .string ⟨#[]⟩, .string ⟨#[]⟩, .slice none 0 0]) := hz00
  clear hz00
  have HM : Hid (RgM w g pb C N F K ps xs cl) := h
  have hgl := h.lt
  have hNC : N ≤ 65536 := by have := h.cap; omega
  by_cases hN : 0 < N
  · have hF := h.pl.f1 hN
    obtain ⟨b, rfl⟩ := h.some_ hN
    have HK : Hid (∀ W, Fr [] w W → RgM W g (some b) C N F K ps xs cl) := fun W hf => h.keep hf (by simp) (by simp)
    have hbl := h.plt rfl
    obtain ⟨D, hD⟩ : ∃ D, D = min (N - F) n := ⟨_, rfl⟩
    have HU : Hid (_ = _) := unr_one (n := n) h.pl.len hF hD
    obtain ⟨X1, hX1⟩ : ∃ X1, X1 = vals ((ps.drop F).take n) := ⟨_, rfl⟩
    obtain ⟨X2, hX2⟩ : ∃ X2, X2 = vals ((ps.take F).take (n - D)) := ⟨_, rfl⟩
    obtain ⟨Z0, hZ0⟩ : ∃ Z0, Z0 = vals (List.replicate n Rv.zero) := ⟨_, rfl⟩
    rw [← hX1, ← hX2, ← hZ0] at HU
    have hl1 : X1.length = 9 * D := by rw [hX1, vals_length]; simp; have := h.pl.len; omega
    have hl2 : X2.length = 9 * min F (n - D) := by rw [hX2, vals_length]; simp; have := h.pl.len; omega
    have hl0 : Z0.length = 9 * n := by rw [hZ0, vals_length]; simp
    have HL : Hid (X1.length = 9 * D ∧ X2.length = 9 * min F (n - D) ∧ Z0.length = 9 * n ∧ D = min (N - F) n) := ⟨hl1, hl2, hl0, hD⟩
    have o1 : Hid (∀ v ∈ X1, v.oneCell' = true) := by rw [hX1]; exact vals_one _
    have o2 : Hid (∀ v ∈ X2, v.oneCell' = true) := by rw [hX2]; exact vals_one _
    have H1 : Hid (∀ W, Fr [] w W → ∀ j v, X1[j]? = some v → W.cell? ((⟨b, F * 9, none⟩ : Addr).add j) = some v) := by
      intro W hf j v hj
      rw [hX1, ← vals_take, ← vals_drop, List.getElem?_take] at hj
      split at hj
      · rw [Nat.mul_comm F 9, Addr.add_lit, cell_of_row _ _ _ _ _ _ ((HK.out W hf).row b rfl), List.getElem?_toArray]
        rw [List.getElem?_drop] at hj
        exact hj
      · cases hj
    have H2 : Hid (∀ W, Fr [] w W → ∀ j v, X2[j]? = some v → W.cell? ((⟨b, 0, none⟩ : Addr).add j) = some v) := by
      intro W hf j v hj
      rw [hX2, ← vals_take, ← vals_take, List.take_take, List.getElem?_take] at hj
      split at hj
      · rw [Addr.add_lit, cell_of_row _ _ _ _ _ _ ((HK.out W hf).row b rfl), List.getElem?_toArray, Nat.zero_add]
        exact hj
      · cases hj
    have hDn : D ≤ n := by omega
    clear hl1 hl2 hl0 hX1 hX2 hD
    have HZ0 : Hid (Z0 = vals (List.replicate n Rv.zero)) := hZ0
    clear hZ0 h
    go_enter Try.func60, Try.ntmps60
    go_wp2_with (at_make; refine wpList_make_full _ rfl (.tmp 7) (.tmp 7) 77 rfl 0 33 i0 _ 9 Try.undReqs hi0 hz0 hz1 .i64 .i64 (n : Int) (n : Int) n rfl rfl rfl rfl ?b2 ?b3 ?b4 ?_)
    case b2 => rw [hz2]; omega
    case b3 => unfold maxLen; omega
    case b4 => exact Nat.zero_le _
    intro w1 hown hgrow
    obtain ⟨k, hk⟩ : ∃ k, k = w.heap.size := ⟨_, rfl⟩
    have hr1 : w1.heap[k]? = some (.cells Z0.toArray 33 (0, 0)) := by
      have hm : (madeCells #[.int .u8 0, .int .i64 0, .int .i64 0, .string ⟨#[]⟩, .string ⟨#[]⟩, .bool false, .string ⟨#[]⟩, .string ⟨#[]⟩, .slice none 0 0] (n * 9)).toList = Z0 := by rw [HZ0.out]; exact vals_zero n
      simp only [hm, ← hk] at hown
      rcases hown.2 with ⟨hv, _⟩ | ⟨g', cap', cur, hv, _, hb, _, _, hcs, ht⟩
      · cases hv
      · cases hv
        have : cur = Z0.toArray := by
          apply Array.ext'
          rw [← ht, List.take_of_length_le]
          rw [Array.length_toList, hcs]
          exact Nat.le_refl _
        rw [← this]
        exact hb
    have hF1 : Fr [] w w1 := Fr.grown (S := []) hgrow (by simp)
    have hM1 := HK.out w1 hF1
    have c1 := hM1.c1
    have c2 := hM1.c2
    simp only [Option.map_some] at c1
    rw [← hk]
    have hkw : w.heap.size ≤ k := by omega
    have hF' : F ≤ N := by omega
    have hNF : ¬ N = F := by omega
    clear hown hgrow hk
    go_wp2_with fail
    have hbel : ∀ q, Below w.heap.size w (w1.drewN q) := fun q => (hF1.then (Fr.drewN [] w1 q)).below (Nat.le_refl _) (by simp)
    have HB : Hid (∀ W, Below w.heap.size w W → Fr [] w W ∧ W.cell? ⟨g, 1, none⟩ = some (.slice (some ⟨b, 0, none⟩) N N) ∧ W.cell? ⟨g, 2, none⟩ = some (.int .i64 (F : Int))) := fun W hb => by
      have hf : Fr [] w W := ⟨hb.os, hb.tape, hb.output, hb.size, fun k hk _ => hb.block k hk⟩
      exact ⟨hf, (HK.out W hf).c1, (HK.out W hf).c2⟩
    go_region_held3 (fun W => W.cell? ⟨g, 1, none⟩ = some (.slice (some ⟨b, 0, none⟩) N N) ∧ W.cell? ⟨g, 2, none⟩ = some (.int .i64 (F : Int))) (go_keep)
      ((refine step_copy_many (by rfl) (.tmp 9) (.tmp 18) 77 77 (by rfl) 33 Try.undReqs 9 Try.sizeReq (some ⟨k, 0, none⟩) (some ⟨b, F * 9, none⟩) n n (N - F) (N - F) (by rfl) (by rfl) k 0 Z0 33 hr1 X1 D (by have := HL.out; show _ = min _ _; omega) (by have := HL.out; omega) (fun _ => ⟨rfl, _, rfl, H1.out _ (hF1.then (Fr.drewN [] w1 _))⟩) (by have := HL.out; omega) o1.out w.heap.size w (hbel _) hkw ?_; intro w2 HR2 hb2; obtain ⟨hF2, d1, d2⟩ := HB.out w2 hb2))
    clear c1 c2 hM1 hr1 hbel hb2
    have hbel : ∀ q, Below w.heap.size w (w2.drewN q) := fun q => (hF2.then (Fr.drewN [] w2 q)).below (Nat.le_refl _) (by simp)
    have HR2' := HR2.out
    have HLs : Hid ((splice Z0 0 X1).length = 9 * n) := by
      show _ = _
      have := HL.out
      rw [length_splice _ _ _ (by omega)]
      omega
    by_cases hDe : n = D
    · have hx2 : X2 = [] := List.eq_nil_of_length_eq_zero (by have := HL.out; omega)
      have HR3 : Hid (splice (splice Z0 0 X1) 0 [] = vals (unr F n ps)) := by
        show _ = _
        rw [← HU.out, hx2]
        have e : ∀ (L : List Value) D, splice L D [] = L := by intro L D; simp [splice]
        rw [e, e]
      clear hx2
      go_wp2_with fail
      go_region_held3 (fun W => W.cell? ⟨g, 1, none⟩ = some (.slice (some ⟨b, 0, none⟩) N N) ∧ W.cell? ⟨g, 2, none⟩ = some (.int .i64 (F : Int))) (go_keep)
        ((refine step_copy_many (by rfl) (.tmp 22) (.tmp 31) 77 77 (by rfl) 33 Try.undReqs 9 Try.sizeReq _ _ _ _ _ _ (by rfl) (by rfl) k 0 _ 33 HR2' [] 0 (by show _ = min _ _; simp) (by simp) (fun h => absurd h (by simp)) (by simp) (by simp) w.heap.size w (hbel _) hkw ?_; intro w3 HR4 hb3; obtain ⟨hF3, e1, e2⟩ := HB.out w3 hb3))
      go_wp2
      go_ret
      refine ⟨k, rfl, hkw, ?_, hF3⟩
      unfold ERow
      rw [← HR3.out]
      exact HR4.out
    · go_wp2_with fail
      go_region_held3 (fun W => W.cell? ⟨g, 1, none⟩ = some (.slice (some ⟨b, 0, none⟩) N N) ∧ W.cell? ⟨g, 2, none⟩ = some (.int .i64 (F : Int))) (go_keep)
        ((refine step_copy_many (by rfl) (.tmp 22) (.tmp 31) 77 77 (by rfl) 33 Try.undReqs 9 Try.sizeReq (some ⟨k, D * 9, none⟩) (some ⟨b, 0, none⟩) (n - D) (n - D) F N (by rfl) (by rfl) k (D * 9) _ 33 HR2' X2 (min F (n - D)) (by have := HL.out; show _ = min _ _; omega) (by have := HL.out; omega) (fun _ => ⟨rfl, _, rfl, H2.out _ (hF2.then (Fr.drewN [] w2 _))⟩) (by rw [HLs.out]; have := HL.out; omega) o2.out w.heap.size w (hbel _) hkw ?_; intro w3 HR4 hb3; obtain ⟨hF3, e1, e2⟩ := HB.out w3 hb3))
      go_wp2
      go_ret
      refine ⟨k, rfl, hkw, ?_, hF3⟩
      unfold ERow
      rw [← HU.out]
      exact HR4.out
  · obtain rfl : N = 0 := by omega
    obtain rfl := h.none_.2 rfl
    obtain rfl := h.pl.f0 rfl
    have hps : ps = [] := List.eq_nil_of_length_eq_zero h.pl.len
    have HK : Hid (∀ W, Below w.heap.size w W → Fr [] w W ∧ W.cell? ⟨g, 1, none⟩ = some (.slice none 0 0) ∧ W.cell? ⟨g, 2, none⟩ = some (.int .i64 0)) := fun W hb => by
      have hf : Fr [] w W := ⟨hb.os, hb.tape, hb.output, hb.size, fun k hk _ => hb.block k hk⟩
      have := h.keep hf (by simp) (by simp)
      exact ⟨hf, this.c1, this.c2⟩
    have HU : Hid (vals (List.replicate n Rv.zero) = vals (unr 0 n ps)) := by
      show _ = _
      rw [hps]
      simp [unr]
    clear hps h
    go_enter Try.func60, Try.ntmps60
    go_wp2_with (at_make; refine wpList_make_full _ rfl (.tmp 7) (.tmp 7) 77 rfl 0 33 i0 _ 9 Try.undReqs hi0 hz0 hz1 .i64 .i64 (n : Int) (n : Int) n rfl rfl rfl rfl ?b2 ?b3 ?b4 ?_)
    case b2 => rw [hz2]; omega
    case b3 => unfold maxLen; omega
    case b4 => exact Nat.zero_le _
    intro w1 hown hgrow
    obtain ⟨k, hk⟩ : ∃ k, k = w.heap.size := ⟨_, rfl⟩
    have hr1 : w1.heap[k]? = some (.cells (vals (unr 0 n ps)).toArray 33 (0, 0)) := by
      have hm : (madeCells #[.int .u8 0, .int .i64 0, .int .i64 0, .string ⟨#[]⟩, .string ⟨#[]⟩, .bool false, .string ⟨#[]⟩, .string ⟨#[]⟩, .slice none 0 0] (n * 9)).toList = vals (unr 0 n ps) := by rw [← HU.out]; exact vals_zero n
      simp only [hm, ← hk] at hown
      rcases hown.2 with ⟨hv, _⟩ | ⟨g', cap', cur, hv, _, hb, _, _, hcs, ht⟩
      · cases hv
      · cases hv
        have : cur = (vals (unr 0 n ps)).toArray := by
          apply Array.ext'
          rw [← ht, List.take_of_length_le]
          rw [Array.length_toList, hcs]
          exact Nat.le_refl _
        rw [← this]
        exact hb
    obtain ⟨X, hX⟩ : ∃ X, X = vals (unr 0 n ps) := ⟨_, rfl⟩
    rw [← hX] at hr1
    have HX : Hid (X = vals (unr 0 n ps)) := hX
    have hXl : Hid (X.length = 9 * n) := by show _ = _; rw [hX, vals_length, unr_length]
    have hF1 : Fr [] w w1 := Fr.grown (S := []) hgrow (by simp)
    have hb1 : Below w.heap.size w w1 := hF1.below (Nat.le_refl _) (by simp)
    obtain ⟨_, c1, c2⟩ := HK.out w1 hb1
    rw [← hk]
    have hkw : w.heap.size ≤ k := by omega
    clear hown hgrow hk hX
    have hbel : ∀ q, Below w.heap.size w (w1.drewN q) := fun q => (hF1.then (Fr.drewN [] w1 q)).below (Nat.le_refl _) (by simp)
    go_wp2_with fail
    go_region_held3 (fun W => W.cell? ⟨g, 1, none⟩ = some (.slice none 0 0) ∧ W.cell? ⟨g, 2, none⟩ = some (.int .i64 0)) (go_keep)
      ((refine step_copy_many (by rfl) (.tmp 9) (.tmp 18) 77 77 (by rfl) 33 Try.undReqs 9 Try.sizeReq _ _ _ _ _ _ (by rfl) (by rfl) k 0 X 33 hr1 [] 0 (by show _ = min _ _; simp) (by simp) (fun h => absurd h (by simp)) (by simp) (by simp) w.heap.size w (hbel _) hkw ?_; intro w2 HR2 hb2; obtain ⟨hF2, d1, d2⟩ := HK.out w2 hb2))
    have e : splice X 0 [] = X := by simp [splice]
    rw [e] at HR2
    have hr2 := HR2.out
    clear HR2 e hbel
    have hbel : ∀ q, Below w.heap.size w (w2.drewN q) := fun q => (hF2.then (Fr.drewN [] w2 q)).below (Nat.le_refl _) (by simp)
    have hn0 : ¬ n = 0 := by omega
    go_wp2_with fail
    go_region_held3 (fun W => W.cell? ⟨g, 1, none⟩ = some (.slice none 0 0) ∧ W.cell? ⟨g, 2, none⟩ = some (.int .i64 0)) (go_keep)
      ((refine step_copy_many (by rfl) (.tmp 22) (.tmp 31) 77 77 (by rfl) 33 Try.undReqs 9 Try.sizeReq _ _ _ _ _ _ (by rfl) (by rfl) k 0 X 33 hr2 [] 0 (by show _ = min _ _; simp) (by simp) (fun h => absurd h (by simp)) (by simp) (by simp) w.heap.size w (hbel _) hkw ?_; intro w3 HR3 hb3; obtain ⟨hF3, e1, e2⟩ := HK.out w3 hb3))
    go_wp2
    go_ret
    refine ⟨k, rfl, hkw, ?_, hF3⟩
    unfold ERow
    rw [← HX.out]
    have e : splice X 0 [] = X := by simp [splice]
    rw [← e]
    exact HR3.out
set_option maxHeartbeats 4000000 in
set_option maxRecDepth 100000 in
theorem gwiden_any (w : World) (h : RgM w g pb C N F K ps xs cl) (hNC : N < C) :
    Calls Try.prog 45 #[.pointer (some ⟨g, 0, none⟩)] w fun e w' => (∃ v, e = .returned v) ∧ ∃ k M, w.heap.size ≤ k ∧ N < M ∧ RgM w' g (some k) C M 0 K (unr F M ps) xs cl ∧ Fr [g] w w' := by
  obtain ⟨hC1, hC2, _⟩ := h.cap
  have HM : Hid (RgM w g pb C N F K ps xs cl) := h
  have c0 := h.c0
  have c1 := h.c1
  obtain ⟨q, hq⟩ : ∃ q, q = pb.map fun b => (⟨b, 0, none⟩ : Addr) := ⟨_, rfl⟩
  rw [← hq] at c1
  have HW : Hid (∀ k M (v : Value) W, N < M → M ≤ C → v = .slice (some ⟨k, 0, none⟩) M M → w.heap.size ≤ k → ERow W k (unr F M ps) → Fr [] w W → RgM ((W.setCell ⟨g, 1, none⟩ v).setCell ⟨g, 2, none⟩ (.int .i64 0)) g (some k) C M 0 K (unr F M ps) xs cl ∧ Fr [g] w ((W.setCell ⟨g, 1, none⟩ v).setCell ⟨g, 2, none⟩ (.int .i64 0)) ∧ W.cell? ⟨g, 1, none⟩ = some (.slice q N N) ∧ W.frozen? ⟨g, 1, none⟩ = false ∧ (W.setCell ⟨g, 1, none⟩ v).cell? ⟨g, 2, none⟩ = some (.int .i64 (F : Int)) ∧ (W.setCell ⟨g, 1, none⟩ v).frozen? ⟨g, 2, none⟩ = false) := by
    intro k M v W hNM hMC hv hk hE hf
    subst hv
    have hW := h.keep hf (by simp) (by simp)
    have hgk : k ≠ g := by have := h.lt; omega
    have hb1 := vrow_setCell (j := 1) (.slice (some ⟨k, 0, none⟩) M M) hW.box
    have hb2 := vrow_setCell (j := 2) (.int .i64 0) hb1
    have hfr : Fr [g] W ((W.setCell ⟨g, 1, none⟩ (.slice (some ⟨k, 0, none⟩) M M)).setCell ⟨g, 2, none⟩ (.int .i64 0)) := (Fr.set (S := [g]) _ _ _ (by simp)).then (Fr.set (S := [g]) _ _ _ (by simp))
    refine ⟨⟨?_, h.pl.wide (by omega) (by omega), fun b e => ?_, ⟨fun e => (by cases e), fun e => (by omega)⟩, by omega, by omega, by omega⟩, (hf.mono (by simp)).then hfr, by rw [hq]; exact hW.c1, hW.fz 1, ?_, ?_⟩
    · rw [hb2]
      rfl
    · cases e
      exact hfr.keep hE (by simp; exact hgk)
    · rw [cell_of_row _ _ _ _ _ _ hb1]; rfl
    · simp [World.frozen?, hb1]
  have HU : Hid (∀ M, 1 ≤ M ∧ M ≤ 65536 → Calls _ _ _ _ _) := fun M hM => gunr_any w M h hM
  clear h hq
  by_cases hN : N = 0
  · subst hN
    have h1 : ¬ (C : Int) < 1 := by omega
    have h2 : (1 : Int) ≤ (C : Int) := by omega
    have HC := HU.out 1 (by omega)
    go_enter Try.func45, Try.ntmps45
    go_wp2_with fail
    refine HC.mono ?_
    rintro e w1 ⟨k, rfl, hk, hE, hF1⟩
    obtain ⟨hR, hG, f1, z1, f2, z2⟩ := HW.out k _ _ w1 (by omega) (by omega) rfl hk hE hF1
    have HR : Hid (_ ∧ _) := And.intro hR hG
    clear hR hG hE
    go_wp2
    go_end0
    exact ⟨⟨_, rfl⟩, k, 1, hk, by omega, HR.out.1, HR.out.2⟩
  · by_cases h2 : 2 * N ≤ C
    · have h3 : (1 : Int) < 2 * (N : Int) := by omega
      have h4 : 2 * (N : Int) ≤ (C : Int) := by omega
      have HC := HU.out (2 * N) (by omega)
      rw [show ((2 * N : Nat) : Int) = 2 * (N : Int) by omega] at HC
      go_enter Try.func45, Try.ntmps45
      go_wp2_with fail
      refine HC.mono ?_
      rintro e w1 ⟨k, rfl, hk, hE, hF1⟩
      obtain ⟨hR, hG, f1, z1, f2, z2⟩ := HW.out k _ _ w1 (by omega) (by omega) rfl hk hE hF1
      have HR : Hid (_ ∧ _) := And.intro hR hG
      clear hR hG hE
      go_wp2
      go_end0
      exact ⟨⟨_, rfl⟩, k, 2 * N, hk, by omega, HR.out.1, HR.out.2⟩
    · have h3 : (1 : Int) < 2 * (N : Int) := by omega
      have h4 : (C : Int) < 2 * (N : Int) := by omega
      have HC := HU.out C (by omega)
      go_enter Try.func45, Try.ntmps45
      go_wp2_with fail
      refine HC.mono ?_
      rintro e w1 ⟨k, rfl, hk, hE, hF1⟩
      obtain ⟨hR, hG, f1, z1, f2, z2⟩ := HW.out k _ _ w1 (by omega) (by omega) rfl hk hE hF1
      have HR : Hid (_ ∧ _) := And.intro hR hG
      clear hR hG hE
      go_wp2
      go_end0
      exact ⟨⟨_, rfl⟩, k, C, hk, by omega, HR.out.1, HR.out.2⟩
end
end Go.Proofs.Ytomajifklajilaa

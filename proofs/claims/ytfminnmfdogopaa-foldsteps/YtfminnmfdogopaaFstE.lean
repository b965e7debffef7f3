/- For every list of transactions and whatever is asked of it the law FoldSteps returns true where it is not played: the list is too great, may not be, or is none. Conditions as named. -/
import Derived.Test.YtfminnmfdogopaaAmg7
import Derived.Test.YtfminnmfdogopaaLfT
import Derived.Test.YtfminnmfdogopaaAsko
import Derived.Test.YtfminnmfdogopaaSzd
import Derived.Test.YtfminnmfdogopaaStp7
import Derived.Deep.RegionHeld3
import Derived.Maps.RangeWalk
import Derived.Deep.RegionHeld
namespace Go.Proofs.Ytfminnmfdogopaa.foldSteps
open Go.ChangeShapes Go.WideShapes Go.ChangeAt Go.RowKit Go.Lib Go.Maps Go.Sort
set_option linter.unusedVariables false
set_option linter.unusedSimpArgs false

/-- What is asked, in its box. -/
structure BoxA (W : World) (b : Nat) (f n : Int) (key en : ByteArray) : Prop where
  box : W.heap[b]? = some (.cells #[.int .i64 f, .int .i64 n, .string key, .string en] 24 (0, 0))
theorem BoxA.keep {W W' : World} {b : Nat} {f n : Int} {key en : ByteArray} (h : BoxA W b f n key en) (hf : Fr [] W W') : BoxA W' b f n key en := ⟨hf.keep h.box (by simp)⟩
theorem BoxA.c {W : World} {b : Nat} {f n : Int} {key en : ByteArray} (h : BoxA W b f n key en) : W.cell? ⟨b, 2, none⟩ = some (.string key) ∧ W.cell? ⟨b, 3, none⟩ = some (.string en) := by
  have k : ∀ o, W.cell? ⟨b, o, none⟩ = #[Value.int .i64 f, .int .i64 n, .string key, .string en][o]? := fun o => cell_of_row _ _ _ _ _ _ h.box
  exact ⟨k 2, k 3⟩
theorem new3 (w : World) (a b c : Int) : (w.alloc (.cells #[.int .i64 a, .int .i64 b, .int .i64 c] 3)).cell? ⟨w.heap.size, 0, none⟩ = some (.int .i64 a) ∧ (w.alloc (.cells #[.int .i64 a, .int .i64 b, .int .i64 c] 3)).cell? ⟨w.heap.size, 1, none⟩ = some (.int .i64 b) ∧ (w.alloc (.cells #[.int .i64 a, .int .i64 b, .int .i64 c] 3)).cell? ⟨w.heap.size, 2, none⟩ = some (.int .i64 c) := by
  have k : ∀ o, (w.alloc (.cells #[.int .i64 a, .int .i64 b, .int .i64 c] 3)).cell? ⟨w.heap.size, o, none⟩ = #[Value.int .i64 a, .int .i64 b, .int .i64 c][o]? := fun o => cell_of_row _ _ _ _ _ _ (heap_alloc_new w _)
  exact ⟨k 0, k 1, k 2⟩

set_option maxHeartbeats 16000000 in
set_option maxRecDepth 100000 in
theorem walkE (ao : Option Addr) (L cap : Nat) (ts : List Tm) (f n : Int) (key en : ByteArray) (w : World) (hT : TRs w ao ts) (hLe : L = ts.length) (hcap : L ≤ cap) (hf : -9223372036854775808 ≤ f ∧ f ≤ 9223372036854775807) (hn : -9223372036854775808 ≤ n ∧ n ≤ 9223372036854775807) (hky : key.size ≤ reachBytes) (hen : en.size ≤ reachBytes) (hcase : 1048576 < tszG L ts + key.size + en.size ∨ ¬ okL 1 (txs ts) ∨ L = 0) :
    Calls Try.prog 6 #[.slice ao L cap, .agg #[.int .i64 f, .int .i64 n, .string key, .string en]] w fun e w' => e = .returned (.bool true) ∧ Fr [] w w' := by
  have HL : Hid (L = ts.length) := hLe
  have HI : Hid (∀ W, Fr [] w W → TRs W ao ts) := fun W hf => hT.keep hf
  have hks : key.size ≤ 140737488355328 := by have := reachBytes_lt; omega
  have hes : en.size ≤ 140737488355328 := by have := reachBytes_lt; omega
  have hLL : L ≤ 140737488355328 := by have := hT.few; omega
  obtain ⟨w0, HW0⟩ : ∃ w0, Hid (w.alloc (.cells #[.int .i64 f, .int .i64 n, .string key, .string en] 24) = w0) := ⟨_, rfl⟩
  have hF0 : Fr [] w w0 := by rw [← HW0.out]; exact Fr.alloc [] w _
  have hb0 : BoxA w0 w.heap.size f n key en := ⟨by rw [← HW0.out]; exact heap_alloc_new w _⟩
  obtain ⟨c, hc⟩ := Bad.ex (txs ts) 1
  have HC : Hid (Bad 1 (txs ts) c) := hc
  obtain ⟨Bm, HBm⟩ : ∃ Bm : Bool, Hid (Bm = true ↔ c = 0) := ⟨decide (c = 0), by show _ ↔ _; simp⟩
  clear hLe hT hky hen hc
  go_enter Try.func6, Try.ntmps6
  go_upto_region 1 with fail
  rw [HW0.out]
  obtain ⟨B, HBx⟩ : ∃ B, Hid (B = w.heap.size) := ⟨_, rfl⟩
  rw [← HBx.out] at hb0 ⊢
  clear HW0
  have hB0 : B < w0.heap.size := lt_of_block hb0.box
  have HBk : Hid (∀ W, Fr [] w0 W → BoxA W B f n key en) := fun W hf => hb0.keep hf
  have HAl : Hid (∀ W, Fr [] w0 W → Calls Try.prog 21 #[] W fun e w' => e = .returned (.bool true) ∧ Fr [] w0 w' ∧ w'.cell? ⟨B, 2, none⟩ = some (.string key) ∧ w'.cell? ⟨B, 3, none⟩ = some (.string en)) := fun W hf => by
    refine (alive7_any W).mono ?_
    rintro e w' ⟨rfl, hF1⟩
    have hk := HBk.out _ (hf.then hF1)
    exact ⟨rfl, hf.then hF1, hk.c.1, hk.c.2⟩
  obtain ⟨R, hR⟩ : ∃ R, tszG L ts = R := ⟨_, rfl⟩
  have hRL : L ≤ R := by rw [← hR]; exact tszG_ge ts L
  have HCa : Hid (1048576 < R + key.size + en.size ∨ ¬ okL 1 (txs ts) ∨ L = 0) := by rw [← hR]; exact hcase
  clear hcase
  have HTs : Hid (∀ W, Fr [] w0 W → Calls Try.prog 9 #[.slice ao L cap] W fun e w' => e = .returned (.int .i64 (R : Int)) ∧ R ≤ 9007199254740992 ∧ Fr [] w0 w' ∧ w'.cell? ⟨B, 2, none⟩ = some (.string key) ∧ w'.cell? ⟨B, 3, none⟩ = some (.string en)) := fun W hf => by
    refine (txnsSizeD_any ao L cap R ts W (HI.out _ (hF0.then hf)) HL.out hR).mono ?_
    rintro e w' ⟨rfl, hRb, hF1⟩
    have hk := HBk.out _ (hf.then hF1)
    exact ⟨rfl, hRb, hf.then hF1, hk.c.1, hk.c.2⟩
  clear hR
  obtain ⟨Bq, HBq⟩ : ∃ Bq : Bool, Hid (Bq = true ↔ 1048576 < R + key.size + en.size) := ⟨decide (1048576 < R + key.size + en.size), by show _ ↔ _; simp⟩
  have HMy : Hid (∀ W, Fr [] w0 W → Calls Try.prog 22 #[.slice ao L cap] W fun e w' => e = .returned (.bool Bm) ∧ Fr [] w0 w' ∧ w'.cell? ⟨B, 2, none⟩ = some (.string key) ∧ w'.cell? ⟨B, 3, none⟩ = some (.string en)) := fun W hf => by
    refine (may7_any ao L cap c ts W (HI.out _ (hF0.then hf)) HL.out HC.out Bm HBm.out).mono ?_
    rintro e w' ⟨rfl, hF1⟩
    have hk := HBk.out _ (hf.then hF1)
    exact ⟨rfl, hf.then hF1, hk.c.1, hk.c.2⟩
  have hRb9 : R ≤ 9007199254740992 ∨ True := Or.inr trivial
  clear hRb9
  have HBy : Hid (∀ (W : World), R ≤ 9007199254740992 → Calls Try.prog 8 #[.slice (some ⟨W.heap.size, 0, none⟩) 3 3] (W.alloc (.cells #[.int .i64 (R : Int), .int .i64 (key.size : Int), .int .i64 (en.size : Int)] 3)) fun e w' => e = .returned (.bool Bq) ∧ Fr [] W w') := fun W hRb => by
    refine (beyond3D_any W.heap.size R key.size en.size Bq _ hRb (by omega) (by omega) (new3 W _ _ _).1 (new3 W _ _ _).2.1 (new3 W _ _ _).2.2 HBq.out).mono ?_
    rintro e w' ⟨rfl, rfl⟩
    exact ⟨rfl, Fr.alloc _ _ _⟩
  have HBq2 : Hid (Bq = false → R + key.size + en.size ≤ 1048576) := fun h => by
    by_cases h2 : 1048576 < R + key.size + en.size
    · have := HBq.out.2 h2; rw [h] at this; cases this
    · omega
  have HBq3 : Hid (Bq = true → 1048576 < R + key.size + en.size) := fun h => HBq.out.1 h
  clear HBq
  have HOKm : Hid (Bm = true → okL 1 (txs ts)) := fun h => HC.out.ok.1 (HBm.out.1 h)
  obtain ⟨c2, c3⟩ := hb0.c
  have hundef : undef = Value.tuple #[] := rfl
  have q2 : w0.drew.cell? ⟨B, 2, none⟩ = some (.string key) := c2
  have q3 : w0.drew.cell? ⟨B, 3, none⟩ = some (.string en) := c3
  cases Bq with
  | true =>
    first | (go_region_held (fun W => W.cell? ⟨B, 2, none⟩ = some (.string key) ∧ W.cell? ⟨B, 3, none⟩ = some (.string en)) (go_keep)
      (first
      | (go_at_call 8; with_reducible refine Calls.mono (HBy.out w2 hNb) ?_; rintro e w3 ⟨rfl, hw2⟩; have hG3 : Fr [] w0 w3 := hG2.then hw2; clear hw2; have hk2 := HBk.out _ hG3; have o2 := hk2.c.1; have o3 := hk2.c.2; clear hk2)
      | (go_at_call 9; with_reducible refine Calls.mono (HTs.out _ hG1) ?_; rintro e w2 ⟨rfl, hNb, hG2, l2, l3⟩)
      | (go_at_call 21; with_reducible refine Calls.mono (HAl.out _ (Fr.drew [] _)) ?_; rintro e w1 ⟨rfl, hG1, k2, k3⟩))) | fail
    go_wp2_with fail
    refine (alive7_any _).mono ?_
    rintro e w5 ⟨rfl, hF5⟩
    have hG5 := hF0.then (hG3.then hF5)
    clear HI HL HC HBm HBk HAl HTs HMy HBq2 HBy
    go_wp2
    go_ret
    exact ⟨rfl, hG5⟩
  | false =>
    cases Bm with
    | false =>
      first | (go_region_held (fun W => W.cell? ⟨B, 2, none⟩ = some (.string key) ∧ W.cell? ⟨B, 3, none⟩ = some (.string en)) (go_keep)
        (first
        | (go_at_call 22; with_reducible refine Calls.mono (HMy.out _ hG3) ?_; rintro e w4 ⟨rfl, hG4, m2, m3⟩)
        | (go_at_call 8; with_reducible refine Calls.mono (HBy.out w2 hNb) ?_; rintro e w3 ⟨rfl, hw2⟩; have hG3 : Fr [] w0 w3 := hG2.then hw2; clear hw2; have hk2 := HBk.out _ hG3; have o2 := hk2.c.1; have o3 := hk2.c.2; clear hk2)
        | (go_at_call 9; with_reducible refine Calls.mono (HTs.out _ hG1) ?_; rintro e w2 ⟨rfl, hNb, hG2, l2, l3⟩)
        | (go_at_call 21; with_reducible refine Calls.mono (HAl.out _ (Fr.drew [] _)) ?_; rintro e w1 ⟨rfl, hG1, k2, k3⟩))) | fail
      go_wp2_with fail
      refine (alive7_any _).mono ?_
      rintro e w5 ⟨rfl, hF5⟩
      have hG5 := hF0.then (hG4.then hF5)
      clear HI HL HC HBm HBk HAl HTs HMy HBq2 HBy
      go_wp2
      go_ret
      exact ⟨rfl, hG5⟩
    | true =>
      have HOK : Hid (okL 1 (txs ts)) := HOKm.out rfl
      have hsum := HBq2.out rfl
      clear HOKm HBq2
      by_cases hL0 : L = 0
      · have hBe : ((L : Int) == 0) = true := by rw [beq_iff_eq]; omega
        clear hL0
        go_region_held3 (fun W => W.cell? ⟨B, 2, none⟩ = some (.string key) ∧ W.cell? ⟨B, 3, none⟩ = some (.string en)) (go_keep)
          (first
          | (go_at_call 22; with_reducible refine Calls.mono (HMy.out _ hG3) ?_; rintro e w4 ⟨rfl, hG4, m2, m3⟩)
          | (go_at_call 8; with_reducible refine Calls.mono (HBy.out w2 hNb) ?_; rintro e w3 ⟨rfl, hw2⟩; have hG3 : Fr [] w0 w3 := hG2.then hw2; clear hw2; have hk2 := HBk.out _ hG3; have o2 := hk2.c.1; have o3 := hk2.c.2; clear hk2)
          | (go_at_call 9; with_reducible refine Calls.mono (HTs.out _ hG1) ?_; rintro e w2 ⟨rfl, hNb, hG2, l2, l3⟩)
          | (go_at_call 21; with_reducible refine Calls.mono (HAl.out _ (Fr.drew [] _)) ?_; rintro e w1 ⟨rfl, hG1, k2, k3⟩))
        go_wp2_with fail
        refine (alive7_any _).mono ?_
        rintro e w5 ⟨rfl, hF5⟩
        have hG5 := hF0.then (hG4.then hF5)
        clear HI HL HC HBm HBk HAl HTs HMy HBy HOK
        go_wp2
        go_ret
        exact ⟨rfl, hG5⟩
      · exfalso
        rcases HCa.out with h | h | h
        · omega
        · exact h HOK.out
        · exact hL0 h
end Go.Proofs.Ytfminnmfdogopaa.foldSteps

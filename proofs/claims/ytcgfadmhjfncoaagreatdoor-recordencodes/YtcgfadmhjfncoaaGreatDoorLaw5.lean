/- The walk of the law RecordEncodes. Conditions: how its argument lies in memory. -/
import Derived.Test.YtcgfadmhjfncoaaGreatDoorBkW3
namespace Go.Proofs.YtcgfadmhjfncoaaGreatDoor
open Go.ChangeShapes Go.WideShapes Go.ChangeAt Go.RowKit Go.Lib
set_option linter.unusedVariables false
set_option linter.unusedSimpArgs false

/-- What is told of a transaction: what is wrong, and its bytes. -/
def Told5 (n : Int) (ws : List Wt) (c : Nat) (ys : List Nat) : Prop := (okT n ws ∧ c = 0 ∧ ys = encT n.toNat ws) ∨ (¬ okT n ws ∧ c = 1 ∧ ys = [])
theorem Told5.ex (n : Int) (ws : List Wt) : ∃ c ys, Told5 n ws c ys := by
  by_cases h : okT n ws
  · exact ⟨0, _, Or.inl ⟨h, rfl, rfl⟩⟩
  · exact ⟨1, _, Or.inr ⟨h, rfl, rfl⟩⟩
theorem Told5.chk {n : Int} {ws : List Wt} {c : Nat} {ys : List Nat} (h : Told5 n ws c ys) : (okT n ws ∧ c = 0) ∨ (¬ okT n ws ∧ c = 1) := by
  rcases h with ⟨a, b, _⟩ | ⟨a, b, _⟩
  · exact Or.inl ⟨a, b⟩
  · exact Or.inr ⟨a, b⟩
theorem Told5.len {n : Int} {ws : List Wt} {c : Nat} {ys : List Nat} (h : Told5 n ws c ys) : ys.length ≤ 65000 := by
  rcases h with ⟨a, _, rfl⟩ | ⟨_, _, rfl⟩
  · have h1 : (n.toNat : Int) = n := by have := a.1; omega
    have := (encT_length n.toNat ws (by rw [h1]; exact a)).2
    exact this
  · simp
theorem row_owns {w : World} {k N : Nat} {ys : List Nat} (h : w.heap[k]? = some (.cells (bts ys).toArray 5 (0, 0))) (hN : N = ys.length) (hm : N < 2^40) : w.ownsRow 0 5 1 (.slice (some ⟨k, 0, none⟩) N N) N (bts ys) := by
  refine ⟨by rw [bts_length]; omega, .inr ⟨k, N, (bts ys).toArray, rfl, Nat.zero_le _, h, Nat.le_refl _, by simp only [maxLen]; omega, by simp [bts_length]; omega, ?_⟩⟩
  simp only [Nat.mul_one]
  rw [List.take_of_length_le (by rw [bts_length]; omega)]
theorem own_rs {w : World} {ao : Option Addr} {n cap : Nat} {xs : List Nat} (h : w.ownsRow 0 5 1 (.slice ao n cap) n (bts xs)) (hn : n = xs.length) (hl : xs.length < 2^41) : Rs w ao xs := by
  have h' : Wn w (.slice ao n cap) xs := by unfold Wn; rw [← hn]; exact h
  exact h'.rs hl
theorem Rs.fr5 {w w' : World} {ao : Option Addr} {xs : List Nat} (h : Rs w ao xs) (hf : Fr [] w w') : Rs w' ao xs := by
  refine ⟨fun h0 => ?_, h.len⟩
  obtain ⟨b, off, e, hc⟩ := h.lies h0
  exact ⟨b, off, e, fun j hj => by
    have hlt := World.block_lt_of_cell? w _ (hc j hj)
    rw [World.cell?_of_block (hf.block b hlt (by simp))]
    exact hc j hj⟩
/-- The program's Encode. -/
theorem encode_gen (n : Int) (ao : Option Addr) (L cap c N : Nat) (ws : List Wt) (ys : List Nat) (w : World) (hW : WRs w ao ws) (hL : L = ws.length) (hn0 : -9223372036854775808 ≤ n) (hn1 : n ≤ 9223372036854775807) (hT : Told5 n ws c ys) (hN : N = ys.length) :
    Calls Tryz.prog 7 #[.agg #[.int .i64 n, .slice ao L cap]] w fun e w' => ∃ bo cb, e = .returned (.tuple #[.slice bo N cb, .int .i64 (c : Int)]) ∧ w'.ownsRow 0 5 1 (.slice bo N cb) N (bts ys) ∧ (∀ k, (Value.slice bo N cb).ownBlock = some k → w.heap.size ≤ k) ∧ Fr [] w w' := by
  have hl := hT.len
  rcases hT with ⟨hok, rfl, rfl⟩ | ⟨hno, rfl, rfl⟩
  · refine (encode_ok n ao L cap N ws _ w hW hL hok rfl hN).mono ?_
    rintro e w' ⟨k, rfl, hk, hrow, hF⟩
    exact ⟨some ⟨k, 0, none⟩, N, rfl, row_owns hrow hN (by omega), by intro j hj; simp [Value.ownBlock] at hj; omega, hF⟩
  · simp only [List.length_nil] at hN
    subst hN
    refine (encode_no n ao L cap ws w hW hL hn0 hn1 hno).mono ?_
    rintro e w' ⟨rfl, hF⟩
    exact ⟨none, 0, rfl, World.ownsRow_nil _ _ _ _, by intro j hj; simp [Value.ownBlock] at hj, hF⟩
theorem size_gen (n : Int) (ao : Option Addr) (L cap c N : Nat) (ws : List Wt) (ys : List Nat) (w : World) (hW : WRs w ao ws) (hL : L = ws.length) (hn0 : -9223372036854775808 ≤ n) (hn1 : n ≤ 9223372036854775807) (hT : Told5 n ws c ys) (hN : N = ys.length) :
    Calls Tryz.prog 8 #[.agg #[.int .i64 n, .slice ao L cap]] w fun e w' => e = .returned (.tuple #[.int .i64 (N : Int), .int .i64 (c : Int)]) ∧ Fr [] w w' := by
  rcases hT with ⟨hok, rfl, rfl⟩ | ⟨hno, rfl, rfl⟩
  · exact size_ok n ao L cap N ws w hW hL hok hN
  · simp only [List.length_nil] at hN
    subst hN
    exact size_no n ao L cap ws w hW hL hn0 hn1 hno
theorem xEncode_gen (n : Int) (ao : Option Addr) (L cap c N : Nat) (ws : List Wt) (ys : List Nat) (w : World) (hW : WRs w ao ws) (hL : L = ws.length) (hn0 : -9223372036854775808 ≤ n) (hn1 : n ≤ 9223372036854775807) (hT : Told5 n ws c ys) (hN : N = ys.length) :
    Calls Tryz.prog 9 #[.agg #[.int .i64 n, .slice ao L cap]] w fun e w' => ∃ bo cb, e = .returned (.tuple #[.slice bo N cb, .int .i64 (c : Int)]) ∧ Rs w' bo ys ∧ Fr [] w w' := by
  rcases hT with ⟨hok, rfl, rfl⟩ | ⟨hno, rfl, rfl⟩
  · refine (xEncode_ok n ao L cap ws _ w hW hL hok rfl).mono ?_
    rintro e w' ⟨bo, M, cb, rfl, hM, hR, hF⟩
    rw [← hN] at hM
    subst hM
    exact ⟨bo, cb, rfl, hR, hF⟩
  · simp only [List.length_nil] at hN
    subst hN
    refine (xEncode_no n ao L cap ws w hW hL hn0 hn1 hno).mono ?_
    rintro e w' ⟨rfl, hF⟩
    exact ⟨none, 0, rfl, Rs.nil _ _, hF⟩
theorem twin_rs {w : World} {b : Nat} {ws : List Wt} (h : w.heap[b]? = some (.cells (wtsC (ws ++ [spW])).toArray 63 (0, 0))) (hf : ws.length ≤ 140737488355328) (he : ∀ x ∈ ws, x.key.size ≤ 140737488355328 ∧ x.val.size ≤ 140737488355328) : WRs w (some ⟨b, 0, none⟩) ws :=
  WRs.of_row (rest := wtsC [spW]) (t := 63) (f := (0, 0)) (by rw [← wtsC_append]; exact h) hf he
theorem twin_owns {w : World} {b L : Nat} {ws : List Wt} (h : w.heap[b]? = some (.cells (wtsC (ws ++ [spW])).toArray 63 (0, 0))) (hL : L = ws.length) (hm : L < 2^21) : w.ownsRow 0 63 3 (.slice (some ⟨b, 0, none⟩) L (L + 1)) L (wtsC ws) := by
  refine ⟨by rw [wtsC_length, hL], .inr ⟨b, L + 1, (wtsC (ws ++ [spW])).toArray, rfl, Nat.zero_le _, h, by omega, by simp only [maxLen]; omega, by simp [wtsC_length]; omega, ?_⟩⟩
  simp only [wtsC_append]
  rw [List.take_append_of_le_length (by rw [wtsC_length]; omega), List.take_of_length_le (by rw [wtsC_length]; omega)]
end Go.Proofs.YtcgfadmhjfncoaaGreatDoor

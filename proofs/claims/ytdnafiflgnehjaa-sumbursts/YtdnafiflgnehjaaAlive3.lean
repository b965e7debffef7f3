/- That the statements' own check of some fixed answers (the function alive) is true; the test of sizes over two lengths. Conditions: lengths of 63 bits. -/
import Derived.Test.YtdnafiflgnehjaaHash
import Derived.Lib.SlBytesConst
namespace Go.Proofs.Ytdnafiflgnehjaa
open Go.ChangeShapes Go.WideShapes Go.ChangeAt Go.RowKit Go.Lib

theorem lit_arg {w : World} {g : Nat} {xs : List Nat} {L : Nat} {fr : Nat × Nat} (hL : L = xs.length) (hl : ∀ x ∈ xs, x < 256) (hm : L < 2^40) (h : w.heap[g]? = some (.cells (bts xs).toArray 5 fr)) : BArg w (some ⟨g, 0, none⟩) L L xs := by
  refine ⟨hL, hl, by omega, by omega, fun h0 => ⟨g, 0, rfl, lt_of_block h, fun j hj => ?_⟩⟩
  rw [cell_of_row _ _ _ _ _ _ h]
  have := bts_get xs j (by rw [← hL]; exact hj)
  simpa using this

set_option maxHeartbeats 4000000 in
set_option maxRecDepth 100000 in
theorem alive_any (w : World) : Calls Try.prog 16 #[] w fun e w' => e = .returned (.bool true) ∧ Fr [] w w' := by
  have kc := fun (w : World) (C : Array Value) (n c : Nat) => Lib.run_convert_bytes_const (P := Try.prog) w 22 5 C n c Try.underlying22 Try.underlying5
  go_enter Try.func16, Try.ntmps16
  go_wp2_with fail
  have hl : (w.alloc (Obj.cells #[Value.int IntKind.u8 49, Value.int IntKind.u8 50, Value.int IntKind.u8 51, Value.int IntKind.u8 52, Value.int IntKind.u8 53, Value.int IntKind.u8 54, Value.int IntKind.u8 55, Value.int IntKind.u8 56, Value.int IntKind.u8 57] 5 (9, 10))).heap[w.heap.size]? = some (.cells (bts [49, 50, 51, 52, 53, 54, 55, 56, 57]).toArray 5 (9, 10)) := heap_alloc_new w _
  have hF := Fr.alloc [] w (Obj.cells #[Value.int IntKind.u8 49, Value.int IntKind.u8 50, Value.int IntKind.u8 51, Value.int IntKind.u8 52, Value.int IntKind.u8 53, Value.int IntKind.u8 54, Value.int IntKind.u8 55, Value.int IntKind.u8 56, Value.int IntKind.u8 57] 5 (9, 10))
  refine (crc_any 3808858755 (some ⟨w.heap.size, 0, none⟩) 9 9 [49, 50, 51, 52, 53, 54, 55, 56, 57] _ (lit_arg rfl (by decide) (by omega) hl) alive_crc).mono ?_
  rintro e w1 ⟨rfl, hF1⟩
  have hF' := hF.then hF1
  clear hl hF hF1
  go_wp2_with fail
  refine (hash_any 3214735720 ⟨#[102, 111, 111, 98, 97, 114]⟩ _ (by decide) alive_hash).mono ?_
  rintro e w2 ⟨rfl, rfl⟩
  go_wp2_with fail
  refine (hash_any 2166136261 ⟨#[]⟩ _ (by decide) rfl).mono ?_
  rintro e w3 ⟨rfl, rfl⟩
  go_wp2_with fail
  go_ret
  exact ⟨rfl, hF'⟩

set_option maxHeartbeats 1000000 in
theorem beyond2_any (k L M : Nat) (w : World) (hL : L ≤ 4611686018427387904) (hM : M ≤ 4611686018427387903) (hc : w.cell? ⟨k, 0, none⟩ = some (.int .i64 (L : Int))) (hd : w.cell? ⟨k, 1, none⟩ = some (.int .i64 (M : Int))) :
    Calls Try.prog 7 #[.slice (some ⟨k, 0, none⟩) 2 2] w fun e w' => e = .returned (.bool (decide (1048576 < L + M))) ∧ w = w' := by
  by_cases h : 1048576 < L
  · have h' : (1048576 : Int) < L := by omega
    have E : Hid (decide (1048576 < L + M) = true) := by simp [Hid]; omega
    go_enter Try.func7, Try.ntmps7
    go_wp2_with fail
    refine wp_loop_rounds 1 ?_
    rw [rounds_succ]
    go_wp2
    go_ret
    rw [E.out]
    exact ⟨rfl, rfl⟩
  · have h' : (L : Int) ≤ 1048576 := by omega
    by_cases h2 : 1048576 < L + M
    · have h2' : (1048576 : Int) < L + M := by omega
      have E : Hid (decide (1048576 < L + M) = true) := by simp [Hid]; omega
      go_enter Try.func7, Try.ntmps7
      go_wp2_with fail
      refine wp_loop_rounds 2 ?_
      rw [rounds_succ]
      go_wp2
      rw [rounds_succ]
      go_wp2
      go_ret
      rw [E.out]
      exact ⟨rfl, rfl⟩
    · have h2' : (L : Int) + M ≤ 1048576 := by omega
      have E : Hid (decide (1048576 < L + M) = false) := by simp [Hid]; omega
      go_enter Try.func7, Try.ntmps7
      go_wp2_with fail
      refine wp_loop_rounds 3 ?_
      rw [rounds_succ]
      go_wp2
      rw [rounds_succ]
      go_wp2
      rw [rounds_succ]
      go_wp2
      go_ret
      rw [E.out]
      exact ⟨rfl, rfl⟩
end Go.Proofs.Ytdnafiflgnehjaa

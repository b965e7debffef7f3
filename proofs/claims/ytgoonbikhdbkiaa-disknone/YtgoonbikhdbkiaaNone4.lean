/- The walk of the law DiskNone. Conditions: an op that came in. -/
import Derived.Test.YtgoonbikhdbkiaaScript4
namespace Go.Proofs.Ytgoonbikhdbkiaa
open Go.ChangeShapes Go.WideShapes Go.ChangeAt Go.RowKit Go.Lib

set_option maxHeartbeats 4000000 in
set_option maxRecDepth 100000 in
theorem none_any (v : OV) (w : World) (hv : v.ok w) :
    Calls Try.prog 3 #[opV v.k v.s v.a v.bo v.M v.cb v.n] w fun e w' => e = .returned (.bool true) ∧ Fr [] w w' := by
  have HV : Hid (v.ok w) := hv
  have hfew := hv.few
  obtain ⟨k, s, a, bo, M, cb, ys, n⟩ := v
  simp only at hfew ⊢
  clear hv
  obtain ⟨ob, hob⟩ : ∃ ob, ob = w.heap.size := ⟨_, rfl⟩
  obtain ⟨w1, hw1⟩ : ∃ w1, w1 = w.alloc (.cells #[.int .u8 k, .int .i64 s, .int .i64 a, .slice bo M cb, .int .i64 n] 24) := ⟨_, rfl⟩
  have hO : OpBox w1 ob k s a bo M cb n := by rw [hw1, hob]; exact heap_alloc_new w _
  have hF1 : Fr [] w w1 := by rw [hw1]; exact Fr.alloc [] w _
  have HF1 : Hid (Fr [] w w1) := hF1
  have HO : Hid (OpBox w1 ob k s a bo M cb n) := hO
  have c0 := hO.c0
  have c1 := hO.c1
  have c2 := hO.c2
  have c3 := hO.c3
  have c4 := hO.c4
  go_enter Try.func3, Try.ntmps3
  go_upto_region 1 with fail
  rw [← hw1, ← hob]
  clear hw1 hob hO hF1
  go_wp2_with fail
  have hrow : (w1.alloc (.cells #[.int .u8 k, .int .i64 s, .int .i64 a, .slice bo M cb, .int .i64 n] 24)).heap[w1.heap.size]? = some (.cells #[.int .u8 k, .int .i64 s, .int .i64 a, .slice bo M cb, .int .i64 n] 24 (0, 0)) := heap_alloc_new w1 _
  have hF2 : Fr [] w1 (w1.alloc (.cells #[.int .u8 k, .int .i64 s, .int .i64 a, .slice bo M cb, .int .i64 n] 24)) := Fr.alloc [] w1 _
  have hS : SArg (w1.alloc (.cells #[.int .u8 k, .int .i64 s, .int .i64 a, .slice bo M cb, .int .i64 n] 24)) (some ⟨w1.heap.size, 0, none⟩) 1 1 [⟨k, s, a, bo, M, cb, ys, n⟩] := by
    refine ⟨rfl, ?_, by omega, fun _ => ⟨_, _, rfl, lt_of_block hrow, ?_⟩⟩
    · intro v hv
      rw [List.mem_singleton] at hv
      subst hv
      exact HV.out.keep (HF1.out.then hF2)
    · intro i hi
      obtain rfl : i = 0 := by omega
      exact ⟨cell_of_row _ _ _ _ _ _ hrow, cell_of_row _ _ _ _ _ _ hrow, cell_of_row _ _ _ _ _ _ hrow, cell_of_row _ _ _ _ _ _ hrow, cell_of_row _ _ _ _ _ _ hrow⟩
  refine (script_any _ 1 1 _ _ hS).mono ?_
  rintro e w2 ⟨rfl, hw2⟩
  have HF2 : Hid (Fr [] w w2) := by rw [← hw2]; exact HF1.out.then hF2
  have HO2 : Hid (OpBox w2 ob k s a bo M cb n) := by rw [← hw2]; exact HO.out.keep hF2 (by simp)
  have e1 : total [(⟨k, s, a, bo, M, cb, ys, n⟩ : OV)] = 1 + M := by simp [total]
  rw [e1]
  clear hw2 hS hF2 hrow e1
  by_cases hbig : 1048576 < 1 + M
  · have E : decide (1048576 < 1 + M) = true := by simp [hbig]
    rw [E]
    go_wp2
    go_ret
    exact ⟨rfl, HF2.out⟩
  · have E : decide (1048576 < 1 + M) = false := by simp [hbig]
    rw [E]
    clear E
    obtain ⟨z, hz⟩ : ∃ z, z = w2.heap.size := ⟨_, rfl⟩
    obtain ⟨w3, hw3⟩ : ∃ w3, w3 = w2.alloc (.cells #[.bool false, .int .i64 0, .slice none 0 0, .slice none 0 0, .int .i64 0, .bool false, .int .i64 0] 31) := ⟨_, rfl⟩
    have hF3 : Fr [] w2 w3 := by rw [hw3]; exact Fr.alloc [] w2 _
    have hZ : w3.cell? ⟨z, 0, none⟩ = some (.bool false) := by rw [hw3, hz]; exact cell_of_row _ _ _ _ _ _ (heap_alloc_new w2 _)
    have HG3 : Hid (Gone w3 (ptr z)) := Or.inr ⟨z, rfl, hZ⟩
    have HF3 : Hid (Fr [] w w3) := HF2.out.then hF3
    have HO3 : Hid (OpBox w3 ob k s a bo M cb n) := HO2.out.keep hF3 (by simp)
    have d0 := HO3.out.c0
    have d1 := HO3.out.c1
    have d2 := HO3.out.c2
    have d3 := HO3.out.c3
    have d4 := HO3.out.c4
    go_upto_region 6 with fail
    rw [← hw3, ← hz]
    clear hw3 hz hF3 hZ
    go_wp2_with fail
    refine (askedG (.pointer none) k s a bo M cb ys n w3 (Or.inl rfl) (HV.out.keep HF3.out).arg (by show M < _; omega)).mono ?_
    rintro e w4 ⟨rfl, hF4⟩
    have HG4 : Hid (Gone w4 (ptr z)) := HG3.out.keep hF4
    have HF4 : Hid (Fr [] w w4) := HF3.out.then hF4
    have HO4 : Hid (OpBox w4 ob k s a bo M cb n) := HO3.out.keep hF4 (by simp)
    have d0 := HO4.out.c0
    have d1 := HO4.out.c1
    have d2 := HO4.out.c2
    have d3 := HO4.out.c3
    have d4 := HO4.out.c4
    clear hF4
    go_wp2_with fail
    refine (askedG (ptr z) k s a bo M cb ys n w4 HG4.out (HV.out.keep HF4.out).arg (by show M < _; omega)).mono ?_
    rintro e w5 ⟨rfl, hF5⟩
    have HG5 : Hid (Gone w5 (ptr z)) := HG4.out.keep hF5
    have HF5 : Hid (Fr [] w w5) := HF4.out.then hF5
    clear hF5
    go_wp2_with fail
    refine (looksG (.pointer none) w5 (Or.inl rfl)).mono ?_
    rintro e _ ⟨rfl, rfl⟩
    go_wp2_with fail
    refine (looksG (ptr z) w5 HG5.out).mono ?_
    rintro e _ ⟨rfl, rfl⟩
    go_wp2
    go_ret
    exact ⟨rfl, HF5.out⟩
end Go.Proofs.Ytgoonbikhdbkiaa

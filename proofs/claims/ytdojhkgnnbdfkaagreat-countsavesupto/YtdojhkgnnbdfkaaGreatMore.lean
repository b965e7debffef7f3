/- What CRC, More and Hash answer, and the document's CRC, More and Hash. Conditions: a slice of bytes that came in, a sum of 32 bits. -/
import Derived.Test.YtdojhkgnnbdfkaaGreatArg
import Derived.Test.YtdojhkgnnbdfkaaGreatTable
namespace Go.Proofs.YtdojhkgnnbdfkaaGreat
open Go.ChangeShapes Go.WideShapes Go.ChangeAt Go.RowKit Go.Lib

theorem getD_mem_lt (xs : List Nat) (i : Nat) (h : i < xs.length) (hl : ∀ x ∈ xs, x < 256) : xs.getD i 0 < 256 := by
  rw [show xs.getD i 0 = xs[i] from by simp [List.getD, h]]
  exact hl _ (List.getElem_mem _)

theorem not_u32 (s : Nat) (h : s < 4294967296) : bits .xor .u32 IntKind.u32.max (s : Int) = ((4294967295 - s : Nat) : Int) := by
  have e : (IntKind.u32.max : Int) = ((4294967295 : Nat) : Int) := by decide
  rw [e, u32_xor_nat _ _ (by omega) h, Nat.xor_comm]
  have h2 : (BitVec.ofNat 32 s ^^^ BitVec.allOnes 32).toNat = (~~~ (BitVec.ofNat 32 s)).toNat := by rw [BitVec.xor_allOnes]
  rw [BitVec.toNat_xor, BitVec.toNat_not, BitVec.toNat_allOnes, BitVec.toNat_ofNat, Nat.mod_eq_of_lt (by simpa using h)] at h2
  have e2 : s ^^^ 4294967295 = 4294967295 - s := by simpa using h2
  rw [e2]

set_option maxHeartbeats 4000000 in
set_option maxRecDepth 100000 in
theorem more_any (s m : Nat) (ao : Option Addr) (L cap : Nat) (xs : List Nat) (w : World) (hs : s < 4294967296) (hA : BArg w ao L cap xs) (hm : more s xs = m) :
    Calls Tryz.prog 78 #[.int .u32 (s : Int), .slice ao L cap] w fun e w' => e = .returned (.int .u32 (m : Int)) ∧ Fr [] w w' := by
  have HM : Hid (more s xs = m) := hm
  clear hm
  have HL : Hid (L = xs.length) := hA.len
  have hLm := hA.most
  obtain ⟨Z, HZ, hZs, hZn, hz⟩ := zeroArr
  obtain ⟨C, HC⟩ : ∃ C : Array Value, Hid (C = (u32s tab).toArray) := ⟨_, rfl⟩
  have hC : C.size = 256 := by rw [HC.out, ← tab_eq]; simp only [List.size_toArray, u32s_length, T2_length]
  have hO : Z.size = C.size := by rw [hZs, hC]
  have hone : C.all (·.oneCell') = true := by
    rw [HC.out, List.all_toArray, List.all_eq_true]
    intro u hu
    obtain ⟨_, _, rfl⟩ := List.mem_map.1 hu
    rfl
  have hi36 : (Tryz.prog.info? 154).map (·.size) = some C.size := by
    obtain ⟨i, hi, _, hz, _⟩ := info_parts Tryz.infoArr
    rw [hi, hC]
    simp [hz]
  go_enter Tryz.func78, Tryz.ntmps78
  go_wp2_with fail
  refine (byteSums_any _).mono ?_
  rintro e w1 ⟨rfl, hF1⟩
  rw [← HC.out]
  have h0 : (w1.alloc (.cells Z 154)).heap[w1.heap.size]? = some (.cells Z 154 (0, 0)) := heap_alloc_new w1 _
  have hnot := not_u32 s hs
  go_wp2_with (refine wpList_store_row rfl 154 _ _ rfl w1.heap.size C rfl rfl 154 Z h0 hi36 hO hone ?_)
  have hF2 : Fr [] w ((w1.alloc (.cells Z 154)).setRow w1.heap.size C) := ((hF1.then (Fr.alloc [] _ _)).on (Fr.setRow _ w1.heap.size C) (by have := hF1.size; intro x hx; simp at hx; omega))
  have hrow := setRow_heap _ w1.heap.size Z C 154 (0, 0) h0
  obtain ⟨wc, hwc⟩ : ∃ wc, wc = (w1.alloc (.cells Z 154)).setRow w1.heap.size C := ⟨_, rfl⟩
  obtain ⟨g, hg⟩ : ∃ g, g = w1.heap.size := ⟨_, rfl⟩
  rw [← hwc] at hF2 hrow ⊢
  rw [← hg] at hrow ⊢
  have hTb : Tb wc g tab := ⟨by rw [hrow, HC.out], by rw [← tab_eq, T2_length]⟩
  have hB := hA.keep hF2
  clear hwc hg hrow h0 hA hz hZn hZs hO hone hi36 hF1 hC hnot
  obtain ⟨c0, HC0⟩ : ∃ c0, Hid (c0 = 4294967295 - s) := ⟨_, rfl⟩
  rw [← HC0.out]
  have hc0 : c0 < 4294967296 := by have := HC0.out; omega
  go_loop [6, 14] (fun cc ii => ∃ (c i : Nat), cc = .int .u32 (c : Int) ∧ ii = .int .i64 i ∧ i ≤ L ∧ c < 4294967296 ∧ Hid (c = runB c0 (xs.take i))) (fun _ ii => L - (intOf ii).toNat)
  case atStart => exact ⟨c0, 0, rfl, rfl, Nat.zero_le _, hc0, rfl⟩
  case round =>
    obtain ⟨c, i, rfl, rfl, hi, hc, HR⟩ := hrel
    by_cases hiL : i < L
    · obtain ⟨b, off, e, _, hcs⟩ := hB.lies (by omega)
      subst e
      have hcx := hcs i hiL
      have hx := getD_mem_lt xs i (by rw [← HL.out]; exact hiL) hB.low
      obtain ⟨x, HX⟩ : ∃ x, Hid (x = xs.getD i 0) := ⟨_, rfl⟩
      rw [← HX.out] at hcx hx
      obtain ⟨V, HV⟩ : ∃ V, Hid (V = (c % 256) ^^^ x) := ⟨_, rfl⟩
      have hV : V < 256 := by rw [HV.out]; exact Nat.xor_lt_two_pow (n := 8) (by omega) hx
      have hx8 : bits .xor .u8 ((c : Int) % 256) (x : Int) = (V : Int) := by
        have := u8_xor_nat (c % 256) x (by omega) hx
        rw [← HV.out] at this
        simpa using this
      have hcell := hTb.cell V hV
      rw [tab_get V hV] at hcell
      have hxor : bits .xor .u32 ((c : Int) / 256) ((shN 8 V : Nat) : Int) = ((stepB c x : Nat) : Int) := by
        have := u32_xor_nat (c / 256) (shN 8 V) (by omega) (shN_lt 8 V (by omega))
        rw [stepB_look, ← HV.out, ← this]
        simp
      have hc' := stepB_lt c x hc hx
      have HR' : Hid (stepB c x = runB c0 (xs.take (i + 1))) := by
        show _ = _
        rw [take_snoc xs i x (by rw [← HL.out]; exact hiL) HX.out, runB_snoc, ← HR.out]
      clear hcs hTb hB
      go_wp2_with fail
      go_round
      case rel => exact ⟨stepB c x, i + 1, rfl, by simp, by omega, hc', HR'⟩
      case measure => simp [intOf]; omega
    · obtain rfl : i = L := by omega
      have hn := not_u32 c hc
      have HM' : Hid (4294967295 - c = m) := by
        show _ = _
        rw [← HM.out, more, ← HC0.out, HR.out, List.take_of_length_le (by rw [← HL.out]; omega)]
      rw [HM'.out] at hn
      go_wp2_with fail
      go_ret
      exact ⟨rfl, hF2⟩
end Go.Proofs.YtdojhkgnnbdfkaaGreat

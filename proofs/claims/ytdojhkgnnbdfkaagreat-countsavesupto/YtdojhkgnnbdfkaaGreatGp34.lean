/- Texts of this claim laid together, one behind the other: contracts and plain lemmas; conditions as each names them. -/
import Derived.Test.YtdojhkgnnbdfkaaGreatGp33
import Derived.Test.YtdojhkgnnbdfkaaGreatGp18
import Derived.Laws.ShiftsVarLaws
import Derived.Test.YtdojhkgnnbdfkaaGreatGp6
import Derived.Deep.RegionHeld3
import Derived.Stop.BytesEq
/- What the table of the sums of single bytes is. No conditions. -/
namespace Go.Proofs.YtdojhkgnnbdfkaaGreat
open Go.ChangeShapes Go.WideShapes Go.ChangeAt Go.RowKit Go.Lib

/-- Numbers of 32 bits as cells. -/
def u32s (xs : List Nat) : List Value := xs.map fun (x : Nat) => Value.int .u32 (x : Int)
theorem u32s_length (xs : List Nat) : (u32s xs).length = xs.length := by simp [u32s]
theorem u32s_get (xs : List Nat) (j : Nat) (h : j < xs.length) : (u32s xs)[j]? = some (.int .u32 ((xs.getD j 0 : Nat) : Int)) := by
  simp [u32s, List.getD, h]
theorem u32s_set (xs : List Nat) (j x : Nat) : u32s (xs.set j x) = (u32s xs).set j (.int .u32 (x : Int)) := by
  simp [u32s, List.map_set]

theorem Tryz.infoArr : (Tryz.prog.info? 154).map (fun i => (i.zero, i.size, i.bytes)) = some (some (.agg (u32s (T1 0)).toArray), 256, 1024) := by kernel_rfl
theorem zeroArr : ∃ Z : Array Value, Hid (Z = (u32s (T1 0)).toArray) ∧ Z.size = 256 ∧ (¬ Z = #[]) ∧ ∀ w, (zeroValue 154).run Tryz.prog w = .ok (.agg Z) w := by
  refine ⟨_, rfl, by simp only [List.size_toArray, u32s_length, T1_length], ?_, fun w => ?_⟩
  · intro h
    have := congrArg Array.size h
    simp only [List.size_toArray, u32s_length, T1_length] at this
    exact absurd this (by decide)
  · obtain ⟨i, hi, hz, _, _⟩ := info_parts Tryz.infoArr
    simp [zeroValue, typeInfo, hi, hz]

/-- A table of 256 numbers in a block. -/
def Tb (w : World) (g : Nat) (xs : List Nat) : Prop := w.heap[g]? = some (.cells (u32s xs).toArray 154 (0, 0)) ∧ xs.length = 256
theorem Tb.cell {w : World} {g : Nat} {xs : List Nat} (h : Tb w g xs) (j : Nat) (hj : j < 256) : w.cell? ⟨g, j, none⟩ = some (.int .u32 ((xs.getD j 0 : Nat) : Int)) := by
  rw [cell_of_row _ _ _ _ _ _ h.1]
  simpa using u32s_get xs j (by rw [h.2]; exact hj)
theorem Tb.free {w : World} {g : Nat} {xs : List Nat} (h : Tb w g xs) (j : Nat) : w.frozen? ⟨g, j, none⟩ = false := by simp [World.frozen?, h.1]
theorem Tb.put {w : World} {g : Nat} {xs : List Nat} (h : Tb w g xs) (j x : Nat) : Tb (w.setCell ⟨g, j, none⟩ (.int .u32 (x : Int))) g (xs.set j x) := by
  refine ⟨?_, by rw [List.length_set, h.2]⟩
  rw [row_setCell _ h.1, u32s_set]
  simp
theorem Tb.keep {S : List Nat} {w w' : World} {g : Nat} {xs : List Nat} (h : Tb w g xs) (hf : Fr S w w') (hn : g ∉ S) : Tb w' g xs := ⟨hf.keep h.1 hn, h.2⟩

theorem getD_lt (xs : List Nat) (B j : Nat) (hB : 0 < B) (h : ∀ x ∈ xs, x < B) : xs.getD j 0 < B := by
  by_cases hj : j < xs.length
  · rw [show xs.getD j 0 = xs[j] from by simp [List.getD, hj]]
    exact h _ (List.getElem_mem _)
  · rw [show xs.getD j 0 = 0 from by simp [List.getD, show xs.length ≤ j by omega]]
    exact hB
theorem T1_all (i : Nat) : ∀ x ∈ T1 i, x < 4294967296 := by
  induction i with
  | zero => intro x hx; rw [List.eq_of_mem_replicate hx]; omega
  | succ i ih =>
    intro x hx
    rcases List.mem_or_eq_of_mem_set hx with hx | rfl
    · exact ih x hx
    · exact shN_lt _ _ (by omega)
theorem T2_all (i : Nat) : ∀ x ∈ T2 i, x < 4294967296 := by
  induction i with
  | zero => exact T1_all 8
  | succ i ih =>
    intro x hx
    rcases List.mem_or_eq_of_mem_set hx with hx | rfl
    · exact ih x hx
    · exact Nat.xor_lt_two_pow (n := 32) (getD_lt _ _ _ (by omega) ih) (getD_lt _ _ _ (by omega) ih)
theorem T2_lt (i j : Nat) : (T2 i).getD j 0 < 4294967296 := getD_lt _ _ _ (by omega) (T2_all i)
theorem and_pred0 : ∀ i : Fin 256, bits .and .i64 ((i.val : Nat) : Int) (((i.val : Nat) : Int) - 1) = ((i.val &&& (i.val - 1) : Nat) : Int) := by decide +kernel
theorem and_pred (i : Nat) (h : i < 256) : bits .and .i64 (i : Int) ((i : Int) - 1) = ((i &&& (i - 1) : Nat) : Int) := and_pred0 ⟨i, h⟩

set_option maxHeartbeats 4000000 in
set_option maxRecDepth 100000 in
theorem byteSums_any (w : World) :
    Calls Tryz.prog 95 #[] w fun e w' => e = .returned (.agg (u32s tab).toArray) ∧ Fr [] w w' := by
  obtain ⟨Z, HZ, hZs, hZn, hz⟩ := zeroArr
  go_enter Tryz.func95, Tryz.ntmps95
  go_wp2_with fail
  obtain ⟨g, hg⟩ : ∃ g, g = w.heap.size := ⟨_, rfl⟩
  have hT0 : Tb ((w.alloc (.cells Z 154)).alloc (.cells Z 154)) (g + 1) (T1 0) := by
    refine ⟨?_, T1_length 0⟩
    rw [← HZ.out, hg]
    have := heap_alloc_new (w.alloc (.cells Z 154)) (.cells Z 154)
    simpa using this
  have hR0 : Tb ((w.alloc (.cells Z 154)).alloc (.cells Z 154)) g (T1 0) := by
    refine Tb.keep ?_ (Fr.alloc [] _ _) (by simp)
    refine ⟨?_, T1_length 0⟩
    rw [← HZ.out, hg]
    exact heap_alloc_new w _
  have hF0 : Fr [] w ((w.alloc (.cells Z 154)).alloc (.cells Z 154)) := (Fr.alloc [] _ _).then (Fr.alloc [] _ _)
  rw [← hg]
  have HG : Hid (w.heap.size ≤ g) := by show _ ≤ _; omega
  clear hg
  go_loopw [2, 6] (fun cc ii wr => ∃ i : Nat, cc = .int .u32 ((shN i 1 : Nat) : Int) ∧ ii = .int .i64 i ∧ i ≤ 8 ∧ Tb wr (g + 1) (T1 i) ∧ Tb wr g (T1 0) ∧ Fr [] w wr) (fun _ ii _ => 8 - (RowKit.intOf ii).toNat)
  case atStart => exact ⟨0, rfl, rfl, by omega, hT0, hR0, hF0⟩
  case round =>
    obtain ⟨i, rfl, rfl, hi8, hT, hR, hF⟩ := hrel
    by_cases hi : i < 8
    · have hc := shN_lt i 1 (by omega)
      obtain ⟨c, HC⟩ : ∃ c, Hid (c = shN i 1) := ⟨_, rfl⟩
      rw [← HC.out] at hc ⊢
      go_wp2_with fail
      refine (shift_any c _ hc).mono ?_
      rintro e w1 ⟨rfl, rfl⟩
      obtain ⟨J, HJ⟩ : ∃ J : Nat, Hid (J = 128 / 2 ^ i) := ⟨_, rfl⟩
      have hJ : J < 256 := by
        have := Nat.div_le_self 128 (2 ^ i)
        have := HJ.out
        omega
      have hsh : (128 : Int) / 2 ^ i = (J : Int) := by rw [HJ.out]; simp
      have hcell := hT.cell J hJ
      have hfree := hT.free J
      have hT' : Tb (wr.setCell ⟨g + 1, J, none⟩ (.int .u32 ((sh c : Nat) : Int))) (g + 1) (T1 (i + 1)) := by
        have := hT.put J (sh c)
        rw [HC.out, ← shN_succ, HJ.out] at this
        rw [HC.out, ← shN_succ, HJ.out]
        exact this
      have hfr : Fr [g + 1] wr (wr.setCell ⟨g + 1, J, none⟩ (.int .u32 ((sh c : Nat) : Int))) := Fr.set _ _ _ (by simp)
      have hR' := hR.keep hfr (by simp)
      have hgw : w.heap.size ≤ g := HG.out
      have hF' := hF.on hfr (by intro x hx; simp at hx; omega)
      have HS : Hid (sh c = shN (i + 1) 1) := by show _ = _; rw [HC.out, ← shN_succ]
      clear hT hR hF hfr hgw
      go_wp2_with fail
      go_roundw
      case rel => exact ⟨i + 1, by rw [HS.out], by simp, by omega, hT', hR', hF'⟩
      case measure => simp [RowKit.intOf]; omega
    · obtain rfl : i = 8 := by omega
      go_wp2_with fail
      go_loopw [16] (fun ii wr => ∃ i : Nat, ii = .int .i64 i ∧ i ≤ 256 ∧ Tb wr (g + 1) (T2 i) ∧ Tb wr g (T1 0) ∧ Fr [] w wr) (fun ii _ => 256 - (RowKit.intOf ii).toNat)
      case atStart => exact ⟨0, rfl, by omega, hT, hR, hF⟩
      case round =>
        clear hT hR hF
        obtain ⟨i, rfl, hi8, hT, hR, hF⟩ := hrel
        by_cases hi : i < 256
        · obtain ⟨R, HR⟩ : ∃ R, Hid (R = i &&& (i - 1)) := ⟨_, rfl⟩
          have hRi : R ≤ i := by rw [HR.out]; exact Nat.and_le_left
          have hand : bits .and .i64 (i : Int) ((i : Int) - 1) = (R : Int) := by rw [HR.out]; exact and_pred i hi
          obtain ⟨D, HD⟩ : ∃ D, Hid (D = i - R) := ⟨_, rfl⟩
          have hD : (i : Int) - (R : Int) = (D : Int) := by have := HD.out; omega
          have hD256 : D < 256 := by have := HD.out; omega
          have hR256 : R < 256 := by omega
          have hc1 := hT.cell R hR256
          have hc2 := hT.cell D hD256
          have hc3 := hT.cell i hi
          have hf3 := hT.free i
          have hX := T2_lt i R
          have hY := T2_lt i D
          obtain ⟨X, HX⟩ : ∃ X, Hid (X = (T2 i).getD R 0) := ⟨_, rfl⟩
          obtain ⟨Y, HY⟩ : ∃ Y, Hid (Y = (T2 i).getD D 0) := ⟨_, rfl⟩
          rw [← HX.out] at hc1 hX
          rw [← HY.out] at hc2 hY
          have hxor := u32_xor_nat X Y hX hY
          have hT' : Tb (wr.setCell ⟨g + 1, i, none⟩ (.int .u32 ((X ^^^ Y : Nat) : Int))) (g + 1) (T2 (i + 1)) := by
            have := hT.put i (X ^^^ Y)
            rw [HX.out, HY.out, HD.out, HR.out] at this
            rw [HX.out, HY.out, HD.out, HR.out]
            exact this
          have hfr : Fr [g + 1] wr (wr.setCell ⟨g + 1, i, none⟩ (.int .u32 ((X ^^^ Y : Nat) : Int))) := Fr.set _ _ _ (by simp)
          have hR' := hR.keep hfr (by simp)
          have hgw : w.heap.size ≤ g := HG.out
          have hF' := hF.on hfr (by intro x hx; simp at hx; omega)
          clear hT hR hF hfr hgw hX hY
          go_wp2_with fail
          go_region
          have hd := Fr.drew [] (wr.setCell ⟨g + 1, i, none⟩ (.int .u32 ((X ^^^ Y : Nat) : Int)))
          have hT2 := hT'.keep hd (by simp)
          have hR2 := hR'.keep hd (by simp)
          have hF2 := hF'.then hd
          clear hT' hR' hF' hd
          go_wp2_with fail
          go_roundw
          case rel => exact ⟨i + 1, by simp, by omega, hT2, hR2, hF2⟩
          case measure => simp [RowKit.intOf]; omega
        · obtain rfl : i = 256 := by omega
          obtain ⟨C, HC⟩ : ∃ C : Array Value, Hid (C = (u32s tab).toArray) := ⟨_, rfl⟩
          obtain ⟨O, HO⟩ : ∃ O : Array Value, Hid (O = (u32s (T1 0)).toArray) := ⟨_, rfl⟩
          have hC : C.size = 256 := by rw [HC.out, ← tab_eq]; simp only [List.size_toArray, u32s_length, T2_length]
          have hO : O.size = C.size := by rw [HO.out, hC]; simp only [List.size_toArray, u32s_length, T1_length]
          have hone : C.all (·.oneCell') = true := by
            rw [HC.out, List.all_toArray, List.all_eq_true]
            intro u hu
            obtain ⟨_, _, rfl⟩ := List.mem_map.1 hu
            rfl
          have h1 : wr.heap[g + 1]? = some (.cells C 154 (0, 0)) := by rw [hT.1, HC.out, tab_eq]
          have h0 : wr.heap[g]? = some (.cells O 154 (0, 0)) := by rw [hR.1, HO.out]
          have hi36 : (Tryz.prog.info? 154).map (·.size) = some C.size := by
            obtain ⟨i, hi, _, hz, _⟩ := info_parts Tryz.infoArr
            rw [hi, hC]
            simp [hz]
          have hrow := setRow_heap wr g O C 154 (0, 0) h0
          have hF2 : Fr [] w (wr.setRow g C) := hF.on (Fr.setRow wr g C) (by have := HG.out; intro x hx; simp at hx; omega)
          clear hT hR hF hC
          go_wp2_with (first | refine wpList_load_row rfl 154 _ rfl (g + 1) rfl 154 C (0, 0) _ h1 Tryz.underlying154 rfl hi36 ?_ | refine wpList_store_row rfl 154 _ _ rfl g C rfl rfl 154 O h0 hi36 hO hone ?_)
          refine bodyPost_ret (v := .agg C) (results_cell_row rfl _ _ g 154 C (0, 0) _ rfl hrow Tryz.underlying154 rfl hi36) rfl ⟨by rw [HC.out], hF2⟩
end Go.Proofs.YtdojhkgnnbdfkaaGreat
/- What CRC, More and Hash answer, and the document's CRC, More and Hash. Conditions: a slice of bytes that came in, a sum of 32 bits. -/
namespace Go.Proofs.YtdojhkgnnbdfkaaGreat
open Go.ChangeShapes Go.WideShapes Go.ChangeAt Go.RowKit Go.Lib

theorem getD_mem_lt (xs : List Nat) (i : Nat) (h : i < xs.length) (hl : ∀ x ∈ xs, x < 256) : xs.getD i 0 < 256 := by
  rw [show xs.getD i 0 = xs[i] from by simp [List.getD, h]]
  exact hl _ (List.getElem_mem _)

theorem not_u32 (s : Nat) (h : s < 4294967296) : bits .xor .u32 IntKind.u32.max (s : Int) = ((4294967295 - s : Nat) : Int) := by
  have e : (IntKind.u32.max : Int) = ((4294967295 : Nat) : Int) := by decide
  rw [e, u32_xor_nat _ _ (by omega) h, Nat.xor_comm]
  have h2 : (BitVec.ofNat 32 s ^^^ BitVec.allOnes 32).toNat = (~~~ (BitVec.ofNat 32 s)).toNat := by rw [BitVec.xor_allOnes]
  rw [BitVec.toNat_xor, BitVec.toNat_not, BitVec.toNat_allOnes, BitVec.toNat_ofNat, Nat.mod_eq_of_lt (by simpa using h)] at h2
  have e2 : s ^^^ 4294967295 = 4294967295 - s := by simpa using h2
  rw [e2]

set_option maxHeartbeats 4000000 in
set_option maxRecDepth 100000 in
theorem more_any (s m : Nat) (ao : Option Addr) (L cap : Nat) (xs : List Nat) (w : World) (hs : s < 4294967296) (hA : BArg w ao L cap xs) (hm : more s xs = m) :
    Calls Tryz.prog 78 #[.int .u32 (s : Int), .slice ao L cap] w fun e w' => e = .returned (.int .u32 (m : Int)) ∧ Fr [] w w' := by
  have HM : Hid (more s xs = m) := hm
  clear hm
  have HL : Hid (L = xs.length) := hA.len
  have hLm := hA.most
  obtain ⟨Z, HZ, hZs, hZn, hz⟩ := zeroArr
  obtain ⟨C, HC⟩ : ∃ C : Array Value, Hid (C = (u32s tab).toArray) := ⟨_, rfl⟩
  have hC : C.size = 256 := by rw [HC.out, ← tab_eq]; simp only [List.size_toArray, u32s_length, T2_length]
  have hO : Z.size = C.size := by rw [hZs, hC]
  have hone : C.all (·.oneCell') = true := by
    rw [HC.out, List.all_toArray, List.all_eq_true]
    intro u hu
    obtain ⟨_, _, rfl⟩ := List.mem_map.1 hu
    rfl
  have hi36 : (Tryz.prog.info? 154).map (·.size) = some C.size := by
    obtain ⟨i, hi, _, hz, _⟩ := info_parts Tryz.infoArr
    rw [hi, hC]
    simp [hz]
  go_enter Tryz.func78, Tryz.ntmps78
  go_wp2_with fail
  refine (byteSums_any _).mono ?_
  rintro e w1 ⟨rfl, hF1⟩
  rw [← HC.out]
  have h0 : (w1.alloc (.cells Z 154)).heap[w1.heap.size]? = some (.cells Z 154 (0, 0)) := heap_alloc_new w1 _
  have hnot := not_u32 s hs
  go_wp2_with (refine wpList_store_row rfl 154 _ _ rfl w1.heap.size C rfl rfl 154 Z h0 hi36 hO hone ?_)
  have hF2 : Fr [] w ((w1.alloc (.cells Z 154)).setRow w1.heap.size C) := ((hF1.then (Fr.alloc [] _ _)).on (Fr.setRow _ w1.heap.size C) (by have := hF1.size; intro x hx; simp at hx; omega))
  have hrow := setRow_heap _ w1.heap.size Z C 154 (0, 0) h0
  obtain ⟨wc, hwc⟩ : ∃ wc, wc = (w1.alloc (.cells Z 154)).setRow w1.heap.size C := ⟨_, rfl⟩
  obtain ⟨g, hg⟩ : ∃ g, g = w1.heap.size := ⟨_, rfl⟩
  rw [← hwc] at hF2 hrow ⊢
  rw [← hg] at hrow ⊢
  have hTb : Tb wc g tab := ⟨by rw [hrow, HC.out], by rw [← tab_eq, T2_length]⟩
  have hB := hA.keep hF2
  clear hwc hg hrow h0 hA hz hZn hZs hO hone hi36 hF1 hC hnot
  obtain ⟨c0, HC0⟩ : ∃ c0, Hid (c0 = 4294967295 - s) := ⟨_, rfl⟩
  rw [← HC0.out]
  have hc0 : c0 < 4294967296 := by have := HC0.out; omega
  go_loop [6, 14] (fun cc ii => ∃ (c i : Nat), cc = .int .u32 (c : Int) ∧ ii = .int .i64 i ∧ i ≤ L ∧ c < 4294967296 ∧ Hid (c = runB c0 (xs.take i))) (fun _ ii => L - (RowKit.intOf ii).toNat)
  case atStart => exact ⟨c0, 0, rfl, rfl, Nat.zero_le _, hc0, rfl⟩
  case round =>
    obtain ⟨c, i, rfl, rfl, hi, hc, HR⟩ := hrel
    by_cases hiL : i < L
    · obtain ⟨b, off, e, _, hcs⟩ := hB.lies (by omega)
      subst e
      have hcx := hcs i hiL
      have hx := getD_mem_lt xs i (by rw [← HL.out]; exact hiL) hB.low
      obtain ⟨x, HX⟩ : ∃ x, Hid (x = xs.getD i 0) := ⟨_, rfl⟩
      rw [← HX.out] at hcx hx
      obtain ⟨V, HV⟩ : ∃ V, Hid (V = (c % 256) ^^^ x) := ⟨_, rfl⟩
      have hV : V < 256 := by rw [HV.out]; exact Nat.xor_lt_two_pow (n := 8) (by omega) hx
      have hx8 : bits .xor .u8 ((c : Int) % 256) (x : Int) = (V : Int) := by
        have := u8_xor_nat (c % 256) x (by omega) hx
        rw [← HV.out] at this
        simpa using this
      have hcell := hTb.cell V hV
      rw [tab_get V hV] at hcell
      have hxor : bits .xor .u32 ((c : Int) / 256) ((shN 8 V : Nat) : Int) = ((stepB c x : Nat) : Int) := by
        have := u32_xor_nat (c / 256) (shN 8 V) (by omega) (shN_lt 8 V (by omega))
        rw [stepB_look, ← HV.out, ← this]
        simp
      have hc' := stepB_lt c x hc hx
      have HR' : Hid (stepB c x = runB c0 (xs.take (i + 1))) := by
        show _ = _
        rw [take_snoc xs i x (by rw [← HL.out]; exact hiL) HX.out, runB_snoc, ← HR.out]
      clear hcs hTb hB
      go_wp2_with fail
      go_round
      case rel => exact ⟨stepB c x, i + 1, rfl, by simp, by omega, hc', HR'⟩
      case measure => simp [RowKit.intOf]; omega
    · obtain rfl : i = L := by omega
      have hn := not_u32 c hc
      have HM' : Hid (4294967295 - c = m) := by
        show _ = _
        rw [← HM.out, more, ← HC0.out, HR.out, List.take_of_length_le (by rw [← HL.out]; omega)]
      rw [HM'.out] at hn
      go_wp2_with fail
      go_ret
      exact ⟨rfl, hF2⟩
end Go.Proofs.YtdojhkgnnbdfkaaGreat
/- The head of a checkpoint: contract of headOf. Conditions: bytes that came in. -/
namespace Go.Proofs.YtdojhkgnnbdfkaaGreat
open BigFrame Go.ChangeShapes Go.WideShapes Go.ChangeAt Go.RowKit Go.Lib Go.Maps
set_option linter.unusedVariables false
set_option linter.unusedSimpArgs false

theorem crc_any (m : Nat) (ao : Option Addr) (L cap : Nat) (xs : List Nat) (w : World) (hA : BArg w ao L cap xs) (hm : more 0 xs = m) :
    Calls Tryz.prog 79 #[.slice ao L cap] w fun e w' => e = .returned (.int .u32 (m : Int)) ∧ Fr [] w w' := by
  have HM : Hid (more 0 xs = m) := hm
  clear hm
  have hC := more_any 0 m ao L cap xs w (by omega) hA HM.out
  rw [show ((0 : Nat) : Int) = 0 from rfl] at hC
  go_enter Tryz.func79, Tryz.ntmps79
  go_wp2_with fail
  refine hC.mono ?_
  rintro e w1 ⟨rfl, hF⟩
  go_wp2
  go_ret
  exact ⟨rfl, hF⟩
def zero20 : List Nat := [0, 0, 0, 0, 0, 0, 0, 0, 0, 0, 0, 0, 0, 0, 0, 0, 0, 0, 0, 0]
def mid3 (g n : Nat) : List Nat := leB 4 1464880980 ++ (midB g n ++ [0, 0, 0, 0])
theorem lay_mid (g n : Nat) : layH (layH (layH zero20 0 4 1464880980) 4 8 g) 12 4 n = mid3 g n := rfl
theorem lay_hd (g : Nat) (xs : List Nat) : layH (mid3 g xs.length) 16 4 (sumH g xs) = hdB g xs := rfl
theorem mid3_mid (g n : Nat) : ((mid3 g n).drop 4).take 12 = midB g n := rfl
/-- Some bytes of a head, as a slice. -/
theorem Ha.arg {w : World} {b : Nat} {ys : List Nat} (h : Ha w b ys) (o n c : Nat) (ho : o + n ≤ 20) (hc : n ≤ c) : BArg w (some ⟨b, o, none⟩) n c ((ys.drop o).take n) := by
  refine ⟨by simp [h.len]; omega, fun x hx => h.low x (List.mem_of_mem_drop (List.mem_of_mem_take hx)), hc, by omega, fun h0 => ⟨b, o, rfl, lt_of_block h.box, fun j hj => ?_⟩⟩
  rw [h.cell (o + j) (by omega)]
  simp [List.getD, hj]
theorem Tryz.infoHead : (Tryz.prog.info? 106).map (·.size) = some 20 := by kernel_rfl
set_option maxHeartbeats 4000000 in
set_option maxRecDepth 100000 in
theorem headOf_any (g : Nat) (ao : Option Addr) (L cap : Nat) (xs : List Nat) (w : World) (hA : BArg w ao L cap xs) (hg : g < 2^64) :
    Calls Tryz.prog 52 #[.int .u64 (g : Int), .slice ao L cap] w fun e w' => e = .returned (.agg (bts (hdB g xs)).toArray) ∧ Fr [] w w' := by
  have HL : Hid (L = xs.length) := hA.len
  have hLm := hA.most
  obtain ⟨w1, HW1⟩ : ∃ w1, Hid ((w.alloc (.cells (bts zero20).toArray 106)).alloc (.cells (bts zero20).toArray 106) = w1) := ⟨_, rfl⟩
  have hF1 : Fr [] w w1 := by rw [← HW1.out]; exact (Fr.alloc [] w _).then (Fr.alloc [] _ _)
  obtain ⟨R, hR⟩ : ∃ R, R = w.heap.size := ⟨_, rfl⟩
  have hb0 : Ha w1 R zero20 := by
    refine Ha.keep (S := []) (w := w.alloc (.cells (bts zero20).toArray 106)) ⟨?_, rfl, by decide⟩ (by rw [← HW1.out]; exact Fr.alloc [] _ _) (by simp)
    rw [hR]; exact heap_alloc_new w _
  have hb1 : Ha w1 (R + 1) zero20 := by
    refine ⟨?_, rfl, by decide⟩
    rw [← HW1.out, hR]
    have := heap_alloc_new (w.alloc (.cells (bts zero20).toArray 106)) (.cells (bts zero20).toArray 106)
    simpa using this
  have HF1 : Hid (Fr [] w w1 ∧ w.heap.size ≤ R) := ⟨hF1, by omega⟩
  have HR0 : Hid (Ha w1 R zero20) := hb0
  have HA : Hid (∀ W, Fr [] w1 W → BArg W ao L cap xs) := fun W hf => hA.keep (hF1.then hf)
  have HX : Hid (∀ b off, ao = some ⟨b, off, none⟩ → 0 < L → b < w.heap.size) := fun b off e h0 => by
    obtain ⟨b', off', e', hb, _⟩ := hA.lies h0
    rw [e] at e'
    cases e'
    exact hb
  have H1 : Hid (Calls _ _ _ _ _) := put_any (R + 1) 0 4 20 1464880980 zero20 w1 hb1 (by omega) (by omega) (by omega)
  clear hb0 hb1 hA hF1
  go_enter Tryz.func52, Tryz.ntmps52
  go_upto_region 2 with fail
  rw [show ((w.alloc (.cells #[.int .u8 0, .int .u8 0, .int .u8 0, .int .u8 0, .int .u8 0, .int .u8 0, .int .u8 0, .int .u8 0, .int .u8 0, .int .u8 0, .int .u8 0, .int .u8 0, .int .u8 0, .int .u8 0, .int .u8 0, .int .u8 0, .int .u8 0, .int .u8 0, .int .u8 0, .int .u8 0] 106)).alloc (.cells #[.int .u8 0, .int .u8 0, .int .u8 0, .int .u8 0, .int .u8 0, .int .u8 0, .int .u8 0, .int .u8 0, .int .u8 0, .int .u8 0, .int .u8 0, .int .u8 0, .int .u8 0, .int .u8 0, .int .u8 0, .int .u8 0, .int .u8 0, .int .u8 0, .int .u8 0, .int .u8 0] 106)) = w1 from HW1.out]
  rw [← hR]
  clear HW1 hR
  go_wp2_with fail
  refine Calls.mono H1.out ?_
  rintro e w2 ⟨rfl, hA2, hF2⟩
  have H2 : Hid (Calls _ _ _ _ _) := put_any (R + 1) 4 8 16 g _ w2 hA2 (by omega) (by omega) hg
  have HF2 : Hid (Fr [R + 1] w1 w2) := hF2
  clear H1 hA2 hF2
  go_wp2_with fail
  refine Calls.mono H2.out ?_
  rintro e w3 ⟨rfl, hA3, hF3⟩
  have H3 : Hid (Calls _ _ _ _ _) := put_any (R + 1) 12 4 8 L _ w3 hA3 (by omega) (by omega) (by omega)
  have HF3 : Hid (Fr [R + 1] w1 w3) := HF2.out.then hF3
  clear H2 hA3 hF3 HF2
  go_wp2_with fail
  refine Calls.mono H3.out ?_
  rintro e w4 ⟨rfl, hA4, hF4⟩
  have HF4 : Hid (Fr [R + 1] w1 w4) := HF3.out.then hF4
  rw [lay_mid] at hA4
  have HA4 : Hid (∀ W, Fr [] w4 W → Ha W (R + 1) (mid3 g L)) := fun W hf => hA4.keep hf (by simp)
  have HX4 : Hid (∀ W, Fr [] w4 W → BArg W ao L cap xs) := fun W hf => by
    refine ⟨(HA.out _ (Fr.refl _ _)).len, (HA.out _ (Fr.refl _ _)).low, (HA.out _ (Fr.refl _ _)).fits, (HA.out _ (Fr.refl _ _)).most, fun h0 => ?_⟩
    obtain ⟨b, off, e, hb, hc⟩ := (HA.out _ (Fr.refl _ _)).lies h0
    have hbw := HX.out b off e h0
    have hR1 := HF1.out.2
    have hne : b ∉ [R + 1] := by simp; omega
    have hs4 := HF4.out.size
    exact ⟨b, off, e, Nat.lt_of_lt_of_le (Nat.lt_of_lt_of_le hb hs4) hf.size, fun j hj => ((World.cell?_of_block (hf.block b (Nat.lt_of_lt_of_le hb hs4) (by simp))).trans (World.cell?_of_block (HF4.out.block b hb hne))).trans (hc j hj)⟩
  obtain ⟨C, HC⟩ : ∃ C, Hid (more 0 (midB g L) = C) := ⟨_, rfl⟩
  obtain ⟨M, HM⟩ : ∃ M, Hid (more C xs = M) := ⟨_, rfl⟩
  have hC32 : C < 4294967296 := by rw [← HC.out]; exact more_lt _ _
  have hM32 : M < 4294967296 := by rw [← HM.out]; exact more_lt _ _
  have hcr := crc_any C (some ⟨R + 1, 4, none⟩) 12 16 (midB g L) w4.drew (by have := (HA4.out _ (Fr.drew [] w4)).arg 4 12 16 (by omega) (by omega); rwa [mid3_mid] at this) HC.out
  have HMo : Hid (∀ W, Fr [] w4.drew W → Calls Tryz.prog 78 #[.int .u32 (C : Int), .slice ao L cap] W fun e w' => e = .returned (.int .u32 (M : Int)) ∧ Fr [] w4.drew w') := fun W hf => (more_any C M ao L cap xs W hC32 (HX4.out _ ((Fr.drew [] w4).then hf)) HM.out).mono (fun e w' h => ⟨h.1, hf.then h.2⟩)
  have HPt : Hid (∀ W, Fr [] w4.drew W → Calls Tryz.prog 77 #[.slice (some ⟨R + 1, 16, none⟩) 4 4, .int .u64 (M : Int)] W fun e w' => e = .returned (.tuple #[]) ∧ Ha w' (R + 1) (layH (mid3 g L) 16 4 M) ∧ Fr [R + 1] W w') := fun W hf => put_any (R + 1) 16 4 4 M _ W (HA4.out _ ((Fr.drew [] w4).then hf)) (by omega) (by omega) (by omega)
  have hwr : IntKind.u64.wrap (M : Int) = (M : Int) := u64_nat _ (by omega) (by omega)
  clear H3 hA4 hF4 HF3
  go_wp2_with fail
  first
    | go_loud (go_region_held3 (fun W => True) (trivial)
        (first
        | (go_at_call 78; with_reducible refine (HMo.out _ hF5).mono ?_; rintro e w6 ⟨rfl, hF6⟩)
        | (go_at_call 79; with_reducible refine hcr.mono ?_; rintro e w5 ⟨rfl, hF5⟩)
        | (go_at_call 77; with_reducible refine (HPt.out _ hF6).mono ?_; rintro e w7 ⟨rfl, hA7, hF7⟩)))
    | fail
  clear hwr hcr HMo HPt hF5
  obtain ⟨CA, HCA⟩ : ∃ CA : Array Value, Hid (CA = (bts (hdB g xs)).toArray) := ⟨_, rfl⟩
  obtain ⟨O, HO⟩ : ∃ O : Array Value, Hid (O = (bts zero20).toArray) := ⟨_, rfl⟩
  have hC20 : CA.size = 20 := by rw [HCA.out]; simp [bts_length, hdB_length]
  have hO20 : O.size = CA.size := by rw [HO.out, hC20]; rfl
  have hone : CA.all (·.oneCell') = true := by
    rw [HCA.out, List.all_toArray, List.all_eq_true]
    intro u hu
    obtain ⟨_, _, rfl⟩ := List.mem_map.1 hu
    rfl
  have hFa : Fr [R + 1] w1 w7 := (HF4.out.then ((Fr.drew [] w4).mono (by simp) : Fr [R + 1] w4 w4.drew)).trans (hF6.trans hF7 (by simp) (fun x hx _ => hx)) (fun x hx _ => hx) (fun x hx _ => hx)
  have h1 : w7.heap[R + 1]? = some (.cells CA 106 (0, 0)) := by
    rw [HCA.out, ← lay_hd, ← HL.out, show sumH g xs = M from by unfold sumH; rw [← HL.out, HC.out, HM.out]]
    exact hA7.box
  have h0 : w7.heap[R]? = some (.cells O 106 (0, 0)) := by
    rw [HO.out]
    exact (HR0.out.keep hFa (by simp)).box
  have hi20 : (Tryz.prog.info? 106).map (·.size) = some CA.size := by rw [hC20]; exact Tryz.infoHead
  have hrow := setRow_heap w7 R O CA 106 (0, 0) h0
  have hF9 : Fr [] w (w7.setRow R CA) := (HF1.out.1.on hFa (fun x hx => by have := HF1.out.2; simp at hx; omega)).on (Fr.setRow w7 R CA) (fun x hx => by have := HF1.out.2; simp at hx; omega)
  clear hC20 hFa hA7 hF7 hF6
  go_wp2_with (first | refine wpList_load_row rfl 106 _ rfl (R + 1) rfl 106 CA (0, 0) _ h1 Tryz.underlying106 rfl hi20 ?_ | refine wpList_store_row rfl 106 _ _ rfl R CA rfl rfl 106 O h0 hi20 hO20 hone ?_)
  refine bodyPost_ret (v := .agg CA) (results_cell_row rfl _ _ R 106 CA (0, 0) _ rfl hrow Tryz.underlying106 rfl hi20) rfl ⟨by rw [HCA.out], hF9⟩
end Go.Proofs.YtdojhkgnnbdfkaaGreat
/- Slices of bytes and of raw writes cut at the head. Plain lemmas. -/
namespace Go.Proofs.YtdojhkgnnbdfkaaGreat
open BigFrame Go.ChangeShapes Go.WideShapes Go.ChangeAt Go.RowKit Go.Lib Go.Maps
set_option linter.unusedVariables false
set_option linter.unusedSimpArgs false
theorem Tryz.undBsE : Tryz.prog.underlying 76 = some (.slice (Tryz.prog.elem 76)) := by kernel_rfl
theorem Tryz.elemBs : Tryz.prog.elem 76 = 5 := by kernel_rfl
theorem Tryz.sizeOfB19 (w : World) : (Go.sizeOf 5).run Tryz.prog w = .ok 1 w := by kernel_rfl
theorem Tryz.undFnsE : Tryz.prog.underlying 108 = some (.slice (Tryz.prog.elem 108)) := by kernel_rfl
theorem Tryz.elemFns : Tryz.prog.elem 108 = 135 := by kernel_rfl
theorem Tryz.sizeOfFn0 (w : World) : (Go.sizeOf 135).run Tryz.prog w = .ok 1 w := by kernel_rfl
/-- Where a slice begins that is cut at the head. -/
def fromB (ro : Option Addr) (rc i : Nat) : Option Addr := if rc = i then ro else ro.map (·.add i)
theorem slB_lh (ro : Option Addr) (N rc i j : Nat) (h1 : i ≤ j) (h2 : j ≤ rc) (w : World) : (Instr.sliceAt 76 (.slice ro N rc) (some (.int .i64 (i : Int))) (some (.int .i64 (j : Int))) none).run Tryz.prog w = .ok (.slice (fromB ro rc i) (j - i) (rc - i)) w := by
  rw [run_sliceAt_slice w 76 _ _ _ _ Tryz.undBsE, run_slice_lh w 76 _ _ _ Tryz.undBsE .i64 .i64 (i : Int) (j : Int) (by omega) (by omega) (by omega), Tryz.elemBs, Tryz.sizeOfB19]
  simp [Result.andThen, sliced, fromB]
theorem slB_l (ro : Option Addr) (N rc K : Nat) (h1 : K ≤ N) (w : World) : (Instr.sliceAt 76 (.slice ro N rc) (some (.int .i64 (K : Int))) none none).run Tryz.prog w = .ok (.slice (fromB ro rc K) (N - K) (rc - K)) w := by
  rw [run_sliceAt_slice w 76 _ _ _ _ Tryz.undBsE, run_slice_l w 76 _ _ _ Tryz.undBsE .i64 (K : Int) (by omega) (by omega), Tryz.elemBs, Tryz.sizeOfB19]
  simp [Result.andThen, sliced, fromB]
theorem slF_l (ro : Option Addr) (N rc K : Nat) (h1 : K ≤ N) (w : World) : (Instr.sliceAt 108 (.slice ro N rc) (some (.int .i64 (K : Int))) none none).run Tryz.prog w = .ok (.slice (fromB ro rc K) (N - K) (rc - K)) w := by
  rw [run_sliceAt_slice w 108 _ _ _ _ Tryz.undFnsE, run_slice_l w 108 _ _ _ Tryz.undFnsE .i64 (K : Int) (by omega) (by omega), Tryz.elemFns, Tryz.sizeOfFn0]
  simp [Result.andThen, sliced, fromB]
/-- Some of the bytes of a slice. -/
theorem BArg.cut {w : World} {ao : Option Addr} {L cap : Nat} {xs : List Nat} (h : BArg w ao L cap xs) (i j : Nat) (hij : i ≤ j) (hj : j ≤ L) : BArg w (fromB ao cap i) (j - i) (cap - i) ((xs.drop i).take (j - i)) := by
  have hl := h.len
  have hf := h.fits
  refine ⟨by simp; omega, fun x hx => h.low x (List.mem_of_mem_drop (List.mem_of_mem_take hx)), by omega, by have := h.most; omega, fun h0 => ?_⟩
  obtain ⟨b, off, rfl, hb, hc⟩ := h.lies (by omega)
  refine ⟨b, off + i, by simp [fromB, Addr.add, show ¬ cap = i by omega], hb, fun q hq => ?_⟩
  rw [show off + i + q = off + (i + q) by omega, hc (i + q) (by omega)]
  simp [List.getD, hq]
theorem BArg.tail {w : World} {ao : Option Addr} {L cap : Nat} {xs : List Nat} (h : BArg w ao L cap xs) (i : Nat) (hi : i ≤ L) : BArg w (fromB ao cap i) (L - i) (cap - i) (xs.drop i) := by
  have hl := h.len
  have := h.cut i L hi (Nat.le_refl _)
  rwa [List.take_of_length_le (by simp; omega)] at this
/-- Are two heads the same? -/
theorem bts_cells (ys : List Nat) (h : ∀ x ∈ ys, x < 256) : bts ys = (ys.map UInt8.ofNat).map Extern.Stop.cell := by
  unfold bts
  rw [List.map_map]
  refine List.map_congr_left fun x hx => ?_
  have := h x hx
  simp [Extern.Stop.cell, UInt8.toNat_ofNat, Nat.mod_eq_of_lt this]
theorem ofNat_inj {ys zs : List Nat} (hy : ∀ x ∈ ys, x < 256) (hz : ∀ x ∈ zs, x < 256) (h : ys.map UInt8.ofNat = zs.map UInt8.ofNat) : ys = zs := by
  have key : ∀ l : List Nat, (∀ x ∈ l, x < 256) → (l.map UInt8.ofNat).map UInt8.toNat = l := fun l hl => by
    rw [List.map_map]
    conv => rhs; rw [← List.map_id l]
    refine List.map_congr_left fun x hx => ?_
    have := hl x hx
    simp [UInt8.toNat_ofNat, Nat.mod_eq_of_lt this]
  rw [← key ys hy, ← key zs hz, h]
theorem eq_heads (ys zs : List Nat) (hy : ∀ x ∈ ys, x < 256) (hz : ∀ x ∈ zs, x < 256) (h1 : ys.length = 20) (h2 : zs.length = 20) (w : World) : (Op.equalIn 10000 106 (.agg (bts ys).toArray) (.agg (bts zs).toArray)).run Tryz.prog w = .ok (decide (ys = zs)) w := by
  rw [bts_cells ys hy, bts_cells zs hz, run_equalIn_bytes w 9998 106 5 20 (by kernel_rfl) (by kernel_rfl) Tryz.sizeOfB19 _ _ (by simp [h1]) (by simp [h2])]
  congr 1
  rw [Bool.eq_iff_iff]
  simp only [beq_iff_eq, decide_eq_true_eq]
  exact ⟨fun h => ofNat_inj hy hz h, fun h => by rw [h]⟩
theorem Tryz.guardHead : Tryz.prog.eqGuardType Tryz.prog.depth 106 = false := by kernel_rfl
theorem twenty {ys : List Nat} (h : ys.length = 20) : ∃ y0 y1 y2 y3 y4 y5 y6 y7 y8 y9 y10 y11 y12 y13 y14 y15 y16 y17 y18 y19, ys = [y0, y1, y2, y3, y4, y5, y6, y7, y8, y9, y10, y11, y12, y13, y14, y15, y16, y17, y18, y19] := by
  match ys, h with
  | [y0, y1, y2, y3, y4, y5, y6, y7, y8, y9, y10, y11, y12, y13, y14, y15, y16, y17, y18, y19], _ => exact ⟨_, _, _, _, _, _, _, _, _, _, _, _, _, _, _, _, _, _, _, _, rfl⟩
end Go.Proofs.YtdojhkgnnbdfkaaGreat

/- What the table of the sums of single bytes is. No conditions. -/
import Derived.Test.YtdojhkgnnbdfkaaGreatShift
import Derived.Test.YtdojhkgnnbdfkaaGreatAp
import Derived.Laws.ShiftsVarLaws
namespace Go.Proofs.YtdojhkgnnbdfkaaGreat
open Go.ChangeShapes Go.WideShapes Go.ChangeAt Go.RowKit Go.Lib

/-- Numbers of 32 bits as cells. -/
def u32s (xs : List Nat) : List Value := xs.map fun (x : Nat) => Value.int .u32 (x : Int)
theorem u32s_length (xs : List Nat) : (u32s xs).length = xs.length := by simp [u32s]
theorem u32s_get (xs : List Nat) (j : Nat) (h : j < xs.length) : (u32s xs)[j]? = some (.int .u32 ((xs.getD j 0 : Nat) : Int)) := by
  simp [u32s, List.getD, h]
theorem u32s_set (xs : List Nat) (j x : Nat) : u32s (xs.set j x) = (u32s xs).set j (.int .u32 (x : Int)) := by
  simp [u32s, List.map_set]

theorem Tryz.infoArr : (Tryz.prog.info? 154).map (fun i => (i.zero, i.size, i.bytes)) = some (some (.agg (u32s (T1 0)).toArray), 256, 1024) := by kernel_rfl
theorem zeroArr : ∃ Z : Array Value, Hid (Z = (u32s (T1 0)).toArray) ∧ Z.size = 256 ∧ (¬ Z = #[]) ∧ ∀ w, (zeroValue 154).run Tryz.prog w = .ok (.agg Z) w := by
  refine ⟨_, rfl, by simp only [List.size_toArray, u32s_length, T1_length], ?_, fun w => ?_⟩
  · intro h
    have := congrArg Array.size h
    simp only [List.size_toArray, u32s_length, T1_length] at this
    exact absurd this (by decide)
  · obtain ⟨i, hi, hz, _, _⟩ := info_parts Tryz.infoArr
    simp [zeroValue, typeInfo, hi, hz]

/-- A table of 256 numbers in a block. -/
def Tb (w : World) (g : Nat) (xs : List Nat) : Prop := w.heap[g]? = some (.cells (u32s xs).toArray 154 (0, 0)) ∧ xs.length = 256
theorem Tb.cell {w : World} {g : Nat} {xs : List Nat} (h : Tb w g xs) (j : Nat) (hj : j < 256) : w.cell? ⟨g, j, none⟩ = some (.int .u32 ((xs.getD j 0 : Nat) : Int)) := by
  rw [cell_of_row _ _ _ _ _ _ h.1]
  simpa using u32s_get xs j (by rw [h.2]; exact hj)
theorem Tb.free {w : World} {g : Nat} {xs : List Nat} (h : Tb w g xs) (j : Nat) : w.frozen? ⟨g, j, none⟩ = false := by simp [World.frozen?, h.1]
theorem Tb.put {w : World} {g : Nat} {xs : List Nat} (h : Tb w g xs) (j x : Nat) : Tb (w.setCell ⟨g, j, none⟩ (.int .u32 (x : Int))) g (xs.set j x) := by
  refine ⟨?_, by rw [List.length_set, h.2]⟩
  rw [row_setCell _ h.1, u32s_set]
  simp
theorem Tb.keep {S : List Nat} {w w' : World} {g : Nat} {xs : List Nat} (h : Tb w g xs) (hf : Fr S w w') (hn : g ∉ S) : Tb w' g xs := ⟨hf.keep h.1 hn, h.2⟩

theorem getD_lt (xs : List Nat) (B j : Nat) (hB : 0 < B) (h : ∀ x ∈ xs, x < B) : xs.getD j 0 < B := by
  by_cases hj : j < xs.length
  · rw [show xs.getD j 0 = xs[j] from by simp [List.getD, hj]]
    exact h _ (List.getElem_mem _)
  · rw [show xs.getD j 0 = 0 from by simp [List.getD, show xs.length ≤ j by omega]]
    exact hB
theorem T1_all (i : Nat) : ∀ x ∈ T1 i, x < 4294967296 := by
  induction i with
  | zero => intro x hx; rw [List.eq_of_mem_replicate hx]; omega
  | succ i ih =>
    intro x hx
    rcases List.mem_or_eq_of_mem_set hx with hx | rfl
    · exact ih x hx
    · exact shN_lt _ _ (by omega)
theorem T2_all (i : Nat) : ∀ x ∈ T2 i, x < 4294967296 := by
  induction i with
  | zero => exact T1_all 8
  | succ i ih =>
    intro x hx
    rcases List.mem_or_eq_of_mem_set hx with hx | rfl
    · exact ih x hx
    · exact Nat.xor_lt_two_pow (n := 32) (getD_lt _ _ _ (by omega) ih) (getD_lt _ _ _ (by omega) ih)
theorem T2_lt (i j : Nat) : (T2 i).getD j 0 < 4294967296 := getD_lt _ _ _ (by omega) (T2_all i)
theorem and_pred0 : ∀ i : Fin 256, bits .and .i64 ((i.val : Nat) : Int) (((i.val : Nat) : Int) - 1) = ((i.val &&& (i.val - 1) : Nat) : Int) := by decide +kernel
theorem and_pred (i : Nat) (h : i < 256) : bits .and .i64 (i : Int) ((i : Int) - 1) = ((i &&& (i - 1) : Nat) : Int) := and_pred0 ⟨i, h⟩

set_option maxHeartbeats 4000000 in
set_option maxRecDepth 100000 in
theorem byteSums_any (w : World) :
    Calls Tryz.prog 95 #[] w fun e w' => e = .returned (.agg (u32s tab).toArray) ∧ Fr [] w w' := by
  obtain ⟨Z, HZ, hZs, hZn, hz⟩ := zeroArr
  go_enter Tryz.func95, Tryz.ntmps95
  go_wp2_with fail
  obtain ⟨g, hg⟩ : ∃ g, g = w.heap.size := ⟨_, rfl⟩
  have hT0 : Tb ((w.alloc (.cells Z 154)).alloc (.cells Z 154)) (g + 1) (T1 0) := by
    refine ⟨?_, T1_length 0⟩
    rw [← HZ.out, hg]
    have := heap_alloc_new (w.alloc (.cells Z 154)) (.cells Z 154)
    simpa using this
  have hR0 : Tb ((w.alloc (.cells Z 154)).alloc (.cells Z 154)) g (T1 0) := by
    refine Tb.keep ?_ (Fr.alloc [] _ _) (by simp)
    refine ⟨?_, T1_length 0⟩
    rw [← HZ.out, hg]
    exact heap_alloc_new w _
  have hF0 : Fr [] w ((w.alloc (.cells Z 154)).alloc (.cells Z 154)) := (Fr.alloc [] _ _).then (Fr.alloc [] _ _)
  rw [← hg]
  have HG : Hid (w.heap.size ≤ g) := by show _ ≤ _; omega
  clear hg
  go_loopw [2, 6] (fun cc ii wr => ∃ i : Nat, cc = .int .u32 ((shN i 1 : Nat) : Int) ∧ ii = .int .i64 i ∧ i ≤ 8 ∧ Tb wr (g + 1) (T1 i) ∧ Tb wr g (T1 0) ∧ Fr [] w wr) (fun _ ii _ => 8 - (intOf ii).toNat)
  case atStart => exact ⟨0, rfl, rfl, by omega, hT0, hR0, hF0⟩
  case round =>
    obtain ⟨i, rfl, rfl, hi8, hT, hR, hF⟩ := hrel
    by_cases hi : i < 8
    · have hc := shN_lt i 1 (by omega)
      obtain ⟨c, HC⟩ : ∃ c, Hid (c = shN i 1) := ⟨_, rfl⟩
      rw [← HC.out] at hc ⊢
      go_wp2_with fail
      refine (shift_any c _ hc).mono ?_
      rintro e w1 ⟨rfl, rfl⟩
      obtain ⟨J, HJ⟩ : ∃ J : Nat, Hid (J = 128 / 2 ^ i) := ⟨_, rfl⟩
      have hJ : J < 256 := by
        have := Nat.div_le_self 128 (2 ^ i)
        have := HJ.out
        omega
      have hsh : (128 : Int) / 2 ^ i = (J : Int) := by rw [HJ.out]; simp
      have hcell := hT.cell J hJ
      have hfree := hT.free J
      have hT' : Tb (wr.setCell ⟨g + 1, J, none⟩ (.int .u32 ((sh c : Nat) : Int))) (g + 1) (T1 (i + 1)) := by
        have := hT.put J (sh c)
        rw [HC.out, ← shN_succ, HJ.out] at this
        rw [HC.out, ← shN_succ, HJ.out]
        exact this
      have hfr : Fr [g + 1] wr (wr.setCell ⟨g + 1, J, none⟩ (.int .u32 ((sh c : Nat) : Int))) := Fr.set _ _ _ (by simp)
      have hR' := hR.keep hfr (by simp)
      have hgw : w.heap.size ≤ g := HG.out
      have hF' := hF.on hfr (by intro x hx; simp at hx; omega)
      have HS : Hid (sh c = shN (i + 1) 1) := by show _ = _; rw [HC.out, ← shN_succ]
      clear hT hR hF hfr hgw
      go_wp2_with fail
      go_roundw
      case rel => exact ⟨i + 1, by rw [HS.out], by simp, by omega, hT', hR', hF'⟩
      case measure => simp [intOf]; omega
    · obtain rfl : i = 8 := by omega
      go_wp2_with fail
      go_loopw [16] (fun ii wr => ∃ i : Nat, ii = .int .i64 i ∧ i ≤ 256 ∧ Tb wr (g + 1) (T2 i) ∧ Tb wr g (T1 0) ∧ Fr [] w wr) (fun ii _ => 256 - (intOf ii).toNat)
      case atStart => exact ⟨0, rfl, by omega, hT, hR, hF⟩
      case round =>
        clear hT hR hF
        obtain ⟨i, rfl, hi8, hT, hR, hF⟩ := hrel
        by_cases hi : i < 256
        · obtain ⟨R, HR⟩ : ∃ R, Hid (R = i &&& (i - 1)) := ⟨_, rfl⟩
          have hRi : R ≤ i := by rw [HR.out]; exact Nat.and_le_left
          have hand : bits .and .i64 (i : Int) ((i : Int) - 1) = (R : Int) := by rw [HR.out]; exact and_pred i hi
          obtain ⟨D, HD⟩ : ∃ D, Hid (D = i - R) := ⟨_, rfl⟩
          have hD : (i : Int) - (R : Int) = (D : Int) := by have := HD.out; omega
          have hD256 : D < 256 := by have := HD.out; omega
          have hR256 : R < 256 := by omega
          have hc1 := hT.cell R hR256
          have hc2 := hT.cell D hD256
          have hc3 := hT.cell i hi
          have hf3 := hT.free i
          have hX := T2_lt i R
          have hY := T2_lt i D
          obtain ⟨X, HX⟩ : ∃ X, Hid (X = (T2 i).getD R 0) := ⟨_, rfl⟩
          obtain ⟨Y, HY⟩ : ∃ Y, Hid (Y = (T2 i).getD D 0) := ⟨_, rfl⟩
          rw [← HX.out] at hc1 hX
          rw [← HY.out] at hc2 hY
          have hxor := u32_xor_nat X Y hX hY
          have hT' : Tb (wr.setCell ⟨g + 1, i, none⟩ (.int .u32 ((X ^^^ Y : Nat) : Int))) (g + 1) (T2 (i + 1)) := by
            have := hT.put i (X ^^^ Y)
            rw [HX.out, HY.out, HD.out, HR.out] at this
            rw [HX.out, HY.out, HD.out, HR.out]
            exact this
          have hfr : Fr [g + 1] wr (wr.setCell ⟨g + 1, i, none⟩ (.int .u32 ((X ^^^ Y : Nat) : Int))) := Fr.set _ _ _ (by simp)
          have hR' := hR.keep hfr (by simp)
          have hgw : w.heap.size ≤ g := HG.out
          have hF' := hF.on hfr (by intro x hx; simp at hx; omega)
          clear hT hR hF hfr hgw hX hY
          go_wp2_with fail
          go_region
          have hd := Fr.drew [] (wr.setCell ⟨g + 1, i, none⟩ (.int .u32 ((X ^^^ Y : Nat) : Int)))
          have hT2 := hT'.keep hd (by simp)
          have hR2 := hR'.keep hd (by simp)
          have hF2 := hF'.then hd
          clear hT' hR' hF' hd
          go_wp2_with fail
          go_roundw
          case rel => exact ⟨i + 1, by simp, by omega, hT2, hR2, hF2⟩
          case measure => simp [intOf]; omega
        · obtain rfl : i = 256 := by omega
          obtain ⟨C, HC⟩ : ∃ C : Array Value, Hid (C = (u32s tab).toArray) := ⟨_, rfl⟩
          obtain ⟨O, HO⟩ : ∃ O : Array Value, Hid (O = (u32s (T1 0)).toArray) := ⟨_, rfl⟩
          have hC : C.size = 256 := by rw [HC.out, ← tab_eq]; simp only [List.size_toArray, u32s_length, T2_length]
          have hO : O.size = C.size := by rw [HO.out, hC]; simp only [List.size_toArray, u32s_length, T1_length]
          have hone : C.all (·.oneCell') = true := by
            rw [HC.out, List.all_toArray, List.all_eq_true]
            intro u hu
            obtain ⟨_, _, rfl⟩ := List.mem_map.1 hu
            rfl
          have h1 : wr.heap[g + 1]? = some (.cells C 154 (0, 0)) := by rw [hT.1, HC.out, tab_eq]
          have h0 : wr.heap[g]? = some (.cells O 154 (0, 0)) := by rw [hR.1, HO.out]
          have hi36 : (Tryz.prog.info? 154).map (·.size) = some C.size := by
            obtain ⟨i, hi, _, hz, _⟩ := info_parts Tryz.infoArr
            rw [hi, hC]
            simp [hz]
          have hrow := setRow_heap wr g O C 154 (0, 0) h0
          have hF2 : Fr [] w (wr.setRow g C) := hF.on (Fr.setRow wr g C) (by have := HG.out; intro x hx; simp at hx; omega)
          clear hT hR hF hC
          go_wp2_with (first | refine wpList_load_row rfl 154 _ rfl (g + 1) rfl 154 C (0, 0) _ h1 Tryz.underlying154 rfl hi36 ?_ | refine wpList_store_row rfl 154 _ _ rfl g C rfl rfl 154 O h0 hi36 hO hone ?_)
          refine bodyPost_ret (v := .agg C) (results_cell_row rfl _ _ g 154 C (0, 0) _ rfl hrow Tryz.underlying154 rfl hi36) rfl ⟨by rw [HC.out], hF2⟩
end Go.Proofs.YtdojhkgnnbdfkaaGreat

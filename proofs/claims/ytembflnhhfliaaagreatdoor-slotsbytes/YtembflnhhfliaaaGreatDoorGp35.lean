/- Contracts and plain lemmas of this claim. -/
import Derived.Test.YtembflnhhfliaaaGreatDoorGp34
import Derived.Test.YtembflnhhfliaaaGreatDoorGp14
import Derived.Laws.ShiftsVarLaws
import Derived.Test.YtembflnhhfliaaaGreatDoorGp4
import Derived.Deep.RegionHeld3
import Derived.Stop.BytesEq
import Derived.ShutString
import Derived.ChangeOld
import Derived.Below
import Derived.Lib.AppendZeros
import Derived.Deep.RegionLaw
import Derived.Deep.RegionWith
import Derived.Deep.CutRange
set_option linter.unusedSimpArgs false
set_option linter.unusedVariables false
set_option maxHeartbeats 4000000
set_option maxRecDepth 100000
namespace Go.Proofs.YtembflnhhfliaaaGreatDoor
open Go.ChangeShapes Go.WideShapes Go.ChangeAt Go.RowKit Go.Lib
def u32s (xs : List Nat) : List Value := xs.map fun (x : Nat) => Value.int .u32 (x : Int)
theorem zcx (xs : List Nat) : (u32s xs).length = xs.length := by simp [u32s]
theorem zwp (xs : List Nat) (j : Nat) (h : j < xs.length) : (u32s xs)[j]? = some (.int .u32 ((xs.getD j 0 : Nat) : Int)) := by
  simp [u32s, List.getD, h]
theorem zwq (xs : List Nat) (j x : Nat) : u32s (xs.set j x) = (u32s xs).set j (.int .u32 (x : Int)) := by
  simp [u32s, List.map_set]
theorem Tryz.infoArr : (Tryz.prog.info? 214).map (fun i => (i.zero, i.size, i.bytes)) = some (some (.agg (u32s (T1 0)).toArray), 256, 1024) := by kernel_rfl
theorem zqe : ∃ Z : Array Value, Hid (Z = (u32s (T1 0)).toArray) /\ Z.size = 256 /\ (¬ Z = #[]) /\ ∀ w, (zeroValue 214).run Tryz.prog w = .ok (.agg Z) w := by
  refine ⟨_, rfl, by simp only [List.size_toArray, zcx, zdb], ?_, fun w => ?_⟩
  · intro h
    have := congrArg Array.size h
    simp only [List.size_toArray, zcx, zdb] at this
    exact absurd this (by decide)
  · obtain ⟨i, hi, hz, _, _⟩ := info_parts Tryz.infoArr
    simp [zeroValue, typeInfo, hi, hz]
def Tb (w : World) (g : Nat) (xs : List Nat) : Prop := w.heap[g]? = some (.cells (u32s xs).toArray 214 (0, 0)) /\ xs.length = 256
theorem Tb.cell {w : World} {g : Nat} {xs : List Nat} (h : Tb w g xs) (j : Nat) (hj : j < 256) : w.cell? ⟨g, j, none⟩ = some (.int .u32 ((xs.getD j 0 : Nat) : Int)) := by
  rw [cell_of_row _ _ _ _ _ _ h.1]
  simpa using zwp xs j (by rw [h.2]; exact hj)
theorem Tb.free {w : World} {g : Nat} {xs : List Nat} (h : Tb w g xs) (j : Nat) : w.frozen? ⟨g, j, none⟩ = false := by simp [World.frozen?, h.1]
theorem Tb.put {w : World} {g : Nat} {xs : List Nat} (h : Tb w g xs) (j x : Nat) : Tb (w.setCell ⟨g, j, none⟩ (.int .u32 (x : Int))) g (xs.set j x) := by
  refine ⟨?_, by rw [List.length_set, h.2]⟩
  rw [zae _ h.1, zwq]
  simp
theorem Tb.keep {S : List Nat} {w w' : World} {g : Nat} {xs : List Nat} (h : Tb w g xs) (hf : Fr S w w') (hn : g ∉ S) : Tb w' g xs := ⟨hf.keep h.1 hn, h.2⟩
theorem zkw (xs : List Nat) (B j : Nat) (hB : 0 < B) (h : ∀ x ∈ xs, x < B) : xs.getD j 0 < B := by
  by_cases hj : j < xs.length
  · rw [show xs.getD j 0 = xs[j] from by simp [List.getD, hj]]
    exact h _ (List.getElem_mem _)
  · rw [show xs.getD j 0 = 0 from by simp [List.getD, show xs.length <= j by omega]]
    exact hB
theorem zzn (i : Nat) : ∀ x ∈ T1 i, x < 4294967296 := by
  induction i with
  | zero => intro x hx; rw [List.eq_of_mem_replicate hx]; omega
  | succ i ih =>
    intro x hx
    rcases List.mem_or_eq_of_mem_set hx with hx | rfl
    · exact ih x hx
    · exact zjj _ _ (by omega)
theorem zzo (i : Nat) : ∀ x ∈ T2 i, x < 4294967296 := by
  induction i with
  | zero => exact zzn 8
  | succ i ih =>
    intro x hx
    rcases List.mem_or_eq_of_mem_set hx with hx | rfl
    · exact ih x hx
    · exact Nat.xor_lt_two_pow (n := 32) (zkw _ _ _ (by omega) ih) (zkw _ _ _ (by omega) ih)
theorem zxo (i j : Nat) : (T2 i).getD j 0 < 4294967296 := zkw _ _ _ (by omega) (zzo i)
theorem zuq : ∀ i : Fin 256, bits .and .i64 ((i.val : Nat) : Int) (((i.val : Nat) : Int) - 1) = ((i.val &&& (i.val - 1) : Nat) : Int) := by decide +kernel
theorem zwr (i : Nat) (h : i < 256) : bits .and .i64 (i : Int) ((i : Int) - 1) = ((i &&& (i - 1) : Nat) : Int) := zuq ⟨i, h⟩
theorem zny (w : World) :
    Calls Tryz.prog 157 #[] w fun e w' => e = .returned (.agg (u32s tab).toArray) /\ Fr [] w w' := by
  obtain ⟨Z, HZ, hZs, hZn, hz⟩ := zqe
  go_enter Tryz.func157, Tryz.ntmps157
  go_wp2_with fail
  obtain ⟨g, hg⟩ : ∃ g, g = w.heap.size := ⟨_, rfl⟩
  have hT0 : Tb ((w.alloc (.cells Z 214)).alloc (.cells Z 214)) (g + 1) (T1 0) := by
    refine ⟨?_, zdb 0⟩
    rw [<- HZ.out, hg]
    have := heap_alloc_new (w.alloc (.cells Z 214)) (.cells Z 214)
    simpa using this
  have hR0 : Tb ((w.alloc (.cells Z 214)).alloc (.cells Z 214)) g (T1 0) := by
    refine Tb.keep ?_ (Fr.alloc [] _ _) (by simp)
    refine ⟨?_, zdb 0⟩
    rw [<- HZ.out, hg]
    exact heap_alloc_new w _
  have hF0 : Fr [] w ((w.alloc (.cells Z 214)).alloc (.cells Z 214)) := (Fr.alloc [] _ _).then (Fr.alloc [] _ _)
  rw [<- hg]
  have HG : Hid (w.heap.size <= g) := by show _ <= _; omega
  clear hg
  go_loopw [2, 6] (fun cc ii wr => ∃ i : Nat, cc = .int .u32 ((shN i 1 : Nat) : Int) /\ ii = .int .i64 i /\ i <= 8 /\ Tb wr (g + 1) (T1 i) /\ Tb wr g (T1 0) /\ Fr [] w wr) (fun _ ii _ => 8 - (RowKit.intOf ii).toNat)
  case atStart => exact ⟨0, rfl, rfl, by omega, hT0, hR0, hF0⟩
  case round =>
    obtain ⟨i, rfl, rfl, hi8, hT, hR, hF⟩ := hrel
    by_cases hi : i < 8
    · have hc := zjj i 1 (by omega)
      obtain ⟨c, HC⟩ : ∃ c, Hid (c = shN i 1) := ⟨_, rfl⟩
      rw [<- HC.out] at hc ⊢
      go_wp2_with fail
      refine (zup c _ hc).mono ?_
      rintro e w1 ⟨rfl, rfl⟩
      obtain ⟨J, HJ⟩ : ∃ J : Nat, Hid (J = 128 / 2 ^ i) := ⟨_, rfl⟩
      have hJ : J < 256 := by
        have := Nat.div_le_self 128 (2 ^ i)
        have := HJ.out
        omega
      have hsh : (128 : Int) / 2 ^ i = (J : Int) := by rw [HJ.out]; simp
      have hcell := hT.cell J hJ
      have hfree := hT.free J
      have hT' : Tb (wr.setCell ⟨g + 1, J, none⟩ (.int .u32 ((sh c : Nat) : Int))) (g + 1) (T1 (i + 1)) := by
        have := hT.put J (sh c)
        rw [HC.out, <- zgl, HJ.out] at this
        rw [HC.out, <- zgl, HJ.out]
        exact this
      have hfr : Fr [g + 1] wr (wr.setCell ⟨g + 1, J, none⟩ (.int .u32 ((sh c : Nat) : Int))) := Fr.set _ _ _ (by simp)
      have hR' := hR.keep hfr (by simp)
      have hgw : w.heap.size <= g := HG.out
      have hF' := hF.on hfr (by intro x hx; simp at hx; omega)
      have HS : Hid (sh c = shN (i + 1) 1) := by show _ = _; rw [HC.out, <- zgl]
      clear hT hR hF hfr hgw
      go_wp2_with fail
      go_roundw
      case rel => exact ⟨i + 1, by rw [HS.out], by simp, by omega, hT', hR', hF'⟩
      case measure => simp [RowKit.intOf]; omega
    · obtain rfl : i = 8 := by omega
      go_wp2_with fail
      go_loopw [16] (fun ii wr => ∃ i : Nat, ii = .int .i64 i /\ i <= 256 /\ Tb wr (g + 1) (T2 i) /\ Tb wr g (T1 0) /\ Fr [] w wr) (fun ii _ => 256 - (RowKit.intOf ii).toNat)
      case atStart => exact ⟨0, rfl, by omega, hT, hR, hF⟩
      case round =>
        clear hT hR hF
        obtain ⟨i, rfl, hi8, hT, hR, hF⟩ := hrel
        by_cases hi : i < 256
        · obtain ⟨R, HR⟩ : ∃ R, Hid (R = i &&& (i - 1)) := ⟨_, rfl⟩
          have hRi : R <= i := by rw [HR.out]; exact Nat.and_le_left
          have hand : bits .and .i64 (i : Int) ((i : Int) - 1) = (R : Int) := by rw [HR.out]; exact zwr i hi
          obtain ⟨D, HD⟩ : ∃ D, Hid (D = i - R) := ⟨_, rfl⟩
          have hD : (i : Int) - (R : Int) = (D : Int) := by have := HD.out; omega
          have hD256 : D < 256 := by have := HD.out; omega
          have hR256 : R < 256 := by omega
          have hc1 := hT.cell R hR256
          have hc2 := hT.cell D hD256
          have hc3 := hT.cell i hi
          have hf3 := hT.free i
          have hX := zxo i R
          have hY := zxo i D
          obtain ⟨X, HX⟩ : ∃ X, Hid (X = (T2 i).getD R 0) := ⟨_, rfl⟩
          obtain ⟨Y, HY⟩ : ∃ Y, Hid (Y = (T2 i).getD D 0) := ⟨_, rfl⟩
          rw [<- HX.out] at hc1 hX
          rw [<- HY.out] at hc2 hY
          have hxor := u32_xor_nat X Y hX hY
          have hT' : Tb (wr.setCell ⟨g + 1, i, none⟩ (.int .u32 ((X ^^^ Y : Nat) : Int))) (g + 1) (T2 (i + 1)) := by
            have := hT.put i (X ^^^ Y)
            rw [HX.out, HY.out, HD.out, HR.out] at this
            rw [HX.out, HY.out, HD.out, HR.out]
            exact this
          have hfr : Fr [g + 1] wr (wr.setCell ⟨g + 1, i, none⟩ (.int .u32 ((X ^^^ Y : Nat) : Int))) := Fr.set _ _ _ (by simp)
          have hR' := hR.keep hfr (by simp)
          have hgw : w.heap.size <= g := HG.out
          have hF' := hF.on hfr (by intro x hx; simp at hx; omega)
          clear hT hR hF hfr hgw hX hY
          go_wp2_with fail
          go_region
          have hd := Fr.drew [] (wr.setCell ⟨g + 1, i, none⟩ (.int .u32 ((X ^^^ Y : Nat) : Int)))
          have hT2 := hT'.keep hd (by simp)
          have hR2 := hR'.keep hd (by simp)
          have hF2 := hF'.then hd
          clear hT' hR' hF' hd
          go_wp2_with fail
          go_roundw
          case rel => exact ⟨i + 1, by simp, by omega, hT2, hR2, hF2⟩
          case measure => simp [RowKit.intOf]; omega
        · obtain rfl : i = 256 := by omega
          obtain ⟨C, HC⟩ : ∃ C : Array Value, Hid (C = (u32s tab).toArray) := ⟨_, rfl⟩
          obtain ⟨O, HO⟩ : ∃ O : Array Value, Hid (O = (u32s (T1 0)).toArray) := ⟨_, rfl⟩
          have hC : C.size = 256 := by rw [HC.out, <- zjk]; simp only [List.size_toArray, zcx, zhc]
          have hO : O.size = C.size := by rw [HO.out, hC]; simp only [List.size_toArray, zcx, zdb]
          have hone : C.all (·.oneCell') = true := by
            rw [HC.out, List.all_toArray, List.all_eq_true]
            intro u hu
            obtain ⟨_, _, rfl⟩ := List.mem_map.1 hu
            rfl
          have h1 : wr.heap[g + 1]? = some (.cells C 214 (0, 0)) := by rw [hT.1, HC.out, zjk]
          have h0 : wr.heap[g]? = some (.cells O 214 (0, 0)) := by rw [hR.1, HO.out]
          have hi36 : (Tryz.prog.info? 214).map (·.size) = some C.size := by
            obtain ⟨i, hi, _, hz, _⟩ := info_parts Tryz.infoArr
            rw [hi, hC]
            simp [hz]
          have hrow := setRow_heap wr g O C 214 (0, 0) h0
          have hF2 : Fr [] w (wr.setRow g C) := hF.on (Fr.setRow wr g C) (by have := HG.out; intro x hx; simp at hx; omega)
          clear hT hR hF hC
          go_wp2_with (first | refine wpList_load_row rfl 214 _ rfl (g + 1) rfl 214 C (0, 0) _ h1 Tryz.underlying214 rfl hi36 ?_ | refine wpList_store_row rfl 214 _ _ rfl g C rfl rfl 214 O h0 hi36 hO hone ?_)
          refine bodyPost_ret (v := .agg C) (results_cell_row rfl _ _ g 214 C (0, 0) _ rfl hrow Tryz.underlying214 rfl hi36) rfl ⟨by rw [HC.out], hF2⟩
theorem zir (xs : List Nat) (i : Nat) (h : i < xs.length) (hl : ∀ x ∈ xs, x < 256) : xs.getD i 0 < 256 := by
  rw [show xs.getD i 0 = xs[i] from by simp [List.getD, h]]
  exact hl _ (List.getElem_mem _)
theorem zqf (s : Nat) (h : s < 4294967296) : bits .xor .u32 IntKind.u32.max (s : Int) = ((4294967295 - s : Nat) : Int) := by
  have e : (IntKind.u32.max : Int) = ((4294967295 : Nat) : Int) := by decide
  rw [e, u32_xor_nat _ _ (by omega) h, Nat.xor_comm]
  have h2 : (BitVec.ofNat 32 s ^^^ BitVec.allOnes 32).toNat = (~~~ (BitVec.ofNat 32 s)).toNat := by rw [BitVec.xor_allOnes]
  rw [BitVec.toNat_xor, BitVec.toNat_not, BitVec.toNat_allOnes, BitVec.toNat_ofNat, Nat.mod_eq_of_lt (by simpa using h)] at h2
  have e2 : s ^^^ 4294967295 = 4294967295 - s := by simpa using h2
  rw [e2]
theorem znz (s m : Nat) (ao : Option Addr) (L cap : Nat) (xs : List Nat) (w : World) (hs : s < 4294967296) (hA : BArg w ao L cap xs) (hm : more s xs = m) :
    Calls Tryz.prog 128 #[.int .u32 (s : Int), .slice ao L cap] w fun e w' => e = .returned (.int .u32 (m : Int)) /\ Fr [] w w' := by
  have HM : Hid (more s xs = m) := hm
  clear hm
  have HL : Hid (L = xs.length) := hA.len
  have hLm := hA.most
  obtain ⟨Z, HZ, hZs, hZn, hz⟩ := zqe
  obtain ⟨C, HC⟩ : ∃ C : Array Value, Hid (C = (u32s tab).toArray) := ⟨_, rfl⟩
  have hC : C.size = 256 := by rw [HC.out, <- zjk]; simp only [List.size_toArray, zcx, zhc]
  have hO : Z.size = C.size := by rw [hZs, hC]
  have hone : C.all (·.oneCell') = true := by
    rw [HC.out, List.all_toArray, List.all_eq_true]
    intro u hu
    obtain ⟨_, _, rfl⟩ := List.mem_map.1 hu
    rfl
  have hi36 : (Tryz.prog.info? 214).map (·.size) = some C.size := by
    obtain ⟨i, hi, _, hz, _⟩ := info_parts Tryz.infoArr
    rw [hi, hC]
    simp [hz]
  go_enter Tryz.func128, Tryz.ntmps128
  go_wp2_with fail
  refine (zny _).mono ?_
  rintro e w1 ⟨rfl, hF1⟩
  rw [<- HC.out]
  have h0 : (w1.alloc (.cells Z 214)).heap[w1.heap.size]? = some (.cells Z 214 (0, 0)) := heap_alloc_new w1 _
  have hnot := zqf s hs
  go_wp2_with (refine wpList_store_row rfl 214 _ _ rfl w1.heap.size C rfl rfl 214 Z h0 hi36 hO hone ?_)
  have hF2 : Fr [] w ((w1.alloc (.cells Z 214)).setRow w1.heap.size C) := ((hF1.then (Fr.alloc [] _ _)).on (Fr.setRow _ w1.heap.size C) (by have := hF1.size; intro x hx; simp at hx; omega))
  have hrow := setRow_heap _ w1.heap.size Z C 214 (0, 0) h0
  obtain ⟨wc, hwc⟩ : ∃ wc, wc = (w1.alloc (.cells Z 214)).setRow w1.heap.size C := ⟨_, rfl⟩
  obtain ⟨g, hg⟩ : ∃ g, g = w1.heap.size := ⟨_, rfl⟩
  rw [<- hwc] at hF2 hrow ⊢
  rw [<- hg] at hrow ⊢
  have hTb : Tb wc g tab := ⟨by rw [hrow, HC.out], by rw [<- zjk, zhc]⟩
  have hB := hA.keep hF2
  clear hwc hg hrow h0 hA hz hZn hZs hO hone hi36 hF1 hC hnot
  obtain ⟨c0, HC0⟩ : ∃ c0, Hid (c0 = 4294967295 - s) := ⟨_, rfl⟩
  rw [<- HC0.out]
  have hc0 : c0 < 4294967296 := by have := HC0.out; omega
  go_loop [6, 14] (fun cc ii => ∃ (c i : Nat), cc = .int .u32 (c : Int) /\ ii = .int .i64 i /\ i <= L /\ c < 4294967296 /\ Hid (c = runB c0 (xs.take i))) (fun _ ii => L - (RowKit.intOf ii).toNat)
  case atStart => exact ⟨c0, 0, rfl, rfl, Nat.zero_le _, hc0, rfl⟩
  case round =>
    obtain ⟨c, i, rfl, rfl, hi, hc, HR⟩ := hrel
    by_cases hiL : i < L
    · obtain ⟨b, off, e, _, hcs⟩ := hB.lies (by omega)
      subst e
      have hcx := hcs i hiL
      have hx := zir xs i (by rw [<- HL.out]; exact hiL) hB.low
      obtain ⟨x, HX⟩ : ∃ x, Hid (x = xs.getD i 0) := ⟨_, rfl⟩
      rw [<- HX.out] at hcx hx
      obtain ⟨V, HV⟩ : ∃ V, Hid (V = (c % 256) ^^^ x) := ⟨_, rfl⟩
      have hV : V < 256 := by rw [HV.out]; exact Nat.xor_lt_two_pow (n := 8) (by omega) hx
      have hx8 : bits .xor .u8 ((c : Int) % 256) (x : Int) = (V : Int) := by
        have := u8_xor_nat (c % 256) x (by omega) hx
        rw [<- HV.out] at this
        simpa using this
      have hcell := hTb.cell V hV
      rw [zxw V hV] at hcell
      have hxor : bits .xor .u32 ((c : Int) / 256) ((shN 8 V : Nat) : Int) = ((zbv c x : Nat) : Int) := by
        have := u32_xor_nat (c / 256) (shN 8 V) (by omega) (zjj 8 V (by omega))
        rw [zqv, <- HV.out, <- this]
        simp
      have hc' := zmu c x hc hx
      have HR' : Hid (zbv c x = runB c0 (xs.take (i + 1))) := by
        show _ = _
        rw [zlg xs i x (by rw [<- HL.out]; exact hiL) HX.out, zlh, <- HR.out]
      clear hcs hTb hB
      go_wp2_with fail
      go_round
      case rel => exact ⟨zbv c x, i + 1, rfl, by simp, by omega, hc', HR'⟩
      case measure => simp [RowKit.intOf]; omega
    · obtain rfl : i = L := by omega
      have hn := zqf c hc
      have HM' : Hid (4294967295 - c = m) := by
        show _ = _
        rw [<- HM.out, more, <- HC0.out, HR.out, List.take_of_length_le (by rw [<- HL.out]; omega)]
      rw [HM'.out] at hn
      go_wp2_with fail
      go_ret
      exact ⟨rfl, hF2⟩
open BigFrame Go.Maps
theorem zyp (m : Nat) (ao : Option Addr) (L cap : Nat) (xs : List Nat) (w : World) (hA : BArg w ao L cap xs) (hm : more 0 xs = m) :
    Calls Tryz.prog 129 #[.slice ao L cap] w fun e w' => e = .returned (.int .u32 (m : Int)) /\ Fr [] w w' := by
  have HM : Hid (more 0 xs = m) := hm
  clear hm
  have hC := znz 0 m ao L cap xs w (by omega) hA HM.out
  rw [show ((0 : Nat) : Int) = 0 from rfl] at hC
  go_enter Tryz.func129, Tryz.ntmps129
  go_wp2_with fail
  refine hC.mono ?_
  rintro e w1 ⟨rfl, hF⟩
  go_wp2
  go_ret
  exact ⟨rfl, hF⟩
def zcl : List Nat := [0, 0, 0, 0, 0, 0, 0, 0, 0, 0, 0, 0, 0, 0, 0, 0, 0, 0, 0, 0]
def mid3 (g n : Nat) : List Nat := leB 4 1464880980 ++ (midB g n ++ [0, 0, 0, 0])
theorem zyq (g n : Nat) : layH (layH (layH zcl 0 4 1464880980) 4 8 g) 12 4 n = mid3 g n := rfl
theorem zzp (g : Nat) (xs : List Nat) : layH (mid3 g xs.length) 16 4 (sumH g xs) = hdB g xs := rfl
theorem zws (g n : Nat) : ((mid3 g n).drop 4).take 12 = midB g n := rfl
theorem Ha.arg {w : World} {b : Nat} {ys : List Nat} (h : Ha w b ys) (o n c : Nat) (ho : o + n <= 20) (hc : n <= c) : BArg w (some ⟨b, o, none⟩) n c ((ys.drop o).take n) := by
  refine ⟨by simp [h.len]; omega, fun x hx => h.low x (List.mem_of_mem_drop (List.mem_of_mem_take hx)), hc, by omega, fun h0 => ⟨b, o, rfl, lt_of_block h.box, fun j hj => ?_⟩⟩
  rw [h.cell (o + j) (by omega)]
  simp [List.getD, hj]
theorem Tryz.infoHead : (Tryz.prog.info? 92).map (·.size) = some 20 := by kernel_rfl
theorem zkh (g : Nat) (ao : Option Addr) (L cap : Nat) (xs : List Nat) (w : World) (hA : BArg w ao L cap xs) (hg : g < 2^64) :
    Calls Tryz.prog 78 #[.int .u64 (g : Int), .slice ao L cap] w fun e w' => e = .returned (.agg (bts (hdB g xs)).toArray) /\ Fr [] w w' := by
  have HL : Hid (L = xs.length) := hA.len
  have hLm := hA.most
  obtain ⟨w1, HW1⟩ : ∃ w1, Hid ((w.alloc (.cells (bts zcl).toArray 92)).alloc (.cells (bts zcl).toArray 92) = w1) := ⟨_, rfl⟩
  have hF1 : Fr [] w w1 := by rw [<- HW1.out]; exact (Fr.alloc [] w _).then (Fr.alloc [] _ _)
  obtain ⟨R, hR⟩ : ∃ R, R = w.heap.size := ⟨_, rfl⟩
  have hb0 : Ha w1 R zcl := by
    refine Ha.keep (S := []) (w := w.alloc (.cells (bts zcl).toArray 92)) ⟨?_, rfl, by decide⟩ (by rw [<- HW1.out]; exact Fr.alloc [] _ _) (by simp)
    rw [hR]; exact heap_alloc_new w _
  have hb1 : Ha w1 (R + 1) zcl := by
    refine ⟨?_, rfl, by decide⟩
    rw [<- HW1.out, hR]
    have := heap_alloc_new (w.alloc (.cells (bts zcl).toArray 92)) (.cells (bts zcl).toArray 92)
    simpa using this
  have HF1 : Hid (Fr [] w w1 /\ w.heap.size <= R) := ⟨hF1, by omega⟩
  have HR0 : Hid (Ha w1 R zcl) := hb0
  have HA : Hid (∀ W, Fr [] w1 W -> BArg W ao L cap xs) := fun W hf => hA.keep (hF1.then hf)
  have HX : Hid (∀ b off, ao = some ⟨b, off, none⟩ -> 0 < L -> b < w.heap.size) := fun b off e h0 => by
    obtain ⟨b', off', e', hb, _⟩ := hA.lies h0
    rw [e] at e'
    cases e'
    exact hb
  have H1 : Hid (Calls _ _ _ _ _) := zie (R + 1) 0 4 20 1464880980 zcl w1 hb1 (by omega) (by omega) (by omega)
  clear hb0 hb1 hA hF1
  go_enter Tryz.func78, Tryz.ntmps78
  go_upto_region 2 with fail
  rw [show ((w.alloc (.cells #[.int .u8 0, .int .u8 0, .int .u8 0, .int .u8 0, .int .u8 0, .int .u8 0, .int .u8 0, .int .u8 0, .int .u8 0, .int .u8 0, .int .u8 0, .int .u8 0, .int .u8 0, .int .u8 0, .int .u8 0, .int .u8 0, .int .u8 0, .int .u8 0, .int .u8 0, .int .u8 0] 92)).alloc (.cells #[.int .u8 0, .int .u8 0, .int .u8 0, .int .u8 0, .int .u8 0, .int .u8 0, .int .u8 0, .int .u8 0, .int .u8 0, .int .u8 0, .int .u8 0, .int .u8 0, .int .u8 0, .int .u8 0, .int .u8 0, .int .u8 0, .int .u8 0, .int .u8 0, .int .u8 0, .int .u8 0] 92)) = w1 from HW1.out]
  rw [<- hR]
  clear HW1 hR
  go_wp2_with fail
  refine Calls.mono H1.out ?_
  rintro e w2 ⟨rfl, hA2, hF2⟩
  have H2 : Hid (Calls _ _ _ _ _) := zie (R + 1) 4 8 16 g _ w2 hA2 (by omega) (by omega) hg
  have HF2 : Hid (Fr [R + 1] w1 w2) := hF2
  clear H1 hA2 hF2
  go_wp2_with fail
  refine Calls.mono H2.out ?_
  rintro e w3 ⟨rfl, hA3, hF3⟩
  have H3 : Hid (Calls _ _ _ _ _) := zie (R + 1) 12 4 8 L _ w3 hA3 (by omega) (by omega) (by omega)
  have HF3 : Hid (Fr [R + 1] w1 w3) := HF2.out.then hF3
  clear H2 hA3 hF3 HF2
  go_wp2_with fail
  refine Calls.mono H3.out ?_
  rintro e w4 ⟨rfl, hA4, hF4⟩
  have HF4 : Hid (Fr [R + 1] w1 w4) := HF3.out.then hF4
  rw [zyq] at hA4
  have HA4 : Hid (∀ W, Fr [] w4 W -> Ha W (R + 1) (mid3 g L)) := fun W hf => hA4.keep hf (by simp)
  have HX4 : Hid (∀ W, Fr [] w4 W -> BArg W ao L cap xs) := fun W hf => by
    refine ⟨(HA.out _ (Fr.refl _ _)).len, (HA.out _ (Fr.refl _ _)).low, (HA.out _ (Fr.refl _ _)).fits, (HA.out _ (Fr.refl _ _)).most, fun h0 => ?_⟩
    obtain ⟨b, off, e, hb, hc⟩ := (HA.out _ (Fr.refl _ _)).lies h0
    have hbw := HX.out b off e h0
    have hR1 := HF1.out.2
    have hne : b ∉ [R + 1] := by simp; omega
    have hs4 := HF4.out.size
    exact ⟨b, off, e, Nat.lt_of_lt_of_le (Nat.lt_of_lt_of_le hb hs4) hf.size, fun j hj => ((World.cell?_of_block (hf.block b (Nat.lt_of_lt_of_le hb hs4) (by simp))).trans (World.cell?_of_block (HF4.out.block b hb hne))).trans (hc j hj)⟩
  obtain ⟨C, HC⟩ : ∃ C, Hid (more 0 (midB g L) = C) := ⟨_, rfl⟩
  obtain ⟨M, HM⟩ : ∃ M, Hid (more C xs = M) := ⟨_, rfl⟩
  have hC32 : C < 4294967296 := by rw [<- HC.out]; exact zdk _ _
  have hM32 : M < 4294967296 := by rw [<- HM.out]; exact zdk _ _
  have hcr := zyp C (some ⟨R + 1, 4, none⟩) 12 16 (midB g L) w4.drew (by have := (HA4.out _ (Fr.drew [] w4)).arg 4 12 16 (by omega) (by omega); rwa [zws] at this) HC.out
  have HMo : Hid (∀ W, Fr [] w4.drew W -> Calls Tryz.prog 128 #[.int .u32 (C : Int), .slice ao L cap] W fun e w' => e = .returned (.int .u32 (M : Int)) /\ Fr [] w4.drew w') := fun W hf => (znz C M ao L cap xs W hC32 (HX4.out _ ((Fr.drew [] w4).then hf)) HM.out).mono (fun e w' h => ⟨h.1, hf.then h.2⟩)
  have HPt : Hid (∀ W, Fr [] w4.drew W -> Calls Tryz.prog 127 #[.slice (some ⟨R + 1, 16, none⟩) 4 4, .int .u64 (M : Int)] W fun e w' => e = .returned (.tuple #[]) /\ Ha w' (R + 1) (layH (mid3 g L) 16 4 M) /\ Fr [R + 1] W w') := fun W hf => zie (R + 1) 16 4 4 M _ W (HA4.out _ ((Fr.drew [] w4).then hf)) (by omega) (by omega) (by omega)
  have hwr : IntKind.u64.wrap (M : Int) = (M : Int) := zeh _ (by omega) (by omega)
  clear H3 hA4 hF4 HF3
  go_wp2_with fail
  first
    | go_loud (go_region_held3 (fun W => True) (trivial)
        (first
        | (go_at_call 128; with_reducible refine (HMo.out _ hF5).mono ?_; rintro e w6 ⟨rfl, hF6⟩)
        | (go_at_call 129; with_reducible refine hcr.mono ?_; rintro e w5 ⟨rfl, hF5⟩)
        | (go_at_call 127; with_reducible refine (HPt.out _ hF6).mono ?_; rintro e w7 ⟨rfl, hA7, hF7⟩)))
    | fail
  clear hwr hcr HMo HPt hF5
  obtain ⟨CA, HCA⟩ : ∃ CA : Array Value, Hid (CA = (bts (hdB g xs)).toArray) := ⟨_, rfl⟩
  obtain ⟨O, HO⟩ : ∃ O : Array Value, Hid (O = (bts zcl).toArray) := ⟨_, rfl⟩
  have hC20 : CA.size = 20 := by rw [HCA.out]; simp [zac, zbt]
  have hO20 : O.size = CA.size := by rw [HO.out, hC20]; rfl
  have hone : CA.all (·.oneCell') = true := by
    rw [HCA.out, List.all_toArray, List.all_eq_true]
    intro u hu
    obtain ⟨_, _, rfl⟩ := List.mem_map.1 hu
    rfl
  have hFa : Fr [R + 1] w1 w7 := (HF4.out.then ((Fr.drew [] w4).mono (by simp) : Fr [R + 1] w4 w4.drew)).trans (hF6.trans hF7 (by simp) (fun x hx _ => hx)) (fun x hx _ => hx) (fun x hx _ => hx)
  have h1 : w7.heap[R + 1]? = some (.cells CA 92 (0, 0)) := by
    rw [HCA.out, <- zzp, <- HL.out, show sumH g xs = M from by unfold sumH; rw [<- HL.out, HC.out, HM.out]]
    exact hA7.box
  have h0 : w7.heap[R]? = some (.cells O 92 (0, 0)) := by
    rw [HO.out]
    exact (HR0.out.keep hFa (by simp)).box
  have hi20 : (Tryz.prog.info? 92).map (·.size) = some CA.size := by rw [hC20]; exact Tryz.infoHead
  have hrow := setRow_heap w7 R O CA 92 (0, 0) h0
  have hF9 : Fr [] w (w7.setRow R CA) := (HF1.out.1.on hFa (fun x hx => by have := HF1.out.2; simp at hx; omega)).on (Fr.setRow w7 R CA) (fun x hx => by have := HF1.out.2; simp at hx; omega)
  clear hC20 hFa hA7 hF7 hF6
  go_wp2_with (first | refine wpList_load_row rfl 92 _ rfl (R + 1) rfl 92 CA (0, 0) _ h1 Tryz.underlying92 rfl hi20 ?_ | refine wpList_store_row rfl 92 _ _ rfl R CA rfl rfl 92 O h0 hi20 hO20 hone ?_)
  refine bodyPost_ret (v := .agg CA) (results_cell_row rfl _ _ R 92 CA (0, 0) _ rfl hrow Tryz.underlying92 rfl hi20) rfl ⟨by rw [HCA.out], hF9⟩
theorem Tryz.undBsE : Tryz.prog.underlying 58 = some (.slice (Tryz.prog.elem 58)) := by kernel_rfl
theorem Tryz.elemBs : Tryz.prog.elem 58 = 5 := by kernel_rfl
theorem Tryz.sizeOfB19 (w : World) : (Go.sizeOf 5).run Tryz.prog w = .ok 1 w := by kernel_rfl
theorem Tryz.undFnsE : Tryz.prog.underlying 36 = some (.slice (Tryz.prog.elem 36)) := by kernel_rfl
theorem Tryz.elemFns : Tryz.prog.elem 36 = 63 := by kernel_rfl
theorem Tryz.sizeOfFn0 (w : World) : (Go.sizeOf 63).run Tryz.prog w = .ok 1 w := by kernel_rfl
def zav (ro : Option Addr) (rc i : Nat) : Option Addr := if rc = i then ro else ro.map (·.add i)
theorem zgi (ro : Option Addr) (N rc i j : Nat) (h1 : i <= j) (h2 : j <= rc) (w : World) : (Instr.sliceAt 58 (.slice ro N rc) (some (.int .i64 (i : Int))) (some (.int .i64 (j : Int))) none).run Tryz.prog w = .ok (.slice (zav ro rc i) (j - i) (rc - i)) w := by
  rw [run_sliceAt_slice w 58 _ _ _ _ Tryz.undBsE, run_slice_lh w 58 _ _ _ Tryz.undBsE .i64 .i64 (i : Int) (j : Int) (by omega) (by omega) (by omega), Tryz.elemBs, Tryz.sizeOfB19]
  simp [Result.andThen, sliced, zav]
theorem zxp (ro : Option Addr) (N rc K : Nat) (h1 : K <= N) (w : World) : (Instr.sliceAt 58 (.slice ro N rc) (some (.int .i64 (K : Int))) none none).run Tryz.prog w = .ok (.slice (zav ro rc K) (N - K) (rc - K)) w := by
  rw [run_sliceAt_slice w 58 _ _ _ _ Tryz.undBsE, run_slice_l w 58 _ _ _ Tryz.undBsE .i64 (K : Int) (by omega) (by omega), Tryz.elemBs, Tryz.sizeOfB19]
  simp [Result.andThen, sliced, zav]
theorem zxq (ro : Option Addr) (N rc K : Nat) (h1 : K <= N) (w : World) : (Instr.sliceAt 36 (.slice ro N rc) (some (.int .i64 (K : Int))) none none).run Tryz.prog w = .ok (.slice (zav ro rc K) (N - K) (rc - K)) w := by
  rw [run_sliceAt_slice w 36 _ _ _ _ Tryz.undFnsE, run_slice_l w 36 _ _ _ Tryz.undFnsE .i64 (K : Int) (by omega) (by omega), Tryz.elemFns, Tryz.sizeOfFn0]
  simp [Result.andThen, sliced, zav]
theorem BArg.cut {w : World} {ao : Option Addr} {L cap : Nat} {xs : List Nat} (h : BArg w ao L cap xs) (i j : Nat) (hij : i <= j) (hj : j <= L) : BArg w (zav ao cap i) (j - i) (cap - i) ((xs.drop i).take (j - i)) := by
  have hl := h.len
  have hf := h.fits
  refine ⟨by simp; omega, fun x hx => h.low x (List.mem_of_mem_drop (List.mem_of_mem_take hx)), by omega, by have := h.most; omega, fun h0 => ?_⟩
  obtain ⟨b, off, rfl, hb, hc⟩ := h.lies (by omega)
  refine ⟨b, off + i, by simp [zav, Addr.add, show ¬ cap = i by omega], hb, fun q hq => ?_⟩
  rw [show off + i + q = off + (i + q) by omega, hc (i + q) (by omega)]
  simp [List.getD, hq]
theorem BArg.tail {w : World} {ao : Option Addr} {L cap : Nat} {xs : List Nat} (h : BArg w ao L cap xs) (i : Nat) (hi : i <= L) : BArg w (zav ao cap i) (L - i) (cap - i) (xs.drop i) := by
  have hl := h.len
  have := h.cut i L hi (Nat.le_refl _)
  rwa [List.take_of_length_le (by simp; omega)] at this
theorem zlw (ys : List Nat) (h : ∀ x ∈ ys, x < 256) : bts ys = (ys.map UInt8.ofNat).map Extern.Stop.cell := by
  unfold bts
  rw [List.map_map]
  refine List.map_congr_left fun x hx => ?_
  have := h x hx
  simp [Extern.Stop.cell, UInt8.toNat_ofNat, Nat.mod_eq_of_lt this]
theorem zur {ys zs : List Nat} (hy : ∀ x ∈ ys, x < 256) (hz : ∀ x ∈ zs, x < 256) (h : ys.map UInt8.ofNat = zs.map UInt8.ofNat) : ys = zs := by
  have key : ∀ l : List Nat, (∀ x ∈ l, x < 256) -> (l.map UInt8.ofNat).map UInt8.toNat = l := fun l hl => by
    rw [List.map_map]
    conv => rhs; rw [<- List.map_id l]
    refine List.map_congr_left fun x hx => ?_
    have := hl x hx
    simp [UInt8.toNat_ofNat, Nat.mod_eq_of_lt this]
  rw [<- key ys hy, <- key zs hz, h]
theorem zwt (ys zs : List Nat) (hy : ∀ x ∈ ys, x < 256) (hz : ∀ x ∈ zs, x < 256) (h1 : ys.length = 20) (h2 : zs.length = 20) (w : World) : (Op.equalIn 10000 92 (.agg (bts ys).toArray) (.agg (bts zs).toArray)).run Tryz.prog w = .ok (decide (ys = zs)) w := by
  rw [zlw ys hy, zlw zs hz, run_equalIn_bytes w 9998 92 5 20 (by kernel_rfl) (by kernel_rfl) Tryz.sizeOfB19 _ _ (by simp [h1]) (by simp [h2])]
  congr 1
  rw [Bool.eq_iff_iff]
  simp only [beq_iff_eq, decide_eq_true_eq]
  exact ⟨fun h => zur hy hz h, fun h => by rw [h]⟩
theorem Tryz.guardHead : Tryz.prog.eqGuardType Tryz.prog.depth 92 = false := by kernel_rfl
section
variable {P : Program} (w : World)
theorem zsg (t ty e : TypeId) (i : TypeInfo) (z : Value) (size bytes : Nat) (ht : P.underlying t = some (.slice e)) (hi : P.info? e = some i) (hz : i.zero = some z)
    (hsize : i.size = size) (hby : i.bytes = bytes)
    (v : Value) (n : Nat) (xs : List Value) (hown : w.ownsRow 0 e size v n xs)
    (a : Addr) (m c : Nat) (news : List Value) (hl : news.length = m * size) (hnews : ∀ j u, news[j]? = some u -> w.cell? (a.add j) = some u) (h1 : ∀ u ∈ news, u.oneCell' = true)
    (h63 : n + m <= maxLen) (hbytes : (n + m) * bytes <= 140737488355328) (v' : Value) (w' : World)
    (hr : (Builtin.append_ #[t, t] ty #[v, .slice (some a) m c]).run P w = .ok v' w') (hnil : v' = .slice none 0 0 ↔ v = .slice none 0 0 /\ m = 0) : Moved w.heap.size v v' := by
  by_cases hm : 0 < m
  · exact zlc (P := P) w t ty e i z size bytes ht hi hz hsize hby v n xs hown a m c news hm hl hnews h1 h63 hbytes v' w' hr
  · obtain rfl : m = 0 := by omega
    subst hsize
    rcases hown.2 with ⟨rfl, rfl⟩ | ⟨g, cap, cur, rfl, hbg, hg, hnc, hcm, hcs, htake⟩
    · rw [hnil.2 ⟨rfl, rfl⟩]
      exact Moved.refl _ _
    · have hfit : n * i.size + news.length <= cur.size := by rw [hl, hcs, <- Nat.add_mul]; exact Nat.mul_le_mul_right _ (by omega)
      have hr2 := run_append_room (P := P) w t ty e i ht hi g n cap cur hg a 0 c news hl hnews h1 (by omega) hfit
      rw [hr] at hr2
      cases hr2
      exact Or.inl rfl
theorem zjb (t ty e : TypeId) (i : TypeInfo) (size c : Nat) (ht : P.underlying t = some (.slice e)) (hi : P.info? e = some i)
    (v : Value) (n : Nat) (xs : List Value) (hown : w.ownsRow 0 e size v n xs) :
    (Builtin.append_ #[t, t] ty #[v, .slice none 0 c]).run P w = .ok v w := by
  rcases hown.2 with ⟨rfl, rfl⟩ | ⟨g, cap, cur, rfl, _, _, hnc, _⟩
  · simp [Builtin.append_, run_underlying ht, sizeOf, typeInfo, hi, Builtin.lenOf, Builtin.firstCells]
  · simp [Builtin.append_, run_underlying ht, sizeOf, typeInfo, hi, Builtin.lenOf, Builtin.firstCells, hnc, storeCells]
theorem zlx {e : TypeId} {v : Value} {n : Nat} {xs : List Value} (h : w.ownsRow 0 e 1 v n xs) : ∃ ao cap, v = .slice ao n cap := by
  rcases h.2 with ⟨hh, h0⟩ | ⟨g, cap', _, hh, _⟩
  · exact ⟨none, 0, by rw [hh, h0]⟩
  · exact ⟨_, cap', hh⟩
end
theorem zay (w : World) {ops : Array Oper} {rest : List Oper} {o : Oper} {a : Act} {Q : Exit -> Act -> World -> Prop} (hgd : o.guard = none) (s x : Operand)
    (ho : o.op = .call { callee := .builtin .append, args := #[s, x], argTypes := #[58, 58] })
    (v : Value) (n : Nat) (xs : List Nat) (hs : a.eval s = v) (hown : w.ownsRow 0 5 1 v n (bts xs))
    (ao : Option Addr) (L cap : Nat) (ys : List Nat) (hx : a.eval x = .slice ao L cap) (hB : BArg w ao L cap ys) (hn : n + L < 2^40)
    (h : ∀ bo n' cap' w', n' = n + L -> w'.ownsRow 0 5 1 (.slice bo n' cap') n' (bts (xs ++ ys)) -> w.grownBy w' v.ownBlock -> Moved w.heap.size v (.slice bo n' cap') -> wpList Tryz.prog ops Q rest (a.put o.dst (.slice bo n' cap')) w') : wpList Tryz.prog ops Q (o :: rest) a w := by
  refine wpList_plain hgd fun K hK => ?_
  obtain ⟨i0, hi, hz0, hz1, hz2⟩ := info_parts Tryz.infoB
  have hl : (bts ys).length = L * 1 := by rw [zac, hB.len]; omega
  cases ao with
  | none =>
    have hL : L = 0 := by
      rcases Nat.eq_zero_or_pos L with h0 | h0
      · exact h0
      · obtain ⟨b, off, e, _⟩ := hB.lies h0
        cases e
    subst hL
    have hys : ys = [] := List.eq_nil_of_length_eq_zero hB.len.symm
    subst hys
    have hr := zjb (P := Tryz.prog) w 58 o.type 5 i0 1 cap Tryz.undBs hi v n (bts xs) hown
    obtain ⟨bo, cap', rfl⟩ := zlx w hown
    unfold Oper.wp execOp
    simp only [ho, resolve, invoke, builtin, Sem.run_bind, Sem.run_pure, Result.andThen_ok, List.map_toArray, List.map_cons, List.map_nil, hs, hx, hr]
    exact hK _ _ (h bo n cap' w (by omega) (by rw [List.append_nil]; exact hown) ⟨rfl, rfl, rfl, Nat.le_refl _, fun _ _ _ => rfl⟩ (Moved.refl _ _))
  | some ad =>
    have hnews : ∀ j u, (bts ys)[j]? = some u -> w.cell? (ad.add j) = some u := by
      intro j u hj
      have hj' : j < ys.length := by have := (List.getElem?_eq_some_iff.1 hj).1; rwa [zac] at this
      obtain ⟨a', e, hc⟩ := hB.src (by rw [hB.len]; omega)
      cases e
      exact hc j u hj
    obtain ⟨v', w', hr, h2, h3, h4⟩ := run_append_own (P := Tryz.prog) w 0 58 o.type 5 i0 (.int .u8 0) 1 1 Tryz.undBs hi hz0 hz1 hz2 rfl (by omega) v n (bts xs) hown ad L cap (bts ys) hl hnews (zcd ys) (by simp only [maxLen]; omega) (by omega) (Nat.zero_le _)
    have hmv := zsg (P := Tryz.prog) w 58 o.type 5 i0 (.int .u8 0) 1 1 Tryz.undBs hi hz0 hz1 hz2 v n (bts xs) hown ad L cap (bts ys) hl hnews (zcd ys) (by simp only [maxLen]; omega) (by omega) v' w' hr h4
    obtain ⟨bo, cap', rfl⟩ := zlx w' h2
    unfold Oper.wp execOp
    simp only [ho, resolve, invoke, builtin, Sem.run_bind, Sem.run_pure, Result.andThen_ok, List.map_toArray, List.map_cons, List.map_nil, hs, hx, hr]
    exact hK _ _ (h bo _ cap' w' rfl (by rw [zap]; exact h2) h3 hmv)
theorem zbr {w : World} {ao : Option Addr} {n cap : Nat} {xs : List Nat} (h : w.ownsRow 0 5 1 (.slice ao n cap) n (bts xs)) (hl : ∀ x ∈ xs, x < 256) (hm : n < 2^40) : BArg w ao n cap xs := by
  have hn : n = xs.length := by have := h.1; rw [zac] at this; omega
  rcases h.2 with ⟨hh, h0⟩ | ⟨g, cap', cur, hh, _, hg, hnc, _, hcs, ht⟩
  · cases hh
    exact ⟨hn, hl, Nat.le_refl _, by omega, fun h => by omega⟩
  · cases hh
    refine ⟨hn, hl, hnc, by omega, fun h0 => ⟨g, 0, rfl, lt_of_block hg, fun j hj => ?_⟩⟩
    have := h.cells (g := g) rfl j _ (zch xs j (by omega))
    rw [show (⟨g, 0, none⟩ : Addr).add j = ⟨g, 0 + j, none⟩ from by simp [Addr.add]; omega] at this
    exact this
theorem zes (w : World) : w.ownsRow 0 5 1 (.slice none 0 0) 0 (bts []) := ⟨rfl, .inl ⟨rfl, rfl⟩⟩
end Go.Proofs.YtembflnhhfliaaaGreatDoor

/- The head of a checkpoint: contract of headOf. Conditions: bytes that came in. -/
import Derived.Test.YtdojhkgnnbdfkaaGreatPn19
import Derived.Test.YtdojhkgnnbdfkaaGreatMore
import Derived.Deep.RegionHeld3
namespace Go.Proofs.YtdojhkgnnbdfkaaGreat
open BigFrame Go.ChangeShapes Go.WideShapes Go.ChangeAt Go.RowKit Go.Lib Go.Maps
set_option linter.unusedVariables false
set_option linter.unusedSimpArgs false

theorem crc_any (m : Nat) (ao : Option Addr) (L cap : Nat) (xs : List Nat) (w : World) (hA : BArg w ao L cap xs) (hm : more 0 xs = m) :
    Calls Tryz.prog 79 #[.slice ao L cap] w fun e w' => e = .returned (.int .u32 (m : Int)) ∧ Fr [] w w' := by
  have HM : Hid (more 0 xs = m) := hm
  clear hm
  have hC := more_any 0 m ao L cap xs w (by omega) hA HM.out
  rw [show ((0 : Nat) : Int) = 0 from rfl] at hC
  go_enter Tryz.func79, Tryz.ntmps79
  go_wp2_with fail
  refine hC.mono ?_
  rintro e w1 ⟨rfl, hF⟩
  go_wp2
  go_ret
  exact ⟨rfl, hF⟩
def zero20 : List Nat := [0, 0, 0, 0, 0, 0, 0, 0, 0, 0, 0, 0, 0, 0, 0, 0, 0, 0, 0, 0]
def mid3 (g n : Nat) : List Nat := leB 4 1464880980 ++ (midB g n ++ [0, 0, 0, 0])
theorem lay_mid (g n : Nat) : layH (layH (layH zero20 0 4 1464880980) 4 8 g) 12 4 n = mid3 g n := rfl
theorem lay_hd (g : Nat) (xs : List Nat) : layH (mid3 g xs.length) 16 4 (sumH g xs) = hdB g xs := rfl
theorem mid3_mid (g n : Nat) : ((mid3 g n).drop 4).take 12 = midB g n := rfl
/-- Some bytes of a head, as a slice. -/
theorem Ha.arg {w : World} {b : Nat} {ys : List Nat} (h : Ha w b ys) (o n c : Nat) (ho : o + n ≤ 20) (hc : n ≤ c) : BArg w (some ⟨b, o, none⟩) n c ((ys.drop o).take n) := by
  refine ⟨by simp [h.len]; omega, fun x hx => h.low x (List.mem_of_mem_drop (List.mem_of_mem_take hx)), hc, by omega, fun h0 => ⟨b, o, rfl, lt_of_block h.box, fun j hj => ?_⟩⟩
  rw [h.cell (o + j) (by omega)]
  simp [List.getD, hj]
theorem Tryz.infoHead : (Tryz.prog.info? 106).map (·.size) = some 20 := by kernel_rfl
set_option maxHeartbeats 4000000 in
set_option maxRecDepth 100000 in
theorem headOf_any (g : Nat) (ao : Option Addr) (L cap : Nat) (xs : List Nat) (w : World) (hA : BArg w ao L cap xs) (hg : g < 2^64) :
    Calls Tryz.prog 52 #[.int .u64 (g : Int), .slice ao L cap] w fun e w' => e = .returned (.agg (bts (hdB g xs)).toArray) ∧ Fr [] w w' := by
  have HL : Hid (L = xs.length) := hA.len
  have hLm := hA.most
  obtain ⟨w1, HW1⟩ : ∃ w1, Hid ((w.alloc (.cells (bts zero20).toArray 106)).alloc (.cells (bts zero20).toArray 106) = w1) := ⟨_, rfl⟩
  have hF1 : Fr [] w w1 := by rw [← HW1.out]; exact (Fr.alloc [] w _).then (Fr.alloc [] _ _)
  obtain ⟨R, hR⟩ : ∃ R, R = w.heap.size := ⟨_, rfl⟩
  have hb0 : Ha w1 R zero20 := by
    refine Ha.keep (S := []) (w := w.alloc (.cells (bts zero20).toArray 106)) ⟨?_, rfl, by decide⟩ (by rw [← HW1.out]; exact Fr.alloc [] _ _) (by simp)
    rw [hR]; exact heap_alloc_new w _
  have hb1 : Ha w1 (R + 1) zero20 := by
    refine ⟨?_, rfl, by decide⟩
    rw [← HW1.out, hR]
    have := heap_alloc_new (w.alloc (.cells (bts zero20).toArray 106)) (.cells (bts zero20).toArray 106)
    simpa using this
  have HF1 : Hid (Fr [] w w1 ∧ w.heap.size ≤ R) := ⟨hF1, by omega⟩
  have HR0 : Hid (Ha w1 R zero20) := hb0
  have HA : Hid (∀ W, Fr [] w1 W → BArg W ao L cap xs) := fun W hf => hA.keep (hF1.then hf)
  have HX : Hid (∀ b off, ao = some ⟨b, off, none⟩ → 0 < L → b < w.heap.size) := fun b off e h0 => by
    obtain ⟨b', off', e', hb, _⟩ := hA.lies h0
    rw [e] at e'
    cases e'
    exact hb
  have H1 : Hid (Calls _ _ _ _ _) := put_any (R + 1) 0 4 20 1464880980 zero20 w1 hb1 (by omega) (by omega) (by omega)
  clear hb0 hb1 hA hF1
  go_enter Tryz.func52, Tryz.ntmps52
  go_upto_region 2 with fail
  rw [show ((w.alloc (.cells #[.int .u8 0, .int .u8 0, .int .u8 0, .int .u8 0, .int .u8 0, .int .u8 0, .int .u8 0, .int .u8 0, .int .u8 0, .int .u8 0, .int .u8 0, .int .u8 0, .int .u8 0, .int .u8 0, .int .u8 0, .int .u8 0, .int .u8 0, .int .u8 0, .int .u8 0, .int .u8 0] 106)).alloc (.cells #[.int .u8 0, .int .u8 0, .int .u8 0, .int .u8 0, .int .u8 0, .int .u8 0, .int .u8 0, .int .u8 0, .int .u8 0, .int .u8 0, .int .u8 0, .int .u8 0, .int .u8 0, .int .u8 0, .int .u8 0, .int .u8 0, .int .u8 0, .int .u8 0, .int .u8 0, .int .u8 0] 106)) = w1 from HW1.out]
  rw [← hR]
  clear HW1 hR
  go_wp2_with fail
  refine Calls.mono H1.out ?_
  rintro e w2 ⟨rfl, hA2, hF2⟩
  have H2 : Hid (Calls _ _ _ _ _) := put_any (R + 1) 4 8 16 g _ w2 hA2 (by omega) (by omega) hg
  have HF2 : Hid (Fr [R + 1] w1 w2) := hF2
  clear H1 hA2 hF2
  go_wp2_with fail
  refine Calls.mono H2.out ?_
  rintro e w3 ⟨rfl, hA3, hF3⟩
  have H3 : Hid (Calls _ _ _ _ _) := put_any (R + 1) 12 4 8 L _ w3 hA3 (by omega) (by omega) (by omega)
  have HF3 : Hid (Fr [R + 1] w1 w3) := HF2.out.then hF3
  clear H2 hA3 hF3 HF2
  go_wp2_with fail
  refine Calls.mono H3.out ?_
  rintro e w4 ⟨rfl, hA4, hF4⟩
  have HF4 : Hid (Fr [R + 1] w1 w4) := HF3.out.then hF4
  rw [lay_mid] at hA4
  have HA4 : Hid (∀ W, Fr [] w4 W → Ha W (R + 1) (mid3 g L)) := fun W hf => hA4.keep hf (by simp)
  have HX4 : Hid (∀ W, Fr [] w4 W → BArg W ao L cap xs) := fun W hf => by
    refine ⟨(HA.out _ (Fr.refl _ _)).len, (HA.out _ (Fr.refl _ _)).low, (HA.out _ (Fr.refl _ _)).fits, (HA.out _ (Fr.refl _ _)).most, fun h0 => ?_⟩
    obtain ⟨b, off, e, hb, hc⟩ := (HA.out _ (Fr.refl _ _)).lies h0
    have hbw := HX.out b off e h0
    have hR1 := HF1.out.2
    have hne : b ∉ [R + 1] := by simp; omega
    have hs4 := HF4.out.size
    exact ⟨b, off, e, Nat.lt_of_lt_of_le (Nat.lt_of_lt_of_le hb hs4) hf.size, fun j hj => ((World.cell?_of_block (hf.block b (Nat.lt_of_lt_of_le hb hs4) (by simp))).trans (World.cell?_of_block (HF4.out.block b hb hne))).trans (hc j hj)⟩
  obtain ⟨C, HC⟩ : ∃ C, Hid (more 0 (midB g L) = C) := ⟨_, rfl⟩
  obtain ⟨M, HM⟩ : ∃ M, Hid (more C xs = M) := ⟨_, rfl⟩
  have hC32 : C < 4294967296 := by rw [← HC.out]; exact more_lt _ _
  have hM32 : M < 4294967296 := by rw [← HM.out]; exact more_lt _ _
  have hcr := crc_any C (some ⟨R + 1, 4, none⟩) 12 16 (midB g L) w4.drew (by have := (HA4.out _ (Fr.drew [] w4)).arg 4 12 16 (by omega) (by omega); rwa [mid3_mid] at this) HC.out
  have HMo : Hid (∀ W, Fr [] w4.drew W → Calls Tryz.prog 78 #[.int .u32 (C : Int), .slice ao L cap] W fun e w' => e = .returned (.int .u32 (M : Int)) ∧ Fr [] w4.drew w') := fun W hf => (more_any C M ao L cap xs W hC32 (HX4.out _ ((Fr.drew [] w4).then hf)) HM.out).mono (fun e w' h => ⟨h.1, hf.then h.2⟩)
  have HPt : Hid (∀ W, Fr [] w4.drew W → Calls Tryz.prog 77 #[.slice (some ⟨R + 1, 16, none⟩) 4 4, .int .u64 (M : Int)] W fun e w' => e = .returned (.tuple #[]) ∧ Ha w' (R + 1) (layH (mid3 g L) 16 4 M) ∧ Fr [R + 1] W w') := fun W hf => put_any (R + 1) 16 4 4 M _ W (HA4.out _ ((Fr.drew [] w4).then hf)) (by omega) (by omega) (by omega)
  have hwr : IntKind.u64.wrap (M : Int) = (M : Int) := u64_nat _ (by omega) (by omega)
  clear H3 hA4 hF4 HF3
  go_wp2_with fail
  first
    | go_loud (go_region_held3 (fun W => True) (trivial)
        (first
        | (go_at_call 78; with_reducible refine (HMo.out _ hF5).mono ?_; rintro e w6 ⟨rfl, hF6⟩)
        | (go_at_call 79; with_reducible refine hcr.mono ?_; rintro e w5 ⟨rfl, hF5⟩)
        | (go_at_call 77; with_reducible refine (HPt.out _ hF6).mono ?_; rintro e w7 ⟨rfl, hA7, hF7⟩)))
    | fail
  clear hwr hcr HMo HPt hF5
  obtain ⟨CA, HCA⟩ : ∃ CA : Array Value, Hid (CA = (bts (hdB g xs)).toArray) := ⟨_, rfl⟩
  obtain ⟨O, HO⟩ : ∃ O : Array Value, Hid (O = (bts zero20).toArray) := ⟨_, rfl⟩
  have hC20 : CA.size = 20 := by rw [HCA.out]; simp [bts_length, hdB_length]
  have hO20 : O.size = CA.size := by rw [HO.out, hC20]; rfl
  have hone : CA.all (·.oneCell') = true := by
    rw [HCA.out, List.all_toArray, List.all_eq_true]
    intro u hu
    obtain ⟨_, _, rfl⟩ := List.mem_map.1 hu
    rfl
  have hFa : Fr [R + 1] w1 w7 := (HF4.out.then ((Fr.drew [] w4).mono (by simp) : Fr [R + 1] w4 w4.drew)).trans (hF6.trans hF7 (by simp) (fun x hx _ => hx)) (fun x hx _ => hx) (fun x hx _ => hx)
  have h1 : w7.heap[R + 1]? = some (.cells CA 106 (0, 0)) := by
    rw [HCA.out, ← lay_hd, ← HL.out, show sumH g xs = M from by unfold sumH; rw [← HL.out, HC.out, HM.out]]
    exact hA7.box
  have h0 : w7.heap[R]? = some (.cells O 106 (0, 0)) := by
    rw [HO.out]
    exact (HR0.out.keep hFa (by simp)).box
  have hi20 : (Tryz.prog.info? 106).map (·.size) = some CA.size := by rw [hC20]; exact Tryz.infoHead
  have hrow := setRow_heap w7 R O CA 106 (0, 0) h0
  have hF9 : Fr [] w (w7.setRow R CA) := (HF1.out.1.on hFa (fun x hx => by have := HF1.out.2; simp at hx; omega)).on (Fr.setRow w7 R CA) (fun x hx => by have := HF1.out.2; simp at hx; omega)
  clear hC20 hFa hA7 hF7 hF6
  go_wp2_with (first | refine wpList_load_row rfl 106 _ rfl (R + 1) rfl 106 CA (0, 0) _ h1 Tryz.underlying106 rfl hi20 ?_ | refine wpList_store_row rfl 106 _ _ rfl R CA rfl rfl 106 O h0 hi20 hO20 hone ?_)
  refine bodyPost_ret (v := .agg CA) (results_cell_row rfl _ _ R 106 CA (0, 0) _ rfl hrow Tryz.underlying106 rfl hi20) rfl ⟨by rw [HCA.out], hF9⟩
end Go.Proofs.YtdojhkgnnbdfkaaGreat

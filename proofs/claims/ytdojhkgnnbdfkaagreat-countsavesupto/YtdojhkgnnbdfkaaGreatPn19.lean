/- Numbers laid into a head's array, and read off it: contracts of put, number, generation. Conditions: fewer than nine bytes. -/
import Derived.Test.YtdojhkgnnbdfkaaGreatHd19
import Derived.Test.YtdojhkgnnbdfkaaGreatRea
namespace Go.Proofs.YtdojhkgnnbdfkaaGreat
open BigFrame Go.ChangeShapes Go.WideShapes Go.ChangeAt Go.RowKit Go.Lib Go.Maps
set_option linter.unusedVariables false
set_option linter.unusedSimpArgs false

/-- A head's array in memory. -/
structure Ha (w : World) (b : Nat) (ys : List Nat) : Prop where
  box : w.heap[b]? = some (.cells (bts ys).toArray 106 (0, 0))
  len : ys.length = 20
  low : ∀ x ∈ ys, x < 256
theorem Ha.keep {S : List Nat} {w w' : World} {b : Nat} {ys : List Nat} (h : Ha w b ys) (hf : Fr S w w') (hn : b ∉ S) : Ha w' b ys := ⟨hf.keep h.box hn, h.len, h.low⟩
theorem Ha.cell {w : World} {b : Nat} {ys : List Nat} (h : Ha w b ys) (j : Nat) (hj : j < 20) : w.cell? ⟨b, j, none⟩ = some (.int .u8 ((ys.getD j 0 : Nat) : Int)) := by
  rw [cell_of_row _ _ _ _ _ _ h.box]
  simpa using bts_get ys j (by rw [h.len]; exact hj)
theorem Ha.free {w : World} {b : Nat} {ys : List Nat} (h : Ha w b ys) (j : Nat) : w.frozen? ⟨b, j, none⟩ = false := by simp [World.frozen?, h.box]
theorem bts_set (ys : List Nat) (j x : Nat) : bts (ys.set j x) = (bts ys).set j (.int .u8 (x : Int)) := by simp [bts, List.map_set]
theorem Ha.put {w : World} {b : Nat} {ys : List Nat} (h : Ha w b ys) (j x : Nat) (hx : x < 256) : Ha (w.setCell ⟨b, j, none⟩ (.int .u8 (x : Int))) b (ys.set j x) := by
  refine ⟨?_, by simpa using h.len, fun y hy => ?_⟩
  · rw [row_setCell _ h.box, bts_set]
    simp
  · rcases List.mem_or_eq_of_mem_set hy with e | e
    · exact h.low y e
    · rw [e]; exact hx
theorem leB_snoc (i N : Nat) : leB (i + 1) N = leB i N ++ [N / 256 ^ i % 256] := by
  induction i generalizing N with
  | zero => simp [leB]
  | succ i ih =>
    rw [show leB (i + 1 + 1) N = N % 256 :: leB (i + 1) (N / 256) from rfl, ih, show leB (i + 1) N = N % 256 :: leB i (N / 256) from rfl, Nat.div_div_eq_div_mul, ← Nat.pow_succ']
    simp
/-- A number's bytes put into a row. -/
def layH (ys : List Nat) (off i N : Nat) : List Nat := ys.take off ++ (leB i N ++ ys.drop (off + i))
theorem layH_zero (ys : List Nat) (off N : Nat) : layH ys off 0 N = ys := by simp [layH, leB]
theorem layH_step (ys : List Nat) (off i N : Nat) (h : off + i < ys.length) : (layH ys off i N).set (off + i) (N / 256 ^ i % 256) = layH ys off (i + 1) N := by
  have h1 : (ys.take off).length = off := by simp; omega
  have h2 : (leB i N).length = i := leB_length i N
  unfold layH
  rw [List.set_append_right _ _ (by omega), h1, List.set_append_right _ _ (by omega), h2, show off + i - off - i = 0 by omega, leB_snoc, List.drop_eq_getElem_cons h]
  simp [Nat.add_assoc]
theorem shr_nat (N i : Nat) : ((N : Int) / 2 ^ (8 * (i : Int)).toNat) % 256 = ((N / 256 ^ i % 256 : Nat) : Int) := by
  have e : (8 * (i : Int)).toNat = 8 * i := by omega
  have e2 : (256 : Nat) ^ i = 2 ^ (8 * i) := by rw [Nat.pow_mul]
  rw [e, e2, Int.natCast_emod, Int.natCast_ediv, Int.natCast_pow]
  rfl
set_option maxHeartbeats 2000000 in
set_option maxRecDepth 100000 in
theorem put_any (b off n cap N : Nat) (ys : List Nat) (w : World) (h : Ha w b ys) (hn : n ≤ 8) (ho : off + n ≤ 20) (hN : N < 2^64) :
    Calls Tryz.prog 77 #[.slice (some ⟨b, off, none⟩) n cap, .int .u64 (N : Int)] w fun e w' => e = .returned (.tuple #[]) ∧ Ha w' b (layH ys off n N) ∧ Fr [b] w w' := by
  have HH : Hid (Ha w b (layH ys off 0 N)) := by rw [layH_zero]; exact h
  have HY : Hid (ys.length = 20) := h.len
  clear h
  go_enter Tryz.func77, Tryz.ntmps77
  go_wp2_with fail
  go_loopw [7] (fun ii wr => ∃ i : Nat, ii = .int .i64 i ∧ i ≤ n ∧ Hid (Ha wr b (layH ys off i N)) ∧ Hid (Fr [b] w wr)) (fun ii _ => n - (RowKit.intOf ii).toNat)
  case atStart => exact ⟨0, rfl, Nat.zero_le _, HH, Fr.refl _ _⟩
  case round =>
    clear HH
    obtain ⟨i, rfl, hin, HA, HF⟩ := hrel
    by_cases hi : i < n
    · have hlt : (i : Int) < n := by omega
      have c0 := HA.out.cell (off + i) (by omega)
      have f0 := HA.out.free (off + i)
      have HN : Hid (Ha (wr.setCell ⟨b, off + i, none⟩ (.int .u8 ((N / 256 ^ i % 256 : Nat) : Int))) b (layH ys off (i + 1) N) ∧ Fr [b] w (wr.setCell ⟨b, off + i, none⟩ (.int .u8 ((N / 256 ^ i % 256 : Nat) : Int)))) := by
        refine ⟨?_, HF.out.then (Fr.set _ _ _ (by simp))⟩
        rw [← layH_step ys off i N (by rw [HY.out]; omega)]
        exact HA.out.put (off + i) _ (Nat.mod_lt _ (by decide))
      rw [← shr_nat] at HN
      go_wp2_with fail
      go_roundw
      case rel => exact ⟨i + 1, by simp, by omega, HN.out.1, HN.out.2⟩
      case measure => simp [RowKit.intOf]; omega
    · have hin2 : i = n := by omega
      have HR : Hid (Ha wr b (layH ys off n N) ∧ Fr [b] w wr) := by rw [← hin2]; exact ⟨HA.out, HF.out⟩
      have hlt : ¬ (i : Int) < n := by omega
      clear hin2 HA HF
      go_wp2_with fail
      go_end0
      exact ⟨rfl, HR.out⟩
set_option maxHeartbeats 2000000 in
set_option maxRecDepth 100000 in
theorem num_any (b off n cap : Nat) (ys : List Nat) (w : World) (hc : ∀ j, j < n → w.cell? ⟨b, off + j, none⟩ = some (.int .u8 ((ys.getD j 0 : Nat) : Int))) (hl : n = ys.length) (hn : n ≤ 8) (hlow : ∀ x ∈ ys, x < 256) :
    Calls Tryz.prog 104 #[.slice (some ⟨b, off, none⟩) n cap] w fun e w' => e = .returned (.int .u64 (leN ys : Int)) ∧ Fr [] w w' := by
  have HL : Hid (n = ys.length) := hl
  have HC : Hid (∀ j, j < n → w.cell? ⟨b, off + j, none⟩ = some (.int .u8 ((ys.getD j 0 : Nat) : Int))) := hc
  clear hl hc
  go_enter Tryz.func104, Tryz.ntmps104
  go_wp2_with fail
  go_loop [3, 8] (fun vv ii => ∃ (m i : Nat), vv = .int .u64 m ∧ ii = .int .i64 i ∧ i ≤ n ∧ m < 256 ^ i ∧ Hid (m = leN (ys.take i))) (fun _ ii => n - (RowKit.intOf ii).toNat)
  case atStart => exact ⟨0, 0, rfl, rfl, Nat.zero_le _, by omega, rfl⟩
  case round =>
    obtain ⟨m, i, rfl, rfl, hiX, hm, E⟩ := hrel
    by_cases hi : i < n
    · have hlt : (i : Int) < n := by omega
      have hcx := HC.out i hi
      obtain ⟨x, hx⟩ : ∃ x, x = ys.getD i 0 := ⟨_, rfl⟩
      rw [← hx] at hcx
      have hget : ys[i]? = some x := by rw [hx, List.getD, List.getElem?_eq_getElem (by rw [← HL.out]; omega)]; rfl
      have hx256 : x < 256 := hlow x (List.mem_of_getElem? hget)
      have hg := byt m x i hm (by omega) hx256
      have HG : Hid (_ = _) := hg.1
      have HB : Hid (m + x * 256 ^ i < 256 ^ (i + 1)) := hg.2
      have HE : Hid (m + x * 256 ^ i = leN (ys.take (i + 1))) := by
        show _ = _
        have e : ys.take (i + 1) = ys.take i ++ [x] := by rw [List.take_add_one, hget]; rfl
        rw [e, leN_snoc, ← E.out, List.length_take, ← HL.out, Nat.min_eq_left (by omega)]
      clear hg hget hx
      go_wp2
      go_round
      case rel => exact ⟨_, i + 1, congrArg (Value.int .u64) HG.out, by simp, by omega, HB.out, HE⟩
      case measure => simp [RowKit.intOf]; omega
    · have hlt : ¬ (i : Int) < n := by omega
      have hiX' : i = n := by omega
      have HV : Hid (m = leN ys) := by
        have := E.out
        rw [hiX', List.take_of_length_le (by rw [← HL.out]; exact Nat.le_refl _)] at this
        exact this
      clear hiX'
      go_wp2
      go_ret
      rw [HV.out]
      exact ⟨rfl, Fr.refl _ _⟩
set_option maxHeartbeats 1000000 in
theorem gen_any (ys : List Nat) (w : World) (hl : ys.length = 20) (hlow : ∀ x ∈ ys, x < 256) :
    Calls Tryz.prog 89 #[.agg (bts ys).toArray] w fun e w' => e = .returned (.int .u64 (leN ((ys.drop 4).take 8) : Int)) ∧ Fr [] w w' := by
  obtain ⟨w1, HW1⟩ : ∃ w1, Hid (w.alloc (.cells (bts ys).toArray 106) = w1) := ⟨_, rfl⟩
  have hF1 : Fr [] w w1 := by rw [← HW1.out]; exact Fr.alloc [] w _
  have hA : Ha w1 w.heap.size ys := ⟨by rw [← HW1.out]; exact heap_alloc_new w _, hl, hlow⟩
  have HC : Hid (Calls _ _ _ _ _) := num_any w.heap.size 4 8 16 ((ys.drop 4).take 8) w1 (fun j hj => by
    rw [hA.cell (4 + j) (by omega)]
    simp [List.getD, hj]) (by simp; omega) (Nat.le_refl _) (fun x hx => hlow x (List.mem_of_mem_drop (List.mem_of_mem_take hx)))
  clear hA hlow
  go_enter Tryz.func89, Tryz.ntmps89
  go_upto_region 1 with fail
  rw [HW1.out]
  clear HW1
  go_wp2_with fail
  refine Calls.mono HC.out ?_
  rintro e w2 ⟨rfl, hF2⟩
  go_wp2
  go_ret
  exact ⟨rfl, hF1.then hF2⟩
end Go.Proofs.YtdojhkgnnbdfkaaGreat

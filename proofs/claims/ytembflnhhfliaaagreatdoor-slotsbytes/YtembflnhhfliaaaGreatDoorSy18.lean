/- How great versions, keys, what a checkpoint says are together, by the statements' own measure: exact up to their bound. Conditions as each names them. -/
import Derived.Test.YtembflnhhfliaaaGreatDoorSv18
import Derived.Deep.RegionHeld3
namespace Go.Proofs.YtembflnhhfliaaaGreatDoor
open Go.ChangeShapes Go.WideShapes Go.ChangeAt Go.RowKit Go.Lib Go.Maps
set_option linter.unusedVariables false
set_option linter.unusedSimpArgs false

theorem szXs_alt (vs : List Vn) : szXs vs = vs.length + (vs.map (fun v => v.val.size)).sum := by
  induction vs with
  | nil => rfl
  | cons v r ih =>
    simp only [szXs, List.map_cons, List.sum_cons, List.length_cons] at ih ⊢
    rw [ih]
    unfold szX
    omega
set_option maxHeartbeats 4000000 in
set_option maxRecDepth 100000 in
theorem vsize18_any (ao : Option Addr) (L cap : Nat) (vs : List Vn) (w : World) (hV : VRs w ao vs) (hL : L = vs.length) :
    Calls Tryz.prog 120 #[.slice ao L cap] w fun e w' => ∃ N : Nat, e = .returned (.int .i64 (N : Int)) ∧ L ≤ N ∧ N ≤ 9007199254740992 ∧ (N ≤ 1048576 → N = szXs vs) ∧ w = w' := by
  have HL : Hid (L = vs.length) := hL
  have HV : Hid (VRs w ao vs) := hV
  have hLL : L ≤ 4398046511104 := by have := hV.few; omega
  clear hV hL
  go_enter Tryz.func120, Tryz.ntmps120
  go_wp2_with fail
  go_loop [3, 4] (fun nn ii => ∃ (N i : Nat), nn = .int .i64 N ∧ ii = .int .i64 i ∧ i ≤ L ∧ L ≤ N ∧ N ≤ 9007199254740992 ∧ Hid (N = L + ((vs.take i).map (fun v => v.val.size)).sum)) (fun _ ii => L - (RowKit.intOf ii).toNat)
  case atStart => exact ⟨L, 0, rfl, rfl, Nat.zero_le _, Nat.le_refl _, by omega, by simp [Hid]⟩
  case round =>
    obtain ⟨N, i, rfl, rfl, hiL, hLN, hN, HE⟩ := hrel
    by_cases hi : i < L
    · by_cases hN2 : N ≤ 1048576
      · have hi' : i < vs.length := by rw [← HL.out]; exact hi
        obtain ⟨b, off, rfl, hbl, hat⟩ := HV.out.lies (by omega)
        obtain ⟨_, c1, _⟩ := hat i hi'
        have hE := (HV.out.each _ (vgetD_mem vs i hi')).v
        have hsn := vtake_snoc vs i hi'
        obtain ⟨x, hx⟩ : ∃ x, x = vs.getD i Vn.zero := ⟨_, rfl⟩
        rw [← hx] at c1 hE hsn
        have HE2 : Hid (N + x.val.size = L + ((vs.take (i + 1)).map (fun v => v.val.size)).sum) := by
          show _ = _
          rw [hsn, HE.out]
          simp
          omega
        obtain ⟨num, val, drop⟩ := x
        simp only at c1 hE HE2
        clear hat hx hsn HE
        have hN3 : (N : Int) ≤ 1048576 := by omega
        go_wp2
        refine ⟨⟨N + val.size, i + 1, by simp, by simp, by omega, by omega, by omega, HE2⟩, ?_⟩
        simp [RowKit.intOf]
        omega
      · have hN3 : (1048576 : Int) < N := by omega
        have HR : Hid (N ≤ 1048576 → N = szXs vs) := fun h => absurd h hN2
        clear hN2
        go_wp2
        go_ret
        exact ⟨N, rfl, hLN, hN, HR.out, rfl⟩
    · have HR : Hid (N ≤ 1048576 → N = szXs vs) := fun _ => by
        have h1 := HL.out
        have h2 := HE.out
        rw [List.take_of_length_le (by omega)] at h2
        rw [szXs_alt]
        omega
      clear HE
      go_wp2
      go_ret
      exact ⟨N, rfl, hLN, hN, HR.out, rfl⟩
theorem szKs_alt (ps : List Kv) : szKs ps = ps.length + (ps.map (fun p => p.1.size + szXs p.2)).sum := by
  induction ps with
  | nil => rfl
  | cons v r ih =>
    simp only [szKs, List.map_cons, List.sum_cons, List.length_cons] at ih ⊢
    rw [ih]
    unfold szK
    omega
set_option maxHeartbeats 4000000 in
set_option maxRecDepth 100000 in
theorem hsize18_any (ao : Option Addr) (L cap : Nat) (hs : List Hd) (w : World) (hH : HRs w ao hs) (hL : L = hs.length) :
    Calls Tryz.prog 73 #[.slice ao L cap] w fun e w' => ∃ N : Nat, e = .returned (.int .i64 (N : Int)) ∧ N ≤ 18014398509481984 ∧ L ≤ N ∧ (N ≤ 1048576 → N = szKs (hs.map Hd.kv)) ∧ Fr [] w w' := by
  have HL : Hid (L = hs.length) := hL
  have hLm : L ≤ 3518437208882 := by have := hH.few; omega
  have HH : Hid (∀ W, Fr [] w W → HRs W ao hs) := fun W hf => hH.keep hf
  clear hL hH
  go_enter Tryz.func73, Tryz.ntmps73
  go_wp2_with fail
  go_loopw [3, 4] (fun nn ii wr => ∃ (n i : Nat), nn = .int .i64 n ∧ ii = .int .i64 i ∧ i ≤ L ∧ n ≤ 18014398509481984 ∧ L ≤ n ∧ Hid (n ≤ 1048576 → n = L + (((hs.take i).map Hd.kv).map (fun p => p.1.size + szXs p.2)).sum) ∧ Hid (Fr [] w wr)) (fun _ ii _ => L - (RowKit.intOf ii).toNat)
  case atStart => exact ⟨L, 0, rfl, rfl, Nat.zero_le _, by omega, Nat.le_refl _, by simp [Hid], Fr.refl _ _⟩
  case round =>
    obtain ⟨n, i, rfl, rfl, hiL, hn, hLn, HE, HF⟩ := hrel
    by_cases hi : i < L
    · by_cases hbig : n ≤ 1048576
      · have hi' : i < hs.length := by rw [← HL.out]; exact hi
        have hb' : (n : Int) ≤ 1048576 := by omega
        have hHr := HH.out _ HF.out
        obtain ⟨bb, off, rfl, hbl, hc⟩ := hHr.lies (by omega)
        obtain ⟨c0, c1⟩ := hc i hi'
        have hat := hHr.each _ (hgetD_mem hs i hi')
        have hsn := htake_snoc hs i hi'
        obtain ⟨x, hxx⟩ : ∃ x, x = hs.getD i Hd.zero := ⟨_, rfl⟩
        rw [← hxx] at c0 c1 hat hsn
        have HSn : Hid (hs.take (i + 1) = hs.take i ++ [x]) := hsn
        clear hxx hc hHr hsn
        obtain ⟨key, xo, M, cm, vs⟩ := x
        simp only at c0 c1
        have hks : key.size ≤ 140737488355328 := hat.k
        have HV : Hid (∀ V, Fr [] wr V → Calls Tryz.prog 120 #[.slice xo M cm] V fun e w' => (∃ K : Nat, e = .returned (.int .i64 (K : Int)) ∧ K ≤ 9007199254740992 ∧ Hid (K ≤ 1048576 → K = szXs vs)) ∧ V = w') := fun V hf => (vsize18_any xo M cm vs V (hat.rs.keep hf) hat.len).mono fun e w' h => by obtain ⟨K, h1, h2, h3, h4, h5⟩ := h; exact ⟨⟨K, h1, h3, h4⟩, h5⟩
        clear hat
        go_wp2_with fail
        go_region_held3 (fun W => W.cell? ⟨bb, off + i * 2, none⟩ = some (.string key) ∧ W.cell? ⟨bb, off + i * 2 + 1, none⟩ = some (.slice xo M cm)) (first | exact ⟨c0, c1⟩ | go_keep)
          (first | (go_at_call 120; with_reducible refine Calls.mono (HV.out _ (Fr.drew _ _)) ?_; rintro e wA ⟨⟨K, rfl, hK2, HK3⟩, rfl⟩))
        obtain ⟨V, hV⟩ : ∃ V : Nat, V = n + key.size + K := ⟨_, rfl⟩
        have e1 : IntKind.i64.wrap ((n : Int) + (key.size : Int)) = ((n + key.size : Nat) : Int) := by rw [IntKind.wrap_i64]; omega
        have e2 : IntKind.i64.wrap (((n + key.size : Nat) : Int) + (K : Int)) = (V : Int) := by rw [IntKind.wrap_i64]; omega
        rw [e1, e2]
        have HE2 : Hid (V ≤ 1048576 → V = L + (((hs.take (i + 1)).map Hd.kv).map (fun p => p.1.size + szXs p.2)).sum) := fun hv => by
          have h1 := HE.out hbig
          have h2 := HK3.out (by omega)
          rw [HSn.out, hV, h1, h2]
          simp [Hd.kv]
          omega
        have HG2 : Hid (Fr [] w wr.drew) := HF.out.then (Fr.drew [] _)
        have hV1 : V ≤ 18014398509481984 := by omega
        have hV2 : L ≤ V := by omega
        clear e1 e2 HV HE HSn HK3 hV
        go_wp2
        go_roundw
        case rel => exact ⟨V, i + 1, rfl, by simp, by omega, hV1, hV2, HE2, HG2⟩
        case measure => simp [RowKit.intOf]; omega
      · have hb' : (1048576 : Int) < n := by omega
        have HR : Hid (n ≤ 1048576 → n = szKs (hs.map Hd.kv)) := fun h => absurd h hbig
        have hb2 : ¬ ((n : Int) ≤ 1048576) := by omega
        clear hbig HE
        go_wp2
        go_ret
        exact ⟨n, rfl, hn, hLn, HR.out, HF.out⟩
    · have HR : Hid (n ≤ 1048576 → n = szKs (hs.map Hd.kv)) := fun h => by
        have h1 := HL.out
        have h2 := HE.out h
        rw [List.take_of_length_le (by omega)] at h2
        rw [szKs_alt, List.length_map]
        omega
      clear HE
      go_wp2
      go_ret
      exact ⟨n, rfl, hn, hLn, HR.out, HF.out⟩
set_option maxHeartbeats 4000000 in
set_option maxRecDepth 100000 in
theorem savedSize_any (m : Int) (bo ho : Option Addr) (Lb cb Lh ch : Nat) (bs : List Int) (hs : List Hd) (w : World) (hI : IRs w bo bs) (hLb : Lb = bs.length) (hH : HRs w ho hs) (hLh : Lh = hs.length) :
    Calls Tryz.prog 13 #[.agg #[.int .i64 m, .slice bo Lb cb, .slice ho Lh ch]] w fun e w' => ∃ N : Nat, e = .returned (.int .i64 (N : Int)) ∧ N ≤ 36028797018963968 ∧ (N ≤ 1048576 → N = bs.length + szKs (hs.map Hd.kv)) ∧ Fr [] w w' := by
  have HLb : Hid (Lb = bs.length) := hLb
  have hLb1 : Lb ≤ 17592186044416 := by have := hI.few; omega
  obtain ⟨w1, HW1⟩ : ∃ w1, Hid (w.alloc (.cells #[.int .i64 m, .slice bo Lb cb, .slice ho Lh ch] 57) = w1) := ⟨_, rfl⟩
  have hF1 : Fr [] w w1 := by rw [← HW1.out]; exact Fr.alloc [] w _
  have hb1 : w1.heap[w.heap.size]? = some (.cells #[.int .i64 m, .slice bo Lb cb, .slice ho Lh ch] 57 (0, 0)) := by rw [← HW1.out]; exact heap_alloc_new w _
  have HBx : Hid (∀ W, Fr [] w1 W → W.cell? ⟨w.heap.size, 1, none⟩ = some (.slice bo Lb cb) ∧ W.cell? ⟨w.heap.size, 2, none⟩ = some (.slice ho Lh ch)) := fun W hf => by
    have hr := hf.keep hb1 (by simp)
    exact ⟨by rw [cell_of_row _ _ _ _ _ _ hr]; rfl, by rw [cell_of_row _ _ _ _ _ _ hr]; rfl⟩
  obtain ⟨k1, k2⟩ := HBx.out _ (Fr.refl _ _)
  have HC : Hid (∀ W, Fr [] w1 W → Calls Tryz.prog 73 #[.slice ho Lh ch] W fun e w' => (∃ N : Nat, e = .returned (.int .i64 (N : Int)) ∧ N ≤ 18014398509481984 ∧ Hid (N ≤ 1048576 → N = szKs (hs.map Hd.kv))) ∧ (w'.cell? ⟨w.heap.size, 1, none⟩ = some (.slice bo Lb cb) ∧ w'.cell? ⟨w.heap.size, 2, none⟩ = some (.slice ho Lh ch)) ∧ Hid (Fr [] w w')) := fun W hf => by
    refine (hsize18_any ho Lh ch hs W (hH.keep (hF1.then hf)) hLh).mono ?_
    rintro e w' ⟨N, rfl, h1, _, h2, h3⟩
    exact ⟨⟨N, rfl, h1, h2⟩, HBx.out _ (hf.then h3), hF1.then (hf.then h3)⟩
  clear hI hH hLh hLb hb1 hF1
  go_enter Tryz.func13, Tryz.ntmps13
  go_upto_region 1 with fail
  rw [HW1.out]
  go_region_held3 (fun W => W.cell? ⟨w.heap.size, 1, none⟩ = some (.slice bo Lb cb) ∧ W.cell? ⟨w.heap.size, 2, none⟩ = some (.slice ho Lh ch)) (go_keep)
    (first | (go_at_call 73; with_reducible refine Calls.mono (HC.out _ (Fr.drew _ _)) ?_; rintro e w2 ⟨⟨N, rfl, hN, HN3⟩, ⟨j1, j2⟩, HF2⟩))
  obtain ⟨V, hV⟩ : ∃ V : Nat, V = Lb + N := ⟨_, rfl⟩
  have e1 : IntKind.i64.wrap ((Lb : Int) + (N : Int)) = (V : Int) := by rw [IntKind.wrap_i64]; omega
  have HR : Hid (V ≤ 36028797018963968 ∧ (V ≤ 1048576 → V = bs.length + szKs (hs.map Hd.kv))) := ⟨by omega, fun h => by have h1 := HN3.out (by omega); have := HLb.out; omega⟩
  rw [e1]
  clear hV e1
  go_wp2
  go_ret
  exact ⟨V, rfl, HR.out.1, HR.out.2, HF2.out⟩
end Go.Proofs.YtembflnhhfliaaaGreatDoor

/- A transaction as bytes: contracts of put, Encode and Size. Conditions as each names them. -/
import Derived.Test.YtaefninikmaiiaaGreatDoorChk
namespace Go.Proofs.YtaefninikmaiiaaGreatDoor
open Go.ChangeShapes Go.WideShapes Go.ChangeAt Go.RowKit Go.Lib
set_option linter.unusedVariables false

theorem Wr.chain {w a b : World} {g : Nat} {v v1 v2 : Value} {ys : List Nat} (hF1 : Fr (Wr.own g v) w a) (hM1 : Moved w.heap.size v v1) (hW2 : Wr b g v2 ys) (hF2 : Fr (Wr.own g v1) a b) (hM2 : Moved a.heap.size v1 v2) :
    Wr b g v2 ys ∧ Fr (Wr.own g v) w b ∧ Moved w.heap.size v v2 :=
  ⟨hW2, hF1.trans hF2 (fun _ x _ => x) (fun x hx hl => own_moved hM1 hx hl), hM1.trans hM2 hF1.size⟩

theorem leB_one (d : Nat) (h : d < 256) : leB 1 d = [d] := by simp [leB, Nat.mod_eq_of_lt h]

set_option maxHeartbeats 2000000 in
set_option maxRecDepth 100000 in
theorem put_any (g : Nat) (v : Value) (xs zs : List Nat) (key val : ByteArray) (drop : Bool) (w : World) (h : Wr w g v xs) (hk : key.size ≤ 64) (hv : val.size ≤ 1024) (hlen : xs.length < 2^39) (hz : zs = xs ++ encW ⟨key, val, drop⟩) :
    Calls Tryz.prog 154 #[.pointer (some ⟨g, 0, none⟩), .agg #[.string key, .string val, .bool drop]] w fun e w' => e = .returned (.tuple #[]) ∧ ∃ v', Wr w' g v' zs ∧ Fr (Wr.own g v) w w' ∧ Moved w.heap.size v v' := by
  have HZ : Hid (zs = xs ++ encW ⟨key, val, drop⟩) := hz
  clear hz
  have hF0 : Fr (Wr.own g v) w (w.alloc (.cells #[.string key, .string val, .bool drop] 124)) := Fr.alloc _ _ _
  have h0 : Wr (w.alloc (.cells #[.string key, .string val, .bool drop] 124)) g v xs := h.keep (Fr.alloc [] w _) (by simp) (by simp)
  have c0 : (w.alloc (.cells #[.string key, .string val, .bool drop] 124)).cell? ⟨w.heap.size, 0, none⟩ = some (.string key) := cell_of_row _ _ _ _ _ _ (heap_alloc_new w _)
  have c1 : (w.alloc (.cells #[.string key, .string val, .bool drop] 124)).cell? ⟨w.heap.size, 1, none⟩ = some (.string val) := cell_of_row _ _ _ _ _ _ (heap_alloc_new w _)
  have c2 : (w.alloc (.cells #[.string key, .string val, .bool drop] 124)).cell? ⟨w.heap.size, 2, none⟩ = some (.bool drop) := cell_of_row _ _ _ _ _ _ (heap_alloc_new w _)
  have hsz : w.heap.size < (w.alloc (.cells #[.string key, .string val, .bool drop] 124)).heap.size := by simp
  have hek := encS_length key
  have hgw := h.lt
  have hrw := h.rowlt
  obtain ⟨w0, HW0⟩ : ∃ w0, Hid (w.alloc (.cells #[.string key, .string val, .bool drop] 124) = w0) := ⟨_, rfl⟩
  rw [HW0.out] at hF0 h0 c0 c1 c2 hsz
  have hown : w.heap.size ∉ Wr.own g v := by
    simp only [Wr.own, List.mem_cons, Option.mem_toList, not_or]
    exact ⟨by omega, fun hh => by have := hrw _ hh; omega⟩
  have hM0 : Moved w.heap.size v v := Moved.refl _ _
  go_enter Tryz.func154, Tryz.ntmps154
  go_wp2_with fail
  rw [HW0.out]
  refine (text_any g v xs key _ h0 (by omega) (by omega)).mono ?_
  rintro e w1 ⟨rfl, v1, hW1, hF1, hM1⟩
  obtain ⟨_, hF01, hM01⟩ := Wr.chain hF0 hM0 hW1 hF1 hM1
  have hmv := hM1
  have hs1 := hF1.size
  have d1 : w1.cell? ⟨w.heap.size, 1, none⟩ = some (.string val) := (World.cell?_of_block (hF1.block _ hsz hown)).trans c1
  have d2 : w1.cell? ⟨w.heap.size, 2, none⟩ = some (.bool drop) := (World.cell?_of_block (hF1.block _ hsz hown)).trans c2
  have hl1 : (xs ++ (enc key.size ++ strNs key)).length < 2^39 + 100 := by
    have : (enc key.size ++ strNs key).length ≤ 10 + key.size := hek.2
    rw [List.length_append]; omega
  obtain ⟨ys, hys⟩ : ∃ ys, ys = xs ++ (enc key.size ++ strNs key) := ⟨_, rfl⟩
  rw [← hys] at hW1 hl1
  have HY : Hid (ys = xs ++ encS key) := hys
  clear hys c0 c1 c2 hF1 hM1
  cases drop with
  | true =>
    have e : zs = ys ++ leB (1 : Int).toNat (1 : Int).toNat := by rw [HZ.out, HY.out]; simp [encW, encV, leB]
    have HE : Hid (zs = ys ++ leB (1 : Int).toNat (1 : Int).toNat) := e
    clear e HZ HY
    go_wp2_with fail
    refine (fixed_any g v1 ys 1 1 _ hW1 (by decide) (by decide) (by decide) (by decide) (by decide) (by omega)).mono ?_
    rintro e w2 ⟨rfl, v2, hW2, hF2, hM2⟩
    have R := Wr.chain hF01 hM01 hW2 hF2 hM2
    clear hW2 hF2 hM2 hW1
    go_wp2
    refine bodyPost_ret (results_none rfl _ _ _) rfl ?_
    rw [HE.out]
    exact ⟨rfl, v2, R⟩
  | false =>
    have e : zs = (ys ++ leB (1 : Int).toNat (0 : Int).toNat) ++ (enc val.size ++ strNs val) := by rw [HZ.out, HY.out]; simp [encW, encV, encS, leB]
    have HE : Hid (zs = (ys ++ leB (1 : Int).toNat (0 : Int).toNat) ++ (enc val.size ++ strNs val)) := e
    clear e HZ HY
    go_wp2_with fail
    refine (fixed_any g v1 ys 0 1 _ hW1 (by decide) (by decide) (by decide) (by decide) (by decide) (by omega)).mono ?_
    rintro e w2 ⟨rfl, v2, hW2, hF2, hM2⟩
    obtain ⟨_, hF02, hM02⟩ := Wr.chain hF01 hM01 hW2 hF2 hM2
    have hown1 : w.heap.size ∉ Wr.own g v1 := by
      intro hh
      simp only [Wr.own, List.mem_cons, Option.mem_toList] at hh
      rcases hh with hh | hh
      · omega
      · rcases hmv with h' | ⟨k, h', h''⟩
        · exact hown (by simp only [Wr.own, List.mem_cons, Option.mem_toList]; exact Or.inr (h' ▸ hh))
        · rw [hh] at h'; cases h'; omega
    have d1' : w2.cell? ⟨w.heap.size, 1, none⟩ = some (.string val) := (World.cell?_of_block (hF2.block _ (Nat.lt_of_lt_of_le hsz hs1) hown1)).trans d1
    have hl2 : (ys ++ leB (1 : Int).toNat (0 : Int).toNat).length < 2^40 := by rw [List.length_append, leB_length]; omega
    obtain ⟨us, hus⟩ : ∃ us, us = ys ++ leB (1 : Int).toNat (0 : Int).toNat := ⟨_, rfl⟩
    rw [← hus] at hW2 hl2 HE
    clear hus hF2 hM2 hW1 d1
    go_wp2_with fail
    refine (text_any g v2 us val _ hW2 hl2 (by omega)).mono ?_
    rintro e w3 ⟨rfl, v3, hW3, hF3, hM3⟩
    have R := Wr.chain hF02 hM02 hW3 hF3 hM3
    clear hW3 hF3 hM3 hW2
    go_wp2
    go_end0
    rw [HE.out]
    exact ⟨rfl, v3, R⟩

theorem u64_nat (n : Int) (h0 : 0 ≤ n) (h1 : n ≤ 65536) : IntKind.u64.wrap n = n := by rw [wr_u64]; omega

set_option maxHeartbeats 4000000 in
set_option maxRecDepth 100000 in
theorem encode_no (n : Int) (ao : Option Addr) (L cap : Nat) (ws : List Wt) (w : World) (hW : WRs w ao ws) (hL : L = ws.length) (hn0 : -9223372036854775808 ≤ n) (hn1 : n ≤ 9223372036854775807) (hno : ¬ okT n ws) :
    Calls Tryz.prog 103 #[.agg #[.int .i64 n, .slice ao L cap]] w fun e w' => e = .returned (.tuple #[.slice none 0 0, .int .i64 1]) ∧ Fr [] w w' := by
  have HL : Hid (L = ws.length) := hL
  have HN : Hid (¬ okT n ws) := hno
  clear hL hno
  have hF0 : Fr [] w (w.alloc (.cells #[.int .i64 n, .slice ao L cap] 63)) := Fr.alloc _ _ _
  have hW0 := hW.keep hF0
  go_enter Tryz.func103, Tryz.ntmps103
  go_wp2_with fail
  refine (check_any n ao L cap 1 ws _ hW0 HL.out hn0 hn1 (Or.inr ⟨HN.out, rfl⟩)).mono ?_
  rintro e w1 ⟨rfl, hF1⟩
  have hF := hF0.then hF1
  clear hF0 hF1 hW0
  go_wp2
  go_ret2
  exact ⟨rfl, hF⟩

set_option maxHeartbeats 8000000 in
set_option maxRecDepth 100000 in
theorem encode_ok (n : Int) (ao : Option Addr) (L cap N : Nat) (ws : List Wt) (ys : List Nat) (w : World) (hW : WRs w ao ws) (hL : L = ws.length) (hok : okT n ws) (hys : ys = encT n.toNat ws) (hN : N = ys.length) :
    Calls Tryz.prog 103 #[.agg #[.int .i64 n, .slice ao L cap]] w fun e w' => ∃ k, e = .returned (.tuple #[.slice (some ⟨k, 0, none⟩) N N, .int .i64 0]) ∧ w.heap.size ≤ k ∧ w'.heap[k]? = some (.cells (bts ys).toArray 5 (0, 0)) ∧ Fr [] w w' := by
  obtain ⟨N0, hNN⟩ : ∃ N0 : Nat, n = N0 := ⟨n.toNat, by have := hok.1; omega⟩
  subst hNN
  rw [Int.toNat_natCast] at hys
  have hlen := encT_length N0 ws hok
  have hL32 : L ≤ 32 := by rw [hL]; exact hok.2.2.1
  have hN1 := hok.1
  have hN2 := hok.2.1
  have HL : Hid (L = ws.length) := hL
  have HK : Hid (okT (N0 : Int) ws) := hok
  have HY : Hid (ys = encT N0 ws) := hys
  have HN : Hid (N = ys.length) := hN
  have hwn := u64_nat (N0 : Int) (by omega) (by omega)
  have hwl := u64_nat (L : Int) (by omega) (by omega)
  clear hL hok hys hN hlen
  have hF0 : Fr [] w (w.alloc (.cells #[.int .i64 (N0 : Int), .slice ao L cap] 63)) := Fr.alloc _ _ _
  have hW0 := hW.keep hF0
  have c0 : (w.alloc (.cells #[.int .i64 (N0 : Int), .slice ao L cap] 63)).cell? ⟨w.heap.size, 0, none⟩ = some (.int .i64 (N0 : Int)) := cell_of_row _ _ _ _ _ _ (heap_alloc_new w _)
  have c1 : (w.alloc (.cells #[.int .i64 (N0 : Int), .slice ao L cap] 63)).cell? ⟨w.heap.size, 1, none⟩ = some (.slice ao L cap) := cell_of_row _ _ _ _ _ _ (heap_alloc_new w _)
  have hsz : w.heap.size < (w.alloc (.cells #[.int .i64 (N0 : Int), .slice ao L cap] 63)).heap.size := by simp
  obtain ⟨w0, HW0⟩ : ∃ w0, Hid (w.alloc (.cells #[.int .i64 (N0 : Int), .slice ao L cap] 63) = w0) := ⟨_, rfl⟩
  rw [HW0.out] at hF0 hW0 c0 c1 hsz
  go_enter Tryz.func103, Tryz.ntmps103
  go_wp2_with fail
  rw [HW0.out]
  refine (check_any (N0 : Int) ao L cap 0 ws _ hW0 HL.out (by omega) (by omega) (Or.inl ⟨HK.out, rfl⟩)).mono ?_
  rintro e w1 ⟨rfl, hF1⟩
  have hF01 := hF1
  go_wp2_with fail
  refine (newWriter_wr w0 w1 hF01).mono ?_
  rintro e w2 ⟨g, rfl, hg, hB2, hF2⟩
  have k0 : w2.cell? ⟨w.heap.size, 0, none⟩ = some (.int .i64 (N0 : Int)) := (World.cell?_of_block (hB2.fr.block _ hsz (by simp))).trans c0
  have k1 : w2.cell? ⟨w.heap.size, 1, none⟩ = some (.slice ao L cap) := (World.cell?_of_block (hB2.fr.block _ hsz (by simp))).trans c1
  go_wp2_with fail
  refine (var_any g _ [] (N0 : Int) _ hB2.wr (by omega) (by omega) (by simp)).mono ?_
  rintro e w3 ⟨rfl, v3, hW3, hF3, hM3⟩
  have hB3 := hB2.next hW3 hF3 hM3
  rw [List.nil_append, Int.toNat_natCast] at hB3
  have m1 : w3.cell? ⟨w.heap.size, 1, none⟩ = some (.slice ao L cap) := (World.cell?_of_block (hB3.fr.block _ hsz (by simp))).trans c1
  have hl3 := enc_length N0
  clear hW3 hF3 hM3 hB2 k0 k1 hF2
  go_wp2_with fail
  refine (var_any g _ (enc N0) (L : Int) _ hB3.wr (by omega) (by omega) (by omega)).mono ?_
  rintro e w4 ⟨rfl, v4, hW4, hF4, hM4⟩
  have hB4 := hB3.next hW4 hF4 hM4
  rw [Int.toNat_natCast] at hB4
  have p1 : w4.cell? ⟨w.heap.size, 1, none⟩ = some (.slice ao L cap) := (World.cell?_of_block (hB4.fr.block _ hsz (by simp))).trans c1
  clear hW4 hF4 hM4 hB3 m1
  go_wp2_with fail
  go_loopw [27] (fun ii wr => ∃ (i : Nat) (v : Value) (us : List Nat), ii = .int .i64 i ∧ i ≤ L ∧ Hid (us = enc N0 ++ enc L ++ encWs (ws.take i)) ∧ WB w0 wr g v us) (fun ii _ => L - (intOf ii).toNat)
  case atStart => exact ⟨0, v4, _, rfl, Nat.zero_le _, by simp [Hid, encWs], hB4⟩
  case round =>
    obtain ⟨i, v, us, rfl, hiL, HU, hB⟩ := hrel
    have q1 : wr.cell? ⟨w.heap.size, 1, none⟩ = some (.slice ao L cap) := (World.cell?_of_block (hB.fr.block _ hsz (by simp))).trans c1
    have hul : us.length ≤ 20 + 2000 * i := by
      have a := encWs_length (ws.take i) (fun x hx => HK.out.2.2.2 x (List.mem_of_mem_take hx))
      have b := enc_length L
      rw [HU.out, List.length_append, List.length_append]
      rw [List.length_take] at a
      have : 2000 * min i ws.length ≤ 2000 * i := Nat.mul_le_mul_left _ (Nat.min_le_left _ _)
      omega
    by_cases hi : i < L
    · have hi' : i < ws.length := by rw [← HL.out]; exact hi
      obtain ⟨b, off, rfl, _, hc⟩ := (hW0.keep hB.fr).lies (by omega)
      obtain ⟨c0', c1', c2'⟩ := hc i hi'
      have hokx := HK.out.2.2.2 _ (wgetD_mem ws i hi')
      obtain ⟨x, hxx⟩ : ∃ x, x = ws.getD i Wt.zero := ⟨_, rfl⟩
      rw [← hxx] at c0' c1' c2' hokx
      have HU2 : Hid (us ++ encW x = enc N0 ++ enc L ++ encWs (ws.take (i + 1))) := by
        show _ = _
        rw [wtake_snoc ws i hi', encWs_snoc, ← hxx, HU.out]
        simp only [List.append_assoc]
      clear hxx hc
      obtain ⟨key, val, drop⟩ := x
      have hx1 := hokx.2.1
      have hx2 := hokx.2.2.1
      clear hokx
      simp only at c0' c1' c2' hx1 hx2
      go_wp2_with fail
      refine (put_any g v us _ key val drop _ hB.wr hx1 hx2 (by omega) rfl).mono ?_
      rintro e w5 ⟨rfl, v5, hW5, hF5, hM5⟩
      have hB5 := hB.next hW5 hF5 hM5
      clear hW5 hF5 hM5
      go_wp2
      go_roundw
      case rel => exact ⟨i + 1, v5, _, by simp, by omega, HU2, hB5⟩
      case measure => simp [intOf]; omega
    · have HU3 : Hid (us = ys) := by
        show us = ys
        rw [HU.out, HY.out, List.take_of_length_le (by rw [← HL.out]; omega), HL.out, List.append_assoc]
        rfl
      have hB' : WB w0 wr g v ys := HU3.out ▸ hB
      have hyl : 0 < ys.length ∧ ys.length < 2^41 := by
        have := encT_length N0 ws HK.out
        rw [HY.out]
        omega
      go_wp2_with fail
      refine (done_some g v ys _ hB'.wr hyl.1 hyl.2).mono ?_
      rintro e w5 ⟨rfl, hrow, hF5⟩
      rw [← HN.out]
      have hs := hB.fr.size
      have hs0 := hF0.size
      go_wp2
      go_ret2
      exact ⟨_, rfl, by omega, hrow, hF0.then (hB.fr.then hF5)⟩

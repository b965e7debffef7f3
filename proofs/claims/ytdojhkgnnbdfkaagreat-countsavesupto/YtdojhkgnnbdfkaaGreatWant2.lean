/- What the document's Text and Fixed do behind other bytes. Conditions: fewer than 2^40 bytes. -/
import Derived.Test.YtdojhkgnnbdfkaaGreatWant
namespace Go.Proofs.YtdojhkgnnbdfkaaGreat
open Go.ChangeShapes Go.WideShapes Go.ChangeAt Go.RowKit Go.Lib

theorem strNs_take (s : ByteArray) (i : Nat) (h : i < s.size) : (strNs s).take (i + 1) = (strNs s).take i ++ [s[i].toNat] := by
  have hl : i < (strNs s).length := by rw [strNs_length]; exact h
  rw [List.take_add_one, List.getElem?_eq_getElem hl]
  simp only [strNs, List.getElem_map, Array.getElem_toList, Option.toList_some]
  rfl

set_option maxHeartbeats 2000000 in
set_option maxRecDepth 100000 in
theorem refText_any (v : Value) (xs : List Nat) (s : ByteArray) (w : World) (h : Wn w v xs) (hlen : xs.length < 2^39) (hs : s.size < 2^39) :
    Calls Tryz.prog 59 #[v, .string s] w fun e w' => ∃ ao n cap, e = .returned (.slice ao n cap) ∧ WnTo w v w' (.slice ao n cap) (xs ++ (enc s.size ++ strNs s)) := by
  obtain ⟨i0, hi, hz0, hz1, hz2⟩ := info_parts Tryz.infoB
  have hwr : IntKind.u64.wrap (s.size : Int) = (s.size : Int) := by rw [wr_u64]; omega
  go_enter Tryz.func59, Tryz.ntmps59
  go_wp2_with fail
  refine (refVar_any v xs s.size _ h (by omega) (by omega)).mono ?_
  rintro e w1 ⟨ao1, n1, cap1, rfl, R⟩
  have hel := enc_length s.size
  obtain ⟨ys, hys⟩ : ∃ ys, ys = xs ++ enc s.size := ⟨_, rfl⟩
  have hyl : ys.length < 2^39 + 11 := by rw [hys, List.length_append]; omega
  rw [← hys] at R
  have HY : Hid (ys = xs ++ enc s.size) := hys
  have HR : Hid (WnTo w v w1 (.slice ao1 n1 cap1) (ys ++ (strNs s).take 0)) := by rw [List.take_zero, List.append_nil]; exact R
  clear hys R
  go_wp2_with fail
  go_loopw [0, 5] (fun bb ii wr => ∃ (i : Nat) (v' : Value), bb = v' ∧ ii = .int .i64 i ∧ i ≤ s.size ∧ Hid (WnTo w v wr v' (ys ++ (strNs s).take i))) (fun _ ii _ => s.size - (intOf ii).toNat)
  case atStart => exact ⟨0, _, rfl, rfl, Nat.zero_le _, HR⟩
  case round =>
    clear HR
    obtain ⟨i, v', rfl, rfl, his, HW⟩ := hrel
    obtain ⟨ao, cap, hv⟩ := HW.out.wn.slice
    obtain ⟨L, hL⟩ : ∃ L, L = (ys ++ (strNs s).take i).length := ⟨_, rfl⟩
    have hLs : L < 2^40 + 20 := by rw [hL, List.length_append, List.length_take, strNs_length]; omega
    rw [← hL] at hv
    subst hv
    have HL : Hid (L = (ys ++ (strNs s).take i).length) := hL
    clear hL
    by_cases hi' : i < s.size
    · have HO : Hid (wr.ownsRow 0 5 1 (.slice ao L cap) L (bts (ys ++ (strNs s).take i))) := by rw [HL.out]; have := HW.out.wn; rw [HL.out] at this; exact this
      go_wp2_with (at_builtin; refine wpList_app1 _ rfl (.tmp 17) (.tmp 21) 76 rfl 5 i0 (.int .u8 0) 1 1 Tryz.undBs hi hz0 hz1 hz2 rfl (by decide) _ L _ rfl (HO.out.alloc _) ⟨wr.heap.size, 0, none⟩ 1 [.int .u8 (s[i].toNat : Int)] rfl rfl ?c1 ?c2 ?c3 ?c4 ?_)
      case c1 => intro j u hj; match j, hj with | 0, hj => simp at hj; subst hj; simp [Addr.add]
      case c2 => intro u hu; simp at hu; subst hu; rfl
      case c3 => omega
      case c4 => unfold maxLen; omega
      intro g' cap' w2 hown hgrow hmov
      have HR2 : Hid (WnTo w v w2 (.slice (some ⟨g', 0, none⟩) (L + 1) cap') (ys ++ (strNs s).take (i + 1))) := by
        rw [strNs_take s i hi', ← List.append_assoc]
        exact HW.out.step (z := s[i].toNat) hown (by rw [List.length_append, ← HL.out]; rfl) (by rw [bts_append (ys ++ (strNs s).take i)]; rfl) hgrow hmov (by omega)
      clear hown hgrow hmov HO
      go_wp2
      go_roundw
      case rel => exact ⟨i + 1, _, rfl, by simp, by omega, HR2⟩
      case measure => simp [intOf]; omega
    · have HR2 : Hid (WnTo w v wr (.slice ao L cap) (xs ++ (enc s.size ++ strNs s))) := by
        have := HW.out
        rw [List.take_of_length_le (by rw [strNs_length]; omega), HY.out, List.append_assoc] at this
        exact this
      go_wp2
      go_ret
      exact ⟨_, _, _, rfl, HR2.out⟩

set_option maxHeartbeats 2000000 in
theorem refPower_any (n : Nat) (w : World) (hn : n < 64) :
    Calls Tryz.prog 86 #[.int .i64 (n : Int)] w fun e w' => e = .returned (.int .u64 ((2 ^ n : Nat) : Int)) ∧ w = w' := by
  obtain ⟨R, HR⟩ : ∃ R : Nat, Hid (R = 2 ^ n) := ⟨_, rfl⟩
  rw [← HR.out]
  go_enter Tryz.func86, Tryz.ntmps86
  go_wp2_with fail
  go_loop [3, 4] (fun pp ii => ∃ (p i : Nat), pp = .int .u64 (p : Int) ∧ ii = .int .i64 i ∧ i ≤ n ∧ Hid (p = 2 ^ i)) (fun _ ii => n - (intOf ii).toNat)
  case atStart => exact ⟨1, 0, rfl, rfl, Nat.zero_le _, rfl⟩
  case round =>
    obtain ⟨p, i, rfl, rfl, hin, HP⟩ := hrel
    by_cases hi : i < n
    · have hp : p < 9223372036854775808 := by
        rw [HP.out]
        exact Nat.pow_lt_pow_right (a := 2) (n := 63) (by omega) (by omega)
      have hw : IntKind.u64.wrap (2 * (p : Int)) = ((2 * p : Nat) : Int) := by rw [wr_u64]; omega
      have HP2 : Hid (2 * p = 2 ^ (i + 1)) := by show _ = _; rw [HP.out, Nat.pow_succ]; omega
      go_wp2_with fail
      go_round
      case rel => exact ⟨2 * p, i + 1, by simp, by simp, by omega, HP2⟩
      case measure => simp [intOf]; omega
    · obtain rfl : i = n := by omega
      have HP2 : Hid (p = R) := by show _ = _; rw [HP.out, HR.out]
      go_wp2_with fail
      go_ret
      rw [HP2.out]
      exact ⟨rfl, rfl⟩

set_option maxHeartbeats 1000000 in
theorem refFixed_arg (ao : Option Addr) (L cap : Nat) (n x : Int) (w : World) (h0 : x < 1 ∨ 8 < x) :
    Calls Tryz.prog 62 #[.slice ao L cap, .int .u64 n, .int .i64 x] w fun e w' => e = .returned (.tuple #[.slice ao L cap, .int .i64 1]) ∧ w = w' := by
  by_cases h1 : x < 1
  · go_enter Tryz.func62, Tryz.ntmps62
    go_wp2
    go_ret2
    exact ⟨rfl, rfl⟩
  · have h8 : 8 < x := by omega
    have h1' : 1 ≤ x := by omega
    go_enter Tryz.func62, Tryz.ntmps62
    go_wp2
    go_ret2
    exact ⟨rfl, rfl⟩
set_option maxHeartbeats 1000000 in
theorem refFixed_limit (ao : Option Addr) (L cap : Nat) (N X : Nat) (w : World) (h1 : 1 ≤ X) (h8 : X < 8) (hbig : 2 ^ (8 * X) ≤ N) :
    Calls Tryz.prog 62 #[.slice ao L cap, .int .u64 (N : Int), .int .i64 (X : Int)] w fun e w' => e = .returned (.tuple #[.slice ao L cap, .int .i64 3]) ∧ w = w' := by
  obtain ⟨R, hR⟩ : ∃ R, 2 ^ (8 * X) = R := ⟨_, rfl⟩
  have HR : Hid (2 ^ (8 * X) = R) := hR
  rw [hR] at hbig
  clear hR
  have hbig' : (R : Int) ≤ N := by omega
  go_enter Tryz.func62, Tryz.ntmps62
  go_wp2_with fail
  refine (refPower_any (8 * X) _ (by omega)).mono ?_
  rintro e w' ⟨rfl, rfl⟩
  rw [HR.out]
  go_wp2
  go_ret2
  exact ⟨rfl, rfl⟩

set_option maxHeartbeats 4000000 in
set_option maxRecDepth 100000 in
theorem refFixed_loop (ao0 : Option Addr) (L0 cap0 : Nat) (xs : List Nat) (N X : Nat) (w : World) (h : Wn w (.slice ao0 L0 cap0) xs) (h1 : 1 ≤ X) (h8 : X ≤ 8) (hfit : X < 8 → N < 2 ^ (8 * X)) (hN : N < 2^64) (hlen : xs.length < 2^40) :
    Calls Tryz.prog 62 #[.slice ao0 L0 cap0, .int .u64 (N : Int), .int .i64 (X : Int)] w fun e w' => ∃ ao n cap, e = .returned (.tuple #[.slice ao n cap, .int .i64 0]) ∧ WnTo w (.slice ao0 L0 cap0) w' (.slice ao n cap) (xs ++ leB X N) := by
  obtain ⟨i0, hi, hz0, hz1, hz2⟩ := info_parts Tryz.infoB
  obtain ⟨zs, hzs⟩ : ∃ zs, zs = xs ++ leB X N := ⟨_, rfl⟩
  rw [← hzs]
  have hzl : zs.length < 2^40 + 10 := by rw [hzs, List.length_append, leB_length]; omega
  have E0 : Hid (zs = xs ++ leB (X - 0) N) := hzs
  have HW0 : Hid (WnTo w (.slice ao0 L0 cap0) w (.slice ao0 L0 cap0) xs) := h.refl
  clear hzs h
  by_cases hX : X < 8
  · obtain ⟨R, hR⟩ : ∃ R, 2 ^ (8 * X) = R := ⟨_, rfl⟩
    have HR : Hid (2 ^ (8 * X) = R) := hR
    have hN' := hfit hX
    rw [hR] at hN'
    clear hR hfit
    have hN2 : (N : Int) < R := by omega
    go_enter Tryz.func62, Tryz.ntmps62
    go_wp2_with fail
    refine (refPower_any (8 * X) _ (by omega)).mono ?_
    rintro e w' ⟨rfl, rfl⟩
    rw [HR.out]
    go_wp2_with fail
    have hd0 : (decide (R ≤ N)) = false := by simp; omega
    simp only [hd0]
    clear hN2 hN' hd0
    go_loopw [0, 1, 8] (fun bb nn ii wr => ∃ (m k : Nat) (v' : Value) (ys : List Nat), bb = v' ∧ nn = .int .u64 m ∧ ii = .int .i64 k ∧ k ≤ X ∧ m < 2^64 ∧ Hid (zs = ys ++ leB (X - k) m) ∧ Hid (WnTo w (.slice ao0 L0 cap0) wr v' ys)) (fun _ _ ii _ => X - (intOf ii).toNat)
    case atStart => exact ⟨N, 0, _, xs, rfl, rfl, rfl, Nat.zero_le _, hN, E0, HW0⟩
    case round =>
      clear HW0
      obtain ⟨m, k, v', ys, rfl, rfl, rfl, hk, hm, E, HW⟩ := hrel
      obtain ⟨ao, cap, hv⟩ := HW.out.wn.slice
      obtain ⟨L, hL⟩ : ∃ L, L = ys.length := ⟨_, rfl⟩
      have hLs : L < 2^40 + 10 := by have := congrArg List.length E.out; simp only [List.length_append] at this; omega
      rw [← hL] at hv
      subst hv
      have HL : Hid (L = ys.length) := hL
      clear hL
      by_cases hkX : k < X
      · have HO : Hid (wr.ownsRow 0 5 1 (.slice ao L cap) L (bts ys)) := by rw [HL.out]; have := HW.out.wn; rw [HL.out] at this; exact this
        have hb : ((m : Int) % 256) % 256 = ((m % 256 : Nat) : Int) := by omega
        have hq : IntKind.u64.wrap ((m : Int).tdiv 256) = ((m / 256 : Nat) : Int) := by rw [wr_u64, Int.tdiv_eq_ediv_of_nonneg (by omega)]; omega
        go_wp2_with (at_builtin; refine wpList_app1 _ rfl (.tmp 31) (.tmp 35) 76 rfl 5 i0 (.int .u8 0) 1 1 Tryz.undBs hi hz0 hz1 hz2 rfl (by decide) _ L _ rfl (HO.out.alloc _) ⟨wr.heap.size, 0, none⟩ 1 [.int .u8 ((m : Int) % 256)] rfl rfl ?c1 ?c2 ?c3 ?c4 ?_)
        case c1 => intro j u hj; match j, hj with | 0, hj => simp at hj; subst hj; simp [Addr.add]
        case c2 => intro u hu; simp at hu; subst hu; rfl
        case c3 => omega
        case c4 => unfold maxLen; omega
        intro g' cap' w1 hown hgrow hmov
        have HR2 : Hid (WnTo w (.slice ao0 L0 cap0) w1 (.slice (some ⟨g', 0, none⟩) (L + 1) cap') (ys ++ [m % 256])) := HW.out.step (z := m % 256) hown (by simp [HL.out]) (by rw [bts_append, mod8]; rfl) hgrow hmov (by omega)
        have HE : Hid (zs = (ys ++ [m % 256]) ++ leB (X - (k + 1)) (m / 256)) := by
          have := E.out
          rw [show X - k = (X - (k + 1)) + 1 by omega] at this
          show _ = _
          rw [this]; simp [leB]
        clear hown hgrow hmov HO
        go_wp2
        go_roundw
        case rel => exact ⟨m / 256, k + 1, _, _, rfl, rfl, by simp, by omega, by omega, HE, HR2⟩
        case measure => simp [intOf]; omega
      · have hkx : k = X := by omega
        have HE : Hid (ys = zs) := by have := E.out; rw [hkx, Nat.sub_self] at this; show _ = _; simpa [leB] using this.symm
        have HR2 : Hid (WnTo w (.slice ao0 L0 cap0) wr (.slice ao L cap) zs) := by rw [← HE.out]; exact HW.out
        clear hkx
        go_wp2
        go_ret2
        exact ⟨_, _, _, rfl, HR2.out⟩
  · have h8' : X = 8 := by omega
    subst h8'
    clear hfit hX
    rw [show ((8 : Nat) : Int) = 8 from rfl]
    go_enter Tryz.func62, Tryz.ntmps62
    go_wp2_with fail
    go_loopw [0, 1, 8] (fun bb nn ii wr => ∃ (m k : Nat) (v' : Value) (ys : List Nat), bb = v' ∧ nn = .int .u64 m ∧ ii = .int .i64 k ∧ k ≤ 8 ∧ m < 2^64 ∧ Hid (zs = ys ++ leB (8 - k) m) ∧ Hid (WnTo w (.slice ao0 L0 cap0) wr v' ys)) (fun _ _ ii _ => 8 - (intOf ii).toNat)
    case atStart => exact ⟨N, 0, _, xs, rfl, rfl, rfl, Nat.zero_le _, hN, E0, HW0⟩
    case round =>
      clear HW0
      obtain ⟨m, k, v', ys, rfl, rfl, rfl, hk, hm, E, HW⟩ := hrel
      obtain ⟨ao, cap, hv⟩ := HW.out.wn.slice
      obtain ⟨L, hL⟩ : ∃ L, L = ys.length := ⟨_, rfl⟩
      have hLs : L < 2^40 + 10 := by have := congrArg List.length E.out; simp only [List.length_append] at this; omega
      rw [← hL] at hv
      subst hv
      have HL : Hid (L = ys.length) := hL
      clear hL
      by_cases hkX : k < 8
      · have HO : Hid (wr.ownsRow 0 5 1 (.slice ao L cap) L (bts ys)) := by rw [HL.out]; have := HW.out.wn; rw [HL.out] at this; exact this
        have hb : ((m : Int) % 256) % 256 = ((m % 256 : Nat) : Int) := by omega
        have hq : IntKind.u64.wrap ((m : Int).tdiv 256) = ((m / 256 : Nat) : Int) := by rw [wr_u64, Int.tdiv_eq_ediv_of_nonneg (by omega)]; omega
        go_wp2_with (at_builtin; refine wpList_app1 _ rfl (.tmp 31) (.tmp 35) 76 rfl 5 i0 (.int .u8 0) 1 1 Tryz.undBs hi hz0 hz1 hz2 rfl (by decide) _ L _ rfl (HO.out.alloc _) ⟨wr.heap.size, 0, none⟩ 1 [.int .u8 ((m : Int) % 256)] rfl rfl ?c1 ?c2 ?c3 ?c4 ?_)
        case c1 => intro j u hj; match j, hj with | 0, hj => simp at hj; subst hj; simp [Addr.add]
        case c2 => intro u hu; simp at hu; subst hu; rfl
        case c3 => omega
        case c4 => unfold maxLen; omega
        intro g' cap' w1 hown hgrow hmov
        have HR2 : Hid (WnTo w (.slice ao0 L0 cap0) w1 (.slice (some ⟨g', 0, none⟩) (L + 1) cap') (ys ++ [m % 256])) := HW.out.step (z := m % 256) hown (by simp [HL.out]) (by rw [bts_append, mod8]; rfl) hgrow hmov (by omega)
        have HE : Hid (zs = (ys ++ [m % 256]) ++ leB (8 - (k + 1)) (m / 256)) := by
          have := E.out
          rw [show 8 - k = (8 - (k + 1)) + 1 by omega] at this
          show _ = _
          rw [this]; simp [leB]
        clear hown hgrow hmov HO
        go_wp2
        go_roundw
        case rel => exact ⟨m / 256, k + 1, _, _, rfl, rfl, by simp, by omega, by omega, HE, HR2⟩
        case measure => simp [intOf]; omega
      · have hkx : k = 8 := by omega
        have HE : Hid (ys = zs) := by have := E.out; rw [hkx, Nat.sub_self] at this; show _ = _; simpa [leB] using this.symm
        have HR2 : Hid (WnTo w (.slice ao0 L0 cap0) wr (.slice ao L cap) zs) := by rw [← HE.out]; exact HW.out
        clear hkx
        go_wp2
        go_ret2
        exact ⟨_, _, _, rfl, HR2.out⟩
end Go.Proofs.YtdojhkgnnbdfkaaGreat

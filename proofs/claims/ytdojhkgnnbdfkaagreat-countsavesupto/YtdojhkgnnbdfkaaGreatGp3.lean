/- Texts of this claim laid together, one behind the other: contracts and plain lemmas; conditions as each names them. -/
import Derived.Test.YtdojhkgnnbdfkaaGreatGp2
/- What the codec's writer does, call by call: contracts of NewWriter, there, Var, Int, Text, Fixed, Done. Conditions: the writer's bytes are fewer than 2^40. -/
namespace Go.Proofs.YtdojhkgnnbdfkaaGreat
open Go.ChangeShapes Go.WideShapes Go.ChangeAt Go.RowKit Go.Lib

set_option maxHeartbeats 400000 in
theorem newWriter_any (w : World) : Calls Tryz.prog 72 #[] w fun e w' => e = .returned (.pointer (some ⟨w.heap.size, 0, none⟩)) ∧ w' = w.alloc (.cells #[.bool true, .slice none 0 0] 150) := by
  go_enter Tryz.func72, Tryz.ntmps72
  go_wp2
  go_ret
  exact ⟨rfl, rfl⟩
set_option maxHeartbeats 400000 in
theorem wThere_any (g : Nat) (w : World) (h : w.cell? ⟨g, 0, none⟩ = some (.bool true)) : Calls Tryz.prog 94 #[.pointer (some ⟨g, 0, none⟩)] w fun e w' => e = .returned (.bool true) ∧ w = w' := by
  go_enter Tryz.func94, Tryz.ntmps94
  go_wp2
  go_ret
  exact ⟨rfl, rfl⟩
set_option maxHeartbeats 400000 in
theorem wThere_nil (w : World) : Calls Tryz.prog 94 #[.pointer none] w fun e w' => e = .returned (.bool false) ∧ w = w' := by
  go_enter Tryz.func94, Tryz.ntmps94
  go_wp2
  go_ret
  exact ⟨rfl, rfl⟩
set_option maxHeartbeats 1000000 in
set_option maxRecDepth 100000 in
theorem var_any (g : Nat) (v : Value) (xs : List Nat) (n : Int) (w : World) (h : Wr w g v xs) (hn0 : 0 ≤ n) (hn : n < 2^64) (hlen : xs.length < 2^40) :
    Calls Tryz.prog 91 #[.pointer (some ⟨g, 0, none⟩), .int .u64 n] w fun e w' => e = .returned (.tuple #[]) ∧ ∃ v', Wr w' g v' (xs ++ enc n.toNat) ∧ Fr (Wr.own g v) w w' ∧ Moved w.heap.size v v' := by
  obtain ⟨i0, hi, hz0, hz1, hz2⟩ := info_parts Tryz.infoB
  obtain ⟨N, rfl⟩ := Int.eq_ofNat_of_zero_le hn0
  have hN : N < 2^64 := by omega
  rw [Int.toNat_natCast]
  have hlen0 := enc_length N
  obtain ⟨zs, hzs⟩ : ∃ zs, zs = xs ++ enc N := ⟨_, rfl⟩
  rw [← hzs]
  have hzl : zs.length < 2^40 + 10 := by rw [hzs, List.length_append]; omega
  have E0 : Hid (zs = xs ++ enc N) := hzs
  clear hzs hn0 hn
  go_enter Tryz.func91, Tryz.ntmps91
  go_wp2_with (go_at_call 94; refine (wThere_any g _ h.c0).mono ?_; rintro e w' ⟨rfl, rfl⟩)
  go_loopw [1] (fun vv wr => ∃ (m : Nat) (v' : Value) (ys : List Nat), vv = .int .u64 m ∧ m < 2^64 ∧ Hid (zs = ys ++ enc m) ∧ Wr wr g v' ys ∧ Fr (Wr.own g v) w wr ∧ Moved w.heap.size v v') (fun vv _ => (RowKit.intOf vv).toNat)
  case atStart => exact ⟨N, v, xs, rfl, hN, E0, h, Fr.refl _ _, Moved.refl _ _⟩
  case round =>
    obtain ⟨m, v', ys, rfl, hm, E, hW, hF, hM⟩ := hrel
    obtain ⟨ao, cap, hv⟩ := hW.shape
    obtain ⟨L, hL⟩ : ∃ L, L = ys.length := ⟨_, rfl⟩
    have hLs : L < 2^40 + 10 := by have := congrArg List.length E.out; simp only [List.length_append] at this; omega
    rw [← hL] at hv
    subst hv
    have HL : Hid (L = ys.length) := hL
    clear hL
    have HW : Hid (wr.ownsRow 0 5 1 (.slice ao L cap) L (bts ys)) := by rw [HL.out]; have := hW.row; rw [HL.out] at this; exact this
    have c1 := hW.c1
    have f1 := hW.f1
    have hgl := hW.lt
    by_cases h128 : 128 ≤ m
    · go_wp2_with (at_builtin; refine wpList_app1 _ rfl (.tmp 13) (.tmp 17) 76 rfl 5 i0 (.int .u8 0) 1 1 Tryz.undBs hi hz0 hz1 hz2 rfl (by decide) _ L _ rfl (HW.out.alloc _) ⟨wr.heap.size, 0, none⟩ 1 [.int .u8 (bits BinOp.or IntKind.u8 (m % 256) 128)] rfl rfl ?c1 ?c2 ?c3 ?c4 ?_)
      case c1 => intro j u hj; match j, hj with | 0, hj => simp at hj; subst hj; simp [Addr.add]
      case c2 => intro u hu; simp at hu; subst hu; rfl
      case c3 => omega
      case c4 => unfold maxLen; omega
      intro g' cap' w1 hown hgrow hmov
      obtain ⟨k1, k2⟩ := hW.after hgrow
      obtain ⟨R1, R2, R3⟩ := hW.step (zs := [128 + m % 128]) hF hM hown (by simp [HL.out]) (by rw [bts_append, or128]; rfl) hgrow hmov (by omega)
      have HE : Hid (zs = (ys ++ [128 + m % 128]) ++ enc (m / 128)) := by have := E.out; rw [enc_high m h128 hm] at this; show _ = _; rw [this]; simp
      clear hown hgrow hmov HW c1 f1 hW
      go_wp2
      go_roundw
      case rel => exact ⟨m / 128, _, _, by rw [shr7], by omega, HE, R1, R2, R3⟩
      case measure => simp [RowKit.intOf]; omega
    · go_wp2_with (at_builtin; refine wpList_app1 _ rfl (.tmp 27) (.tmp 30) 76 rfl 5 i0 (.int .u8 0) 1 1 Tryz.undBs hi hz0 hz1 hz2 rfl (by decide) _ L _ rfl (HW.out.alloc _) ⟨wr.heap.size, 0, none⟩ 1 [.int .u8 m] rfl rfl ?c1 ?c2 ?c3 ?c4 ?_)
      case c1 => intro j u hj; match j, hj with | 0, hj => simp at hj; subst hj; simp [Addr.add]
      case c2 => intro u hu; simp at hu; subst hu; rfl
      case c3 => omega
      case c4 => unfold maxLen; omega
      intro g' cap' w1 hown hgrow hmov
      obtain ⟨k1, k2⟩ := hW.after hgrow
      obtain ⟨R1, R2, R3⟩ := hW.step (zs := [m]) hF hM hown (by simp [HL.out]) (by rw [bts_append]; rfl) hgrow hmov (by omega)
      have HE : Hid (zs = ys ++ [m]) := by have := E.out; rw [enc_low m (by omega)] at this; exact this
      clear hown hgrow hmov HW c1 f1 hW
      go_wp2
      go_end0
      rw [HE.out]
      exact ⟨rfl, _, R1, R2, R3⟩
set_option maxHeartbeats 1000000 in
set_option maxRecDepth 100000 in
theorem text_any (g : Nat) (v : Value) (xs : List Nat) (s : ByteArray) (w : World) (h : Wr w g v xs) (hlen : xs.length < 2^40) (hs : s.size < 2^40) :
    Calls Tryz.prog 92 #[.pointer (some ⟨g, 0, none⟩), .string s] w fun e w' => e = .returned (.tuple #[]) ∧ ∃ v', Wr w' g v' (xs ++ (enc s.size ++ strNs s)) ∧ Fr (Wr.own g v) w w' ∧ Moved w.heap.size v v' := by
  obtain ⟨i0, hi, hz0, hz1, hz2⟩ := info_parts Tryz.infoB
  go_enter Tryz.func92, Tryz.ntmps92
  go_wp2_with fail
  refine (wThere_any g _ h.c0).mono ?_
  rintro e w' ⟨rfl, rfl⟩
  go_wp2_with fail
  refine (var_any g v xs (s.size : Nat) _ h (by omega) (by omega) hlen).mono ?_
  rintro e w1 ⟨rfl, v1, hW, hF, hM⟩
  rw [Int.toNat_natCast] at hW
  have hel := enc_length s.size
  obtain ⟨ys, hys⟩ : ∃ ys, ys = xs ++ enc s.size := ⟨_, rfl⟩
  have hyl : ys.length < 2^40 + 11 := by rw [hys, List.length_append]; omega
  rw [← hys] at hW
  have HY : Hid (ys = xs ++ enc s.size) := hys
  clear hys
  obtain ⟨ao, cap, hv⟩ := hW.shape
  obtain ⟨L, hL⟩ : ∃ L, L = ys.length := ⟨_, rfl⟩
  rw [← hL] at hv
  subst hv
  have hLs : L < 2^40 + 11 := by omega
  have HL : Hid (L = ys.length) := hL
  clear hL
  have HW : Hid (w1.ownsRow 0 5 1 (.slice ao L cap) L (bts ys)) := hW.owns HL.out
  have c1 := hW.c1
  have f1 := hW.f1
  have hgl := hW.lt
  go_wp2_with (at_builtin; refine wpList_appS _ rfl (.tmp 16) (.tmp 17) 76 9 rfl 5 i0 Tryz.undBs Tryz.undStr hi hz0 hz1 hz2 _ L _ rfl HW.out s rfl ?c3 ?c4 ?_)
  case c3 => omega
  case c4 => unfold maxLen; omega
  intro ao2 n2 cap2 w2 hn2 hown hgrow hmov
  obtain ⟨k1, k2⟩ := hW.after0 hgrow
  obtain ⟨R1, R2, R3⟩ := hW.step0 (zs := strNs s) hF hM hown (by rw [hn2, HL.out, List.length_append, strNs_length]) (by rw [bts_append, bts_strNs]) hgrow hmov
  clear hown hgrow hmov HW c1 f1 hW hn2
  go_wp2
  go_end0
  rw [HY.out, List.append_assoc] at R1
  exact ⟨rfl, _, R1, R2, R3⟩
theorem wide_yes (x : Int) (w : World) (h0 : 1 ≤ x) (h1 : x ≤ 8) :
    Calls Tryz.prog 111 #[.int .i64 x] w fun e w' => e = .returned (.bool true) ∧ w = w' := by
  go_enter Tryz.func111, Tryz.ntmps111
  go_wp2
  go_ret
  exact ⟨rfl, rfl⟩
theorem wide_no (x : Int) (w : World) (h0 : x < 1 ∨ 8 < x) :
    Calls Tryz.prog 111 #[.int .i64 x] w fun e w' => e = .returned (.bool false) ∧ w = w' := by
  rcases h0 with h0 | h0
  · go_enter Tryz.func111, Tryz.ntmps111
    go_wp2
    go_ret
    exact ⟨rfl, rfl⟩
  · have h1 : 1 ≤ x := by omega
    have h2 : decide (x ≤ 8) = false := by simp; omega
    go_enter Tryz.func111, Tryz.ntmps111
    go_wp2
    go_ret
    exact ⟨by simp, rfl⟩
set_option maxHeartbeats 1000000 in
set_option maxRecDepth 100000 in
theorem fixed_arg (g : Nat) (v : Value) (xs : List Nat) (n x : Int) (w : World) (h : Wr w g v xs) (h0 : x < 1 ∨ 8 < x) :
    Calls Tryz.prog 93 #[.pointer (some ⟨g, 0, none⟩), .int .u64 n, .int .i64 x] w fun e w' => e = .returned (.int .i64 1) ∧ w = w' := by
  go_enter Tryz.func93, Tryz.ntmps93
  go_wp2_with fail
  refine (wThere_any g _ h.c0).mono ?_
  rintro e w' ⟨rfl, rfl⟩
  go_wp2_with fail
  refine (wide_no x _ h0).mono ?_
  rintro e w' ⟨rfl, rfl⟩
  go_wp2
  go_ret
  exact ⟨rfl, rfl⟩

set_option maxHeartbeats 1000000 in
set_option maxRecDepth 100000 in
theorem fixed_limit (g : Nat) (v : Value) (xs : List Nat) (n x : Int) (w : World) (h : Wr w g v xs) (_hn0 : 0 ≤ n) (_hn : n < 2^64) (hx1 : 1 ≤ x) (hx8 : x ≤ 8) (hfit : n / 2 ^ (8 * x).toNat ≠ 0) :
    Calls Tryz.prog 93 #[.pointer (some ⟨g, 0, none⟩), .int .u64 n, .int .i64 x] w fun e w' => e = .returned (.int .i64 3) ∧ w = w' := by
  have hf : (n / 2 ^ (8 * x).toNat != 0) = true := by rw [bne_iff_ne]; exact hfit
  clear hfit
  go_enter Tryz.func93, Tryz.ntmps93
  go_wp2_with fail
  refine (wThere_any g _ h.c0).mono ?_
  rintro e w' ⟨rfl, rfl⟩
  go_wp2_with fail
  refine (wide_yes x _ hx1 hx8).mono ?_
  rintro e w' ⟨rfl, rfl⟩
  go_wp2
  go_ret
  exact ⟨rfl, rfl⟩

set_option maxHeartbeats 2000000 in
set_option maxRecDepth 100000 in
theorem fixed_any (g : Nat) (v : Value) (xs : List Nat) (n x : Int) (w : World) (h : Wr w g v xs) (hn0 : 0 ≤ n) (hn : n < 2^64) (hx1 : 1 ≤ x) (hx8 : x ≤ 8) (hfit : n / 2 ^ (8 * x).toNat = 0) (hlen : xs.length < 2^40) :
    Calls Tryz.prog 93 #[.pointer (some ⟨g, 0, none⟩), .int .u64 n, .int .i64 x] w fun e w' => e = .returned (.int .i64 0) ∧ ∃ v', Wr w' g v' (xs ++ leB x.toNat n.toNat) ∧ Fr (Wr.own g v) w w' ∧ Moved w.heap.size v v' := by
  obtain ⟨i0, hi, hz0, hz1, hz2⟩ := info_parts Tryz.infoB
  have hf : (n / 2 ^ (8 * x).toNat != 0) = false := by rw [hfit]; rfl
  clear hfit
  go_enter Tryz.func93, Tryz.ntmps93
  go_wp2_with fail
  refine (wThere_any g _ h.c0).mono ?_
  rintro e w' ⟨rfl, rfl⟩
  go_wp2_with fail
  refine (wide_yes _ _ hx1 hx8).mono ?_
  rintro e w' ⟨rfl, rfl⟩
  go_wp2
  clear hf
  obtain ⟨N, rfl⟩ := Int.eq_ofNat_of_zero_le hn0
  obtain ⟨X, rfl⟩ := Int.eq_ofNat_of_zero_le (show 0 ≤ x by omega)
  have hN : N < 2^64 := by omega
  have hXb : X ≤ 8 := by omega
  obtain ⟨zs, hzs⟩ : ∃ zs, zs = xs ++ leB X N := ⟨_, rfl⟩
  have hzl : zs.length < 2^40 + 10 := by rw [hzs, List.length_append, leB_length]; omega
  have E0 : Hid (zs = xs ++ leB X N) := hzs
  clear hzs hn0 hn
  go_loopw [1, 22] (fun vv ii wr => ∃ (m k : Nat) (v' : Value) (ys : List Nat), vv = .int .u64 m ∧ ii = .int .i64 k ∧ k ≤ X ∧ m < 2^64 ∧ Hid (zs = ys ++ leB (X - k) m) ∧ Wr wr g v' ys ∧ Fr (Wr.own g v) w wr ∧ Moved w.heap.size v v') (fun _ ii _ => X - (RowKit.intOf ii).toNat)
  case atStart => exact ⟨N, 0, v, xs, rfl, rfl, Nat.zero_le _, hN, E0, h, Fr.refl _ _, Moved.refl _ _⟩
  case round =>
    obtain ⟨m, k, v', ys, rfl, rfl, hk, hm, E, hW, hF, hM⟩ := hrel
    obtain ⟨ao, cap, hv⟩ := hW.shape
    obtain ⟨L, hL⟩ : ∃ L, L = ys.length := ⟨_, rfl⟩
    have hLs : L < 2^40 + 10 := by have := congrArg List.length E.out; simp only [List.length_append] at this; omega
    rw [← hL] at hv
    subst hv
    have HL : Hid (L = ys.length) := hL
    clear hL
    have HW : Hid (wr.ownsRow 0 5 1 (.slice ao L cap) L (bts ys)) := hW.owns HL.out
    have c1 := hW.c1
    have f1 := hW.f1
    have hgl := hW.lt
    by_cases hkX : k < X
    · go_wp2_with (at_builtin; refine wpList_app1 _ rfl (.tmp 28) (.tmp 31) 76 rfl 5 i0 (.int .u8 0) 1 1 Tryz.undBs hi hz0 hz1 hz2 rfl (by decide) _ L _ rfl (HW.out.alloc _) ⟨wr.heap.size, 0, none⟩ 1 [.int .u8 (m % 256)] rfl rfl ?c1 ?c2 ?c3 ?c4 ?_)
      case c1 => intro j u hj; match j, hj with | 0, hj => simp at hj; subst hj; simp [Addr.add]
      case c2 => intro u hu; simp at hu; subst hu; rfl
      case c3 => omega
      case c4 => unfold maxLen; omega
      intro g' cap' w1 hown hgrow hmov
      obtain ⟨k1, k2⟩ := hW.after hgrow
      obtain ⟨R1, R2, R3⟩ := hW.step (zs := [m % 256]) hF hM hown (by simp [HL.out]) (by rw [bts_append, mod8]; rfl) hgrow hmov (by omega)
      have HE : Hid (zs = (ys ++ [m % 256]) ++ leB (X - (k + 1)) (m / 256)) := by
        have := E.out
        rw [show X - k = (X - (k + 1)) + 1 by omega] at this
        show _ = _
        rw [this]; simp [leB]
      clear hown hgrow hmov HW c1 f1 hW
      go_wp2
      go_roundw
      case rel => exact ⟨m / 256, k + 1, _, _, by rw [shr8], by simp, by omega, by omega, HE, R1, R2, R3⟩
      case measure => simp [RowKit.intOf]; omega
    · have hkx : k = X := by omega
      have HE : Hid (zs = ys) := by have := E.out; rw [hkx, Nat.sub_self] at this; show _ = _; simpa [leB] using this
      clear E hkx
      go_wp2
      go_ret
      have e : xs ++ leB (X : Int).toNat (N : Int).toNat = ys := by rw [Int.toNat_natCast, Int.toNat_natCast, ← E0.out, HE.out]
      rw [e]
      exact ⟨rfl, _, hW, hF, hM⟩

set_option maxHeartbeats 1000000 in
set_option maxRecDepth 100000 in
theorem done_none (g : Nat) (v : Value) (w : World) (h : Wr w g v []) :
    Calls Tryz.prog 75 #[.pointer (some ⟨g, 0, none⟩)] w fun e w' => e = .returned (.slice none 0 0) ∧ w = w' := by
  obtain ⟨ao, cap, hv⟩ := h.shape
  subst hv
  have c1 := h.c1
  go_enter Tryz.func75, Tryz.ntmps75
  go_wp2_with fail
  refine (wThere_any g _ h.c0).mono ?_
  rintro e w' ⟨rfl, rfl⟩
  go_wp2
  go_ret
  exact ⟨rfl, rfl⟩

set_option maxHeartbeats 1000000 in
set_option maxRecDepth 100000 in
theorem done_some (g : Nat) (v : Value) (xs : List Nat) (w : World) (h : Wr w g v xs) (hx : 0 < xs.length) (hlen : xs.length < 2^41) :
    Calls Tryz.prog 75 #[.pointer (some ⟨g, 0, none⟩)] w fun e w' => e = .returned (.slice (some ⟨w.heap.size, 0, none⟩) xs.length xs.length) ∧ w'.heap[w.heap.size]? = some (.cells (bts xs).toArray 5 (0, 0)) ∧ Fr [] w w' := by
  obtain ⟨i0, hi, hz0, hz1, hz2⟩ := info_parts Tryz.infoB
  obtain ⟨ao, cap, hv⟩ := h.shape
  obtain ⟨L, hL⟩ : ∃ L, L = xs.length := ⟨_, rfl⟩
  rw [← hL] at hv hx hlen ⊢
  subst hv
  have HL : Hid (L = xs.length) := hL
  clear hL
  have hL0 : ((L : Int) == 0) = false := by rw [beq_eq_false_iff_ne]; omega
  have c1 := h.c1
  go_enter Tryz.func75, Tryz.ntmps75
  go_wp2_with fail
  refine (wThere_any g _ h.c0).mono ?_
  rintro e w' ⟨rfl, rfl⟩
  go_wp2_with (at_make; refine wpList_make_full _ rfl (.tmp 19) (.tmp 19) 76 rfl 0 5 i0 (.int .u8 0) 1 Tryz.undBs hi hz0 hz1 .i64 .i64 L L L rfl rfl rfl rfl ?b2 ?b3 ?b4 ?_)
  case b2 => rw [hz2]; omega
  case b3 => unfold maxLen; omega
  case b4 => exact Nat.zero_le _
  intro w1 hown hgrow
  obtain ⟨cur, hcur, hcs⟩ := own_lit hown
  have h' := h.after0' hgrow
  have c1' := h'.c1
  obtain ⟨a, rfl, hrow⟩ := h'.addr HL.out hx
  have hcl : (bts xs).length = L := by rw [bts_length, HL.out]
  have hcp := run_copy_row (P := Tryz.prog) w1 76 76 3 5 w.heap.size 0 L L a L cap cur 5 (bts xs) Tryz.undBs Tryz.sizeB hcur (by rw [hcl]; exact (Nat.min_self L).symm) hrow (by omega) (bts_oneCell xs)
  rw [hcl] at hcp
  have hcur2 : cur.toList.drop (0 + L) = [] := by simp [hcs]
  rw [hcur2, List.take_zero, List.append_nil, List.nil_append] at hcp
  have HF : Hid ((w1.setRow w.heap.size (bts xs).toArray).heap[w.heap.size]? = some (.cells (bts xs).toArray 5 (0, 0))) := setRow_heap w1 _ _ _ _ _ hcur
  clear hcur hown
  go_wp2
  go_ret
  refine ⟨rfl, HF.out, ?_⟩
  exact (Fr.grown (S := []) hgrow (by simp)).trans (T := [w.heap.size]) (Fr.setRow _ _ _) (by simp) (by intro x hx; simp at hx; omega)
theorem newWriter_wr (w0 w : World) (h : Fr [] w0 w) : Calls Tryz.prog 72 #[] w fun e w' => ∃ g, e = .returned (.pointer (some ⟨g, 0, none⟩)) ∧ w.heap.size ≤ g ∧ WB w0 w' g (.slice none 0 0) [] ∧ Fr [] w w' := by
  refine (newWriter_any w).mono ?_
  rintro e w' ⟨rfl, rfl⟩
  exact ⟨_, rfl, Nat.le_refl _, ⟨⟨heap_alloc_new w _, World.ownsRow_nil _ _ _ _⟩, h.then (Fr.alloc _ _ _), h.size, fun k hk => by simp [Value.ownBlock] at hk⟩, Fr.alloc _ _ _⟩
end Go.Proofs.YtdojhkgnnbdfkaaGreat

/- Contracts and plain lemmas of this claim. -/
import Derived.Test.YtembflnhhfliaaaGreatDoorGp1
import Derived.Laws.BitsAllLaws
import Derived.Laws.ShiftsVarLaws
set_option maxHeartbeats 2000000
set_option maxRecDepth 100000
namespace Go.Proofs.YtembflnhhfliaaaGreatDoor
open Go.ChangeShapes Go.WideShapes Go.ChangeAt Go.RowKit Go.Lib
def encF : Nat -> Nat -> List Nat
  | 0, n => [n % 128]
  | f + 1, n => if n < 128 then [n] else (128 + n % 128) :: encF f (n / 128)
def enc (n : Nat) : List Nat := encF 9 n
theorem zst (f : Nat) : ∀ n k, n < 128 ^ (f + 1) -> encF (f + k) n = encF f n := by
  induction f with
  | zero =>
    intro n k h
    cases k with
    | zero => rfl
    | succ k =>
      have h' : n < 128 := by simpa using h
      simp [encF, h', Nat.mod_eq_of_lt h']
  | succ f ih =>
    intro n k h
    rw [show f + 1 + k = (f + k) + 1 from by omega]
    simp only [encF]
    split
    · rfl
    · rw [ih]
      rw [Nat.pow_succ] at h
      omega
theorem zpp (n : Nat) (h : n < 128) : enc n = [n] := by simp [enc, encF, h]
theorem zmm (n : Nat) (h : 128 <= n) (h2 : n < 2 ^ 64) : enc n = (128 + n % 128) :: enc (n / 128) := by
  have : ¬ n < 128 := by omega
  simp only [enc]
  rw [show (9 : Nat) = 8 + 1 from rfl]
  conv => lhs; unfold encF
  rw [if_neg this]
  congr 1
  exact (zst 8 (n / 128) 1 (by omega)).symm
theorem zor (f : Nat) : ∀ n, 1 <= (encF f n).length /\ (encF f n).length <= f + 1 := by
  induction f with
  | zero => intro n; simp [encF]
  | succ f ih =>
    intro n
    simp only [encF]
    split
    · simp
    · have := ih (n / 128)
      simp only [List.length_cons]
      omega
theorem zal (n : Nat) : 1 <= (enc n).length /\ (enc n).length <= 10 := zor 9 n
theorem zxs (f : Nat) : ∀ n, ∀ x ∈ encF f n, x < 256 := by
  induction f with
  | zero => intro n x hx; simp [encF] at hx; omega
  | succ f ih =>
    intro n x hx
    simp only [encF] at hx
    split at hx
    · simp at hx; omega
    · rcases List.mem_cons.1 hx with rfl | hx
      · omega
      · exact ih _ x hx
theorem zem (n : Nat) : ∀ x ∈ enc n, x < 256 := zxs 9 n
theorem zzz (m : Nat) : bits .or .u8 ((m : Int) % 256) 128 = ((128 + m % 128 : Nat) : Int) := by
  have e : ((m : Int) % 256) = ((m % 256 : Nat) : Int) := by omega
  rw [e]
  have h : ∀ r : Fin 256, bits .or .u8 ((r.val : Nat) : Int) 128 = ((128 + r.val % 128 : Nat) : Int) := by decide +kernel
  have := h ⟨m % 256, by omega⟩
  simp only at this
  rw [this]
  omega
theorem shr7 (m : Nat) : (m : Int) / 128 = ((m / 128 : Nat) : Int) := by omega
def leB : Nat -> Nat -> List Nat
  | 0, _ => []
  | k + 1, n => n % 256 :: leB k (n / 256)
theorem zax (k : Nat) : ∀ n, (leB k n).length = k := by
  induction k with
  | zero => intro n; rfl
  | succ k ih => intro n; simp [leB, ih]
theorem zje (k : Nat) : ∀ n, ∀ x ∈ leB k n, x < 256 := by
  induction k with
  | zero => intro n x hx; simp [leB] at hx
  | succ k ih =>
    intro n x hx
    simp only [leB] at hx
    rcases List.mem_cons.1 hx with rfl | hx
    · omega
    · exact ih _ x hx
theorem shr8 (m : Nat) : (m : Int) / 256 = ((m / 256 : Nat) : Int) := by omega
theorem mod8 (m : Nat) : (m : Int) % 256 = ((m % 256 : Nat) : Int) := by omega
def zaa : Nat -> Nat -> List Nat -> Nat × Nat × Nat
  | _, _, [] => (0, 0, 5)
  | i, n, x :: r => if (i = 9 /\ 1 < x) \/ (0 < i /\ x = 0) then (0, 0, 4) else if x < 128 then (n + x * 128 ^ i, i + 1, 0) else zaa (i + 1) (n + x % 128 * 128 ^ i) r
theorem zcr (i n x : Nat) (r : List Nat) : zaa i n (x :: r) = if (i = 9 /\ 1 < x) \/ (0 < i /\ x = 0) then (0, 0, 4) else if x < 128 then (n + x * 128 ^ i, i + 1, 0) else zaa (i + 1) (n + x % 128 * 128 ^ i) r := rfl
theorem zaz (n : Int) : IntKind.u64.wrap n = n % 18446744073709551616 := by simp [IntKind.wrap, IntKind.bits, IntKind.signed]
theorem zsu (x : Nat) (hx : x < 256) : bits .andNot .u8 (x : Int) 128 = ((x % 128 : Nat) : Int) := by
  have h : ∀ r : Fin 256, bits .andNot .u8 ((r.val : Nat) : Int) 128 = ((r.val % 128 : Nat) : Int) := by decide +kernel
  exact h ⟨x, hx⟩
theorem zmn (i : Nat) : 128 ^ i = 2 ^ (7 * i) := by rw [show (128 : Nat) = 2 ^ 7 from rfl, <- Nat.pow_mul]
theorem zen (n y i : Nat) (hn : n < 128 ^ i) (hi : i <= 9) (hy : y < 128) (h9 : i = 9 -> y <= 1) : y * 128 ^ i <= 9223372036854775808 /\ n + y * 128 ^ i < 128 ^ (i + 1) /\ n + y * 128 ^ i < 18446744073709551616 := by
  have e : 128 ^ (i + 1) = 128 * 128 ^ i := by rw [Nat.pow_succ, Nat.mul_comm]
  have hyi : y * 128 ^ i <= 127 * 128 ^ i := Nat.mul_le_mul_right _ (by omega)
  by_cases h : i = 9
  · subst h
    have := h9 rfl
    have e9 : (128 : Nat) ^ 9 = 9223372036854775808 := by decide
    rw [e9] at *
    have : y * 9223372036854775808 <= 1 * 9223372036854775808 := Nat.mul_le_mul_right _ this
    omega
  · have hp : 128 ^ i <= 128 ^ 8 := Nat.pow_le_pow_right (by decide) (by omega)
    have e8 : (128 : Nat) ^ 8 = 72057594037927936 := by decide
    rw [e8] at hp
    omega
theorem grp (n x i : Nat) (hn : n < 128 ^ i) (hi : i <= 9) (hx : x < 256) (h9 : i = 9 -> x % 128 <= 1) :
    bits BinOp.or IntKind.u64 (n : Int) (IntKind.u64.wrap (IntKind.u64.wrap (bits BinOp.andNot IntKind.u8 (x : Int) 128) * 2 ^ (7 * i))) = ((n + x % 128 * 128 ^ i : Nat) : Int) := by
  have hb := zen n (x % 128) i hn hi (by omega) h9
  rw [zsu x hx, zaz, zaz]
  have e1 : (((x % 128 : Nat) : Int) % 18446744073709551616) = ((x % 128 : Nat) : Int) := by omega
  rw [e1]
  have e2 : (((x % 128 : Nat) : Int) * 2 ^ (7 * i)) = ((x % 128 * 128 ^ i : Nat) : Int) := by rw [zmn]; simp
  rw [e2]
  have e3 : (((x % 128 * 128 ^ i : Nat) : Int) % 18446744073709551616) = ((x % 128 * 128 ^ i : Nat) : Int) := by omega
  rw [e3, u64_or_nat _ _ (by omega) (by omega)]
  rw [Nat.or_comm, nat_join (7 * i) _ _ (by rw [zmn]; exact Nat.mul_mod_left _ _) (by rw [<- zmn]; exact hn), Nat.add_comm]
theorem zbs : ∀ (xs : List Nat) (i n : Nat), (zaa i n xs).2.2 = 0 -> 0 < xs.length /\ i < (zaa i n xs).2.1 /\ (zaa i n xs).2.1 <= i + xs.length := by
  intro xs
  induction xs with
  | nil => intro i n h; simp [zaa] at h
  | cons x r ih =>
    intro i n h
    rw [zcr] at h ⊢
    split at h
    · simp at h
    · rename_i h1
      rw [if_neg h1]
      split at h
      · rename_i h2
        rw [if_pos h2]
        simp only [List.length_cons]
        omega
      · rename_i h2
        rw [if_neg h2]
        have := ih _ _ h
        simp only [List.length_cons]
        omega
theorem zjf : ∀ (xs : List Nat) (i n : Nat), i <= 9 -> n < 128 ^ i -> (∀ x ∈ xs, x < 256) -> (zaa i n xs).1 < 2 ^ 64 := by
  intro xs
  induction xs with
  | nil => intro i n _ _ _; simp [zaa]
  | cons x r ih =>
    intro i n hi hn hb
    rw [zcr]
    have hx := hb x (by simp)
    split
    · simp
    · rename_i h1
      split
      · rename_i h2
        have := (zen n x i hn hi h2 (by omega)).2.2
        simp only
        omega
      · rename_i h2
        have h9 : i ≠ 9 := by omega
        have := zen n (x % 128) i hn hi (by omega) (by omega)
        exact ih _ _ (by omega) this.2.1 (fun y hy => hb y (by simp [hy]))
def toBA (xs : List Nat) : ByteArray := ⟨(xs.map UInt8.ofNat).toArray⟩
theorem zsv (xs : List Nat) : (xs.map (fun (x : Nat) => (x : Int))).foldl (fun r n => r.push (UInt8.ofNat n.toNat)) ByteArray.empty = toBA xs := by
  have h : ∀ (xs : List Nat) (b : ByteArray), (xs.map (fun (x : Nat) => (x : Int))).foldl (fun r n => r.push (UInt8.ofNat n.toNat)) b = ⟨b.data ++ (xs.map UInt8.ofNat).toArray⟩ := by
    intro xs
    induction xs with
    | nil => intro b; simp
    | cons x r ih =>
      intro b
      simp only [List.map_cons, List.foldl_cons]
      rw [ih]
      congr 1
      simp [ByteArray.push]
  rw [h]
  simp [toBA]
theorem zqm (xs : List Nat) (hb : ∀ x ∈ xs, x < 256) : zbf (toBA xs) = xs := by
  simp only [zbf, toBA, List.map_map]
  have : ∀ x ∈ xs, (fun b : UInt8 => b.toNat) (UInt8.ofNat x) = x := fun x hx => by simp [Nat.mod_eq_of_lt (hb x hx)]
  rw [List.map_congr_left (g := id)]
  · simp
  · intro x hx; exact this x hx
theorem zle (xs : List Nat) : (toBA xs).size = xs.length := by
  show (xs.map UInt8.ofNat).toArray.size = _
  simp
def zao (most : Int) (xs : List Nat) : ByteArray × Nat × Nat :=
  if most < 0 then (⟨#[]⟩, 0, 1)
  else if (zaa 0 0 xs).2.2 ≠ 0 then (⟨#[]⟩, 0, (zaa 0 0 xs).2.2)
  else if most < ((zaa 0 0 xs).1 : Int) then (⟨#[]⟩, 0, 3)
  else if xs.length - (zaa 0 0 xs).2.1 < (zaa 0 0 xs).1 then (⟨#[]⟩, 0, 5)
  else (toBA ((xs.drop (zaa 0 0 xs).2.1).take (zaa 0 0 xs).1), (zaa 0 0 xs).2.1 + (zaa 0 0 xs).1, 0)
def leN : List Nat -> Nat
  | [] => 0
  | x :: r => x + 256 * leN r
def fixF (width : Int) (xs : List Nat) : Nat × Nat × Nat :=
  if width < 1 \/ 8 < width then (0, 0, 1)
  else if (xs.length : Int) < width then (0, 0, 5)
  else (leN (xs.take width.toNat), width.toNat, 0)
theorem zsw : ∀ (xs : List Nat), (∀ x ∈ xs, x < 256) -> leN xs < 256 ^ xs.length := by
  intro xs
  induction xs with
  | nil => intro _; simp [leN]
  | cons x r ih =>
    intro hb
    have h1 := ih (fun y hy => hb y (by simp [hy]))
    have h2 := hb x (by simp)
    simp only [leN, List.length_cons, Nat.pow_succ]
    omega
theorem zmo : ∀ (xs : List Nat) (y : Nat), leN (xs ++ [y]) = leN xs + y * 256 ^ xs.length := by
  intro xs
  induction xs with
  | nil => intro y; simp [leN]
  | cons x r ih =>
    intro y
    simp only [List.cons_append, leN, ih, List.length_cons, Nat.pow_succ]
    rw [Nat.mul_add, <- Nat.mul_assoc, Nat.mul_comm 256 y, Nat.mul_assoc, Nat.mul_comm 256 (256 ^ r.length)]
    omega
theorem zhv : ∀ (k n : Nat), n < 256 ^ k -> leN (leB k n) = n := by
  intro k
  induction k with
  | zero => intro n h; simp at h; simp [leB, leN, h]
  | succ k ih =>
    intro n h
    rw [Nat.pow_succ] at h
    simp only [leB, leN]
    rw [ih _ (by omega)]
    omega
theorem zmp (i : Nat) : 256 ^ i = 2 ^ (8 * i) := by rw [show (256 : Nat) = 2 ^ 8 from rfl, <- Nat.pow_mul]
theorem byt (n x i : Nat) (hn : n < 256 ^ i) (hi : i <= 7) (hx : x < 256) :
    bits BinOp.or IntKind.u64 (n : Int) (IntKind.u64.wrap ((x : Int) * 2 ^ (8 * i))) = ((n + x * 256 ^ i : Nat) : Int) /\ n + x * 256 ^ i < 256 ^ (i + 1) := by
  have e : 256 ^ (i + 1) = 256 * 256 ^ i := by rw [Nat.pow_succ, Nat.mul_comm]
  have hxi : x * 256 ^ i <= 255 * 256 ^ i := Nat.mul_le_mul_right _ (by omega)
  have hp : 256 ^ i <= 256 ^ 7 := Nat.pow_le_pow_right (by decide) (by omega)
  have e7 : (256 : Nat) ^ 7 = 72057594037927936 := by decide
  rw [e7] at hp
  refine ⟨?_, by omega⟩
  have e2 : ((x : Int) * 2 ^ (8 * i)) = ((x * 256 ^ i : Nat) : Int) := by rw [zmp]; simp
  rw [e2, zaz]
  have e3 : (((x * 256 ^ i : Nat) : Int) % 18446744073709551616) = ((x * 256 ^ i : Nat) : Int) := by omega
  rw [e3, u64_or_nat _ _ (by omega) (by omega)]
  rw [Nat.or_comm, nat_join (8 * i) _ _ (by rw [zmp]; exact Nat.mul_mod_left _ _) (by rw [<- zmp]; exact hn), Nat.add_comm]
theorem zmd (w : World) : Calls Tryz.prog 123 #[] w fun e w' => e = .returned (.pointer (some ⟨w.heap.size, 0, none⟩)) /\ w' = w.alloc (.cells #[.bool true, .slice none 0 0] 210) := by
  go_enter Tryz.func123, Tryz.ntmps123
  go_wp2
  go_ret
  exact ⟨rfl, rfl⟩
theorem zec (g : Nat) (w : World) (h : w.cell? ⟨g, 0, none⟩ = some (.bool true)) : Calls Tryz.prog 156 #[.pointer (some ⟨g, 0, none⟩)] w fun e w' => e = .returned (.bool true) /\ w = w' := by
  go_enter Tryz.func156, Tryz.ntmps156
  go_wp2
  go_ret
  exact ⟨rfl, rfl⟩
theorem zpq (g : Nat) (v : Value) (xs : List Nat) (n : Int) (w : World) (h : Wr w g v xs) (hn0 : 0 <= n) (hn : n < 2^64) (hlen : xs.length < 2^40) :
    Calls Tryz.prog 153 #[.pointer (some ⟨g, 0, none⟩), .int .u64 n] w fun e w' => e = .returned (.tuple #[]) /\ ∃ v', Wr w' g v' (xs ++ enc n.toNat) /\ Fr (Wr.own g v) w w' /\ Moved w.heap.size v v' := by
  obtain ⟨i0, hi, hz0, hz1, hz2⟩ := info_parts Tryz.infoB
  obtain ⟨N, rfl⟩ := Int.eq_ofNat_of_zero_le hn0
  have hN : N < 2^64 := by omega
  rw [Int.toNat_natCast]
  have hlen0 := zal N
  obtain ⟨zs, hzs⟩ : ∃ zs, zs = xs ++ enc N := ⟨_, rfl⟩
  rw [<- hzs]
  have hzl : zs.length < 2^40 + 10 := by rw [hzs, List.length_append]; omega
  have E0 : Hid (zs = xs ++ enc N) := hzs
  clear hzs hn0 hn
  go_enter Tryz.func153, Tryz.ntmps153
  go_wp2_with (go_at_call 156; refine (zec g _ h.c0).mono ?_; rintro e w' ⟨rfl, rfl⟩)
  go_loopw [1] (fun vv wr => ∃ (m : Nat) (v' : Value) (ys : List Nat), vv = .int .u64 m /\ m < 2^64 /\ Hid (zs = ys ++ enc m) /\ Wr wr g v' ys /\ Fr (Wr.own g v) w wr /\ Moved w.heap.size v v') (fun vv _ => (RowKit.intOf vv).toNat)
  case atStart => exact ⟨N, v, xs, rfl, hN, E0, h, Fr.refl _ _, Moved.refl _ _⟩
  case round =>
    obtain ⟨m, v', ys, rfl, hm, E, hW, hF, hM⟩ := hrel
    obtain ⟨ao, cap, hv⟩ := hW.shape
    obtain ⟨L, hL⟩ : ∃ L, L = ys.length := ⟨_, rfl⟩
    have hLs : L < 2^40 + 10 := by have := congrArg List.length E.out; simp only [List.length_append] at this; omega
    rw [<- hL] at hv
    subst hv
    have HL : Hid (L = ys.length) := hL
    clear hL
    have HW : Hid (wr.ownsRow 0 5 1 (.slice ao L cap) L (bts ys)) := by rw [HL.out]; have := hW.row; rw [HL.out] at this; exact this
    have c1 := hW.c1
    have f1 := hW.f1
    have hgl := hW.lt
    by_cases h128 : 128 <= m
    · go_wp2_with (at_builtin; refine zbj _ rfl (.tmp 13) (.tmp 17) 58 rfl 5 i0 (.int .u8 0) 1 1 Tryz.undBs hi hz0 hz1 hz2 rfl (by decide) _ L _ rfl (HW.out.alloc _) ⟨wr.heap.size, 0, none⟩ 1 [.int .u8 (bits BinOp.or IntKind.u8 (m % 256) 128)] rfl rfl ?c1 ?c2 ?c3 ?c4 ?_)
      case c1 => intro j u hj; match j, hj with | 0, hj => simp at hj; subst hj; simp [Addr.add]
      case c2 => intro u hu; simp at hu; subst hu; rfl
      case c3 => omega
      case c4 => unfold maxLen; omega
      intro g' cap' w1 hown hgrow hmov
      obtain ⟨k1, k2⟩ := hW.after hgrow
      obtain ⟨R1, R2, R3⟩ := hW.step (zs := [128 + m % 128]) hF hM hown (by simp [HL.out]) (by rw [zap, zzz]; rfl) hgrow hmov (by omega)
      have HE : Hid (zs = (ys ++ [128 + m % 128]) ++ enc (m / 128)) := by have := E.out; rw [zmm m h128 hm] at this; show _ = _; rw [this]; simp
      clear hown hgrow hmov HW c1 f1 hW
      go_wp2
      go_roundw
      case rel => exact ⟨m / 128, _, _, by rw [shr7], by omega, HE, R1, R2, R3⟩
      case measure => simp [RowKit.intOf]; omega
    · go_wp2_with (at_builtin; refine zbj _ rfl (.tmp 27) (.tmp 30) 58 rfl 5 i0 (.int .u8 0) 1 1 Tryz.undBs hi hz0 hz1 hz2 rfl (by decide) _ L _ rfl (HW.out.alloc _) ⟨wr.heap.size, 0, none⟩ 1 [.int .u8 m] rfl rfl ?c1 ?c2 ?c3 ?c4 ?_)
      case c1 => intro j u hj; match j, hj with | 0, hj => simp at hj; subst hj; simp [Addr.add]
      case c2 => intro u hu; simp at hu; subst hu; rfl
      case c3 => omega
      case c4 => unfold maxLen; omega
      intro g' cap' w1 hown hgrow hmov
      obtain ⟨k1, k2⟩ := hW.after hgrow
      obtain ⟨R1, R2, R3⟩ := hW.step (zs := [m]) hF hM hown (by simp [HL.out]) (by rw [zap]; rfl) hgrow hmov (by omega)
      have HE : Hid (zs = ys ++ [m]) := by have := E.out; rw [zpp m (by omega)] at this; exact this
      clear hown hgrow hmov HW c1 f1 hW
      go_wp2
      go_end0
      rw [HE.out]
      exact ⟨rfl, _, R1, R2, R3⟩
theorem zvj (g : Nat) (v : Value) (xs : List Nat) (s : ByteArray) (w : World) (h : Wr w g v xs) (hlen : xs.length < 2^40) (hs : s.size < 2^40) :
    Calls Tryz.prog 154 #[.pointer (some ⟨g, 0, none⟩), .string s] w fun e w' => e = .returned (.tuple #[]) /\ ∃ v', Wr w' g v' (xs ++ (enc s.size ++ zbf s)) /\ Fr (Wr.own g v) w w' /\ Moved w.heap.size v v' := by
  obtain ⟨i0, hi, hz0, hz1, hz2⟩ := info_parts Tryz.infoB
  go_enter Tryz.func154, Tryz.ntmps154
  go_wp2_with fail
  refine (zec g _ h.c0).mono ?_
  rintro e w' ⟨rfl, rfl⟩
  go_wp2_with fail
  refine (zpq g v xs (s.size : Nat) _ h (by omega) (by omega) hlen).mono ?_
  rintro e w1 ⟨rfl, v1, hW, hF, hM⟩
  rw [Int.toNat_natCast] at hW
  have hel := zal s.size
  obtain ⟨ys, hys⟩ : ∃ ys, ys = xs ++ enc s.size := ⟨_, rfl⟩
  have hyl : ys.length < 2^40 + 11 := by rw [hys, List.length_append]; omega
  rw [<- hys] at hW
  have HY : Hid (ys = xs ++ enc s.size) := hys
  clear hys
  obtain ⟨ao, cap, hv⟩ := hW.shape
  obtain ⟨L, hL⟩ : ∃ L, L = ys.length := ⟨_, rfl⟩
  rw [<- hL] at hv
  subst hv
  have hLs : L < 2^40 + 11 := by omega
  have HL : Hid (L = ys.length) := hL
  clear hL
  have HW : Hid (w1.ownsRow 0 5 1 (.slice ao L cap) L (bts ys)) := hW.owns HL.out
  have c1 := hW.c1
  have f1 := hW.f1
  have hgl := hW.lt
  go_wp2_with (at_builtin; refine zoq _ rfl (.tmp 16) (.tmp 17) 58 9 rfl 5 i0 Tryz.undBs Tryz.undStr hi hz0 hz1 hz2 _ L _ rfl HW.out s rfl ?c3 ?c4 ?_)
  case c3 => omega
  case c4 => unfold maxLen; omega
  intro ao2 n2 cap2 w2 hn2 hown hgrow hmov
  obtain ⟨k1, k2⟩ := hW.after0 hgrow
  obtain ⟨R1, R2, R3⟩ := hW.step0 (zs := zbf s) hF hM hown (by rw [hn2, HL.out, List.length_append, zcj]) (by rw [zap, zss]) hgrow hmov
  clear hown hgrow hmov HW c1 f1 hW hn2
  go_wp2
  go_end0
  rw [HY.out, List.append_assoc] at R1
  exact ⟨rfl, _, R1, R2, R3⟩
theorem ziv (x : Int) (w : World) (h0 : 1 <= x) (h1 : x <= 8) :
    Calls Tryz.prog 184 #[.int .i64 x] w fun e w' => e = .returned (.bool true) /\ w = w' := by
  go_enter Tryz.func184, Tryz.ntmps184
  go_wp2
  go_ret
  exact ⟨rfl, rfl⟩
theorem zxt (x : Int) (w : World) (h0 : x < 1 \/ 8 < x) :
    Calls Tryz.prog 184 #[.int .i64 x] w fun e w' => e = .returned (.bool false) /\ w = w' := by
  rcases h0 with h0 | h0
  · go_enter Tryz.func184, Tryz.ntmps184
    go_wp2
    go_ret
    exact ⟨rfl, rfl⟩
  · have h1 : 1 <= x := by omega
    have h2 : decide (x <= 8) = false := by simp; omega
    go_enter Tryz.func184, Tryz.ntmps184
    go_wp2
    go_ret
    exact ⟨by simp, rfl⟩
theorem zsx (g : Nat) (v : Value) (xs : List Nat) (n x : Int) (w : World) (h : Wr w g v xs) (hn0 : 0 <= n) (hn : n < 2^64) (hx1 : 1 <= x) (hx8 : x <= 8) (hfit : n / 2 ^ (8 * x).toNat = 0) (hlen : xs.length < 2^40) :
    Calls Tryz.prog 155 #[.pointer (some ⟨g, 0, none⟩), .int .u64 n, .int .i64 x] w fun e w' => e = .returned (.int .i64 0) /\ ∃ v', Wr w' g v' (xs ++ leB x.toNat n.toNat) /\ Fr (Wr.own g v) w w' /\ Moved w.heap.size v v' := by
  obtain ⟨i0, hi, hz0, hz1, hz2⟩ := info_parts Tryz.infoB
  have hf : (n / 2 ^ (8 * x).toNat != 0) = false := by rw [hfit]; rfl
  clear hfit
  go_enter Tryz.func155, Tryz.ntmps155
  go_wp2_with fail
  refine (zec g _ h.c0).mono ?_
  rintro e w' ⟨rfl, rfl⟩
  go_wp2_with fail
  refine (ziv _ _ hx1 hx8).mono ?_
  rintro e w' ⟨rfl, rfl⟩
  go_wp2
  clear hf
  obtain ⟨N, rfl⟩ := Int.eq_ofNat_of_zero_le hn0
  obtain ⟨X, rfl⟩ := Int.eq_ofNat_of_zero_le (show 0 <= x by omega)
  have hN : N < 2^64 := by omega
  have hXb : X <= 8 := by omega
  obtain ⟨zs, hzs⟩ : ∃ zs, zs = xs ++ leB X N := ⟨_, rfl⟩
  have hzl : zs.length < 2^40 + 10 := by rw [hzs, List.length_append, zax]; omega
  have E0 : Hid (zs = xs ++ leB X N) := hzs
  clear hzs hn0 hn
  go_loopw [1, 22] (fun vv ii wr => ∃ (m k : Nat) (v' : Value) (ys : List Nat), vv = .int .u64 m /\ ii = .int .i64 k /\ k <= X /\ m < 2^64 /\ Hid (zs = ys ++ leB (X - k) m) /\ Wr wr g v' ys /\ Fr (Wr.own g v) w wr /\ Moved w.heap.size v v') (fun _ ii _ => X - (RowKit.intOf ii).toNat)
  case atStart => exact ⟨N, 0, v, xs, rfl, rfl, Nat.zero_le _, hN, E0, h, Fr.refl _ _, Moved.refl _ _⟩
  case round =>
    obtain ⟨m, k, v', ys, rfl, rfl, hk, hm, E, hW, hF, hM⟩ := hrel
    obtain ⟨ao, cap, hv⟩ := hW.shape
    obtain ⟨L, hL⟩ : ∃ L, L = ys.length := ⟨_, rfl⟩
    have hLs : L < 2^40 + 10 := by have := congrArg List.length E.out; simp only [List.length_append] at this; omega
    rw [<- hL] at hv
    subst hv
    have HL : Hid (L = ys.length) := hL
    clear hL
    have HW : Hid (wr.ownsRow 0 5 1 (.slice ao L cap) L (bts ys)) := hW.owns HL.out
    have c1 := hW.c1
    have f1 := hW.f1
    have hgl := hW.lt
    by_cases hkX : k < X
    · go_wp2_with (at_builtin; refine zbj _ rfl (.tmp 28) (.tmp 31) 58 rfl 5 i0 (.int .u8 0) 1 1 Tryz.undBs hi hz0 hz1 hz2 rfl (by decide) _ L _ rfl (HW.out.alloc _) ⟨wr.heap.size, 0, none⟩ 1 [.int .u8 (m % 256)] rfl rfl ?c1 ?c2 ?c3 ?c4 ?_)
      case c1 => intro j u hj; match j, hj with | 0, hj => simp at hj; subst hj; simp [Addr.add]
      case c2 => intro u hu; simp at hu; subst hu; rfl
      case c3 => omega
      case c4 => unfold maxLen; omega
      intro g' cap' w1 hown hgrow hmov
      obtain ⟨k1, k2⟩ := hW.after hgrow
      obtain ⟨R1, R2, R3⟩ := hW.step (zs := [m % 256]) hF hM hown (by simp [HL.out]) (by rw [zap, mod8]; rfl) hgrow hmov (by omega)
      have HE : Hid (zs = (ys ++ [m % 256]) ++ leB (X - (k + 1)) (m / 256)) := by
        have := E.out
        rw [show X - k = (X - (k + 1)) + 1 by omega] at this
        show _ = _
        rw [this]; simp [leB]
      clear hown hgrow hmov HW c1 f1 hW
      go_wp2
      go_roundw
      case rel => exact ⟨m / 256, k + 1, _, _, by rw [shr8], by simp, by omega, by omega, HE, R1, R2, R3⟩
      case measure => simp [RowKit.intOf]; omega
    · have hkx : k = X := by omega
      have HE : Hid (zs = ys) := by have := E.out; rw [hkx, Nat.sub_self] at this; show _ = _; simpa [leB] using this
      clear E hkx
      go_wp2
      go_ret
      have e : xs ++ leB (X : Int).toNat (N : Int).toNat = ys := by rw [Int.toNat_natCast, Int.toNat_natCast, <- E0.out, HE.out]
      rw [e]
      exact ⟨rfl, _, hW, hF, hM⟩
theorem zsy (g : Nat) (v : Value) (xs : List Nat) (w : World) (h : Wr w g v xs) (hx : 0 < xs.length) (hlen : xs.length < 2^41) :
    Calls Tryz.prog 126 #[.pointer (some ⟨g, 0, none⟩)] w fun e w' => e = .returned (.slice (some ⟨w.heap.size, 0, none⟩) xs.length xs.length) /\ w'.heap[w.heap.size]? = some (.cells (bts xs).toArray 5 (0, 0)) /\ Fr [] w w' := by
  obtain ⟨i0, hi, hz0, hz1, hz2⟩ := info_parts Tryz.infoB
  obtain ⟨ao, cap, hv⟩ := h.shape
  obtain ⟨L, hL⟩ : ∃ L, L = xs.length := ⟨_, rfl⟩
  rw [<- hL] at hv hx hlen ⊢
  subst hv
  have HL : Hid (L = xs.length) := hL
  clear hL
  have hL0 : ((L : Int) == 0) = false := by rw [beq_eq_false_iff_ne]; omega
  have c1 := h.c1
  go_enter Tryz.func126, Tryz.ntmps126
  go_wp2_with fail
  refine (zec g _ h.c0).mono ?_
  rintro e w' ⟨rfl, rfl⟩
  go_wp2_with (at_make; refine wpList_make_full _ rfl (.tmp 19) (.tmp 19) 58 rfl 0 5 i0 (.int .u8 0) 1 Tryz.undBs hi hz0 hz1 .i64 .i64 L L L rfl rfl rfl rfl ?b2 ?b3 ?b4 ?_)
  case b2 => rw [hz2]; omega
  case b3 => unfold maxLen; omega
  case b4 => exact Nat.zero_le _
  intro w1 hown hgrow
  obtain ⟨cur, hcur, hcs⟩ := zpo hown
  have h' := h.after0' hgrow
  have c1' := h'.c1
  obtain ⟨a, rfl, hrow⟩ := h'.addr HL.out hx
  have hcl : (bts xs).length = L := by rw [zac, HL.out]
  have hcp := run_copy_row (P := Tryz.prog) w1 58 58 3 5 w.heap.size 0 L L a L cap cur 5 (bts xs) Tryz.undBs Tryz.sizeB hcur (by rw [hcl]; exact (Nat.min_self L).symm) hrow (by omega) (zcd xs)
  rw [hcl] at hcp
  have hcur2 : cur.toList.drop (0 + L) = [] := by simp [hcs]
  rw [hcur2, List.take_zero, List.append_nil, List.nil_append] at hcp
  have HF : Hid ((w1.setRow w.heap.size (bts xs).toArray).heap[w.heap.size]? = some (.cells (bts xs).toArray 5 (0, 0))) := setRow_heap w1 _ _ _ _ _ hcur
  clear hcur hown
  go_wp2
  go_ret
  refine ⟨rfl, HF.out, ?_⟩
  exact (Fr.grown (S := []) hgrow (by simp)).trans (T := [w.heap.size]) (Fr.setRow _ _ _) (by simp) (by intro x hx; simp at hx; omega)
theorem zmq (w0 w : World) (h : Fr [] w0 w) : Calls Tryz.prog 123 #[] w fun e w' => ∃ g, e = .returned (.pointer (some ⟨g, 0, none⟩)) /\ w.heap.size <= g /\ WB w0 w' g (.slice none 0 0) [] /\ Fr [] w w' := by
  refine (zmd w).mono ?_
  rintro e w' ⟨rfl, rfl⟩
  exact ⟨_, rfl, Nat.le_refl _, ⟨⟨heap_alloc_new w _, World.ownsRow_nil _ _ _ _⟩, h.then (Fr.alloc _ _ _), h.size, fun k hk => by simp [Value.ownBlock] at hk⟩, Fr.alloc _ _ _⟩
end Go.Proofs.YtembflnhhfliaaaGreatDoor

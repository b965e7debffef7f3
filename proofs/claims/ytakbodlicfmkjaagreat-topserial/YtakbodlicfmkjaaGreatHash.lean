/- What Hash answers, and the document's Hash. Conditions: a key of fewer than 2^62 bytes. -/
import Derived.Test.YtakbodlicfmkjaaGreatArg
import Derived.Laws.BitsAllLaws
namespace Go.Proofs.YtakbodlicfmkjaaGreat
open Go.ChangeShapes Go.WideShapes Go.ChangeAt Go.RowKit Go.Lib

/-- The hash of a key. -/
def stepH (h x : Nat) : Nat := ((h ^^^ x) * 16777619) % 4294967296
def hashOf (xs : List Nat) : Nat := xs.foldl stepH 2166136261
theorem foldl_snoc {α β : Type} (f : α → β → α) (a : α) (xs : List β) (x : β) : (xs ++ [x]).foldl f a = f (xs.foldl f a) x := by simp
theorem foldl_below {β : Type} (f : Nat → β → Nat) (B a : Nat) (xs : List β) (h : a < B) (hf : ∀ a x, f a x < B) : xs.foldl f a < B := by
  induction xs generalizing a with
  | nil => exact h
  | cons x l ih => exact ih _ (hf a x)
theorem hashOf_snoc (xs : List Nat) (x : Nat) : hashOf (xs ++ [x]) = stepH (hashOf xs) x := foldl_snoc stepH _ xs x
theorem stepH_lt (a x : Nat) : stepH a x < 4294967296 := Nat.mod_lt _ (by decide)
theorem hashOf_lt (xs : List Nat) : hashOf xs < 4294967296 := foldl_below stepH _ _ xs (by decide) stepH_lt
theorem alive_hash : hashOf [102, 111, 111, 98, 97, 114] = 3214735720 := by decide +kernel
theorem take_snoc (xs : List Nat) (i x : Nat) (h : i < xs.length) (hx : x = xs.getD i 0) : xs.take (i + 1) = xs.take i ++ [x] := by
  have hget : xs[i]? = some x := by rw [hx, List.getD, List.getElem?_eq_getElem h]; rfl
  rw [List.take_add_one, hget]
  rfl
theorem strNs_getD (s : ByteArray) (i : Nat) (h : i < s.size) : (strNs s).getD i 0 = s[i].toNat := by
  have hl : i < (strNs s).length := by rw [strNs_length]; exact h
  rw [show (strNs s).getD i 0 = (strNs s)[i] from by simp [List.getD, hl]]
  simp only [strNs, List.getElem_map, Array.getElem_toList]
  rfl
theorem step_int (c x : Nat) (hc : c < 4294967296) (hx : x < 256) : bits .xor .u32 (c : Int) ((x : Int) % 4294967296) * 16777619 % 4294967296 = ((stepH c x : Nat) : Int) := by
  have e : (x : Int) % 4294967296 = (x : Int) := by omega
  rw [e, u32_xor_nat c x hc (by omega), stepH]
  simp

set_option maxHeartbeats 2000000 in
set_option maxRecDepth 100000 in
theorem hash_any (m : Nat) (s : ByteArray) (w : World) (hs : s.size ≤ 9223372036854775807) (hm : hashOf (strNs s) = m) :
    Calls Tryz.prog 171 #[.string s] w fun e w' => e = .returned (.int .u32 (m : Int)) ∧ w = w' := by
  have HM : Hid (hashOf (strNs s) = m) := hm
  clear hm
  obtain ⟨xs, HX⟩ : ∃ xs, Hid (xs = strNs s) := ⟨_, rfl⟩
  have HL : Hid (s.size = xs.length) := by show _ = _; rw [HX.out, strNs_length]
  go_enter Tryz.func171, Tryz.ntmps171
  go_wp2_with fail
  go_loop [3, 7] (fun cc ii => ∃ (c i : Nat), cc = .int .u32 (c : Int) ∧ ii = .int .i64 i ∧ i ≤ s.size ∧ c < 4294967296 ∧ Hid (c = hashOf (xs.take i))) (fun _ ii => s.size - (intOf ii).toNat)
  case atStart => exact ⟨2166136261, 0, rfl, rfl, Nat.zero_le _, by omega, rfl⟩
  case round =>
    obtain ⟨c, i, rfl, rfl, hi, hc, HR⟩ := hrel
    by_cases hiL : i < s.size
    · have HV : Hid (bits .xor .u32 (c : Int) ((s[i].toNat : Int) % 4294967296) * 16777619 % 4294967296 = ((stepH c s[i].toNat : Nat) : Int)) := step_int c _ hc s[i].toNat_lt
      have HS : Hid (stepH c s[i].toNat = hashOf (xs.take (i + 1))) := by
        show _ = _
        rw [take_snoc xs i s[i].toNat (by rw [← HL.out]; exact hiL) (by rw [HX.out, strNs_getD s i hiL]), hashOf_snoc, ← HR.out]
      have hlt := stepH_lt c s[i].toNat
      go_wp2_with fail
      go_round
      case rel => exact ⟨stepH c s[i].toNat, i + 1, by rw [← HV.out], by simp, by omega, hlt, HS⟩
      case measure => simp [intOf]; omega
    · obtain hie : i = s.size := by omega
      have HM' : Hid (c = m) := by
        show _ = _
        rw [HR.out, ← HM.out, List.take_of_length_le (by rw [← HL.out]; omega), HX.out]
      clear hie
      go_wp2_with fail
      go_ret
      rw [HM'.out]
      exact ⟨rfl, rfl⟩

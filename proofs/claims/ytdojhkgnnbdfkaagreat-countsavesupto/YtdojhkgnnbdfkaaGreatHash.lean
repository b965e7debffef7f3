/- What Hash answers, and the document's Hash. Conditions: a key of fewer than 2^62 bytes. -/
import Derived.Test.YtdojhkgnnbdfkaaGreatArg
import Derived.Laws.BitsAllLaws
namespace Go.Proofs.YtdojhkgnnbdfkaaGreat
open Go.ChangeShapes Go.WideShapes Go.ChangeAt Go.RowKit Go.Lib

/-- The hash of a key. -/
def stepH (h x : Nat) : Nat := ((h ^^^ x) * 16777619) % 4294967296
def hashOf (xs : List Nat) : Nat := xs.foldl stepH 2166136261
theorem foldl_snoc {α β : Type} (f : α → β → α) (a : α) (xs : List β) (x : β) : (xs ++ [x]).foldl f a = f (xs.foldl f a) x := by simp
theorem foldl_below {β : Type} (f : Nat → β → Nat) (B a : Nat) (xs : List β) (h : a < B) (hf : ∀ a x, f a x < B) : xs.foldl f a < B := by
  induction xs generalizing a with
  | nil => exact h
  | cons x l ih => exact ih _ (hf a x)
theorem hashOf_snoc (xs : List Nat) (x : Nat) : hashOf (xs ++ [x]) = stepH (hashOf xs) x := foldl_snoc stepH _ xs x
theorem stepH_lt (a x : Nat) : stepH a x < 4294967296 := Nat.mod_lt _ (by decide)
theorem hashOf_lt (xs : List Nat) : hashOf xs < 4294967296 := foldl_below stepH _ _ xs (by decide) stepH_lt
theorem alive_hash : hashOf [102, 111, 111, 98, 97, 114] = 3214735720 := by decide +kernel
theorem take_snoc (xs : List Nat) (i x : Nat) (h : i < xs.length) (hx : x = xs.getD i 0) : xs.take (i + 1) = xs.take i ++ [x] := by
  have hget : xs[i]? = some x := by rw [hx, List.getD, List.getElem?_eq_getElem h]; rfl
  rw [List.take_add_one, hget]
  rfl
theorem strNs_getD (s : ByteArray) (i : Nat) (h : i < s.size) : (strNs s).getD i 0 = s[i].toNat := by
  have hl : i < (strNs s).length := by rw [strNs_length]; exact h
  rw [show (strNs s).getD i 0 = (strNs s)[i] from by simp [List.getD, hl]]
  simp only [strNs, List.getElem_map, Array.getElem_toList]
  rfl
theorem step_int (c x : Nat) (hc : c < 4294967296) (hx : x < 256) : bits .xor .u32 (c : Int) ((x : Int) % 4294967296) * 16777619 % 4294967296 = ((stepH c x : Nat) : Int) := by
  have e : (x : Int) % 4294967296 = (x : Int) := by omega
  rw [e, u32_xor_nat c x hc (by omega), stepH]
  simp

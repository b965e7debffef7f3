/- Texts of this claim laid together, one behind the other: contracts and plain lemmas; conditions as each names them. -/
import Derived.Test.YtdojhkgnnbdfkaaGreatGp5
import Derived.ShutString
import Derived.ChangeOld
import Derived.Below
import Derived.Laws.BitsAllLaws
/- Short numbers, numbers with a sign and texts as bytes, and back: one form each. Plain lemmas on lists and numbers. -/
namespace Go.Proofs.YtdojhkgnnbdfkaaGreat
open Go.ChangeShapes Go.WideShapes Go.ChangeAt Go.RowKit Go.Lib

theorem encF_low (f x : Nat) (h : x < 128) : encF f x = [x] := by
  cases f with
  | zero => simp [encF, Nat.mod_eq_of_lt h]
  | succ f => simp [encF, h]
theorem encF_high (f x : Nat) (h : 128 ≤ x) : encF (f + 1) x = (128 + x % 128) :: encF f (x / 128) := by
  simp only [encF]
  rw [if_neg (by omega)]

theorem short_form : ∀ (xs : List Nat) (i n : Nat), i ≤ 9 → (∀ x ∈ xs, x < 256) → (shortF i n xs).2.2 = 0 →
    ∃ v, (shortF i n xs).1 = n + 128 ^ i * v ∧ encF (9 - i) v = xs.take ((shortF i n xs).2.1 - i) ∧ (0 < i → 0 < v) := by
  intro xs
  induction xs with
  | nil => intro i n _ _ h; simp [shortF] at h
  | cons x r ih =>
    intro i n hi hb h
    have hx := hb x (by simp)
    have hsz := shortF_size (x :: r) i n h
    rw [shortF_cons] at h hsz ⊢
    split at h
    · simp at h
    · rename_i h1
      rw [if_neg h1] at hsz ⊢
      split at h
      · rename_i h2
        rw [if_pos h2]
        refine ⟨x, by rw [Nat.mul_comm], ?_, by omega⟩
        rw [encF_low _ _ h2]
        simp
      · rename_i h2
        rw [if_neg h2] at hsz ⊢
        have hi8 : i ≤ 8 := by omega
        obtain ⟨v, e1, e2, e3⟩ := ih (i + 1) (n + x % 128 * 128 ^ i) (by omega) (fun y hy => hb y (by simp [hy])) h
        have hv := e3 (by omega)
        have hs2 := shortF_size r _ _ h
        refine ⟨x % 128 + 128 * v, ?_, ?_, by omega⟩
        · rw [e1, Nat.pow_succ, Nat.mul_add, Nat.mul_comm (128 ^ i) (x % 128), Nat.mul_assoc]
          omega
        · rw [show 9 - i = (9 - (i + 1)) + 1 by omega, encF_high _ _ (by omega)]
          rw [show (x % 128 + 128 * v) / 128 = v by omega, e2, show 128 + (x % 128 + 128 * v) % 128 = x by omega]
          rw [show (shortF (i + 1) (n + x % 128 * 128 ^ i) r).2.1 - i = ((shortF (i + 1) (n + x % 128 * 128 ^ i) r).2.1 - (i + 1)) + 1 by omega, List.take_succ_cons]
theorem enc_short (xs : List Nat) (hb : ∀ x ∈ xs, x < 256) (h : (shortF 0 0 xs).2.2 = 0) : enc (shortF 0 0 xs).1 = xs.take (shortF 0 0 xs).2.1 := by
  obtain ⟨v, e1, e2, _⟩ := short_form xs 0 0 (by omega) hb h
  have : (shortF 0 0 xs).1 = v := by rw [e1]; simp
  rw [this]
  simpa [enc] using e2

theorem short_cons_low (i n x : Nat) (r : List Nat) (hx : x < 128) (h9 : i = 9 → x ≤ 1) (h0 : 0 < i → 0 < x) : shortF i n (x :: r) = (n + x * 128 ^ i, i + 1, 0) := by
  rw [shortF_cons, if_neg (by omega), if_pos hx]
theorem short_cons_high (i n x : Nat) (r : List Nat) (hx : 128 ≤ x) (h9 : i ≠ 9) : shortF i n (x :: r) = shortF (i + 1) (n + x % 128 * 128 ^ i) r := by
  rw [shortF_cons, if_neg (by omega), if_neg (by omega)]

theorem encF_shape (f v : Nat) : (v < 128 ∧ encF f v = [v]) ∨ (128 ≤ v ∧ ∃ y ys, encF f v = y :: ys) := by
  by_cases h : v < 128
  · exact Or.inl ⟨h, encF_low f v h⟩
  · refine Or.inr ⟨by omega, ?_⟩
    cases f with
    | zero => exact ⟨_, _, rfl⟩
    | succ f => exact ⟨_, _, encF_high f v (by omega)⟩

/-- The groups that are left, read behind i of them. -/
theorem short_back : ∀ (f i n v : Nat) (rest : List Nat), f + i = 9 → v < 2 * 128 ^ f → (0 < i → 0 < v) → shortF i n (encF f v ++ rest) = (n + 128 ^ i * v, i + (encF f v).length, 0) := by
  intro f
  induction f with
  | zero =>
    intro i n v rest hf hv h0
    have hv1 : v < 2 := by simpa using hv
    rw [encF_low 0 v (by omega)]
    simp only [List.cons_append, List.nil_append, List.length_cons, List.length_nil]
    rw [short_cons_low i n v rest (by omega) (by omega) h0, Nat.mul_comm]
  | succ f ih =>
    intro i n v rest hf hv h0
    by_cases h : v < 128
    · rw [encF_low _ v h]
      simp only [List.cons_append, List.nil_append, List.length_cons, List.length_nil]
      rw [short_cons_low i n v rest h (by omega) h0, Nat.mul_comm]
    · rw [encF_high f v (by omega)]
      simp only [List.cons_append, List.length_cons]
      rw [short_cons_high i n _ _ (by omega) (by omega)]
      rw [Nat.pow_succ] at hv
      rw [ih (i + 1) _ (v / 128) rest (by omega) (by omega) (by omega)]
      have e : n + (128 + v % 128) % 128 * 128 ^ i + 128 ^ (i + 1) * (v / 128) = n + 128 ^ i * v := by
        rw [show (128 + v % 128) % 128 = v % 128 by omega, Nat.pow_succ, Nat.mul_assoc, Nat.mul_comm (v % 128)]
        have : 128 ^ i * v = 128 ^ i * (v % 128) + 128 ^ i * (128 * (v / 128)) := by rw [← Nat.mul_add]; congr 1; omega
        omega
      rw [e]
      refine Prod.ext rfl (Prod.ext ?_ rfl)
      show i + 1 + (encF f (v / 128)).length = i + ((encF f (v / 128)).length + 1)
      omega
theorem short_enc (n : Nat) (rest : List Nat) (hn : n < 2 ^ 64) : shortF 0 0 (enc n ++ rest) = (n, (enc n).length, 0) := by
  have hp : 2 * 128 ^ 9 = 2 ^ 64 := by decide
  have := short_back 9 0 0 n rest rfl (by omega) (by omega)
  simp only [Nat.pow_zero, Nat.one_mul, Nat.zero_add] at this
  exact this

/-- Too few of the bytes of a number. -/
theorem short_few : ∀ (f i n v k : Nat), f + i = 9 → v < 2 * 128 ^ f → (0 < i → 0 < v) → k < (encF f v).length → shortF i n ((encF f v).take k) = (0, 0, 5) := by
  intro f
  induction f with
  | zero =>
    intro i n v k hf hv h0 hk
    have hv1 : v < 2 := by simpa using hv
    rw [encF_low 0 v (by omega)] at hk ⊢
    simp at hk
    subst hk
    simp [shortF]
  | succ f ih =>
    intro i n v k hf hv h0 hk
    by_cases h : v < 128
    · rw [encF_low _ v h] at hk ⊢
      simp at hk
      subst hk
      simp [shortF]
    · rw [encF_high f v (by omega)] at hk ⊢
      cases k with
      | zero => simp [shortF]
      | succ k =>
        simp only [List.length_cons] at hk
        rw [List.take_succ_cons, short_cons_high i n _ _ (by omega) (by omega)]
        rw [Nat.pow_succ] at hv
        exact ih (i + 1) _ (v / 128) k (by omega) (by omega) (by omega) (by omega)
theorem short_cut (n k : Nat) (hn : n < 2 ^ 64) (hk : k < (enc n).length) : shortF 0 0 ((enc n).take k) = (0, 0, 5) := by
  have hp : 2 * 128 ^ 9 = 2 ^ 64 := by decide
  exact short_few 9 0 0 n k rfl (by omega) (by omega) hk
theorem short_err : ∀ (xs : List Nat) (i n : Nat), (shortF i n xs).2.2 = 0 ∨ (shortF i n xs).2.2 = 4 ∨ (shortF i n xs).2.2 = 5 := by
  intro xs
  induction xs with
  | nil => intro i n; simp [shortF]
  | cons x r ih =>
    intro i n
    rw [shortF_cons]
    split
    · simp
    · split
      · simp
      · exact ih _ _
theorem text_form (L : Nat) (xs : List Nat) (hb : ∀ x ∈ xs, x < 256) (h : (textF (L : Int) xs).2.2 = 0) :
    enc (textF (L : Int) xs).1.size ++ strNs (textF (L : Int) xs).1 = xs.take (textF (L : Int) xs).2.1 := by
  unfold textF at h ⊢
  rw [if_neg (by omega)] at h ⊢
  split at h
  · rename_i h2; exact absurd h h2
  · rename_i h2
    rw [if_neg h2]
    split at h
    · simp at h
    · rename_i h3
      rw [if_neg h3]
      split at h
      · simp at h
      · rename_i h4
        rw [if_neg h4]
        have h2' : (shortF 0 0 xs).2.2 = 0 := by simpa using h2
        have hs := shortF_size xs 0 0 h2'
        have he := enc_short xs hb h2'
        simp only
        have hl : ((xs.drop (shortF 0 0 xs).2.1).take (shortF 0 0 xs).1).length = (shortF 0 0 xs).1 := by rw [List.length_take, List.length_drop]; omega
        rw [toBA_size, hl, strNs_toBA _ (fun x hx => hb x (List.mem_of_mem_drop (List.mem_of_mem_take hx))), he, List.take_add]
end Go.Proofs.YtdojhkgnnbdfkaaGreat
/- A slice of bytes that came in, and the statements' own test of sizes. Conditions as each lemma names them. -/
namespace Go.Proofs.YtdojhkgnnbdfkaaGreat
open Go.ChangeShapes Go.WideShapes Go.ChangeAt Go.RowKit Go.Lib

/-- The slice that came in reads as the bytes xs. -/
structure BArg (w : World) (ao : Option Addr) (L cap : Nat) (xs : List Nat) : Prop where
  len : L = xs.length
  low : ∀ x ∈ xs, x < 256
  fits : L ≤ cap
  most : L ≤ 9223372036854775807
  lies : 0 < L → ∃ b off, ao = some ⟨b, off, none⟩ ∧ b < w.heap.size ∧ ∀ j, j < L → w.cell? ⟨b, off + j, none⟩ = some (.int .u8 ((xs.getD j 0 : Nat) : Int))
theorem BArg.keep {w w' : World} {ao : Option Addr} {L cap : Nat} {xs : List Nat} (h : BArg w ao L cap xs) (hf : Fr [] w w') : BArg w' ao L cap xs := by
  refine ⟨h.len, h.low, h.fits, h.most, fun h0 => ?_⟩
  obtain ⟨b, off, e, hb, hc⟩ := h.lies h0
  exact ⟨b, off, e, Nat.lt_of_lt_of_le hb hf.size, fun j hj => (World.cell?_of_block (hf.block b hb (by simp))).trans (hc j hj)⟩
theorem BArg.rs {w : World} {ao : Option Addr} {L cap : Nat} {xs : List Nat} (h : BArg w ao L cap xs) (hl : L < 2^41) : Rs w ao xs := by
  refine ⟨fun h0 => ?_, by rw [← h.len]; exact hl⟩
  rw [← h.len] at h0 ⊢
  obtain ⟨b, off, e, _, hc⟩ := h.lies h0
  exact ⟨b, off, e, hc⟩
theorem BArg.src {w : World} {ao : Option Addr} {L cap : Nat} {xs : List Nat} (h : BArg w ao L cap xs) : 0 < L → ∃ a, ao = some a ∧ ∀ j u, (bts xs)[j]? = some u → w.cell? (a.add j) = some u := by
  intro h0
  obtain ⟨b, off, e, _, hc⟩ := h.lies h0
  refine ⟨_, e, fun j u hj => ?_⟩
  have hj' : j < xs.length := by have := (List.getElem?_eq_some_iff.1 hj).1; rwa [bts_length] at this
  rw [bts_get xs j hj'] at hj
  rw [show (⟨b, off, none⟩ : Addr).add j = ⟨b, off + j, none⟩ from by simp [Addr.add], hc j (by rw [h.len]; exact hj')]
  exact hj
/-- What the frame of a law hands on of a slice of integers. -/
def IsRow (k : IntKind) (w : World) (a : Option Addr) (len cap : Nat) (zs : List Int) : Prop :=
  (a = none ∧ len = 0 ∧ cap = 0 ∧ zs = []) ∨
  ∃ x, a = some x ∧ len ≤ cap ∧ cap ≤ maxLen ∧ zs.length = cap ∧ (∀ i, i < zs.length → w.cell? (x.add i) = some (.int k (zs.getD i 0))) ∧ ∀ n ∈ zs, (Lit.int k n).wf = true
theorem BArg.of_row {w : World} {a : Option Addr} {len cap : Nat} {zs : List Int} (h : IsRow .u8 w a len cap zs) : ∃ xs, BArg w a len cap xs := by
  rcases h with ⟨rfl, rfl, rfl, rfl⟩ | ⟨x, rfl, hl, hm, hz, hc, hw⟩
  · exact ⟨[], rfl, by simp, Nat.le_refl _, by omega, fun h => by omega⟩
  · have hbd : ∀ n ∈ zs, 0 ≤ n ∧ n ≤ 255 := fun n hn => bounds_u8 (hw n hn)
    refine ⟨(zs.take len).map Int.toNat, ?_, ?_, hl, by simp only [maxLen] at hm; omega, ?_⟩
    · simp [hz]; omega
    · intro y hy
      obtain ⟨n, hn, rfl⟩ := List.mem_map.1 hy
      have := hbd n (List.mem_of_mem_take hn)
      omega
    · intro h0
      obtain ⟨b, off, spot⟩ := x
      have hspot : spot = none := by simpa [Addr.add] using World.cell?_spot (hc 0 (by omega))
      subst hspot
      refine ⟨b, off, rfl, ?_, fun j hj => ?_⟩
      · have := World.block_lt_of_cell? w _ (hc 0 (by omega))
        simpa [Addr.add] using this
      · have h1 := hc j (by omega)
        rw [show (⟨b, off, none⟩ : Addr).add j = ⟨b, off + j, none⟩ from by simp [Addr.add]] at h1
        rw [h1]
        have hjz : j < zs.length := by omega
        have hg : zs.getD j 0 = zs[j] := by simp [List.getD, hjz]
        have hb := hbd zs[j] (List.getElem_mem _)
        have e : ((zs.take len).map Int.toNat).getD j 0 = (zs[j]).toNat := by simp [List.getD, hj, hjz]
        rw [hg, e]
        congr 2
        omega
end Go.Proofs.YtdojhkgnnbdfkaaGreat
/- What Hash answers, and the document's Hash. Conditions: a key of fewer than 2^62 bytes. -/
namespace Go.Proofs.YtdojhkgnnbdfkaaGreat
open Go.ChangeShapes Go.WideShapes Go.ChangeAt Go.RowKit Go.Lib

/-- The hash of a key. -/
def stepH (h x : Nat) : Nat := ((h ^^^ x) * 16777619) % 4294967296
def hashOf (xs : List Nat) : Nat := xs.foldl stepH 2166136261
theorem foldl_snoc {α β : Type} (f : α → β → α) (a : α) (xs : List β) (x : β) : (xs ++ [x]).foldl f a = f (xs.foldl f a) x := by simp
theorem foldl_below {β : Type} (f : Nat → β → Nat) (B a : Nat) (xs : List β) (h : a < B) (hf : ∀ a x, f a x < B) : xs.foldl f a < B := by
  induction xs generalizing a with
  | nil => exact h
  | cons x l ih => exact ih _ (hf a x)
theorem hashOf_snoc (xs : List Nat) (x : Nat) : hashOf (xs ++ [x]) = stepH (hashOf xs) x := foldl_snoc stepH _ xs x
theorem stepH_lt (a x : Nat) : stepH a x < 4294967296 := Nat.mod_lt _ (by decide)
theorem hashOf_lt (xs : List Nat) : hashOf xs < 4294967296 := foldl_below stepH _ _ xs (by decide) stepH_lt
theorem alive_hash : hashOf [102, 111, 111, 98, 97, 114] = 3214735720 := by decide +kernel
theorem take_snoc (xs : List Nat) (i x : Nat) (h : i < xs.length) (hx : x = xs.getD i 0) : xs.take (i + 1) = xs.take i ++ [x] := by
  have hget : xs[i]? = some x := by rw [hx, List.getD, List.getElem?_eq_getElem h]; rfl
  rw [List.take_add_one, hget]
  rfl
theorem strNs_getD (s : ByteArray) (i : Nat) (h : i < s.size) : (strNs s).getD i 0 = s[i].toNat := by
  have hl : i < (strNs s).length := by rw [strNs_length]; exact h
  rw [show (strNs s).getD i 0 = (strNs s)[i] from by simp [List.getD, hl]]
  simp only [strNs, List.getElem_map, Array.getElem_toList]
  rfl
theorem step_int (c x : Nat) (hc : c < 4294967296) (hx : x < 256) : bits .xor .u32 (c : Int) ((x : Int) % 4294967296) * 16777619 % 4294967296 = ((stepH c x : Nat) : Int) := by
  have e : (x : Int) % 4294967296 = (x : Int) := by omega
  rw [e, u32_xor_nat c x hc (by omega), stepH]
  simp
end Go.Proofs.YtdojhkgnnbdfkaaGreat
/- The checksum as a function on numbers: one shift, eight shifts, a row of bytes; that it is linear, that no shift loses anything, and what one turned bit does. No conditions but those each lemma names. -/
namespace Go.Proofs.YtdojhkgnnbdfkaaGreat

/-- One step of the sum. -/
def sh (c : Nat) : Nat := if c % 2 = 1 then (c / 2) ^^^ 2197175160 else c / 2
def shN : Nat → Nat → Nat
  | 0, c => c
  | n + 1, c => shN n (sh c)
def stepB (c x : Nat) : Nat := shN 8 (c ^^^ x)
def runB (c : Nat) (xs : List Nat) : Nat := xs.foldl stepB c
def more (s : Nat) (xs : List Nat) : Nat := 4294967295 - runB (4294967295 - s) xs

theorem sh_zero : sh 0 = 0 := by decide
theorem sh_lt (c : Nat) (h : c < 4294967296) : sh c < 4294967296 := by
  unfold sh
  split
  · exact Nat.xor_lt_two_pow (n := 32) (by omega) (by decide)
  · omega
theorem div2_xor (a b : Nat) : (a ^^^ b) / 2 = a / 2 ^^^ b / 2 := by
  apply Nat.eq_of_testBit_eq
  intro i
  simp [Nat.testBit_div_two, Nat.testBit_xor]
theorem mod2_xor (a b : Nat) : (a ^^^ b) % 2 = (a % 2 + b % 2) % 2 := by
  have h : (a ^^^ b).testBit 0 = (a.testBit 0 ^^ b.testBit 0) := Nat.testBit_xor a b 0
  simp only [Nat.testBit_zero] at h
  have h1 := Nat.mod_two_eq_zero_or_one a
  have h2 := Nat.mod_two_eq_zero_or_one b
  have h3 := Nat.mod_two_eq_zero_or_one (a ^^^ b)
  rcases h1 with h1 | h1 <;> rcases h2 with h2 | h2 <;> rcases h3 with h3 | h3 <;> simp_all
theorem sh_xor (a b : Nat) : sh (a ^^^ b) = sh a ^^^ sh b := by
  unfold sh
  have hm := mod2_xor a b
  have hd := div2_xor a b
  rcases Nat.mod_two_eq_zero_or_one a with h1 | h1 <;> rcases Nat.mod_two_eq_zero_or_one b with h2 | h2 <;> rw [h1, h2] at hm <;> simp [h1, h2, hm, hd]
  · rw [Nat.xor_assoc]
  · rw [Nat.xor_assoc, Nat.xor_assoc, Nat.xor_comm (b / 2) 2197175160]
  · rw [Nat.xor_assoc, ← Nat.xor_assoc 2197175160 (b / 2) 2197175160, Nat.xor_comm 2197175160 (b / 2), Nat.xor_assoc (b / 2), Nat.xor_self, Nat.xor_zero]
theorem sh_inj (c : Nat) (h : c < 4294967296) (h0 : sh c = 0) : c = 0 := by
  unfold sh at h0
  split at h0
  · have e : c / 2 = 2197175160 := by
      have := congrArg (· ^^^ 2197175160) h0
      simpa [Nat.xor_assoc] using this
    omega
  · omega
theorem sh_double (k : Nat) : sh (2 * k) = k := by
  unfold sh
  rw [if_neg (by omega)]
  omega

theorem shN_zero (n : Nat) : shN n 0 = 0 := by
  induction n with
  | zero => rfl
  | succ n ih => rw [shN, sh_zero, ih]
theorem shN_lt (n c : Nat) (h : c < 4294967296) : shN n c < 4294967296 := by
  induction n generalizing c with
  | zero => exact h
  | succ n ih => exact ih _ (sh_lt c h)
theorem shN_xor (n a b : Nat) : shN n (a ^^^ b) = shN n a ^^^ shN n b := by
  induction n generalizing a b with
  | zero => rfl
  | succ n ih => rw [shN, sh_xor, ih]; rfl
theorem shN_inj (n c : Nat) (h : c < 4294967296) (h0 : shN n c = 0) : c = 0 := by
  induction n generalizing c with
  | zero => exact h0
  | succ n ih => exact sh_inj c h (ih _ (sh_lt c h) h0)
theorem shN_add (m n c : Nat) : shN (m + n) c = shN n (shN m c) := by
  induction m generalizing c with
  | zero => simp [shN]
  | succ m ih => rw [show m + 1 + n = (m + n) + 1 from by omega, shN, ih]; rfl
theorem shN_succ (n c : Nat) : shN (n + 1) c = sh (shN n c) := by
  rw [shN_add n 1 c]; rfl
theorem shN_pow (i k : Nat) : shN i (2 ^ i * k) = k := by
  induction i generalizing k with
  | zero => simp [shN]
  | succ i ih =>
    rw [shN, show 2 ^ (i + 1) * k = 2 * (2 ^ i * k) from by rw [Nat.pow_succ]; simp only [Nat.mul_comm, Nat.mul_left_comm], sh_double, ih]
theorem shN_bit (i n : Nat) (h : i ≤ n) : shN n (2 ^ i) = shN (n - i) 1 := by
  have e : n = i + (n - i) := by omega
  have := shN_add i (n - i) (2 ^ i * 1)
  rw [shN_pow, Nat.mul_one, ← e] at this
  exact this

theorem stepB_lt (c x : Nat) (h : c < 4294967296) (hx : x < 256) : stepB c x < 4294967296 :=
  shN_lt _ _ (Nat.xor_lt_two_pow (n := 32) h (by omega))
theorem runB_lt (c : Nat) (xs : List Nat) (h : c < 4294967296) (hx : ∀ x ∈ xs, x < 256) : runB c xs < 4294967296 := by
  induction xs generalizing c with
  | nil => exact h
  | cons x xs ih => exact ih _ (stepB_lt c x h (hx x (by simp))) (fun y hy => hx y (by simp [hy]))
theorem runB_append (c : Nat) (xs ys : List Nat) : runB c (xs ++ ys) = runB (runB c xs) ys := by simp [runB]
theorem runB_snoc (c : Nat) (xs : List Nat) (x : Nat) : runB c (xs ++ [x]) = stepB (runB c xs) x := by simp [runB]
theorem stepB_xor (c d x : Nat) : stepB (c ^^^ d) x = stepB c x ^^^ shN 8 d := by
  unfold stepB
  rw [← shN_xor, Nat.xor_assoc, Nat.xor_comm d x, ← Nat.xor_assoc]
theorem runB_xor (c d : Nat) (xs : List Nat) : runB (c ^^^ d) xs = runB c xs ^^^ shN (8 * xs.length) d := by
  induction xs generalizing c d with
  | nil => rfl
  | cons x xs ih =>
    show runB (stepB (c ^^^ d) x) xs = runB (stepB c x) xs ^^^ _
    rw [stepB_xor, ih, ← shN_add]
    congr 2
    simp [Nat.mul_add, Nat.add_comm]
/-- What turning bits of one byte does to the sum of all. -/
theorem runB_turn (c : Nat) (xs : List Nat) (j m : Nat) (hj : j < xs.length) :
    runB c (xs.set j (xs.getD j 0 ^^^ m)) = runB c xs ^^^ shN (8 * (xs.length - j)) m := by
  induction xs generalizing c j with
  | nil => simp at hj
  | cons x xs ih =>
    cases j with
    | zero =>
      show runB (stepB c (x ^^^ m)) xs = runB (stepB c x) xs ^^^ _
      have e : stepB c (x ^^^ m) = stepB c x ^^^ shN 8 m := by
        unfold stepB
        rw [← shN_xor, Nat.xor_assoc]
      rw [e, runB_xor, ← shN_add]
      congr 2
      simp [Nat.mul_add, Nat.add_comm]
    | succ j =>
      have := ih (stepB c x) j (by simpa using hj)
      show runB (stepB c x) (xs.set j (xs.getD j 0 ^^^ m)) = _
      rw [this]
      simp [runB]
/-- One turned bit, as part of a row of bits that begins at 'a'. -/
theorem runB_bit (c : Nat) (xs : List Nat) (a i : Nat) (h : a + i < 8 * xs.length) :
    runB c (xs.set ((a + i) / 8) (xs.getD ((a + i) / 8) 0 ^^^ 2 ^ ((a + i) % 8))) = runB c xs ^^^ shN (8 * xs.length - a) (2 ^ i) := by
  rw [runB_turn c xs _ _ (by omega), shN_bit _ _ (by omega), shN_bit i _ (by omega)]
  congr 2
  omega

/-- The bits that were turned so far (m), of those below i. -/
structure Turned (xs ys : List Nat) (a i m : Nat) : Prop where
  len : ys.length = xs.length
  low : ∀ y ∈ ys, y < 256
  most : m < 2 ^ i
  sum : ∀ c, runB c ys = runB c xs ^^^ shN (8 * xs.length - a) m
theorem Turned.start (xs : List Nat) (a : Nat) (h : ∀ x ∈ xs, x < 256) : Turned xs xs a 0 0 :=
  ⟨rfl, h, by simp, fun c => by rw [shN_zero, Nat.xor_zero]⟩
theorem Turned.stay {xs ys : List Nat} {a i m : Nat} (h : Turned xs ys a i m) : Turned xs ys a (i + 1) m :=
  ⟨h.len, h.low, by have := h.most; rw [Nat.pow_succ]; omega, h.sum⟩
theorem xor_join (i m : Nat) (h : m < 2 ^ i) : m ^^^ 2 ^ i = m + 2 ^ i := by
  have := Nat.two_pow_add_eq_or_of_lt (b := m) (i := i) h 1
  rw [Nat.mul_one] at this
  rw [Nat.add_comm m, this]
  apply Nat.eq_of_testBit_eq
  intro k
  rw [Nat.testBit_xor, Nat.testBit_or]
  by_cases hk : k < i
  · simp [show i ≠ k by omega]
  · rw [Nat.testBit_lt_two_pow (Nat.lt_of_lt_of_le h (Nat.pow_le_pow_right (by omega) (by omega)))]
    simp
theorem Turned.turn {xs ys : List Nat} {a i m : Nat} (h : Turned xs ys a i m) (hb : a + i < 8 * xs.length) :
    Turned xs (ys.set ((a + i) / 8) (ys.getD ((a + i) / 8) 0 ^^^ 2 ^ ((a + i) % 8))) a (i + 1) (m + 2 ^ i) := by
  have hl := h.len
  refine ⟨by simp [hl], ?_, by have := h.most; rw [Nat.pow_succ]; omega, fun c => ?_⟩
  · intro y hy
    rcases List.mem_or_eq_of_mem_set hy with hy | rfl
    · exact h.low y hy
    · refine Nat.xor_lt_two_pow (n := 8) ?_ ?_
      · have hj : (a + i) / 8 < ys.length := by omega
        have : ys.getD ((a + i) / 8) 0 = ys[(a + i) / 8] := by simp [List.getD, hj]
        rw [this]
        exact h.low _ (List.getElem_mem _)
      · exact Nat.pow_lt_pow_right (by omega) (by omega)
  · rw [runB_bit c ys a i (by omega), h.sum, hl, Nat.xor_assoc, ← shN_xor, xor_join i m h.most]
theorem xor_eq_self {a b : Nat} (h : a = a ^^^ b) : b = 0 := by
  have := congrArg (a ^^^ ·) h
  simp only [Nat.xor_self, ← Nat.xor_assoc, Nat.zero_xor] at this
  exact this.symm
theorem Turned.more_ne {xs ys : List Nat} {a m : Nat} (h : Turned xs ys a 32 m) (hx : ∀ x ∈ xs, x < 256) (hm : m ≠ 0) : more 0 ys ≠ more 0 xs := by
  intro e
  have e : 4294967295 - runB 4294967295 ys = 4294967295 - runB 4294967295 xs := e
  have h1 := runB_lt 4294967295 ys (by omega) h.low
  have h2 := runB_lt 4294967295 xs (by omega) hx
  have e2 : runB 4294967295 ys = runB 4294967295 xs := by omega
  rw [h.sum] at e2
  exact hm (shN_inj _ m h.most (xor_eq_self e2.symm))
theorem Turned.more_eq {xs ys : List Nat} {a i : Nat} (h : Turned xs ys a i 0) : more 0 ys = more 0 xs := by
  unfold more
  rw [h.sum, shN_zero, Nat.xor_zero]

/-- Eight shifts of a number: its upper bits move down, its lowest byte is looked up. -/
theorem stepB_look (c x : Nat) : stepB c x = (c / 256) ^^^ shN 8 ((c % 256) ^^^ x) := by
  have e : c = (2 ^ 8 * (c / 256)) ^^^ (c % 256) := by
    apply Nat.eq_of_testBit_eq
    intro i
    rw [Nat.testBit_xor, Nat.testBit_two_pow_mul, show (256 : Nat) = 2 ^ 8 from rfl, Nat.testBit_mod_two_pow, Nat.testBit_div_two_pow]
    by_cases hi : 8 ≤ i
    · simp [hi, show ¬ i < 8 by omega]
    · simp [hi, show i < 8 by omega]
  unfold stepB
  conv => lhs; rw [e]
  rw [Nat.xor_assoc, shN_xor, shN_pow]

theorem more_nil (s : Nat) (h : s < 4294967296) : more s [] = s := by unfold more runB; simp; omega
theorem more_append (s : Nat) (xs ys : List Nat) (h : s < 4294967296) (hx : ∀ x ∈ xs, x < 256) : more (more s xs) ys = more s (xs ++ ys) := by
  have := runB_lt (4294967295 - s) xs (by omega) hx
  unfold more
  rw [runB_append, show 4294967295 - (4294967295 - runB (4294967295 - s) xs) = runB (4294967295 - s) xs from by omega]
theorem more_lt (s : Nat) (xs : List Nat) : more s xs < 4294967296 := by unfold more; omega

/-- The table, as it is made. -/
def T1 : Nat → List Nat
  | 0 => List.replicate 256 0
  | i + 1 => (T1 i).set (128 / 2 ^ i) (shN (i + 1) 1)
def T2 : Nat → List Nat
  | 0 => T1 8
  | i + 1 => (T2 i).set i ((T2 i).getD (i &&& (i - 1)) 0 ^^^ (T2 i).getD (i - (i &&& (i - 1))) 0)
theorem T1_length (i : Nat) : (T1 i).length = 256 := by
  induction i with
  | zero => exact List.length_replicate
  | succ i ih => rw [T1, List.length_set, ih]
theorem T2_length (i : Nat) : (T2 i).length = 256 := by
  induction i with
  | zero => exact T1_length 8
  | succ i ih => rw [T2, List.length_set, ih]
def tab : List Nat := (List.range 256).map (shN 8)
def t2go : Nat → Nat → List Nat → List Nat
  | 0, _, l => l
  | n + 1, i, l => t2go n (i + 1) (l.set i (l.getD (i &&& (i - 1)) 0 ^^^ l.getD (i - (i &&& (i - 1))) 0))
theorem t2go_eq (n i : Nat) : t2go n i (T2 i) = T2 (i + n) := by
  induction n generalizing i with
  | zero => rfl
  | succ n ih =>
    show t2go n (i + 1) (T2 (i + 1)) = _
    rw [ih, show i + 1 + n = i + (n + 1) from by omega]
theorem tab_eq0 : t2go 256 0 (T1 8) = tab := by decide +kernel
theorem tab_eq : T2 256 = tab := by rw [← tab_eq0, show T1 8 = T2 0 from rfl, t2go_eq]
theorem tab_get (v : Nat) (h : v < 256) : tab.getD v 0 = shN 8 v := by simp [tab, List.getD, h]

theorem alive_crc : more 0 [49, 50, 51, 52, 53, 54, 55, 56, 57] = 3808858755 := by decide +kernel
end Go.Proofs.YtdojhkgnnbdfkaaGreat

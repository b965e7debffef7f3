/- A log as bytes and back, as plain functions on lists: what is told of any bytes, one form, cut logs. Plain lemmas. -/
import Derived.Test.YtaefninikmaiiaaGreatDoorRec
import Derived.Test.YtaefninikmaiiaaGreatDoorCrc
namespace Go.Proofs.YtaefninikmaiiaaGreatDoor
open Go.ChangeShapes Go.WideShapes Go.ChangeAt Go.RowKit Go.Lib
set_option linter.unusedVariables false

/-- A transaction. -/
structure Tx where
  n : Int
  ws : List Wt
def Tx.zero : Tx := ⟨0, []⟩
def Tx.ok (t : Tx) : Prop := okT t.n t.ws

def crcN (ys : List Nat) : Nat := more 0 ys
theorem crcN_lt (ys : List Nat) : crcN ys < 4294967296 := more_lt 0 ys
/-- A record's bytes, of the transaction's. -/
def encB (ys : List Nat) : List Nat := enc ys.length ++ (ys ++ leB 4 (crcN ys))
def encR (t : Tx) : List Nat := encB (encT t.n.toNat t.ws)
def encL : List Tx → List Nat
  | [] => []
  | t :: r => encR t ++ encL r
theorem encL_append (a b : List Tx) : encL (a ++ b) = encL a ++ encL b := by
  induction a with
  | nil => rfl
  | cons t r ih => simp [encL, ih]
theorem encL_snoc (a : List Tx) (t : Tx) : encL (a ++ [t]) = encL a ++ encR t := by
  rw [encL_append]; simp [encL]
theorem encB_lt (ys : List Nat) (h : ∀ x ∈ ys, x < 256) : ∀ x ∈ encB ys, x < 256 := by
  intro x hx
  rcases List.mem_append.1 hx with h1 | h1
  · exact enc_lt _ x h1
  · rcases List.mem_append.1 h1 with h2 | h2
    · exact h x h2
    · exact leB_lt _ _ x h2
theorem encR_lt (t : Tx) : ∀ x ∈ encR t, x < 256 := encB_lt _ (encT_lt _ _)
theorem encL_lt (l : List Tx) : ∀ x ∈ encL l, x < 256 := by
  induction l with
  | nil => intro x hx; simp [encL] at hx
  | cons t r ih =>
    intro x hx
    rcases List.mem_append.1 hx with h | h
    · exact encR_lt t x h
    · exact ih x h
theorem Tx.nat {t : Tx} (h : t.ok) : ((t.n.toNat : Nat) : Int) = t.n := by have := h.1; omega
theorem Tx.okN {t : Tx} (h : t.ok) : okT ((t.n.toNat : Nat) : Int) t.ws := by rw [t.nat h]; exact h
theorem encR_length {t : Tx} (h : t.ok) : 7 ≤ (encR t).length ∧ (encR t).length ≤ 65100 := by
  have a := encT_length t.n.toNat t.ws (t.okN h)
  have b := enc_length (encT t.n.toNat t.ws).length
  simp only [encR, encB, List.length_append, leB_length]
  omega

/-- May a log be, of which the first number must be k? -/
def okL : Nat → List Tx → Prop
  | _, [] => True
  | k, t :: r => t.ok ∧ t.n = (k : Int) ∧ okL (k + 1) r
/-- What is wrong of it. -/
def Bad : Nat → List Tx → Nat → Prop
  | _, [], c => c = 0
  | k, t :: r, c => (¬ t.ok ∧ c = 1) ∨ (t.ok ∧ t.n ≠ (k : Int) ∧ c = 6) ∨ (t.ok ∧ t.n = (k : Int) ∧ Bad (k + 1) r c)
theorem Bad.ex : ∀ (l : List Tx) (k : Nat), ∃ c, Bad k l c := by
  intro l
  induction l with
  | nil => intro k; exact ⟨0, rfl⟩
  | cons t r ih =>
    intro k
    by_cases h : t.ok
    · by_cases h1 : t.n = (k : Int)
      · obtain ⟨c, hc⟩ := ih (k + 1)
        exact ⟨c, Or.inr (Or.inr ⟨h, h1, hc⟩)⟩
      · exact ⟨6, Or.inr (Or.inl ⟨h, h1, rfl⟩)⟩
    · exact ⟨1, Or.inl ⟨h, rfl⟩⟩
theorem Bad.ok : ∀ {l : List Tx} {k c : Nat}, Bad k l c → (c = 0 ↔ okL k l) := by
  intro l
  induction l with
  | nil => intro k c h; simp only [Bad] at h; simp [okL, h]
  | cons t r ih =>
    intro k c h
    rcases h with ⟨h, rfl⟩ | ⟨h, h1, rfl⟩ | ⟨h, h1, h2⟩
    · exact ⟨fun x => by omega, fun x => absurd x.1 h⟩
    · exact ⟨fun x => by omega, fun x => absurd x.2.1 h1⟩
    · rw [ih h2]
      exact ⟨fun x => ⟨h, h1, x⟩, fun x => x.2.2⟩
theorem Bad.one : ∀ {l : List Tx} {k c d : Nat}, Bad k l c → Bad k l d → c = d := by
  intro l
  induction l with
  | nil => intro k c d h h'; simp only [Bad] at h h'; omega
  | cons t r ih =>
    intro k c d h h'
    rcases h with ⟨h, rfl⟩ | ⟨h, h1, rfl⟩ | ⟨h, h1, h2⟩
    · rcases h' with ⟨_, rfl⟩ | ⟨g, _⟩ | ⟨g, _⟩
      · rfl
      · exact absurd g h
      · exact absurd g h
    · rcases h' with ⟨g, _⟩ | ⟨_, _, rfl⟩ | ⟨_, g, _⟩
      · exact absurd h g
      · rfl
      · exact absurd g h1
    · rcases h' with ⟨g, _⟩ | ⟨_, g, _⟩ | ⟨_, _, g⟩
      · exact absurd h g
      · exact absurd h1 g
      · exact ih h2 g
theorem okL_bad {l : List Tx} {k : Nat} (h : okL k l) : Bad k l 0 := by
  obtain ⟨c, hc⟩ := Bad.ex l k
  have := (Bad.ok hc).2 h
  rw [this] at hc
  exact hc
theorem okL_append : ∀ {a b : List Tx} {k : Nat}, okL k (a ++ b) ↔ okL k a ∧ okL (k + a.length) b := by
  intro a
  induction a with
  | nil => intro b k; simp [okL]
  | cons t r ih =>
    intro b k
    simp only [List.cons_append, okL, ih, List.length_cons]
    rw [show k + 1 + r.length = k + (r.length + 1) by omega]
    constructor
    · rintro ⟨h1, h2, h3, h4⟩; exact ⟨⟨h1, h2, h3⟩, h4⟩
    · rintro ⟨⟨h1, h2, h3⟩, h4⟩; exact ⟨h1, h2, h3, h4⟩
theorem okL_get : ∀ {l : List Tx} {k : Nat}, okL k l → ∀ i, i < l.length → (l.getD i Tx.zero).ok ∧ (l.getD i Tx.zero).n = ((k + i : Nat) : Int) := by
  intro l
  induction l with
  | nil => intro k h i hi; simp at hi
  | cons t r ih =>
    intro k h i hi
    cases i with
    | zero => exact ⟨h.1, by simpa using h.2.1⟩
    | succ i =>
      have := ih h.2.2 i (by simpa using hi)
      rw [show k + 1 + i = k + (i + 1) by omega] at this
      simpa [List.getD] using this
theorem okL_take {l : List Tx} {k : Nat} (h : okL k l) (i : Nat) : okL k (l.take i) := by
  have := h
  rw [← List.take_append_drop i l, okL_append] at this
  exact this.1
theorem okL_few {l : List Tx} (h : okL 1 l) : l.length ≤ 65536 := by
  by_cases h0 : l.length = 0
  · omega
  · obtain ⟨h1, h2⟩ := okL_get h (l.length - 1) (by omega)
    have := h1.2.1
    omega
theorem okL_mem {l : List Tx} {k : Nat} (h : okL k l) : ∀ t ∈ l, t.ok := by
  intro t ht
  obtain ⟨i, hi, rfl⟩ := List.getElem_of_mem ht
  have := (okL_get h i hi).1
  simpa [List.getD, hi] using this
theorem encL_length : ∀ {l : List Tx}, (∀ t ∈ l, t.ok) → 7 * l.length ≤ (encL l).length ∧ (encL l).length ≤ 65100 * l.length := by
  intro l
  induction l with
  | nil => intro _; simp [encL]
  | cons t r ih =>
    intro h
    have a := encR_length (h t (by simp))
    have b := ih (fun x hx => h x (by simp [hx]))
    simp only [encL, List.length_append, List.length_cons]
    omega
theorem encL_few {l : List Tx} (h : okL 1 l) : (encL l).length < 2 ^ 33 := by
  have a := encL_length (okL_mem h)
  have b := okL_few h
  have : 65100 * l.length ≤ 65100 * 65536 := Nat.mul_le_mul_left _ b
  omega

/-! ### A record taken -/
def ref0 (_ : Nat) : Nat := 0
def recC (c : Nat) (ys r : List Nat) : Except Nat (Tx × List Nat) :=
  if c = crcN ys then
    match decT ys with
    | .error e => .error e
    | .ok (n, ws) => .ok (⟨n, ws⟩, r)
  else .error 4
def recS (s : ByteArray) (r : List Nat) : Except Nat (Tx × List Nat) :=
  match tk (fixF 4) ref0 r with
  | .error e => .error e
  | .ok (c, r2) => recC c (strNs s) r2
def recF (xs : List Nat) : Except Nat (Tx × List Nat) :=
  match tk (textF 65536) refV xs with
  | .error e => .error e
  | .ok (s, r) => recS s r
theorem fix4_enc (n : Nat) (r : List Nat) (h : n < 4294967296) : fixF 4 (leB 4 n ++ r) = (n, 4, 0) := by
  unfold fixF
  rw [if_neg (by decide), if_neg (by simp only [List.length_append, leB_length]; omega)]
  have e : (leB 4 n ++ r).take (4 : Int).toNat = leB 4 n := by
    have : (4 : Int).toNat = (leB 4 n).length := by rw [leB_length]; rfl
    rw [this, List.take_left]
  rw [e, leN_leB 4 n (by omega)]
  rfl
theorem fix4_cut (xs : List Nat) (h : xs.length < 4) : fixF 4 xs = (0, 0, 5) := by
  unfold fixF
  rw [if_neg (by decide), if_pos (by omega)]
theorem leB_leN : ∀ (k : Nat) (xs : List Nat), xs.length = k → (∀ x ∈ xs, x < 256) → leB k (leN xs) = xs := by
  intro k
  induction k with
  | zero => intro xs h _; rw [List.eq_nil_of_length_eq_zero h]; rfl
  | succ k ih =>
    intro xs h hb
    cases xs with
    | nil => simp at h
    | cons x r =>
      have hx := hb x (by simp)
      simp only [leN, leB]
      rw [show (x + 256 * leN r) % 256 = x by omega, show (x + 256 * leN r) / 256 = leN r by omega, ih r (by simpa using h) (fun y hy => hb y (by simp [hy]))]
theorem fix4_inv {xs r : List Nat} {c : Nat} (hb : ∀ x ∈ xs, x < 256) (h : tk (fixF 4) ref0 xs = .ok (c, r)) : xs = leB 4 c ++ r ∧ c < 4294967296 := by
  by_cases hl : xs.length < 4
  · rw [tk_err (fix4_cut xs hl) (by decide)] at h
    cases h
  · have e : fixF 4 xs = (leN (xs.take 4), 4, 0) := by
      unfold fixF
      rw [if_neg (by decide), if_neg (by omega)]
      rfl
    rw [tk_ok e rfl] at h
    cases h
    have hl4 : (xs.take 4).length = 4 := by rw [List.length_take]; omega
    have hb4 : ∀ x ∈ xs.take 4, x < 256 := fun x hx => hb x (List.mem_of_mem_take hx)
    refine ⟨?_, ?_⟩
    · rw [leB_leN 4 _ hl4 hb4, List.take_append_drop]
    · have := leN_lt _ hb4
      rw [hl4] at this
      simpa using this
theorem encB_str (s : ByteArray) : encB (strNs s) = encS s ++ leB 4 (crcN (strNs s)) := by
  simp [encB, encS, strNs_length]
theorem recF_back {t : Tx} (h : t.ok) (r : List Nat) : recF (encR t ++ r) = .ok (t, r) := by
  have hl := encT_length t.n.toNat t.ws (t.okN h)
  have hlt := encT_lt t.n.toNat t.ws
  have hd := decT_back t.n.toNat t.ws (t.okN h)
  unfold encR
  obtain ⟨ys, hy⟩ : ∃ ys, ys = encT t.n.toNat t.ws := ⟨_, rfl⟩
  rw [← hy] at hl hlt hd ⊢
  have hs : strNs (toBA ys) = ys := strNs_toBA ys hlt
  have e : encB ys ++ r = encS (toBA ys) ++ (leB 4 (crcN ys) ++ r) := by
    conv => lhs; rw [← hs]
    rw [encB_str, hs, List.append_assoc]
  have ht := text_enc 65536 (toBA ys) (leB 4 (crcN ys) ++ r) (by rw [toBA_size]; omega) (by decide)
  unfold recF
  rw [e, tk_ok (f := textF 65536) ht rfl]
  simp only [drop_left]
  unfold recS
  rw [tk_ok (fix4_enc (crcN ys) r (crcN_lt ys)) rfl]
  simp only
  rw [show (leB 4 (crcN ys) ++ r).drop 4 = r from by have := drop_left (leB 4 (crcN ys)) r; rwa [leB_length] at this]
  unfold recC
  rw [hs, if_pos rfl, hd]
  simp only
  rw [t.nat h]
theorem recF_inv {xs r : List Nat} {t : Tx} (hb : ∀ x ∈ xs, x < 256) (h : recF xs = .ok (t, r)) : xs = encR t ++ r ∧ t.ok := by
  unfold recF at h
  split at h
  · cases h
  · rename_i s r1 h1
    obtain ⟨e1, hs, _⟩ := tkS_inv (m := 65536) hb h1
    have hb1 : ∀ x ∈ r1, x < 256 := fun y hy => hb y (by rw [e1]; simp [hy])
    unfold recS at h
    split at h
    · cases h
    · rename_i c r2 h2
      obtain ⟨e2, hc⟩ := fix4_inv hb1 h2
      unfold recC at h
      split at h
      · rename_i hcc
        split at h
        · cases h
        · rename_i n ws hd
          cases h
          obtain ⟨e3, hok⟩ := decT_inv (strNs_lt s) hd
          refine ⟨?_, hok⟩
          rw [e1, e2, hcc]
          unfold encR
          simp only [Int.toNat_natCast]
          rw [← e3, encB_str, List.append_assoc]
      · cases h
theorem recF_code {xs : List Nat} {c : Nat} (hd : ∀ ys e, decT ys = .error e → e ≠ 0) (h : recF xs = .error c) : c ≠ 0 := by
  unfold recF at h
  split at h
  · rename_i hh; cases h; exact tk_code hh
  · unfold recS at h
    split at h
    · rename_i hh; cases h; exact tk_code hh
    · unfold recC at h
      split at h
      · split at h
        · rename_i hh; cases h; exact hd _ _ hh
        · cases h
      · cases h; decide
theorem recF_cut {t : Tx} (h : t.ok) (k : Nat) (hk : k < (encR t).length) : recF ((encR t).take k) = .error 5 := by
  have hl := encT_length t.n.toNat t.ws (t.okN h)
  have hlt := encT_lt t.n.toNat t.ws
  unfold encR at *
  obtain ⟨ys, hy⟩ : ∃ ys, ys = encT t.n.toNat t.ws := ⟨_, rfl⟩
  rw [← hy] at hl hlt hk ⊢
  have hs : strNs (toBA ys) = ys := strNs_toBA ys hlt
  have e : encB ys = encS (toBA ys) ++ leB 4 (crcN ys) := by
    conv => lhs; rw [← hs]
    rw [encB_str, hs]
  rw [e] at hk ⊢
  rw [List.length_append, leB_length] at hk
  unfold recF
  by_cases h1 : k < (encS (toBA ys)).length
  · rw [take_low _ _ _ h1]
    have ht := text_cut 65536 (toBA ys) k (by rw [toBA_size]; omega) (by decide) h1
    have : tk (textF 65536) refV ((encS (toBA ys)).take k) = .error 5 := by
      rw [tk_err (f := textF 65536) (v := _) (k := _) (e := 5) (Prod.ext rfl (Prod.ext rfl ht)) (by decide)]
    rw [this]
  · rw [take_high _ _ _ (by omega)]
    have ht := text_enc 65536 (toBA ys) ((leB 4 (crcN ys)).take (k - (encS (toBA ys)).length)) (by rw [toBA_size]; omega) (by decide)
    rw [tk_ok (f := textF 65536) ht rfl]
    simp only [drop_left]
    unfold recS
    rw [tk_err (fix4_cut _ (by rw [List.length_take, leB_length]; omega)) (by decide)]

/-! ### A log taken -/
/-- Why the next record is none. -/
def Stop (k : Nat) (xs : List Nat) (c : Nat) : Prop :=
  (xs = [] ∧ c = 0) ∨ (xs ≠ [] ∧ recF xs = .error c) ∨ (xs ≠ [] ∧ c = 6 ∧ ∃ t r, recF xs = .ok (t, r) ∧ t.n ≠ (k : Int))
/-- Of the bytes xs the transactions ls are told, vs is left, and c is why. -/
def Rds : Nat → List Nat → List Tx → List Nat → Nat → Prop
  | k, xs, [], vs, c => vs = xs ∧ Stop k xs c
  | k, xs, t :: r, vs, c => ∃ ys, xs ≠ [] ∧ recF xs = .ok (t, ys) ∧ t.n = (k : Int) ∧ Rds (k + 1) ys r vs c
theorem Rds.ex : ∀ (m : Nat) (k : Nat) (xs : List Nat), xs.length ≤ m → (∀ x ∈ xs, x < 256) → ∃ ls vs c, Rds k xs ls vs c := by
  intro m
  induction m with
  | zero =>
    intro k xs h _
    exact ⟨[], xs, 0, rfl, Or.inl ⟨List.eq_nil_of_length_eq_zero (by omega), rfl⟩⟩
  | succ m ih =>
    intro k xs h hb
    by_cases h0 : xs = []
    · exact ⟨[], xs, 0, rfl, Or.inl ⟨h0, rfl⟩⟩
    · cases hr : recF xs with
      | error c => exact ⟨[], xs, c, rfl, Or.inr (Or.inl ⟨h0, hr⟩)⟩
      | ok p =>
        obtain ⟨t, ys⟩ := p
        obtain ⟨e, hok⟩ := recF_inv hb hr
        have hl := (encR_length hok).1
        by_cases hn : t.n = (k : Int)
        · have h2 : ys.length ≤ m := by rw [e, List.length_append] at h; omega
          obtain ⟨ls, vs, c, hR⟩ := ih (k + 1) ys h2 (fun x hx => hb x (by rw [e]; simp [hx]))
          exact ⟨t :: ls, vs, c, ys, h0, hr, hn, hR⟩
        · exact ⟨[], xs, 6, rfl, Or.inr (Or.inr ⟨h0, rfl, t, ys, hr, hn⟩)⟩
theorem Rds.inv : ∀ {ls : List Tx} {k : Nat} {xs vs : List Nat} {c : Nat}, (∀ x ∈ xs, x < 256) → Rds k xs ls vs c → xs = encL ls ++ vs ∧ okL k ls ∧ Stop (k + ls.length) vs c := by
  intro ls
  induction ls with
  | nil =>
    intro k xs vs c hb h
    obtain ⟨rfl, h⟩ := h
    exact ⟨rfl, trivial, by simpa using h⟩
  | cons t r ih =>
    intro k xs vs c hb h
    obtain ⟨ys, h0, h1, h2, h3⟩ := h
    obtain ⟨e, hok⟩ := recF_inv hb h1
    obtain ⟨e2, h4, h5⟩ := ih (fun x hx => hb x (by rw [e]; simp [hx])) h3
    refine ⟨by rw [e, e2]; simp [encL], ⟨hok, h2, h4⟩, ?_⟩
    rw [show k + (t :: r).length = k + 1 + r.length by simp only [List.length_cons]; omega]
    exact h5
theorem Stop.zero {k : Nat} {xs : List Nat} {c : Nat} (hd : ∀ ys e, decT ys = .error e → e ≠ 0) (h : Stop k xs c) : c = 0 ↔ xs = [] := by
  rcases h with ⟨h, hc⟩ | ⟨h, hc⟩ | ⟨h, hc, _⟩
  · exact ⟨fun _ => h, fun _ => hc⟩
  · exact ⟨fun x => absurd x (recF_code hd hc), fun x => absurd x h⟩
  · exact ⟨fun x => by omega, fun x => absurd x h⟩
theorem Rds.one : ∀ {ls ls' : List Tx} {k : Nat} {xs vs vs' : List Nat} {c c' : Nat}, Rds k xs ls vs c → Rds k xs ls' vs' c' → ls = ls' ∧ vs = vs' ∧ c = c' := by
  intro ls
  induction ls with
  | nil =>
    intro ls' k xs vs vs' c c' h h'
    obtain ⟨rfl, h⟩ := h
    cases ls' with
    | nil =>
      obtain ⟨rfl, h'⟩ := h'
      refine ⟨rfl, rfl, ?_⟩
      rcases h with ⟨h, rfl⟩ | ⟨h, h1⟩ | ⟨h, rfl, t, r, h1, h2⟩
      · rcases h' with ⟨_, rfl⟩ | ⟨g, _⟩ | ⟨g, _⟩
        · rfl
        · exact absurd h g
        · exact absurd h g
      · rcases h' with ⟨g, _⟩ | ⟨_, g⟩ | ⟨_, _, t, r, g, _⟩
        · exact absurd g h
        · rw [h1] at g; cases g; rfl
        · rw [h1] at g; cases g
      · rcases h' with ⟨g, _⟩ | ⟨_, g⟩ | ⟨_, g, _⟩
        · exact absurd g h
        · rw [h1] at g; cases g
        · exact g.symm
    | cons t' r' =>
      obtain ⟨ys, g0, g1, g2, _⟩ := h'
      rcases h with ⟨h, _⟩ | ⟨_, h⟩ | ⟨_, _, t, r, h1, h2⟩
      · exact absurd h g0
      · rw [h] at g1; cases g1
      · rw [h1] at g1; cases g1; exact absurd g2 h2
  | cons t r ih =>
    intro ls' k xs vs vs' c c' h h'
    obtain ⟨ys, h0, h1, h2, h3⟩ := h
    cases ls' with
    | nil =>
      obtain ⟨rfl, h'⟩ := h'
      rcases h' with ⟨g, _⟩ | ⟨_, g⟩ | ⟨_, _, t', r', g, g2⟩
      · exact absurd g h0
      · rw [h1] at g; cases g
      · rw [h1] at g; cases g; exact absurd h2 g2
    | cons t' r' =>
      obtain ⟨ys', g0, g1, g2, g3⟩ := h'
      rw [h1] at g1
      cases g1
      obtain ⟨a, b, d⟩ := ih h3 g3
      exact ⟨by rw [a], b, d⟩
/-- What stands whole ahead is told. -/
theorem Rds.ahead : ∀ {l ls : List Tx} {k : Nat} {zs vs : List Nat} {c : Nat}, okL k l → Rds k (encL l ++ zs) ls vs c → ∃ rs, ls = l ++ rs ∧ Rds (k + l.length) zs rs vs c := by
  intro l
  induction l with
  | nil => intro ls k zs vs c _ h; exact ⟨ls, rfl, by simpa [encL] using h⟩
  | cons t r ih =>
    intro ls k zs vs c hok h
    obtain ⟨h1, h2, h3⟩ := hok
    have e : encL (t :: r) ++ zs = encR t ++ (encL r ++ zs) := by simp [encL]
    rw [e] at h
    have hb := recF_back h1 (encL r ++ zs)
    have hne : encR t ++ (encL r ++ zs) ≠ [] := by
      intro h0
      have := congrArg List.length h0
      have hl := (encR_length h1).1
      simp only [List.length_append, List.length_nil] at this
      omega
    cases ls with
    | nil =>
      obtain ⟨_, h⟩ := h
      rcases h with ⟨g, _⟩ | ⟨_, g⟩ | ⟨_, _, t', r', g, g2⟩
      · exact absurd g hne
      · rw [hb] at g; cases g
      · rw [hb] at g; cases g; exact absurd h2 g2
    | cons t' r' =>
      obtain ⟨ys, _, g1, g2, g3⟩ := h
      rw [hb] at g1
      cases g1
      obtain ⟨rs, e1, e2⟩ := ih h3 g3
      refine ⟨rs, by rw [e1]; rfl, ?_⟩
      rw [show k + (t :: r).length = k + 1 + r.length by simp only [List.length_cons]; omega]
      exact e2
theorem Rds.nil {k : Nat} {ls : List Tx} {vs : List Nat} {c : Nat} (h : Rds k [] ls vs c) : ls = [] ∧ vs = [] ∧ c = 0 := by
  cases ls with
  | nil =>
    obtain ⟨rfl, h⟩ := h
    rcases h with ⟨_, rfl⟩ | ⟨g, _⟩ | ⟨g, _⟩
    · exact ⟨rfl, rfl, rfl⟩
    · exact absurd rfl g
    · exact absurd rfl g
  | cons t r =>
    obtain ⟨ys, h0, _⟩ := h
    exact absurd rfl h0
theorem Rds.back {l ls : List Tx} {k : Nat} {vs : List Nat} {c : Nat} (hok : okL k l) (h : Rds k (encL l) ls vs c) : ls = l ∧ vs = [] ∧ c = 0 := by
  rw [← List.append_nil (encL l)] at h
  obtain ⟨rs, e, h2⟩ := Rds.ahead hok h
  obtain ⟨rfl, e2, e3⟩ := Rds.nil h2
  exact ⟨by rw [e, List.append_nil], e2, e3⟩
/-- A log that is cut. -/
theorem Rds.cut : ∀ {l ls : List Tx} {k : Nat} {vs : List Nat} {c : Nat} (j : Nat), okL k l → Rds k ((encL l).take j) ls vs c → (∃ m, ls = l.take m) ∧ (c = 0 ∨ c = 5) := by
  intro l
  induction l with
  | nil =>
    intro ls k vs c j _ h
    simp only [encL, List.take_nil] at h
    obtain ⟨rfl, _, rfl⟩ := Rds.nil h
    exact ⟨⟨0, rfl⟩, Or.inl rfl⟩
  | cons t r ih =>
    intro ls k vs c j hok h
    obtain ⟨h1, h2, h3⟩ := hok
    simp only [encL] at h
    by_cases hj : j < (encR t).length
    · rw [take_low _ _ _ hj] at h
      have hc := recF_cut h1 j hj
      cases ls with
      | nil =>
        obtain ⟨_, h⟩ := h
        refine ⟨⟨0, rfl⟩, ?_⟩
        rcases h with ⟨_, rfl⟩ | ⟨_, g⟩ | ⟨_, _, t', r', g, _⟩
        · exact Or.inl rfl
        · rw [hc] at g; cases g; exact Or.inr rfl
        · rw [hc] at g; cases g
      | cons t' r' =>
        obtain ⟨ys, _, g1, _⟩ := h
        rw [hc] at g1; cases g1
    · rw [take_high _ _ _ (by omega)] at h
      have hb := recF_back h1 ((encL r).take (j - (encR t).length))
      have hne : encR t ++ (encL r).take (j - (encR t).length) ≠ [] := by
        intro h0
        have := congrArg List.length h0
        have hl := (encR_length h1).1
        simp only [List.length_append, List.length_nil] at this
        omega
      cases ls with
      | nil =>
        obtain ⟨_, h⟩ := h
        rcases h with ⟨g, _⟩ | ⟨_, g⟩ | ⟨_, _, t', r', g, g2⟩
        · exact absurd g hne
        · rw [hb] at g; cases g
        · rw [hb] at g; cases g; exact absurd h2 g2
      | cons t' r' =>
        obtain ⟨ys, _, g1, g2, g3⟩ := h
        rw [hb] at g1
        cases g1
        obtain ⟨⟨m, e⟩, hc⟩ := ih _ h3 g3
        exact ⟨⟨m + 1, by rw [e]; rfl⟩, hc⟩
/-- A log's bytes are no other log's. -/
theorem encL_inj {l m : List Tx} {k : Nat} (h : okL k l) (h' : okL k m) (e : encL l = encL m) : l = m := by
  obtain ⟨ls, vs, c, hR⟩ := Rds.ex _ k (encL l) (Nat.le_refl _) (encL_lt l)
  have a := (Rds.back h hR).1
  rw [e] at hR
  exact a.symm.trans (Rds.back h' hR).1
end Go.Proofs.YtaefninikmaiiaaGreatDoor

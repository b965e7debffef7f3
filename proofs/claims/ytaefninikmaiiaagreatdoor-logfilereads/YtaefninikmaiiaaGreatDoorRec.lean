/- Transactions as bytes and back, as plain functions on lists: one form, no bytes are the beginning of another's. Plain lemmas. -/
import Derived.Test.YtaefninikmaiiaaGreatDoorPure
namespace Go.Proofs.YtaefninikmaiiaaGreatDoor
open Go.ChangeShapes Go.WideShapes Go.ChangeAt Go.RowKit Go.Lib

/-- A write. -/
structure Wt where
  key : ByteArray
  val : ByteArray
  drop : Bool

def noS : ByteArray := ⟨#[]⟩
theorem noS_iff (s : ByteArray) : s.size = 0 ↔ s = noS := by
  constructor
  · intro h
    cases s with
    | mk d =>
      have hd : d.size = 0 := h
      have : d = #[] := Array.eq_empty_of_size_eq_zero hd
      rw [this]
      rfl
  · rintro rfl
    rfl

/-- May a write be? -/
def okW (x : Wt) : Prop := 1 ≤ x.key.size ∧ x.key.size ≤ 64 ∧ x.val.size ≤ 1024 ∧ (x.drop = true → x.val = noS)
/-- May a transaction be? -/
def okT (n : Int) (ws : List Wt) : Prop := 1 ≤ n ∧ n ≤ 65536 ∧ ws.length ≤ 32 ∧ ∀ x ∈ ws, okW x

def encS (s : ByteArray) : List Nat := enc s.size ++ strNs s
def encV (x : Wt) : List Nat := if x.drop then [1] else 0 :: encS x.val
def encW (x : Wt) : List Nat := encS x.key ++ encV x
def encWs : List Wt → List Nat
  | [] => []
  | x :: r => encW x ++ encWs r
def encT (n : Nat) (ws : List Wt) : List Nat := enc n ++ (enc ws.length ++ encWs ws)

theorem encWs_snoc (ws : List Wt) (x : Wt) : encWs (ws ++ [x]) = encWs ws ++ encW x := by
  induction ws with
  | nil => simp [encWs]
  | cons y r ih => simp [encWs, ih]
theorem encS_lt (s : ByteArray) : ∀ x ∈ encS s, x < 256 := by
  intro x hx
  rcases List.mem_append.1 hx with h | h
  · exact enc_lt _ x h
  · exact strNs_lt s x h
theorem encW_lt (y : Wt) : ∀ x ∈ encW y, x < 256 := by
  intro x hx
  rcases List.mem_append.1 hx with h | h
  · exact encS_lt _ x h
  · unfold encV at h
    split at h
    · simp at h; omega
    · rcases List.mem_cons.1 h with rfl | h
      · omega
      · exact encS_lt _ x h
theorem encWs_lt (ws : List Wt) : ∀ x ∈ encWs ws, x < 256 := by
  induction ws with
  | nil => intro x hx; simp [encWs] at hx
  | cons y r ih =>
    intro x hx
    rcases List.mem_append.1 hx with h | h
    · exact encW_lt y x h
    · exact ih x h
theorem encT_lt (n : Nat) (ws : List Wt) : ∀ x ∈ encT n ws, x < 256 := by
  intro x hx
  rcases List.mem_append.1 hx with h | h
  · exact enc_lt _ x h
  · rcases List.mem_append.1 h with h | h
    · exact enc_lt _ x h
    · exact encWs_lt ws x h
theorem encS_length (s : ByteArray) : 1 ≤ (encS s).length ∧ (encS s).length ≤ 10 + s.size := by
  have := enc_length s.size
  simp only [encS, List.length_append, strNs_length]
  omega
theorem encW_length (x : Wt) (h : okW x) : 1 ≤ (encW x).length ∧ (encW x).length ≤ 2000 := by
  obtain ⟨h1, h2, h3, _⟩ := h
  have a := encS_length x.key
  have b := encS_length x.val
  simp only [encW, List.length_append, encV]
  split
  · simp only [List.length_cons, List.length_nil]; omega
  · simp only [List.length_cons]; omega
theorem encWs_length (ws : List Wt) (h : ∀ x ∈ ws, okW x) : (encWs ws).length ≤ 2000 * ws.length := by
  induction ws with
  | nil => simp [encWs]
  | cons y r ih =>
    have a := (encW_length y (h y (by simp))).2
    have b := ih (fun x hx => h x (by simp [hx]))
    simp only [encWs, List.length_append, List.length_cons]
    omega
theorem encT_length (n : Nat) (ws : List Wt) (h : okT (n : Int) ws) : 2 ≤ (encT n ws).length ∧ (encT n ws).length ≤ 65000 := by
  have a := enc_length n
  have b := enc_length ws.length
  have c := encWs_length ws h.2.2.2
  have d := h.2.2.1
  simp only [encT, List.length_append]
  omega

/-- One thing taken and looked at: it and what is ahead then, or what is wrong. -/
def tk {α : Type} (f : List Nat → α × Nat × Nat) (ref : α → Nat) (xs : List Nat) : Except Nat (α × List Nat) :=
  if (f xs).2.2 ≠ 0 then .error (f xs).2.2 else if ref (f xs).1 ≠ 0 then .error (ref (f xs).1) else .ok ((f xs).1, xs.drop (f xs).2.1)
def refN (n : Nat) : Nat := if n < 1 ∨ 65536 < n then 1 else 0
def refC (n : Nat) : Nat := if 32 < n then 3 else 0
def refK (s : ByteArray) : Nat := if s.size = 0 then 1 else 0
def refD (n : Nat) : Nat := if n = 0 ∨ n = 1 then 0 else 4
def refV (_ : ByteArray) : Nat := 0
def decV (k : ByteArray) (xs : List Nat) : Except Nat (Wt × List Nat) :=
  match tk (textF 1024) refV xs with
  | .error e => .error e
  | .ok (v, r) => .ok (⟨k, v, false⟩, r)
def decD (k : ByteArray) (xs : List Nat) : Except Nat (Wt × List Nat) :=
  match tk (fixF 1) refD xs with
  | .error e => .error e
  | .ok (d, r) => if d = 1 then .ok (⟨k, noS, true⟩, r) else decV k r
def decW (xs : List Nat) : Except Nat (Wt × List Nat) :=
  match tk (textF 64) refK xs with
  | .error e => .error e
  | .ok (k, r) => decD k r
def decWs : Nat → List Nat → Except Nat (List Wt × List Nat)
  | 0, xs => .ok ([], xs)
  | k + 1, xs => match decW xs with
    | .error e => .error e
    | .ok (x, r) => match decWs k r with
      | .error e => .error e
      | .ok (ws, s) => .ok (x :: ws, s)
def decE (n : Nat) (ws : List Wt) (xs : List Nat) : Except Nat (Nat × List Wt) := if xs.length = 0 then .ok (n, ws) else .error 4
def decC (n : Nat) (xs : List Nat) : Except Nat (Nat × List Wt) :=
  match tk (shortF 0 0) refC xs with
  | .error e => .error e
  | .ok (c, r) => match decWs c r with
    | .error e => .error e
    | .ok (ws, s) => decE n ws s
def decT (xs : List Nat) : Except Nat (Nat × List Wt) :=
  match tk (shortF 0 0) refN xs with
  | .error e => .error e
  | .ok (n, r) => decC n r

/-- A thing that is there, taken. -/
theorem tk_ok {α : Type} {f : List Nat → α × Nat × Nat} {ref : α → Nat} {xs : List Nat} {v : α} {k : Nat} (h : f xs = (v, k, 0)) (hr : ref v = 0) : tk f ref xs = .ok (v, xs.drop k) := by
  simp [tk, h, hr]
theorem tk_err {α : Type} {f : List Nat → α × Nat × Nat} {ref : α → Nat} {xs : List Nat} {v : α} {k e : Nat} (h : f xs = (v, k, e)) (he : e ≠ 0) : tk f ref xs = .error e := by
  simp [tk, h, he]
theorem tk_inv {α : Type} {f : List Nat → α × Nat × Nat} {ref : α → Nat} {xs r : List Nat} {v : α} (h : tk f ref xs = .ok (v, r)) : (f xs).2.2 = 0 ∧ (f xs).1 = v ∧ ref v = 0 ∧ xs.drop (f xs).2.1 = r := by
  unfold tk at h
  split at h
  · cases h
  · rename_i h1
    split at h
    · cases h
    · rename_i h2
      cases h
      exact ⟨by simpa using h1, rfl, by simpa using h2, rfl⟩

theorem drop_left (a b : List Nat) : (a ++ b).drop a.length = b := List.drop_left
theorem take_low (a b : List Nat) (k : Nat) (h : k < a.length) : (a ++ b).take k = a.take k := by
  rw [List.take_append_of_le_length (by omega)]
theorem take_high (a b : List Nat) (k : Nat) (h : a.length ≤ k) : (a ++ b).take k = a ++ b.take (k - a.length) := by
  rw [List.take_append, List.take_of_length_le h]

theorem text_enc (m : Nat) (s : ByteArray) (r : List Nat) (hs : s.size ≤ m) (hm : m < 2 ^ 40) : textF (m : Int) (encS s ++ r) = (s, (encS s).length, 0) := by
  have e : encS s ++ r = enc s.size ++ (strNs s ++ r) := by simp [encS]
  have hsh := short_enc s.size (strNs s ++ r) (by omega)
  rw [e]
  unfold textF
  rw [if_neg (by omega), hsh]
  simp only
  rw [if_neg (by simp), if_neg (by omega), if_neg (by simp only [List.length_append, strNs_length]; omega)]
  rw [drop_left]
  have : (strNs s ++ r).take s.size = strNs s := by
    rw [← strNs_length s, List.take_left]
  rw [this, toBA_strNs]
  simp [encS, strNs_length]
theorem text_cut (m : Nat) (s : ByteArray) (k : Nat) (hs : s.size ≤ m) (hm : m < 2 ^ 40) (hk : k < (encS s).length) : (textF (m : Int) ((encS s).take k)).2.2 = 5 := by
  unfold textF
  rw [if_neg (by omega)]
  by_cases h : k < (enc s.size).length
  · have e : (encS s).take k = (enc s.size).take k := take_low _ _ _ h
    rw [e, short_cut s.size k (by omega) h]
    simp
  · have e : (encS s).take k = enc s.size ++ (strNs s).take (k - (enc s.size).length) := take_high _ _ _ (by omega)
    have hsh := short_enc s.size ((strNs s).take (k - (enc s.size).length)) (by omega)
    rw [e, hsh]
    simp only
    have hl : (encS s).length = (enc s.size).length + s.size := by simp [encS, strNs_length]
    rw [if_neg (by simp), if_neg (by omega), if_pos (by simp only [List.length_append, List.length_take, strNs_length]; omega)]
theorem fix_enc (d : Nat) (r : List Nat) : fixF 1 (d :: r) = (d, 1, 0) := by
  unfold fixF
  rw [if_neg (by decide), if_neg (by simp only [List.length_cons]; omega)]
  simp [leN]
theorem fix_none : fixF 1 [] = (0, 0, 5) := by
  unfold fixF
  rw [if_neg (by decide), if_pos (by decide)]

theorem refK_ok {x : Wt} (h : okW x) : refK x.key = 0 := by
  unfold refK
  rw [if_neg (by have := h.1; omega)]

/-- What stands behind a key, taken back. -/
theorem decD_back (x : Wt) (h : okW x) (r : List Nat) : decD x.key (encV x ++ r) = .ok (x, r) := by
  unfold decD encV
  by_cases hd : x.drop = true
  · rw [if_pos hd]
    have e : ([1] ++ r : List Nat) = 1 :: r := rfl
    rw [e, tk_ok (fix_enc 1 r) (by simp [refD])]
    have hv := h.2.2.2 hd
    cases x with
    | mk k v d =>
      simp only at hd hv ⊢
      subst hd
      subst hv
      simp
  · rw [if_neg hd, List.cons_append, tk_ok (fix_enc 0 _) (by simp [refD])]
    simp only [List.drop_succ_cons, List.drop_zero]
    rw [if_neg (by decide)]
    unfold decV
    have ht := text_enc 1024 x.val r h.2.2.1 (by decide)
    rw [tk_ok (f := textF 1024) ht rfl]
    simp only [drop_left]
    cases x with
    | mk k v d =>
      simp only at hd ⊢
      simp at hd
      subst hd
      rfl
theorem decW_back (x : Wt) (h : okW x) (r : List Nat) : decW (encW x ++ r) = .ok (x, r) := by
  unfold decW
  have e : encW x ++ r = encS x.key ++ (encV x ++ r) := by simp [encW]
  have ht := text_enc 64 x.key (encV x ++ r) h.2.1 (by decide)
  rw [e, tk_ok (f := textF 64) ht (refK_ok h)]
  simp only [drop_left]
  exact decD_back x h r
theorem decD_cut (x : Wt) (h : okW x) (k : Nat) (hk : k < (encV x).length) : decD x.key ((encV x).take k) = .error 5 := by
  unfold decD encV at *
  by_cases hd : x.drop = true
  · rw [if_pos hd] at hk ⊢
    simp at hk
    subst hk
    rw [List.take_zero, tk_err fix_none (by decide)]
  · rw [if_neg hd] at hk ⊢
    cases k with
    | zero => rw [List.take_zero, tk_err fix_none (by decide)]
    | succ k =>
      simp only [List.length_cons] at hk
      rw [List.take_succ_cons, tk_ok (fix_enc 0 _) (by simp [refD])]
      simp only [List.drop_succ_cons, List.drop_zero]
      rw [if_neg (by decide)]
      unfold decV
      have ht := text_cut 1024 x.val k h.2.2.1 (by decide) (by omega)
      have : tk (textF 1024) refV ((encS x.val).take k) = .error 5 := by
        rw [tk_err (f := textF 1024) (v := _) (k := _) (e := 5) (Prod.ext rfl (Prod.ext rfl ht)) (by decide)]
      rw [this]
theorem decW_cut (x : Wt) (h : okW x) (k : Nat) (hk : k < (encW x).length) : decW ((encW x).take k) = .error 5 := by
  unfold decW encW at *
  rw [List.length_append] at hk
  by_cases h1 : k < (encS x.key).length
  · rw [take_low _ _ _ h1]
    have ht := text_cut 64 x.key k h.2.1 (by decide) h1
    have : tk (textF 64) refK ((encS x.key).take k) = .error 5 := by
      rw [tk_err (f := textF 64) (v := _) (k := _) (e := 5) (Prod.ext rfl (Prod.ext rfl ht)) (by decide)]
    rw [this]
  · rw [take_high _ _ _ (by omega)]
    have ht := text_enc 64 x.key ((encV x).take (k - (encS x.key).length)) h.2.1 (by decide)
    rw [tk_ok (f := textF 64) ht (refK_ok h)]
    simp only [drop_left]
    exact decD_cut x h _ (by omega)
theorem decWs_back (ws : List Wt) (h : ∀ x ∈ ws, okW x) (r : List Nat) : decWs ws.length (encWs ws ++ r) = .ok (ws, r) := by
  induction ws with
  | nil => simp [encWs, decWs]
  | cons x s ih =>
    have e : encWs (x :: s) ++ r = encW x ++ (encWs s ++ r) := by simp [encWs]
    rw [e, List.length_cons, decWs, decW_back x (h x (by simp))]
    simp only
    rw [ih (fun y hy => h y (by simp [hy]))]
theorem decWs_cut (ws : List Wt) (h : ∀ x ∈ ws, okW x) (k : Nat) (hk : k < (encWs ws).length) : decWs ws.length ((encWs ws).take k) = .error 5 := by
  induction ws generalizing k with
  | nil => simp [encWs] at hk
  | cons x s ih =>
    rw [List.length_cons, decWs]
    simp only [encWs, List.length_append] at hk ⊢
    by_cases h1 : k < (encW x).length
    · rw [take_low _ _ _ h1, decW_cut x (h x (by simp)) k h1]
    · rw [take_high _ _ _ (by omega), decW_back x (h x (by simp))]
      simp only
      rw [ih (fun y hy => h y (by simp [hy])) (k - (encW x).length) (by omega)]
theorem refN_ok {n : Nat} {ws : List Wt} (h : okT (n : Int) ws) : refN n = 0 := by
  unfold refN
  rw [if_neg (by have := h.1; have := h.2.1; omega)]
theorem refC_ok {n : Int} {ws : List Wt} (h : okT n ws) : refC ws.length = 0 := by
  unfold refC
  rw [if_neg (by have := h.2.2.1; omega)]
/-- Behind a transaction's bytes may stand others: then it is what is left that is wrong. -/
theorem decT_more (n : Nat) (ws : List Wt) (h : okT (n : Int) ws) (r : List Nat) : decT (encT n ws ++ r) = decE n ws r := by
  have e : encT n ws ++ r = enc n ++ (enc ws.length ++ (encWs ws ++ r)) := by simp [encT]
  have hn := h.2.1
  have hl := h.2.2.1
  unfold decT
  rw [e, tk_ok (short_enc n _ (by omega)) (refN_ok h)]
  simp only [drop_left]
  unfold decC
  rw [tk_ok (short_enc ws.length _ (by omega)) (refC_ok h)]
  simp only [drop_left]
  rw [decWs_back ws h.2.2.2]
theorem decT_back (n : Nat) (ws : List Wt) (h : okT (n : Int) ws) : decT (encT n ws) = .ok (n, ws) := by
  have := decT_more n ws h []
  rw [List.append_nil] at this
  rw [this]
  rfl
theorem decT_long (n : Nat) (ws : List Wt) (h : okT (n : Int) ws) (y : Nat) : decT (encT n ws ++ [y]) = .error 4 := by
  rw [decT_more n ws h]
  rfl
theorem decT_cut (n : Nat) (ws : List Wt) (h : okT (n : Int) ws) (k : Nat) (hk : k < (encT n ws).length) : decT ((encT n ws).take k) = .error 5 := by
  have hn := h.2.1
  have hl := h.2.2.1
  unfold decT encT at *
  simp only [List.length_append] at hk
  by_cases h1 : k < (enc n).length
  · rw [take_low _ _ _ h1, tk_err (short_cut n k (by omega) h1) (by decide)]
  · rw [take_high _ _ _ (by omega), tk_ok (short_enc n _ (by omega)) (refN_ok h)]
    simp only [drop_left]
    unfold decC
    by_cases h2 : k - (enc n).length < (enc ws.length).length
    · rw [take_low _ _ _ h2, tk_err (short_cut ws.length _ (by omega) h2) (by decide)]
    · rw [take_high _ _ _ (by omega), tk_ok (short_enc ws.length _ (by omega)) (refC_ok h)]
      simp only [drop_left]
      rw [decWs_cut ws h.2.2.2 _ (by omega)]

/-! ### What is taken is told again -/
theorem lt_drop {xs : List Nat} (hb : ∀ x ∈ xs, x < 256) (k : Nat) : ∀ x ∈ xs.drop k, x < 256 := fun x hx => hb x (List.mem_of_mem_drop hx)
theorem tkS_inv {m : Nat} {ref : ByteArray → Nat} {xs r : List Nat} {s : ByteArray} (hb : ∀ x ∈ xs, x < 256) (h : tk (textF (m : Int)) ref xs = .ok (s, r)) : xs = encS s ++ r ∧ s.size ≤ m ∧ ref s = 0 := by
  obtain ⟨h1, h2, h3, h4⟩ := tk_inv h
  have hf := text_form m xs hb h1
  rw [h2] at hf
  refine ⟨?_, ?_, h3⟩
  · rw [← h4]
    show xs = (enc s.size ++ strNs s) ++ _
    rw [hf, List.take_append_drop]
  · subst h2
    unfold textF at h1 ⊢
    rw [if_neg (by omega)] at h1 ⊢
    split at h1
    · rename_i hh; exact absurd h1 hh
    · rename_i hh
      rw [if_neg hh]
      split at h1
      · simp at h1
      · rename_i hh2
        rw [if_neg hh2]
        split at h1
        · simp at h1
        · rename_i hh3
          rw [if_neg hh3]
          simp only [toBA_size, List.length_take]
          omega
theorem tkN_inv {ref : Nat → Nat} {xs r : List Nat} {n : Nat} (hb : ∀ x ∈ xs, x < 256) (h : tk (shortF 0 0) ref xs = .ok (n, r)) : xs = enc n ++ r ∧ ref n = 0 := by
  obtain ⟨h1, h2, h3, h4⟩ := tk_inv h
  have hf := enc_short xs hb h1
  rw [h2] at hf
  refine ⟨?_, h3⟩
  rw [← h4, hf, List.take_append_drop]
theorem tkD_inv {xs r : List Nat} {d : Nat} (h : tk (fixF 1) refD xs = .ok (d, r)) : xs = d :: r ∧ (d = 0 ∨ d = 1) := by
  cases xs with
  | nil => rw [tk_err fix_none (by decide)] at h; cases h
  | cons y s =>
    obtain ⟨h1, h2, h3, h4⟩ := tk_inv h
    rw [fix_enc] at h2 h4
    simp at h2 h4
    subst h2
    subst h4
    refine ⟨rfl, ?_⟩
    unfold refD at h3
    split at h3
    · assumption
    · cases h3
theorem decW_inv {xs r : List Nat} {x : Wt} (hb : ∀ y ∈ xs, y < 256) (h : decW xs = .ok (x, r)) : xs = encW x ++ r ∧ okW x := by
  unfold decW at h
  split at h
  · cases h
  · rename_i k s hk
    obtain ⟨e1, h1, h2⟩ := tkS_inv (m := 64) hb hk
    have hb1 : ∀ y ∈ s, y < 256 := fun y hy => hb y (by rw [e1]; simp [hy])
    have hk0 : 1 ≤ k.size := by
      unfold refK at h2
      split at h2
      · cases h2
      · omega
    unfold decD at h
    split at h
    · cases h
    · rename_i d s2 hd
      obtain ⟨e2, h3⟩ := tkD_inv hd
      have hb2 : ∀ y ∈ s2, y < 256 := fun y hy => hb1 y (by rw [e2]; simp [hy])
      split at h
      · rename_i hd1
        cases h
        refine ⟨?_, hk0, h1, Nat.zero_le _, fun _ => rfl⟩
        rw [e1, e2, hd1]
        simp [encW, encV]
      · rename_i hd1
        have hd0 : d = 0 := by omega
        unfold decV at h
        split at h
        · cases h
        · rename_i v s3 hv
          cases h
          obtain ⟨e3, h4, _⟩ := tkS_inv (m := 1024) hb2 hv
          refine ⟨?_, hk0, h1, h4, fun hh => by simp at hh⟩
          rw [e1, e2, hd0, e3]
          simp [encW, encV]
theorem decWs_inv : ∀ (k : Nat) {xs r : List Nat} {ws : List Wt}, (∀ y ∈ xs, y < 256) → decWs k xs = .ok (ws, r) → xs = encWs ws ++ r ∧ ws.length = k ∧ ∀ x ∈ ws, okW x := by
  intro k
  induction k with
  | zero =>
    intro xs r ws hb h
    simp only [decWs] at h
    cases h
    exact ⟨rfl, rfl, by simp⟩
  | succ k ih =>
    intro xs r ws hb h
    rw [decWs] at h
    split at h
    · cases h
    · rename_i x s hx
      obtain ⟨e1, h1⟩ := decW_inv hb hx
      have hb1 : ∀ y ∈ s, y < 256 := fun y hy => hb y (by rw [e1]; simp [hy])
      split at h
      · cases h
      · rename_i vs s2 hs
        cases h
        obtain ⟨e2, h2, h3⟩ := ih hb1 hs
        refine ⟨by rw [e1, e2]; simp [encWs], by simp [h2], ?_⟩
        intro y hy
        rcases List.mem_cons.1 hy with rfl | hy
        · exact h1
        · exact h3 y hy
theorem decT_inv {xs : List Nat} {n : Nat} {ws : List Wt} (hb : ∀ y ∈ xs, y < 256) (h : decT xs = .ok (n, ws)) : xs = encT n ws ∧ okT (n : Int) ws := by
  unfold decT at h
  split at h
  · cases h
  · rename_i m s hm
    obtain ⟨e1, h1⟩ := tkN_inv hb hm
    have hb1 : ∀ y ∈ s, y < 256 := fun y hy => hb y (by rw [e1]; simp [hy])
    unfold decC at h
    split at h
    · cases h
    · rename_i c s2 hc
      obtain ⟨e2, h2⟩ := tkN_inv hb1 hc
      have hb2 : ∀ y ∈ s2, y < 256 := fun y hy => hb1 y (by rw [e2]; simp [hy])
      split at h
      · cases h
      · rename_i vs s3 hs
        obtain ⟨e3, h3, h4⟩ := decWs_inv c hb2 hs
        unfold decE at h
        split at h
        · rename_i h5
          cases h
          have e5 : s3 = [] := List.eq_nil_of_length_eq_zero h5
          unfold refN at h1
          unfold refC at h2
          have hn : ¬ (n < 1 ∨ 65536 < n) := by intro hh; rw [if_pos hh] at h1; cases h1
          have hc : ¬ 32 < c := by intro hh; rw [if_pos hh] at h2; cases h2
          refine ⟨?_, by omega, by omega, by omega, h4⟩
          rw [e1, e2, e3, e5, ← h3]
          simp [encT]
        · cases h

/-! ### Errors are none of OK -/
theorem tk_code {α : Type} {f : List Nat → α × Nat × Nat} {ref : α → Nat} {xs : List Nat} {e : Nat} (h : tk f ref xs = .error e) : e ≠ 0 := by
  unfold tk at h
  split at h
  · rename_i h1; cases h; exact h1
  · split at h
    · rename_i h1; cases h; exact h1
    · cases h

/-- No transaction's bytes are the beginning of another one's. -/
theorem encT_apart (n m k : Nat) (ws vs : List Wt) (h : okT (n : Int) ws) (h' : okT (m : Int) vs) (hk : k = min (encT n ws).length (encT m vs).length) : (encT n ws).take k = (encT m vs).take k ↔ n = m ∧ ws = vs := by
  constructor
  · intro e
    have key : ∀ (n m : Nat) (ws vs : List Wt), okT (n : Int) ws → okT (m : Int) vs → (encT n ws).length ≤ (encT m vs).length → encT n ws = (encT m vs).take (encT n ws).length → n = m ∧ ws = vs := by
      intro n m ws vs h h' hl e
      have e2 : encT m vs = encT n ws ++ (encT m vs).drop (encT n ws).length := by
        conv => rhs; lhs; rw [e]
        exact (List.take_append_drop _ _).symm
      have h1 := decT_back m vs h'
      rw [e2, decT_more n ws h] at h1
      unfold decE at h1
      split at h1
      · cases h1; exact ⟨rfl, rfl⟩
      · cases h1
    by_cases hl : (encT n ws).length ≤ (encT m vs).length
    · rw [hk, Nat.min_eq_left hl, List.take_of_length_le (Nat.le_refl _)] at e
      exact key n m ws vs h h' hl e
    · rw [hk, Nat.min_eq_right (by omega), List.take_of_length_le (l := encT m vs) (Nat.le_refl _)] at e
      obtain ⟨a, b⟩ := key m n vs ws h' h (by omega) e.symm
      exact ⟨a.symm, b.symm⟩
  · rintro ⟨rfl, rfl⟩
    rfl
end Go.Proofs.YtaefninikmaiiaaGreatDoor

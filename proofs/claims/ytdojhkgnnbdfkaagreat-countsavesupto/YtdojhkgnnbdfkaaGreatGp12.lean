/- Texts of this claim laid together, one behind the other: contracts and plain lemmas; conditions as each names them. -/
import Derived.Test.YtdojhkgnnbdfkaaGreatGp11
/- What a checkpoint says, as bytes and back: plain functions on lists, one form. Plain lemmas. -/
namespace Go.Proofs.YtdojhkgnnbdfkaaGreat
open Go.ChangeShapes Go.WideShapes Go.ChangeAt Go.RowKit Go.Lib Go.Maps
set_option linter.unusedVariables false
set_option linter.unusedSimpArgs false

/-- A key with its versions. -/
abbrev Kv : Type := ByteArray × List Vn
def Hd.kv (h : Hd) : Kv := (h.key, h.vs)

def encS (s : ByteArray) : List Nat := enc s.size ++ strNs s
def encV (v : Vn) : List Nat := if v.drop then [1] else 0 :: encS v.val
def encX (v : Vn) : List Nat := enc v.num.toNat ++ encV v
def encXs (vs : List Vn) : List Nat := vs.flatMap encX
def encK (p : Kv) : List Nat := encS p.1 ++ (enc p.2.length ++ encXs p.2)
def encKs (ps : List Kv) : List Nat := ps.flatMap encK
def encI (n : Int) : List Nat := enc n.toNat
def encIs (ns : List Int) : List Nat := ns.flatMap encI
def encD (m : Int) (bs : List Int) (ps : List Kv) : List Nat := encI m ++ (enc bs.length ++ (encIs bs ++ (enc ps.length ++ encKs ps)))

/-- Numbers beyond a mark. -/
structure BeyOk (m : Int) (bs : List Int) : Prop where
  rise : bs.Pairwise (· < ·)
  low : ∀ b ∈ bs, m + 2 ≤ b
  high : ∀ b ∈ bs, b ≤ 65536
/-- Versions that are saved at a mark, as the program asks it. -/
def SvV (m : Int) (bs : List Int) (vs : List Vn) : Prop :=
  ((vs.getD 0 Vn.zero).num ≤ m → (vs.getD 0 Vn.zero).drop = false ∧ ∀ v ∈ vs.drop 1, v.num ∈ bs) ∧ (m < (vs.getD 0 Vn.zero).num → ∀ v ∈ vs, v.num ∈ bs)
/-- Keys that rise, each with versions that may be. -/
def LoK (ps : List Kv) : Prop := ps.Pairwise (fun a b => Op.bytesLess a.1.toList b.1.toList = true) ∧ ∀ p ∈ ps, okK9 p.1 ∧ p.2 ≠ [] ∧ okV p.2
structure OkS (m : Int) (bs : List Int) (ps : List Kv) : Prop where
  m0 : 0 ≤ m
  m1 : m ≤ 65536
  bey : BeyOk m bs
  lo : LoK ps
  sv : ∀ p ∈ ps, SvV m bs p.2
theorem LoOk_iff (hs : List Hd) : LoOk hs ↔ LoK (hs.map Hd.kv) := by
  unfold LoOk LoK
  rw [List.pairwise_map]
  constructor
  · rintro ⟨h1, h2⟩
    refine ⟨h1, fun p hp => ?_⟩
    obtain ⟨h, hh, rfl⟩ := List.mem_map.1 hp
    exact h2 h hh
  · rintro ⟨h1, h2⟩
    exact ⟨h1, fun h hh => h2 _ (List.mem_map.2 ⟨h, hh, rfl⟩)⟩

/-! ### Lengths and bytes -/
theorem encS_lt (s : ByteArray) : ∀ x ∈ encS s, x < 256 := by
  intro x hx
  rcases List.mem_append.1 hx with h | h
  · exact enc_lt _ x h
  · exact strNs_lt s x h
theorem encS_length (s : ByteArray) : 1 ≤ (encS s).length ∧ (encS s).length ≤ 10 + s.size := by
  have := enc_length s.size
  simp only [encS, List.length_append, strNs_length]
  omega
theorem encX_length (v : Vn) : 2 ≤ (encX v).length ∧ (encX v).length ≤ 21 + v.val.size := by
  have a := enc_length v.num.toNat
  have b := encS_length v.val
  simp only [encX, encV, List.length_append]
  split
  · simp only [List.length_cons, List.length_nil]; omega
  · simp only [List.length_cons]; omega
/-- The statements' measure of versions, of keys. -/
def szX (v : Vn) : Nat := 1 + v.val.size
def szXs (vs : List Vn) : Nat := (vs.map szX).sum
def szK (p : Kv) : Nat := 1 + p.1.size + szXs p.2
def szKs (ps : List Kv) : Nat := (ps.map szK).sum
theorem encXs_length (vs : List Vn) : (encXs vs).length ≤ 21 * szXs vs ∧ vs.length ≤ (encXs vs).length := by
  induction vs with
  | nil => simp [encXs, szXs]
  | cons v r ih =>
    have := encX_length v
    have hz : szX v = 1 + v.val.size := rfl
    simp only [encXs, szXs, List.flatMap_cons, List.length_append, List.map_cons, List.sum_cons, List.length_cons] at *
    omega
theorem encK_length (p : Kv) : 2 ≤ (encK p).length ∧ (encK p).length ≤ 21 * szK p := by
  have a := encS_length p.1
  have b := enc_length p.2.length
  have c := encXs_length p.2
  simp only [encK, List.length_append, szK]
  omega
theorem encKs_length (ps : List Kv) : (encKs ps).length ≤ 21 * szKs ps := by
  induction ps with
  | nil => simp [encKs, szKs]
  | cons v r ih =>
    have := encK_length v
    simp only [encKs, szKs, List.flatMap_cons, List.length_append, List.map_cons, List.sum_cons] at *
    omega
theorem encIs_length (ns : List Int) : (encIs ns).length ≤ 10 * ns.length := by
  induction ns with
  | nil => simp [encIs]
  | cons v r ih =>
    have := enc_length v.toNat
    simp only [encIs, List.flatMap_cons, List.length_append, List.length_cons, encI] at *
    omega
theorem encD_length (m : Int) (bs : List Int) (ps : List Kv) : 3 ≤ (encD m bs ps).length ∧ (encD m bs ps).length ≤ 30 + 10 * bs.length + 21 * szKs ps := by
  have a := enc_length m.toNat
  have b := enc_length bs.length
  have c := enc_length ps.length
  have d := encIs_length bs
  have e := encKs_length ps
  simp only [encD, encI, List.length_append]
  omega

/-! ### Taking -/
/-- One thing taken and looked at: it and what is ahead then, or what is wrong. -/
def tk {α : Type} (f : List Nat → α × Nat × Nat) (ref : α → Nat) (xs : List Nat) : Except Nat (α × List Nat) :=
  if (f xs).2.2 ≠ 0 then .error (f xs).2.2 else if ref (f xs).1 ≠ 0 then .error (ref (f xs).1) else .ok ((f xs).1, xs.drop (f xs).2.1)
def refL (n : Nat) : Nat := if 65536 < n then 3 else 0
def refD (n : Nat) : Nat := if n = 0 ∨ n = 1 then 0 else 4
def refV (_ : ByteArray) : Nat := 0
def dN (xs : List Nat) : Except Nat (Nat × List Nat) := tk (shortF 0 0) refL xs
def dT (m : Nat) (xs : List Nat) : Except Nat (ByteArray × List Nat) := tk (textF (m : Int)) refV xs
def dF (xs : List Nat) : Except Nat (Nat × List Nat) := tk (fixF 1) refD xs
def dXv (n : Nat) (xs : List Nat) : Except Nat (Vn × List Nat) :=
  match dT 1024 xs with
  | .error e => .error e
  | .ok (v, r) => .ok (⟨(n : Int), v, false⟩, r)
def dXd (n : Nat) (xs : List Nat) : Except Nat (Vn × List Nat) :=
  match dF xs with
  | .error e => .error e
  | .ok (d, r) => if d = 1 then .ok (⟨(n : Int), noS, true⟩, r) else dXv n r
def dX (xs : List Nat) : Except Nat (Vn × List Nat) :=
  match dN xs with
  | .error e => .error e
  | .ok (n, r) => dXd n r
def dI (xs : List Nat) : Except Nat (Int × List Nat) :=
  match dN xs with
  | .error e => .error e
  | .ok (n, r) => .ok ((n : Int), r)
/-- So many things, one behind the other. -/
def dR {α : Type} (f : List Nat → Except Nat (α × List Nat)) : Nat → List Nat → Except Nat (List α × List Nat)
  | 0, xs => .ok ([], xs)
  | k + 1, xs => match f xs with
    | .error e => .error e
    | .ok (x, r) => match dR f k r with
      | .error e => .error e
      | .ok (l, s) => .ok (x :: l, s)
def dL {α : Type} (f : List Nat → Except Nat (α × List Nat)) (xs : List Nat) : Except Nat (List α × List Nat) :=
  match dN xs with
  | .error e => .error e
  | .ok (n, r) => dR f n r
def dK (xs : List Nat) : Except Nat (Kv × List Nat) :=
  match dT 64 xs with
  | .error e => .error e
  | .ok (k, r) => match dL dX r with
    | .error e => .error e
    | .ok (vs, s) => .ok ((k, vs), s)
/-- What is said. -/
structure Sd where
  m : Int
  bs : List Int
  ps : List Kv
def dS (xs : List Nat) : Except Nat (Sd × List Nat) :=
  match dI xs with
  | .error e => .error e
  | .ok (m, r) => match dL dI r with
    | .error e => .error e
    | .ok (bs, s) => match dL dK s with
      | .error e => .error e
      | .ok (ps, t) => .ok (⟨m, bs, ps⟩, t)

theorem tk_ok {α : Type} {f : List Nat → α × Nat × Nat} {ref : α → Nat} {xs : List Nat} {v : α} {k : Nat} (h : f xs = (v, k, 0)) (hr : ref v = 0) : tk f ref xs = .ok (v, xs.drop k) := by
  simp [tk, h, hr]
theorem tk_err {α : Type} {f : List Nat → α × Nat × Nat} {ref : α → Nat} {xs : List Nat} {v : α} {k e : Nat} (h : f xs = (v, k, e)) (he : e ≠ 0) : tk f ref xs = .error e := by
  simp [tk, h, he]
theorem tk_inv {α : Type} {f : List Nat → α × Nat × Nat} {ref : α → Nat} {xs r : List Nat} {v : α} (h : tk f ref xs = .ok (v, r)) : (f xs).2.2 = 0 ∧ (f xs).1 = v ∧ ref v = 0 ∧ xs.drop (f xs).2.1 = r := by
  unfold tk at h
  split at h
  · cases h
  · rename_i h1
    split at h
    · cases h
    · rename_i h2
      cases h
      exact ⟨by simpa using h1, rfl, by simpa using h2, rfl⟩
theorem tk_code {α : Type} {f : List Nat → α × Nat × Nat} {ref : α → Nat} {xs : List Nat} {e : Nat} (h : tk f ref xs = .error e) : e ≠ 0 := by
  unfold tk at h
  split at h
  · rename_i h1; cases h; exact h1
  · split at h
    · rename_i h1; cases h; exact h1
    · cases h
theorem drop_left (a b : List Nat) : (a ++ b).drop a.length = b := List.drop_left
theorem fix_enc (d : Nat) (r : List Nat) : fixF 1 (d :: r) = (d, 1, 0) := by
  unfold fixF
  rw [if_neg (by decide), if_neg (by simp only [List.length_cons]; omega)]
  simp [leN]
theorem fix_none : fixF 1 [] = (0, 0, 5) := by
  unfold fixF
  rw [if_neg (by decide), if_pos (by decide)]

/-! ### What is taken is told again -/
theorem dT_inv {m : Nat} {xs r : List Nat} {s : ByteArray} (hb : ∀ x ∈ xs, x < 256) (h : dT m xs = .ok (s, r)) : xs = encS s ++ r ∧ s.size ≤ m := by
  obtain ⟨h1, h2, h3, h4⟩ := tk_inv h
  have hf := text_form m xs hb h1
  rw [h2] at hf
  refine ⟨?_, ?_⟩
  · rw [← h4]
    show xs = (enc s.size ++ strNs s) ++ _
    rw [hf, List.take_append_drop]
  · subst h2
    unfold textF at h1 ⊢
    rw [if_neg (by omega)] at h1 ⊢
    split at h1
    · rename_i hh; exact absurd h1 hh
    · rename_i hh
      rw [if_neg hh]
      split at h1
      · simp at h1
      · rename_i hh2
        rw [if_neg hh2]
        split at h1
        · simp at h1
        · rename_i hh3
          rw [if_neg hh3]
          simp only [toBA_size, List.length_take]
          omega
theorem dN_inv {xs r : List Nat} {n : Nat} (hb : ∀ x ∈ xs, x < 256) (h : dN xs = .ok (n, r)) : xs = enc n ++ r ∧ n ≤ 65536 := by
  obtain ⟨h1, h2, h3, h4⟩ := tk_inv h
  have hf := enc_short xs hb h1
  rw [h2] at hf
  refine ⟨?_, ?_⟩
  · rw [← h4, hf, List.take_append_drop]
  · unfold refL at h3
    split at h3
    · cases h3
    · omega
theorem dF_inv {xs r : List Nat} {d : Nat} (h : dF xs = .ok (d, r)) : xs = d :: r ∧ (d = 0 ∨ d = 1) := by
  cases xs with
  | nil => unfold dF at h; rw [tk_err fix_none (by decide)] at h; cases h
  | cons y s =>
    obtain ⟨h1, h2, h3, h4⟩ := tk_inv h
    rw [fix_enc] at h2 h4
    simp at h2 h4
    subst h2
    subst h4
    refine ⟨rfl, ?_⟩
    unfold refD at h3
    split at h3
    · assumption
    · cases h3
theorem dI_inv {xs r : List Nat} {n : Int} (hb : ∀ x ∈ xs, x < 256) (h : dI xs = .ok (n, r)) : xs = encI n ++ r ∧ 0 ≤ n ∧ n ≤ 65536 := by
  unfold dI at h
  split at h
  · cases h
  · rename_i k s hk
    cases h
    obtain ⟨e, h1⟩ := dN_inv hb hk
    refine ⟨?_, by omega, by omega⟩
    simpa [encI] using e
theorem dX_inv {xs r : List Nat} {v : Vn} (hb : ∀ y ∈ xs, y < 256) (h : dX xs = .ok (v, r)) : xs = encX v ++ r := by
  unfold dX at h
  split at h
  · cases h
  · rename_i n s hn
    obtain ⟨e1, _⟩ := dN_inv hb hn
    have hb1 : ∀ y ∈ s, y < 256 := fun y hy => hb y (by rw [e1]; simp [hy])
    unfold dXd at h
    split at h
    · cases h
    · rename_i d s2 hd
      obtain ⟨e2, h3⟩ := dF_inv hd
      have hb2 : ∀ y ∈ s2, y < 256 := fun y hy => hb1 y (by rw [e2]; simp [hy])
      split at h
      · rename_i hd1
        cases h
        rw [e1, e2, hd1]
        simp [encX, encV]
      · rename_i hd1
        have hd0 : d = 0 := by omega
        unfold dXv at h
        split at h
        · cases h
        · rename_i u s3 hv
          cases h
          obtain ⟨e3, _⟩ := dT_inv (m := 1024) hb2 hv
          rw [e1, e2, hd0, e3]
          simp [encX, encV]
theorem dR_inv {α : Type} {f : List Nat → Except Nat (α × List Nat)} {e : α → List Nat} {G : α → Prop} (hf : ∀ {xs r : List Nat} {v : α}, (∀ y ∈ xs, y < 256) → f xs = .ok (v, r) → xs = e v ++ r ∧ G v) :
    ∀ (k : Nat) {xs r : List Nat} {l : List α}, (∀ y ∈ xs, y < 256) → dR f k xs = .ok (l, r) → xs = l.flatMap e ++ r ∧ l.length = k ∧ ∀ x ∈ l, G x := by
  intro k
  induction k with
  | zero =>
    intro xs r l hb h
    simp only [dR] at h
    cases h
    exact ⟨rfl, rfl, by simp⟩
  | succ k ih =>
    intro xs r l hb h
    rw [dR] at h
    split at h
    · cases h
    · rename_i x s hx
      obtain ⟨e1, h1⟩ := hf hb hx
      have hb1 : ∀ y ∈ s, y < 256 := fun y hy => hb y (by rw [e1]; simp [hy])
      split at h
      · cases h
      · rename_i vs s2 hs
        cases h
        obtain ⟨e2, h2, h3⟩ := ih hb1 hs
        refine ⟨by rw [e1, e2]; simp, by simp [h2], ?_⟩
        intro y hy
        rcases List.mem_cons.1 hy with rfl | hy
        · exact h1
        · exact h3 y hy
theorem dL_inv {α : Type} {f : List Nat → Except Nat (α × List Nat)} {e : α → List Nat} {G : α → Prop} (hf : ∀ {xs r : List Nat} {v : α}, (∀ y ∈ xs, y < 256) → f xs = .ok (v, r) → xs = e v ++ r ∧ G v) {xs r : List Nat} {l : List α} (hb : ∀ y ∈ xs, y < 256) (h : dL f xs = .ok (l, r)) :
    xs = enc l.length ++ (l.flatMap e ++ r) ∧ l.length ≤ 65536 ∧ ∀ x ∈ l, G x := by
  unfold dL at h
  split at h
  · cases h
  · rename_i n s hn
    obtain ⟨e1, h1⟩ := dN_inv hb hn
    have hb1 : ∀ y ∈ s, y < 256 := fun y hy => hb y (by rw [e1]; simp [hy])
    obtain ⟨e2, h2, h3⟩ := dR_inv hf n hb1 h
    exact ⟨by rw [e1, e2, h2], by omega, h3⟩
theorem dK_inv {xs r : List Nat} {p : Kv} (hb : ∀ y ∈ xs, y < 256) (h : dK xs = .ok (p, r)) : xs = encK p ++ r := by
  unfold dK at h
  split at h
  · cases h
  · rename_i k s hk
    obtain ⟨e1, h1⟩ := dT_inv (m := 64) hb hk
    have hb1 : ∀ y ∈ s, y < 256 := fun y hy => hb y (by rw [e1]; simp [hy])
    split at h
    · cases h
    · rename_i vs s2 hs
      cases h
      obtain ⟨e2, _⟩ := dL_inv (e := encX) (G := fun _ => True) (fun hb h => ⟨dX_inv hb h, trivial⟩) hb1 hs
      rw [e1, e2]
      simp [encK, encXs]
theorem dS_inv {xs r : List Nat} {s : Sd} (hb : ∀ y ∈ xs, y < 256) (h : dS xs = .ok (s, r)) : xs = encD s.m s.bs s.ps ++ r ∧ 0 ≤ s.m ∧ s.m ≤ 65536 ∧ s.bs.length ≤ 65536 ∧ s.ps.length ≤ 65536 := by
  unfold dS at h
  split at h
  · cases h
  · rename_i m s1 hm
    obtain ⟨e1, h1⟩ := dI_inv hb hm
    have hb1 : ∀ y ∈ s1, y < 256 := fun y hy => hb y (by rw [e1]; simp [hy])
    split at h
    · cases h
    · rename_i bs s2 hs
      obtain ⟨e2, h2, _⟩ := dL_inv (e := encI) (G := fun _ => True) (fun hb h => ⟨(dI_inv hb h).1, trivial⟩) hb1 hs
      have hb2 : ∀ y ∈ s2, y < 256 := fun y hy => hb1 y (by rw [e2]; simp [hy])
      split at h
      · cases h
      · rename_i ps s3 hp
        cases h
        obtain ⟨e3, h3, _⟩ := dL_inv (e := encK) (G := fun _ => True) (fun hb h => ⟨dK_inv hb h, trivial⟩) hb2 hp
        refine ⟨?_, h1.1, h1.2, h2, h3⟩
        rw [e1, e2, e3]
        simp [encD, encIs, encKs]
end Go.Proofs.YtdojhkgnnbdfkaaGreat
/- The taker of a checkpoint's bytes, in memory; contracts of take, number, text, dropped and of the closure that takes a version. Conditions as each names them. -/
namespace Go.Proofs.YtdojhkgnnbdfkaaGreat
open Go.ChangeShapes Go.WideShapes Go.ChangeAt Go.RowKit Go.Lib Go.Maps
set_option linter.unusedVariables false
set_option linter.unusedSimpArgs false

theorem tk_split {α : Type} (f : List Nat → α × Nat × Nat) (ref : α → Nat) (z : α) (xs : List Nat) (hs : (f xs).2.2 = 0 → 0 < (f xs).2.1 ∧ (f xs).2.1 ≤ xs.length) :
    (∃ c, c ≠ 0 ∧ tk f ref xs = .error c ∧ rdBy f z xs 0 = (z, xs, c)) ∨
    (∃ v ys, tk f ref xs = .error (ref v) ∧ ref v ≠ 0 ∧ v = (f xs).1 ∧ ys.length < xs.length ∧ rdBy f z xs 0 = (v, ys, 0)) ∨
    (∃ v ys, tk f ref xs = .ok (v, ys) ∧ ref v = 0 ∧ v = (f xs).1 ∧ ys.length < xs.length ∧ rdBy f z xs 0 = (v, ys, 0)) := by
  by_cases h : (f xs).2.2 = 0
  · have h1 := hs h
    have hl : (xs.drop (f xs).2.1).length < xs.length := by rw [List.length_drop]; omega
    have hr : rdBy f z xs 0 = ((f xs).1, xs.drop (f xs).2.1, 0) := by simp [rdBy, h]
    by_cases h2 : ref (f xs).1 = 0
    · exact Or.inr (Or.inr ⟨(f xs).1, xs.drop (f xs).2.1, by simp [tk, h, h2], h2, rfl, hl, hr⟩)
    · exact Or.inr (Or.inl ⟨(f xs).1, xs.drop (f xs).2.1, by simp [tk, h, h2], h2, rfl, hl, hr⟩)
  · exact Or.inl ⟨(f xs).2.2, h, by simp [tk, h], by simp [rdBy, h]⟩
theorem short_pos (xs : List Nat) (h : (shortF 0 0 xs).2.2 = 0) : 0 < (shortF 0 0 xs).2.1 ∧ (shortF 0 0 xs).2.1 ≤ xs.length := by
  have := shortF_size xs 0 0 h
  omega
theorem text_pos (m : Nat) (xs : List Nat) (h : (textF (m : Int) xs).2.2 = 0) : 0 < (textF (m : Int) xs).2.1 ∧ (textF (m : Int) xs).2.1 ≤ xs.length := by
  refine ⟨?_, (textF_size _ xs h).2⟩
  unfold textF at h ⊢
  rw [if_neg (by omega)] at h ⊢
  split at h
  · rename_i h2; exact absurd h h2
  · rename_i h2
    rw [if_neg h2]
    split at h
    · simp at h
    · rename_i h3
      rw [if_neg h3]
      split at h
      · simp at h
      · rename_i h4
        rw [if_neg h4]
        have := shortF_size xs 0 0 (by simpa using h2)
        simp only
        omega
theorem fix_pos (xs : List Nat) (h : (fixF 1 xs).2.2 = 0) : 0 < (fixF 1 xs).2.1 ∧ (fixF 1 xs).2.1 ≤ xs.length := by
  cases xs with
  | nil => rw [fix_none] at h; simp at h
  | cons x r => rw [fix_enc]; simp

/-- The call answers v, and the reader stands ahead of ys then, er being wrong. -/
def Dn (fn : Nat) (args : Array Value) (w : World) (v : Value) (g r : Nat) (ys : List Nat) (er : Nat) : Prop :=
  Calls Tryz.prog fn args w fun e w' => e = .returned v ∧ ∃ ao' cap', Rd w' g r ys er ao' cap' ∧ Fr [g] w w'
theorem Dn.calls {fn : Nat} {args : Array Value} {w : World} {v : Value} {g r : Nat} {ys : List Nat} {er : Nat} (h : Dn fn args w v g r ys er) :
    Calls Tryz.prog fn args w fun e w' => e = .returned v ∧ ∃ ao' cap', Rd w' g r ys er ao' cap' ∧ Fr [g] w w' := h
theorem endOf_wrong (er n : Nat) (h : er ≠ 0) : endOf er n = er := by simp [endOf, h]

/-- A taker's struct in block t. -/
structure TB (w : World) (t g c : Nat) : Prop where
  box : w.heap[t]? = some (.cells #[.pointer (some ⟨g, 0, none⟩), .int .i64 (c : Int)] 168 (0, 0))
theorem TB.lt {w : World} {t g c : Nat} (h : TB w t g c) : t < w.heap.size := lt_of_block h.box
theorem TB.c0 {w : World} {t g c : Nat} (h : TB w t g c) : w.cell? ⟨t, 0, none⟩ = some (.pointer (some ⟨g, 0, none⟩)) := by simp [World.cell?, h.box]
theorem TB.c1 {w : World} {t g c : Nat} (h : TB w t g c) : w.cell? ⟨t, 1, none⟩ = some (.int .i64 (c : Int)) := by simp [World.cell?, h.box]
theorem TB.f1 {w : World} {t g c : Nat} (h : TB w t g c) : w.frozen? ⟨t, 1, none⟩ = false := by simp [World.frozen?, h.box]
theorem TB.keep {S : List Nat} {w w' : World} {t g c : Nat} (h : TB w t g c) (hf : Fr S w w') (hn : t ∉ S) : TB w' t g c := ⟨hf.keep h.box hn⟩
theorem TB.set {w : World} {t g c : Nat} (h : TB w t g c) (d : Nat) : TB (w.setCell ⟨t, 1, none⟩ (.int .i64 (d : Int))) t g d := ⟨two_setCell1 h.box⟩
/-- A taker with nothing wrong, ahead of ys. -/
structure Tl (w : World) (t g r : Nat) (ys : List Nat) : Prop where
  tb : TB w t g 0
  rd : ∃ ao cap, Rd w g r ys 0 ao cap
theorem Tl.tg {w : World} {t g r : Nat} {ys : List Nat} (h : Tl w t g r ys) : t ≠ g := by
  rintro rfl
  obtain ⟨ao, cap, hr⟩ := h.rd
  have := h.tb.box
  rw [hr.box] at this
  simp at this
theorem Tl.tr {w : World} {t g r : Nat} {ys : List Nat} (h : Tl w t g r ys) (h0 : 0 < ys.length) : t ≠ r := by
  rintro rfl
  obtain ⟨ao, cap, hr⟩ := h.rd
  obtain ⟨off, _, hc⟩ := hr.sl.lies h0
  have h1 := hc 0 h0
  simp only [World.cell?, h.tb.box] at h1
  rcases off with _ | _ | off <;> simp at h1
theorem Tl.keep {S : List Nat} {w w' : World} {t g r : Nat} {ys : List Nat} (h : Tl w t g r ys) (hf : Fr S w w') (ht : t ∉ S) (hg : g ∉ S) (hr : r ∉ S) : Tl w' t g r ys := by
  obtain ⟨ao, cap, hR⟩ := h.rd
  exact ⟨h.tb.keep hf ht, ao, cap, hR.keep hf hg hr⟩
theorem Tl.keep0 {w w' : World} {t g r : Nat} {ys : List Nat} (h : Tl w t g r ys) (hf : Fr [] w w') : Tl w' t g r ys := h.keep hf (by simp) (by simp) (by simp)
/-- A taker with c wrong. -/
structure Td (w : World) (t g c : Nat) : Prop where
  tb : TB w t g c
  bad : c ≠ 0
theorem Td.keep0 {w w' : World} {t g c : Nat} (h : Td w t g c) (hf : Fr [] w w') : Td w' t g c := ⟨h.tb.keep hf (by simp), h.bad⟩

set_option maxHeartbeats 2000000 in
set_option maxRecDepth 100000 in
theorem takeU_dead (fv : Value) (t g c : Nat) (w : World) (h : Td w t g c) : Calls Tryz.prog 117 #[.pointer (some ⟨t, 0, none⟩), fv] w fun e w' => e = .returned (.int .u64 0) ∧ w = w' := by
  have c1 := h.tb.c1
  have hcb : ((c : Int) != 0) = true := by rw [bne_iff_ne]; have := h.bad; omega
  go_enter Tryz.func117, Tryz.ntmps117
  go_wp2
  go_ret
  exact ⟨rfl, rfl⟩
set_option maxHeartbeats 2000000 in
set_option maxRecDepth 100000 in
theorem takeS_dead (fv : Value) (t g c : Nat) (w : World) (h : Td w t g c) : Calls Tryz.prog 128 #[.pointer (some ⟨t, 0, none⟩), fv] w fun e w' => e = .returned (.string ⟨#[]⟩) ∧ w = w' := by
  have c1 := h.tb.c1
  have hcb : ((c : Int) != 0) = true := by rw [bne_iff_ne]; have := h.bad; omega
  go_enter Tryz.func128, Tryz.ntmps128
  go_wp2
  go_ret
  exact ⟨rfl, rfl⟩
-- LIVE
set_option maxHeartbeats 2000000 in
set_option maxRecDepth 100000 in
theorem takeV_wrong (p : Value) (t g r c : Nat) (xs : List Nat) (w : World) (h : Tl w t g r xs) (hc : c ≠ 0) (hD : Dn 118 #[p] w (.int .u64 0) g r xs c) :
    Calls Tryz.prog 117 #[.pointer (some ⟨t, 0, none⟩), .func (Fn.func 118) #[p] #[]] w fun e w' => e = .returned (.int .u64 0) ∧ Td w' t g c ∧ Fr [t, g] w w' := by
  have HE : Hid (endOf c xs.length = c) := endOf_wrong _ _ hc
  have htg := h.tg
  have c0 := h.tb.c0
  have c1 := h.tb.c1
  have HT : Hid (TB w t g 0) := h.tb
  have HC : Hid (c ≠ 0) := hc
  obtain ⟨ao, cap, hR⟩ := h.rd
  obtain ⟨L, hL⟩ : ∃ L, L = xs.length := ⟨_, rfl⟩
  have HL : Hid (L = xs.length) := hL
  have hl1 := left_any g r xs 0 ao cap w hR
  rw [← hL] at hl1
  clear hL hc h hR
  go_enter Tryz.func117, Tryz.ntmps117
  go_wp2_with fail
  refine hl1.mono ?_
  rintro e w1 ⟨rfl, rfl⟩
  go_wp2_with fail
  refine hD.calls.mono ?_
  rintro e w1 ⟨rfl, ao1, cap1, hR1, hF1⟩
  have hl2 := left_any g r xs c ao1 cap1 w1 hR1
  have hl3 := end_any g r xs c ao1 cap1 w1 hR1
  rw [← HL.out] at hl2
  rw [HE.out] at hl3
  have hT1 : TB w1 t g 0 := HT.out.keep hF1 (by simpa using htg)
  have HF : Hid (Fr [t, g] w w1) := hF1.mono (by simp)
  have d0 := hT1.c0
  have d1 := hT1.c1
  have df := hT1.f1
  have HT1 : Hid (TB w1 t g 0) := hT1
  clear hF1 hD hR1 hT1 c0 c1
  go_wp2_with fail
  refine hl2.mono ?_
  rintro e w2 ⟨rfl, rfl⟩
  go_wp2_with fail
  refine hl3.mono ?_
  rintro e w2 ⟨rfl, rfl⟩
  go_wp2
  go_ret
  exact ⟨rfl, ⟨HT1.out.set c, HC.out⟩, HF.out.then (Fr.set _ _ _ (by simp))⟩
set_option maxHeartbeats 2000000 in
set_option maxRecDepth 100000 in
theorem takeV_good (p : Value) (t g r : Nat) (v : Nat) (xs ys : List Nat) (w : World) (h : Tl w t g r xs) (hlt : ys.length < xs.length) (hD : Dn 118 #[p] w (.int .u64 (v : Int)) g r ys 0) :
    Calls Tryz.prog 117 #[.pointer (some ⟨t, 0, none⟩), .func (Fn.func 118) #[p] #[]] w fun e w' => e = .returned (.int .u64 (v : Int)) ∧ Tl w' t g r ys ∧ Fr [t, g] w w' := by
  have htg := h.tg
  have c0 := h.tb.c0
  have c1 := h.tb.c1
  have HT : Hid (TB w t g 0) := h.tb
  obtain ⟨ao, cap, hR⟩ := h.rd
  obtain ⟨L, hL⟩ : ∃ L, L = xs.length := ⟨_, rfl⟩
  obtain ⟨M, hM⟩ : ∃ M, M = ys.length := ⟨_, rfl⟩
  have hlb : ((M : Int) == L) = false := by rw [beq_eq_false_iff_ne]; omega
  have HM : Hid (M = ys.length) := hM
  have hl1 := left_any g r xs 0 ao cap w hR
  rw [← hL] at hl1
  clear hL hM hlt h hR
  go_enter Tryz.func117, Tryz.ntmps117
  go_wp2_with fail
  refine hl1.mono ?_
  rintro e w1 ⟨rfl, rfl⟩
  go_wp2_with fail
  refine hD.calls.mono ?_
  rintro e w1 ⟨rfl, ao1, cap1, hR1, hF1⟩
  have hl2 := left_any g r ys 0 ao1 cap1 w1 hR1
  rw [← HM.out] at hl2
  have hT1 : TB w1 t g 0 := HT.out.keep hF1 (by simpa using htg)
  have HF : Hid (Fr [t, g] w w1) := hF1.mono (by simp)
  have d0 := hT1.c0
  have d1 := hT1.c1
  have HT1 : Hid (Tl w1 t g r ys) := ⟨hT1, ao1, cap1, hR1⟩
  clear hF1 hD hR1 hT1 c0 c1
  go_wp2_with fail
  refine hl2.mono ?_
  rintro e w2 ⟨rfl, rfl⟩
  go_wp2
  go_ret
  exact ⟨rfl, HT1.out, HF.out⟩
set_option maxHeartbeats 2000000 in
set_option maxRecDepth 100000 in
theorem takeF_wrong (p : Value) (t g r c : Nat) (xs : List Nat) (w : World) (h : Tl w t g r xs) (hc : c ≠ 0) (hD : Dn 131 #[p] w (.int .u64 0) g r xs c) :
    Calls Tryz.prog 117 #[.pointer (some ⟨t, 0, none⟩), .func (Fn.func 131) #[] #[p]] w fun e w' => e = .returned (.int .u64 0) ∧ Td w' t g c ∧ Fr [t, g] w w' := by
  have HE : Hid (endOf c xs.length = c) := endOf_wrong _ _ hc
  have htg := h.tg
  have c0 := h.tb.c0
  have c1 := h.tb.c1
  have HT : Hid (TB w t g 0) := h.tb
  have HC : Hid (c ≠ 0) := hc
  obtain ⟨ao, cap, hR⟩ := h.rd
  obtain ⟨L, hL⟩ : ∃ L, L = xs.length := ⟨_, rfl⟩
  have HL : Hid (L = xs.length) := hL
  have hl1 := left_any g r xs 0 ao cap w hR
  rw [← hL] at hl1
  clear hL hc h hR
  go_enter Tryz.func117, Tryz.ntmps117
  go_wp2_with fail
  refine hl1.mono ?_
  rintro e w1 ⟨rfl, rfl⟩
  go_wp2_with fail
  refine hD.calls.mono ?_
  rintro e w1 ⟨rfl, ao1, cap1, hR1, hF1⟩
  have hl2 := left_any g r xs c ao1 cap1 w1 hR1
  have hl3 := end_any g r xs c ao1 cap1 w1 hR1
  rw [← HL.out] at hl2
  rw [HE.out] at hl3
  have hT1 : TB w1 t g 0 := HT.out.keep hF1 (by simpa using htg)
  have HF : Hid (Fr [t, g] w w1) := hF1.mono (by simp)
  have d0 := hT1.c0
  have d1 := hT1.c1
  have df := hT1.f1
  have HT1 : Hid (TB w1 t g 0) := hT1
  clear hF1 hD hR1 hT1 c0 c1
  go_wp2_with fail
  refine hl2.mono ?_
  rintro e w2 ⟨rfl, rfl⟩
  go_wp2_with fail
  refine hl3.mono ?_
  rintro e w2 ⟨rfl, rfl⟩
  go_wp2
  go_ret
  exact ⟨rfl, ⟨HT1.out.set c, HC.out⟩, HF.out.then (Fr.set _ _ _ (by simp))⟩
set_option maxHeartbeats 2000000 in
set_option maxRecDepth 100000 in
theorem takeF_good (p : Value) (t g r : Nat) (v : Nat) (xs ys : List Nat) (w : World) (h : Tl w t g r xs) (hlt : ys.length < xs.length) (hD : Dn 131 #[p] w (.int .u64 (v : Int)) g r ys 0) :
    Calls Tryz.prog 117 #[.pointer (some ⟨t, 0, none⟩), .func (Fn.func 131) #[] #[p]] w fun e w' => e = .returned (.int .u64 (v : Int)) ∧ Tl w' t g r ys ∧ Fr [t, g] w w' := by
  have htg := h.tg
  have c0 := h.tb.c0
  have c1 := h.tb.c1
  have HT : Hid (TB w t g 0) := h.tb
  obtain ⟨ao, cap, hR⟩ := h.rd
  obtain ⟨L, hL⟩ : ∃ L, L = xs.length := ⟨_, rfl⟩
  obtain ⟨M, hM⟩ : ∃ M, M = ys.length := ⟨_, rfl⟩
  have hlb : ((M : Int) == L) = false := by rw [beq_eq_false_iff_ne]; omega
  have HM : Hid (M = ys.length) := hM
  have hl1 := left_any g r xs 0 ao cap w hR
  rw [← hL] at hl1
  clear hL hM hlt h hR
  go_enter Tryz.func117, Tryz.ntmps117
  go_wp2_with fail
  refine hl1.mono ?_
  rintro e w1 ⟨rfl, rfl⟩
  go_wp2_with fail
  refine hD.calls.mono ?_
  rintro e w1 ⟨rfl, ao1, cap1, hR1, hF1⟩
  have hl2 := left_any g r ys 0 ao1 cap1 w1 hR1
  rw [← HM.out] at hl2
  have hT1 : TB w1 t g 0 := HT.out.keep hF1 (by simpa using htg)
  have HF : Hid (Fr [t, g] w w1) := hF1.mono (by simp)
  have d0 := hT1.c0
  have d1 := hT1.c1
  have HT1 : Hid (Tl w1 t g r ys) := ⟨hT1, ao1, cap1, hR1⟩
  clear hF1 hD hR1 hT1 c0 c1
  go_wp2_with fail
  refine hl2.mono ?_
  rintro e w2 ⟨rfl, rfl⟩
  go_wp2
  go_ret
  exact ⟨rfl, HT1.out, HF.out⟩
set_option maxHeartbeats 2000000 in
set_option maxRecDepth 100000 in
theorem takeT_wrong (p q : Value) (t g r c : Nat) (xs : List Nat) (w : World) (h : Tl w t g r xs) (hc : c ≠ 0) (hD : Dn 129 #[p, q] w (.string ⟨#[]⟩) g r xs c) :
    Calls Tryz.prog 128 #[.pointer (some ⟨t, 0, none⟩), .func (Fn.func 129) #[] #[p, q]] w fun e w' => e = .returned (.string ⟨#[]⟩) ∧ Td w' t g c ∧ Fr [t, g] w w' := by
  have HE : Hid (endOf c xs.length = c) := endOf_wrong _ _ hc
  have htg := h.tg
  have c0 := h.tb.c0
  have c1 := h.tb.c1
  have HT : Hid (TB w t g 0) := h.tb
  have HC : Hid (c ≠ 0) := hc
  obtain ⟨ao, cap, hR⟩ := h.rd
  obtain ⟨L, hL⟩ : ∃ L, L = xs.length := ⟨_, rfl⟩
  have HL : Hid (L = xs.length) := hL
  have hl1 := left_any g r xs 0 ao cap w hR
  rw [← hL] at hl1
  clear hL hc h hR
  go_enter Tryz.func128, Tryz.ntmps128
  go_wp2_with fail
  refine hl1.mono ?_
  rintro e w1 ⟨rfl, rfl⟩
  go_wp2_with fail
  refine hD.calls.mono ?_
  rintro e w1 ⟨rfl, ao1, cap1, hR1, hF1⟩
  have hl2 := left_any g r xs c ao1 cap1 w1 hR1
  have hl3 := end_any g r xs c ao1 cap1 w1 hR1
  rw [← HL.out] at hl2
  rw [HE.out] at hl3
  have hT1 : TB w1 t g 0 := HT.out.keep hF1 (by simpa using htg)
  have HF : Hid (Fr [t, g] w w1) := hF1.mono (by simp)
  have d0 := hT1.c0
  have d1 := hT1.c1
  have df := hT1.f1
  have HT1 : Hid (TB w1 t g 0) := hT1
  clear hF1 hD hR1 hT1 c0 c1
  go_wp2_with fail
  refine hl2.mono ?_
  rintro e w2 ⟨rfl, rfl⟩
  go_wp2_with fail
  refine hl3.mono ?_
  rintro e w2 ⟨rfl, rfl⟩
  go_wp2
  go_ret
  exact ⟨rfl, ⟨HT1.out.set c, HC.out⟩, HF.out.then (Fr.set _ _ _ (by simp))⟩
set_option maxHeartbeats 2000000 in
set_option maxRecDepth 100000 in
theorem takeT_good (p q : Value) (t g r : Nat) (v : ByteArray) (xs ys : List Nat) (w : World) (h : Tl w t g r xs) (hlt : ys.length < xs.length) (hD : Dn 129 #[p, q] w (.string v) g r ys 0) :
    Calls Tryz.prog 128 #[.pointer (some ⟨t, 0, none⟩), .func (Fn.func 129) #[] #[p, q]] w fun e w' => e = .returned (.string v) ∧ Tl w' t g r ys ∧ Fr [t, g] w w' := by
  have htg := h.tg
  have c0 := h.tb.c0
  have c1 := h.tb.c1
  have HT : Hid (TB w t g 0) := h.tb
  obtain ⟨ao, cap, hR⟩ := h.rd
  obtain ⟨L, hL⟩ : ∃ L, L = xs.length := ⟨_, rfl⟩
  obtain ⟨M, hM⟩ : ∃ M, M = ys.length := ⟨_, rfl⟩
  have hlb : ((M : Int) == L) = false := by rw [beq_eq_false_iff_ne]; omega
  have HM : Hid (M = ys.length) := hM
  have hl1 := left_any g r xs 0 ao cap w hR
  rw [← hL] at hl1
  clear hL hM hlt h hR
  go_enter Tryz.func128, Tryz.ntmps128
  go_wp2_with fail
  refine hl1.mono ?_
  rintro e w1 ⟨rfl, rfl⟩
  go_wp2_with fail
  refine hD.calls.mono ?_
  rintro e w1 ⟨rfl, ao1, cap1, hR1, hF1⟩
  have hl2 := left_any g r ys 0 ao1 cap1 w1 hR1
  rw [← HM.out] at hl2
  have hT1 : TB w1 t g 0 := HT.out.keep hF1 (by simpa using htg)
  have HF : Hid (Fr [t, g] w w1) := hF1.mono (by simp)
  have d0 := hT1.c0
  have d1 := hT1.c1
  have HT1 : Hid (Tl w1 t g r ys) := ⟨hT1, ao1, cap1, hR1⟩
  clear hF1 hD hR1 hT1 c0 c1
  go_wp2_with fail
  refine hl2.mono ?_
  rintro e w2 ⟨rfl, rfl⟩
  go_wp2
  go_ret
  exact ⟨rfl, HT1.out, HF.out⟩
end Go.Proofs.YtdojhkgnnbdfkaaGreat

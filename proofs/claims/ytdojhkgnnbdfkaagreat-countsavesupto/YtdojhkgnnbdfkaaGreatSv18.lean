/- What a checkpoint says, as bytes and back: plain functions on lists, one form. Plain lemmas. -/
import Derived.Test.YtdojhkgnnbdfkaaGreatHl9
namespace Go.Proofs.YtdojhkgnnbdfkaaGreat
open Go.ChangeShapes Go.WideShapes Go.ChangeAt Go.RowKit Go.Lib Go.Maps
set_option linter.unusedVariables false
set_option linter.unusedSimpArgs false

/-- A key with its versions. -/
abbrev Kv : Type := ByteArray × List Vn
def Hd.kv (h : Hd) : Kv := (h.key, h.vs)

def encS (s : ByteArray) : List Nat := enc s.size ++ strNs s
def encV (v : Vn) : List Nat := if v.drop then [1] else 0 :: encS v.val
def encX (v : Vn) : List Nat := enc v.num.toNat ++ encV v
def encXs (vs : List Vn) : List Nat := vs.flatMap encX
def encK (p : Kv) : List Nat := encS p.1 ++ (enc p.2.length ++ encXs p.2)
def encKs (ps : List Kv) : List Nat := ps.flatMap encK
def encI (n : Int) : List Nat := enc n.toNat
def encIs (ns : List Int) : List Nat := ns.flatMap encI
def encD (m : Int) (bs : List Int) (ps : List Kv) : List Nat := encI m ++ (enc bs.length ++ (encIs bs ++ (enc ps.length ++ encKs ps)))

/-- Numbers beyond a mark. -/
structure BeyOk (m : Int) (bs : List Int) : Prop where
  rise : bs.Pairwise (· < ·)
  low : ∀ b ∈ bs, m + 2 ≤ b
  high : ∀ b ∈ bs, b ≤ 65536
/-- Versions that are saved at a mark, as the program asks it. -/
def SvV (m : Int) (bs : List Int) (vs : List Vn) : Prop :=
  ((vs.getD 0 Vn.zero).num ≤ m → (vs.getD 0 Vn.zero).drop = false ∧ ∀ v ∈ vs.drop 1, v.num ∈ bs) ∧ (m < (vs.getD 0 Vn.zero).num → ∀ v ∈ vs, v.num ∈ bs)
/-- Keys that rise, each with versions that may be. -/
def LoK (ps : List Kv) : Prop := ps.Pairwise (fun a b => Op.bytesLess a.1.toList b.1.toList = true) ∧ ∀ p ∈ ps, okK9 p.1 ∧ p.2 ≠ [] ∧ okV p.2
structure OkS (m : Int) (bs : List Int) (ps : List Kv) : Prop where
  m0 : 0 ≤ m
  m1 : m ≤ 65536
  bey : BeyOk m bs
  lo : LoK ps
  sv : ∀ p ∈ ps, SvV m bs p.2
theorem LoOk_iff (hs : List Hd) : LoOk hs ↔ LoK (hs.map Hd.kv) := by
  unfold LoOk LoK
  rw [List.pairwise_map]
  constructor
  · rintro ⟨h1, h2⟩
    refine ⟨h1, fun p hp => ?_⟩
    obtain ⟨h, hh, rfl⟩ := List.mem_map.1 hp
    exact h2 h hh
  · rintro ⟨h1, h2⟩
    exact ⟨h1, fun h hh => h2 _ (List.mem_map.2 ⟨h, hh, rfl⟩)⟩

/-! ### Lengths and bytes -/
theorem encS_lt (s : ByteArray) : ∀ x ∈ encS s, x < 256 := by
  intro x hx
  rcases List.mem_append.1 hx with h | h
  · exact enc_lt _ x h
  · exact strNs_lt s x h
theorem encS_length (s : ByteArray) : 1 ≤ (encS s).length ∧ (encS s).length ≤ 10 + s.size := by
  have := enc_length s.size
  simp only [encS, List.length_append, strNs_length]
  omega
theorem encX_length (v : Vn) : 2 ≤ (encX v).length ∧ (encX v).length ≤ 21 + v.val.size := by
  have a := enc_length v.num.toNat
  have b := encS_length v.val
  simp only [encX, encV, List.length_append]
  split
  · simp only [List.length_cons, List.length_nil]; omega
  · simp only [List.length_cons]; omega
/-- The statements' measure of versions, of keys. -/
def szX (v : Vn) : Nat := 1 + v.val.size
def szXs (vs : List Vn) : Nat := (vs.map szX).sum
def szK (p : Kv) : Nat := 1 + p.1.size + szXs p.2
def szKs (ps : List Kv) : Nat := (ps.map szK).sum
theorem encXs_length (vs : List Vn) : (encXs vs).length ≤ 21 * szXs vs ∧ vs.length ≤ (encXs vs).length := by
  induction vs with
  | nil => simp [encXs, szXs]
  | cons v r ih =>
    have := encX_length v
    have hz : szX v = 1 + v.val.size := rfl
    simp only [encXs, szXs, List.flatMap_cons, List.length_append, List.map_cons, List.sum_cons, List.length_cons] at *
    omega
theorem encK_length (p : Kv) : 2 ≤ (encK p).length ∧ (encK p).length ≤ 21 * szK p := by
  have a := encS_length p.1
  have b := enc_length p.2.length
  have c := encXs_length p.2
  simp only [encK, List.length_append, szK]
  omega
theorem encKs_length (ps : List Kv) : (encKs ps).length ≤ 21 * szKs ps := by
  induction ps with
  | nil => simp [encKs, szKs]
  | cons v r ih =>
    have := encK_length v
    simp only [encKs, szKs, List.flatMap_cons, List.length_append, List.map_cons, List.sum_cons] at *
    omega
theorem encIs_length (ns : List Int) : (encIs ns).length ≤ 10 * ns.length := by
  induction ns with
  | nil => simp [encIs]
  | cons v r ih =>
    have := enc_length v.toNat
    simp only [encIs, List.flatMap_cons, List.length_append, List.length_cons, encI] at *
    omega
theorem encD_length (m : Int) (bs : List Int) (ps : List Kv) : 3 ≤ (encD m bs ps).length ∧ (encD m bs ps).length ≤ 30 + 10 * bs.length + 21 * szKs ps := by
  have a := enc_length m.toNat
  have b := enc_length bs.length
  have c := enc_length ps.length
  have d := encIs_length bs
  have e := encKs_length ps
  simp only [encD, encI, List.length_append]
  omega

/-! ### Taking -/
/-- One thing taken and looked at: it and what is ahead then, or what is wrong. -/
def tk {α : Type} (f : List Nat → α × Nat × Nat) (ref : α → Nat) (xs : List Nat) : Except Nat (α × List Nat) :=
  if (f xs).2.2 ≠ 0 then .error (f xs).2.2 else if ref (f xs).1 ≠ 0 then .error (ref (f xs).1) else .ok ((f xs).1, xs.drop (f xs).2.1)
def refL (n : Nat) : Nat := if 65536 < n then 3 else 0
def refD (n : Nat) : Nat := if n = 0 ∨ n = 1 then 0 else 4
def refV (_ : ByteArray) : Nat := 0
def dN (xs : List Nat) : Except Nat (Nat × List Nat) := tk (shortF 0 0) refL xs
def dT (m : Nat) (xs : List Nat) : Except Nat (ByteArray × List Nat) := tk (textF (m : Int)) refV xs
def dF (xs : List Nat) : Except Nat (Nat × List Nat) := tk (fixF 1) refD xs
def dXv (n : Nat) (xs : List Nat) : Except Nat (Vn × List Nat) :=
  match dT 1024 xs with
  | .error e => .error e
  | .ok (v, r) => .ok (⟨(n : Int), v, false⟩, r)
def dXd (n : Nat) (xs : List Nat) : Except Nat (Vn × List Nat) :=
  match dF xs with
  | .error e => .error e
  | .ok (d, r) => if d = 1 then .ok (⟨(n : Int), noS, true⟩, r) else dXv n r
def dX (xs : List Nat) : Except Nat (Vn × List Nat) :=
  match dN xs with
  | .error e => .error e
  | .ok (n, r) => dXd n r
def dI (xs : List Nat) : Except Nat (Int × List Nat) :=
  match dN xs with
  | .error e => .error e
  | .ok (n, r) => .ok ((n : Int), r)
/-- So many things, one behind the other. -/
def dR {α : Type} (f : List Nat → Except Nat (α × List Nat)) : Nat → List Nat → Except Nat (List α × List Nat)
  | 0, xs => .ok ([], xs)
  | k + 1, xs => match f xs with
    | .error e => .error e
    | .ok (x, r) => match dR f k r with
      | .error e => .error e
      | .ok (l, s) => .ok (x :: l, s)
def dL {α : Type} (f : List Nat → Except Nat (α × List Nat)) (xs : List Nat) : Except Nat (List α × List Nat) :=
  match dN xs with
  | .error e => .error e
  | .ok (n, r) => dR f n r
def dK (xs : List Nat) : Except Nat (Kv × List Nat) :=
  match dT 64 xs with
  | .error e => .error e
  | .ok (k, r) => match dL dX r with
    | .error e => .error e
    | .ok (vs, s) => .ok ((k, vs), s)
/-- What is said. -/
structure Sd where
  m : Int
  bs : List Int
  ps : List Kv
def dS (xs : List Nat) : Except Nat (Sd × List Nat) :=
  match dI xs with
  | .error e => .error e
  | .ok (m, r) => match dL dI r with
    | .error e => .error e
    | .ok (bs, s) => match dL dK s with
      | .error e => .error e
      | .ok (ps, t) => .ok (⟨m, bs, ps⟩, t)

theorem tk_ok {α : Type} {f : List Nat → α × Nat × Nat} {ref : α → Nat} {xs : List Nat} {v : α} {k : Nat} (h : f xs = (v, k, 0)) (hr : ref v = 0) : tk f ref xs = .ok (v, xs.drop k) := by
  simp [tk, h, hr]
theorem tk_err {α : Type} {f : List Nat → α × Nat × Nat} {ref : α → Nat} {xs : List Nat} {v : α} {k e : Nat} (h : f xs = (v, k, e)) (he : e ≠ 0) : tk f ref xs = .error e := by
  simp [tk, h, he]
theorem tk_inv {α : Type} {f : List Nat → α × Nat × Nat} {ref : α → Nat} {xs r : List Nat} {v : α} (h : tk f ref xs = .ok (v, r)) : (f xs).2.2 = 0 ∧ (f xs).1 = v ∧ ref v = 0 ∧ xs.drop (f xs).2.1 = r := by
  unfold tk at h
  split at h
  · cases h
  · rename_i h1
    split at h
    · cases h
    · rename_i h2
      cases h
      exact ⟨by simpa using h1, rfl, by simpa using h2, rfl⟩
theorem tk_code {α : Type} {f : List Nat → α × Nat × Nat} {ref : α → Nat} {xs : List Nat} {e : Nat} (h : tk f ref xs = .error e) : e ≠ 0 := by
  unfold tk at h
  split at h
  · rename_i h1; cases h; exact h1
  · split at h
    · rename_i h1; cases h; exact h1
    · cases h
theorem drop_left (a b : List Nat) : (a ++ b).drop a.length = b := List.drop_left
theorem fix_enc (d : Nat) (r : List Nat) : fixF 1 (d :: r) = (d, 1, 0) := by
  unfold fixF
  rw [if_neg (by decide), if_neg (by simp only [List.length_cons]; omega)]
  simp [leN]
theorem fix_none : fixF 1 [] = (0, 0, 5) := by
  unfold fixF
  rw [if_neg (by decide), if_pos (by decide)]

/-! ### What is taken is told again -/
theorem dT_inv {m : Nat} {xs r : List Nat} {s : ByteArray} (hb : ∀ x ∈ xs, x < 256) (h : dT m xs = .ok (s, r)) : xs = encS s ++ r ∧ s.size ≤ m := by
  obtain ⟨h1, h2, h3, h4⟩ := tk_inv h
  have hf := text_form m xs hb h1
  rw [h2] at hf
  refine ⟨?_, ?_⟩
  · rw [← h4]
    show xs = (enc s.size ++ strNs s) ++ _
    rw [hf, List.take_append_drop]
  · subst h2
    unfold textF at h1 ⊢
    rw [if_neg (by omega)] at h1 ⊢
    split at h1
    · rename_i hh; exact absurd h1 hh
    · rename_i hh
      rw [if_neg hh]
      split at h1
      · simp at h1
      · rename_i hh2
        rw [if_neg hh2]
        split at h1
        · simp at h1
        · rename_i hh3
          rw [if_neg hh3]
          simp only [toBA_size, List.length_take]
          omega
theorem dN_inv {xs r : List Nat} {n : Nat} (hb : ∀ x ∈ xs, x < 256) (h : dN xs = .ok (n, r)) : xs = enc n ++ r ∧ n ≤ 65536 := by
  obtain ⟨h1, h2, h3, h4⟩ := tk_inv h
  have hf := enc_short xs hb h1
  rw [h2] at hf
  refine ⟨?_, ?_⟩
  · rw [← h4, hf, List.take_append_drop]
  · unfold refL at h3
    split at h3
    · cases h3
    · omega
theorem dF_inv {xs r : List Nat} {d : Nat} (h : dF xs = .ok (d, r)) : xs = d :: r ∧ (d = 0 ∨ d = 1) := by
  cases xs with
  | nil => unfold dF at h; rw [tk_err fix_none (by decide)] at h; cases h
  | cons y s =>
    obtain ⟨h1, h2, h3, h4⟩ := tk_inv h
    rw [fix_enc] at h2 h4
    simp at h2 h4
    subst h2
    subst h4
    refine ⟨rfl, ?_⟩
    unfold refD at h3
    split at h3
    · assumption
    · cases h3
theorem dI_inv {xs r : List Nat} {n : Int} (hb : ∀ x ∈ xs, x < 256) (h : dI xs = .ok (n, r)) : xs = encI n ++ r ∧ 0 ≤ n ∧ n ≤ 65536 := by
  unfold dI at h
  split at h
  · cases h
  · rename_i k s hk
    cases h
    obtain ⟨e, h1⟩ := dN_inv hb hk
    refine ⟨?_, by omega, by omega⟩
    simpa [encI] using e
theorem dX_inv {xs r : List Nat} {v : Vn} (hb : ∀ y ∈ xs, y < 256) (h : dX xs = .ok (v, r)) : xs = encX v ++ r := by
  unfold dX at h
  split at h
  · cases h
  · rename_i n s hn
    obtain ⟨e1, _⟩ := dN_inv hb hn
    have hb1 : ∀ y ∈ s, y < 256 := fun y hy => hb y (by rw [e1]; simp [hy])
    unfold dXd at h
    split at h
    · cases h
    · rename_i d s2 hd
      obtain ⟨e2, h3⟩ := dF_inv hd
      have hb2 : ∀ y ∈ s2, y < 256 := fun y hy => hb1 y (by rw [e2]; simp [hy])
      split at h
      · rename_i hd1
        cases h
        rw [e1, e2, hd1]
        simp [encX, encV]
      · rename_i hd1
        have hd0 : d = 0 := by omega
        unfold dXv at h
        split at h
        · cases h
        · rename_i u s3 hv
          cases h
          obtain ⟨e3, _⟩ := dT_inv (m := 1024) hb2 hv
          rw [e1, e2, hd0, e3]
          simp [encX, encV]
theorem dR_inv {α : Type} {f : List Nat → Except Nat (α × List Nat)} {e : α → List Nat} {G : α → Prop} (hf : ∀ {xs r : List Nat} {v : α}, (∀ y ∈ xs, y < 256) → f xs = .ok (v, r) → xs = e v ++ r ∧ G v) :
    ∀ (k : Nat) {xs r : List Nat} {l : List α}, (∀ y ∈ xs, y < 256) → dR f k xs = .ok (l, r) → xs = l.flatMap e ++ r ∧ l.length = k ∧ ∀ x ∈ l, G x := by
  intro k
  induction k with
  | zero =>
    intro xs r l hb h
    simp only [dR] at h
    cases h
    exact ⟨rfl, rfl, by simp⟩
  | succ k ih =>
    intro xs r l hb h
    rw [dR] at h
    split at h
    · cases h
    · rename_i x s hx
      obtain ⟨e1, h1⟩ := hf hb hx
      have hb1 : ∀ y ∈ s, y < 256 := fun y hy => hb y (by rw [e1]; simp [hy])
      split at h
      · cases h
      · rename_i vs s2 hs
        cases h
        obtain ⟨e2, h2, h3⟩ := ih hb1 hs
        refine ⟨by rw [e1, e2]; simp, by simp [h2], ?_⟩
        intro y hy
        rcases List.mem_cons.1 hy with rfl | hy
        · exact h1
        · exact h3 y hy
theorem dL_inv {α : Type} {f : List Nat → Except Nat (α × List Nat)} {e : α → List Nat} {G : α → Prop} (hf : ∀ {xs r : List Nat} {v : α}, (∀ y ∈ xs, y < 256) → f xs = .ok (v, r) → xs = e v ++ r ∧ G v) {xs r : List Nat} {l : List α} (hb : ∀ y ∈ xs, y < 256) (h : dL f xs = .ok (l, r)) :
    xs = enc l.length ++ (l.flatMap e ++ r) ∧ l.length ≤ 65536 ∧ ∀ x ∈ l, G x := by
  unfold dL at h
  split at h
  · cases h
  · rename_i n s hn
    obtain ⟨e1, h1⟩ := dN_inv hb hn
    have hb1 : ∀ y ∈ s, y < 256 := fun y hy => hb y (by rw [e1]; simp [hy])
    obtain ⟨e2, h2, h3⟩ := dR_inv hf n hb1 h
    exact ⟨by rw [e1, e2, h2], by omega, h3⟩
theorem dK_inv {xs r : List Nat} {p : Kv} (hb : ∀ y ∈ xs, y < 256) (h : dK xs = .ok (p, r)) : xs = encK p ++ r := by
  unfold dK at h
  split at h
  · cases h
  · rename_i k s hk
    obtain ⟨e1, h1⟩ := dT_inv (m := 64) hb hk
    have hb1 : ∀ y ∈ s, y < 256 := fun y hy => hb y (by rw [e1]; simp [hy])
    split at h
    · cases h
    · rename_i vs s2 hs
      cases h
      obtain ⟨e2, _⟩ := dL_inv (e := encX) (G := fun _ => True) (fun hb h => ⟨dX_inv hb h, trivial⟩) hb1 hs
      rw [e1, e2]
      simp [encK, encXs]
theorem dS_inv {xs r : List Nat} {s : Sd} (hb : ∀ y ∈ xs, y < 256) (h : dS xs = .ok (s, r)) : xs = encD s.m s.bs s.ps ++ r ∧ 0 ≤ s.m ∧ s.m ≤ 65536 ∧ s.bs.length ≤ 65536 ∧ s.ps.length ≤ 65536 := by
  unfold dS at h
  split at h
  · cases h
  · rename_i m s1 hm
    obtain ⟨e1, h1⟩ := dI_inv hb hm
    have hb1 : ∀ y ∈ s1, y < 256 := fun y hy => hb y (by rw [e1]; simp [hy])
    split at h
    · cases h
    · rename_i bs s2 hs
      obtain ⟨e2, h2, _⟩ := dL_inv (e := encI) (G := fun _ => True) (fun hb h => ⟨(dI_inv hb h).1, trivial⟩) hb1 hs
      have hb2 : ∀ y ∈ s2, y < 256 := fun y hy => hb1 y (by rw [e2]; simp [hy])
      split at h
      · cases h
      · rename_i ps s3 hp
        cases h
        obtain ⟨e3, h3, _⟩ := dL_inv (e := encK) (G := fun _ => True) (fun hb h => ⟨dK_inv hb h, trivial⟩) hb2 hp
        refine ⟨?_, h1.1, h1.2, h2, h3⟩
        rw [e1, e2, e3]
        simp [encD, encIs, encKs]
end Go.Proofs.YtdojhkgnnbdfkaaGreat

/- Texts of this claim laid together, one behind the other: contracts and plain lemmas; conditions as each names them. -/
import Derived.Test.YtldghdbfhikcoaaGreatDoorGp12
/- What a checkpoint says, as bytes and back: plain functions on lists, one form. Plain lemmas. -/
namespace Go.Proofs.YtldghdbfhikcoaaGreatDoor
open Go.ChangeShapes Go.WideShapes Go.ChangeAt Go.RowKit Go.Lib Go.Maps
set_option linter.unusedVariables false
set_option linter.unusedSimpArgs false

/-- A key with its versions. -/
abbrev Kv : Type := ByteArray × List Vn
def Hd.kv (h : Hd) : Kv := (h.key, h.vs)

def encS (s : ByteArray) : List Nat := enc s.size ++ strNs s
def encV (v : Vn) : List Nat := if v.drop then [1] else 0 :: encS v.val
def encX (v : Vn) : List Nat := enc v.num.toNat ++ encV v
def encXs (vs : List Vn) : List Nat := vs.flatMap encX
def encK (p : Kv) : List Nat := encS p.1 ++ (enc p.2.length ++ encXs p.2)
def encKs (ps : List Kv) : List Nat := ps.flatMap encK
def encI (n : Int) : List Nat := enc n.toNat
def encIs (ns : List Int) : List Nat := ns.flatMap encI
def encD (m : Int) (bs : List Int) (ps : List Kv) : List Nat := encI m ++ (enc bs.length ++ (encIs bs ++ (enc ps.length ++ encKs ps)))

/-- Numbers beyond a mark. -/
structure BeyOk (m : Int) (bs : List Int) : Prop where
  rise : bs.Pairwise (· < ·)
  low : ∀ b ∈ bs, m + 2 ≤ b
  high : ∀ b ∈ bs, b ≤ 65536
/-- Versions that are saved at a mark, as the program asks it. -/
def SvV (m : Int) (bs : List Int) (vs : List Vn) : Prop :=
  ((vs.getD 0 Vn.zero).num ≤ m → (vs.getD 0 Vn.zero).drop = false ∧ ∀ v ∈ vs.drop 1, v.num ∈ bs) ∧ (m < (vs.getD 0 Vn.zero).num → ∀ v ∈ vs, v.num ∈ bs)
/-- Keys that rise, each with versions that may be. -/
def LoK (ps : List Kv) : Prop := ps.Pairwise (fun a b => Op.bytesLess a.1.toList b.1.toList = true) ∧ ∀ p ∈ ps, okK9 p.1 ∧ p.2 ≠ [] ∧ okV p.2
structure OkS (m : Int) (bs : List Int) (ps : List Kv) : Prop where
  m0 : 0 ≤ m
  m1 : m ≤ 65536
  bey : BeyOk m bs
  lo : LoK ps
  sv : ∀ p ∈ ps, SvV m bs p.2
theorem LoOk_iff (hs : List Hd) : LoOk hs ↔ LoK (hs.map Hd.kv) := by
  unfold LoOk LoK
  rw [List.pairwise_map]
  constructor
  · rintro ⟨h1, h2⟩
    refine ⟨h1, fun p hp => ?_⟩
    obtain ⟨h, hh, rfl⟩ := List.mem_map.1 hp
    exact h2 h hh
  · rintro ⟨h1, h2⟩
    exact ⟨h1, fun h hh => h2 _ (List.mem_map.2 ⟨h, hh, rfl⟩)⟩

/-! ### Lengths and bytes -/
theorem encS_lt (s : ByteArray) : ∀ x ∈ encS s, x < 256 := by
  intro x hx
  rcases List.mem_append.1 hx with h | h
  · exact enc_lt _ x h
  · exact strNs_lt s x h
theorem encS_length (s : ByteArray) : 1 ≤ (encS s).length ∧ (encS s).length ≤ 10 + s.size := by
  have := enc_length s.size
  simp only [encS, List.length_append, strNs_length]
  omega
theorem encX_length (v : Vn) : 2 ≤ (encX v).length ∧ (encX v).length ≤ 21 + v.val.size := by
  have a := enc_length v.num.toNat
  have b := encS_length v.val
  simp only [encX, encV, List.length_append]
  split
  · simp only [List.length_cons, List.length_nil]; omega
  · simp only [List.length_cons]; omega
/-- The statements' measure of versions, of keys. -/
def szX (v : Vn) : Nat := 1 + v.val.size
def szXs (vs : List Vn) : Nat := (vs.map szX).sum
def szK (p : Kv) : Nat := 1 + p.1.size + szXs p.2
def szKs (ps : List Kv) : Nat := (ps.map szK).sum
theorem encXs_length (vs : List Vn) : (encXs vs).length ≤ 21 * szXs vs ∧ vs.length ≤ (encXs vs).length := by
  induction vs with
  | nil => simp [encXs, szXs]
  | cons v r ih =>
    have := encX_length v
    have hz : szX v = 1 + v.val.size := rfl
    simp only [encXs, szXs, List.flatMap_cons, List.length_append, List.map_cons, List.sum_cons, List.length_cons] at *
    omega
theorem encK_length (p : Kv) : 2 ≤ (encK p).length ∧ (encK p).length ≤ 21 * szK p := by
  have a := encS_length p.1
  have b := enc_length p.2.length
  have c := encXs_length p.2
  simp only [encK, List.length_append, szK]
  omega
theorem encKs_length (ps : List Kv) : (encKs ps).length ≤ 21 * szKs ps := by
  induction ps with
  | nil => simp [encKs, szKs]
  | cons v r ih =>
    have := encK_length v
    simp only [encKs, szKs, List.flatMap_cons, List.length_append, List.map_cons, List.sum_cons] at *
    omega
theorem encIs_length (ns : List Int) : (encIs ns).length ≤ 10 * ns.length := by
  induction ns with
  | nil => simp [encIs]
  | cons v r ih =>
    have := enc_length v.toNat
    simp only [encIs, List.flatMap_cons, List.length_append, List.length_cons, encI] at *
    omega
theorem encD_length (m : Int) (bs : List Int) (ps : List Kv) : 3 ≤ (encD m bs ps).length ∧ (encD m bs ps).length ≤ 30 + 10 * bs.length + 21 * szKs ps := by
  have a := enc_length m.toNat
  have b := enc_length bs.length
  have c := enc_length ps.length
  have d := encIs_length bs
  have e := encKs_length ps
  simp only [encD, encI, List.length_append]
  omega

/-! ### Taking -/
/-- One thing taken and looked at: it and what is ahead then, or what is wrong. -/
def tk {α : Type} (f : List Nat → α × Nat × Nat) (ref : α → Nat) (xs : List Nat) : Except Nat (α × List Nat) :=
  if (f xs).2.2 ≠ 0 then .error (f xs).2.2 else if ref (f xs).1 ≠ 0 then .error (ref (f xs).1) else .ok ((f xs).1, xs.drop (f xs).2.1)
def refL (n : Nat) : Nat := if 65536 < n then 3 else 0
def refD (n : Nat) : Nat := if n = 0 ∨ n = 1 then 0 else 4
def refV (_ : ByteArray) : Nat := 0
def dN (xs : List Nat) : Except Nat (Nat × List Nat) := tk (shortF 0 0) refL xs
def dT (m : Nat) (xs : List Nat) : Except Nat (ByteArray × List Nat) := tk (textF (m : Int)) refV xs
def dF (xs : List Nat) : Except Nat (Nat × List Nat) := tk (fixF 1) refD xs
def dXv (n : Nat) (xs : List Nat) : Except Nat (Vn × List Nat) :=
  match dT 1024 xs with
  | .error e => .error e
  | .ok (v, r) => .ok (⟨(n : Int), v, false⟩, r)
def dXd (n : Nat) (xs : List Nat) : Except Nat (Vn × List Nat) :=
  match dF xs with
  | .error e => .error e
  | .ok (d, r) => if d = 1 then .ok (⟨(n : Int), noS, true⟩, r) else dXv n r
def dX (xs : List Nat) : Except Nat (Vn × List Nat) :=
  match dN xs with
  | .error e => .error e
  | .ok (n, r) => dXd n r
def dI (xs : List Nat) : Except Nat (Int × List Nat) :=
  match dN xs with
  | .error e => .error e
  | .ok (n, r) => .ok ((n : Int), r)
/-- So many things, one behind the other. -/
def dR {α : Type} (f : List Nat → Except Nat (α × List Nat)) : Nat → List Nat → Except Nat (List α × List Nat)
  | 0, xs => .ok ([], xs)
  | k + 1, xs => match f xs with
    | .error e => .error e
    | .ok (x, r) => match dR f k r with
      | .error e => .error e
      | .ok (l, s) => .ok (x :: l, s)
def dL {α : Type} (f : List Nat → Except Nat (α × List Nat)) (xs : List Nat) : Except Nat (List α × List Nat) :=
  match dN xs with
  | .error e => .error e
  | .ok (n, r) => dR f n r
def dK (xs : List Nat) : Except Nat (Kv × List Nat) :=
  match dT 64 xs with
  | .error e => .error e
  | .ok (k, r) => match dL dX r with
    | .error e => .error e
    | .ok (vs, s) => .ok ((k, vs), s)
/-- What is said. -/
structure Sd where
  m : Int
  bs : List Int
  ps : List Kv
def dS (xs : List Nat) : Except Nat (Sd × List Nat) :=
  match dI xs with
  | .error e => .error e
  | .ok (m, r) => match dL dI r with
    | .error e => .error e
    | .ok (bs, s) => match dL dK s with
      | .error e => .error e
      | .ok (ps, t) => .ok (⟨m, bs, ps⟩, t)

theorem tk_ok {α : Type} {f : List Nat → α × Nat × Nat} {ref : α → Nat} {xs : List Nat} {v : α} {k : Nat} (h : f xs = (v, k, 0)) (hr : ref v = 0) : tk f ref xs = .ok (v, xs.drop k) := by
  simp [tk, h, hr]
theorem tk_err {α : Type} {f : List Nat → α × Nat × Nat} {ref : α → Nat} {xs : List Nat} {v : α} {k e : Nat} (h : f xs = (v, k, e)) (he : e ≠ 0) : tk f ref xs = .error e := by
  simp [tk, h, he]
theorem tk_inv {α : Type} {f : List Nat → α × Nat × Nat} {ref : α → Nat} {xs r : List Nat} {v : α} (h : tk f ref xs = .ok (v, r)) : (f xs).2.2 = 0 ∧ (f xs).1 = v ∧ ref v = 0 ∧ xs.drop (f xs).2.1 = r := by
  unfold tk at h
  split at h
  · cases h
  · rename_i h1
    split at h
    · cases h
    · rename_i h2
      cases h
      exact ⟨by simpa using h1, rfl, by simpa using h2, rfl⟩
theorem tk_code {α : Type} {f : List Nat → α × Nat × Nat} {ref : α → Nat} {xs : List Nat} {e : Nat} (h : tk f ref xs = .error e) : e ≠ 0 := by
  unfold tk at h
  split at h
  · rename_i h1; cases h; exact h1
  · split at h
    · rename_i h1; cases h; exact h1
    · cases h
theorem drop_left (a b : List Nat) : (a ++ b).drop a.length = b := List.drop_left
theorem fix_enc (d : Nat) (r : List Nat) : fixF 1 (d :: r) = (d, 1, 0) := by
  unfold fixF
  rw [if_neg (by decide), if_neg (by simp only [List.length_cons]; omega)]
  simp [leN]
theorem fix_none : fixF 1 [] = (0, 0, 5) := by
  unfold fixF
  rw [if_neg (by decide), if_pos (by decide)]

/-! ### What is taken is told again -/
theorem dT_inv {m : Nat} {xs r : List Nat} {s : ByteArray} (hb : ∀ x ∈ xs, x < 256) (h : dT m xs = .ok (s, r)) : xs = encS s ++ r ∧ s.size ≤ m := by
  obtain ⟨h1, h2, h3, h4⟩ := tk_inv h
  have hf := text_form m xs hb h1
  rw [h2] at hf
  refine ⟨?_, ?_⟩
  · rw [← h4]
    show xs = (enc s.size ++ strNs s) ++ _
    rw [hf, List.take_append_drop]
  · subst h2
    unfold textF at h1 ⊢
    rw [if_neg (by omega)] at h1 ⊢
    split at h1
    · rename_i hh; exact absurd h1 hh
    · rename_i hh
      rw [if_neg hh]
      split at h1
      · simp at h1
      · rename_i hh2
        rw [if_neg hh2]
        split at h1
        · simp at h1
        · rename_i hh3
          rw [if_neg hh3]
          simp only [toBA_size, List.length_take]
          omega
theorem dN_inv {xs r : List Nat} {n : Nat} (hb : ∀ x ∈ xs, x < 256) (h : dN xs = .ok (n, r)) : xs = enc n ++ r ∧ n ≤ 65536 := by
  obtain ⟨h1, h2, h3, h4⟩ := tk_inv h
  have hf := enc_short xs hb h1
  rw [h2] at hf
  refine ⟨?_, ?_⟩
  · rw [← h4, hf, List.take_append_drop]
  · unfold refL at h3
    split at h3
    · cases h3
    · omega
theorem dF_inv {xs r : List Nat} {d : Nat} (h : dF xs = .ok (d, r)) : xs = d :: r ∧ (d = 0 ∨ d = 1) := by
  cases xs with
  | nil => unfold dF at h; rw [tk_err fix_none (by decide)] at h; cases h
  | cons y s =>
    obtain ⟨h1, h2, h3, h4⟩ := tk_inv h
    rw [fix_enc] at h2 h4
    simp at h2 h4
    subst h2
    subst h4
    refine ⟨rfl, ?_⟩
    unfold refD at h3
    split at h3
    · assumption
    · cases h3
theorem dI_inv {xs r : List Nat} {n : Int} (hb : ∀ x ∈ xs, x < 256) (h : dI xs = .ok (n, r)) : xs = encI n ++ r ∧ 0 ≤ n ∧ n ≤ 65536 := by
  unfold dI at h
  split at h
  · cases h
  · rename_i k s hk
    cases h
    obtain ⟨e, h1⟩ := dN_inv hb hk
    refine ⟨?_, by omega, by omega⟩
    simpa [encI] using e
theorem dX_inv {xs r : List Nat} {v : Vn} (hb : ∀ y ∈ xs, y < 256) (h : dX xs = .ok (v, r)) : xs = encX v ++ r := by
  unfold dX at h
  split at h
  · cases h
  · rename_i n s hn
    obtain ⟨e1, _⟩ := dN_inv hb hn
    have hb1 : ∀ y ∈ s, y < 256 := fun y hy => hb y (by rw [e1]; simp [hy])
    unfold dXd at h
    split at h
    · cases h
    · rename_i d s2 hd
      obtain ⟨e2, h3⟩ := dF_inv hd
      have hb2 : ∀ y ∈ s2, y < 256 := fun y hy => hb1 y (by rw [e2]; simp [hy])
      split at h
      · rename_i hd1
        cases h
        rw [e1, e2, hd1]
        simp [encX, encV]
      · rename_i hd1
        have hd0 : d = 0 := by omega
        unfold dXv at h
        split at h
        · cases h
        · rename_i u s3 hv
          cases h
          obtain ⟨e3, _⟩ := dT_inv (m := 1024) hb2 hv
          rw [e1, e2, hd0, e3]
          simp [encX, encV]
theorem dR_inv {α : Type} {f : List Nat → Except Nat (α × List Nat)} {e : α → List Nat} {G : α → Prop} (hf : ∀ {xs r : List Nat} {v : α}, (∀ y ∈ xs, y < 256) → f xs = .ok (v, r) → xs = e v ++ r ∧ G v) :
    ∀ (k : Nat) {xs r : List Nat} {l : List α}, (∀ y ∈ xs, y < 256) → dR f k xs = .ok (l, r) → xs = l.flatMap e ++ r ∧ l.length = k ∧ ∀ x ∈ l, G x := by
  intro k
  induction k with
  | zero =>
    intro xs r l hb h
    simp only [dR] at h
    cases h
    exact ⟨rfl, rfl, by simp⟩
  | succ k ih =>
    intro xs r l hb h
    rw [dR] at h
    split at h
    · cases h
    · rename_i x s hx
      obtain ⟨e1, h1⟩ := hf hb hx
      have hb1 : ∀ y ∈ s, y < 256 := fun y hy => hb y (by rw [e1]; simp [hy])
      split at h
      · cases h
      · rename_i vs s2 hs
        cases h
        obtain ⟨e2, h2, h3⟩ := ih hb1 hs
        refine ⟨by rw [e1, e2]; simp, by simp [h2], ?_⟩
        intro y hy
        rcases List.mem_cons.1 hy with rfl | hy
        · exact h1
        · exact h3 y hy
theorem dL_inv {α : Type} {f : List Nat → Except Nat (α × List Nat)} {e : α → List Nat} {G : α → Prop} (hf : ∀ {xs r : List Nat} {v : α}, (∀ y ∈ xs, y < 256) → f xs = .ok (v, r) → xs = e v ++ r ∧ G v) {xs r : List Nat} {l : List α} (hb : ∀ y ∈ xs, y < 256) (h : dL f xs = .ok (l, r)) :
    xs = enc l.length ++ (l.flatMap e ++ r) ∧ l.length ≤ 65536 ∧ ∀ x ∈ l, G x := by
  unfold dL at h
  split at h
  · cases h
  · rename_i n s hn
    obtain ⟨e1, h1⟩ := dN_inv hb hn
    have hb1 : ∀ y ∈ s, y < 256 := fun y hy => hb y (by rw [e1]; simp [hy])
    obtain ⟨e2, h2, h3⟩ := dR_inv hf n hb1 h
    exact ⟨by rw [e1, e2, h2], by omega, h3⟩
theorem dK_inv {xs r : List Nat} {p : Kv} (hb : ∀ y ∈ xs, y < 256) (h : dK xs = .ok (p, r)) : xs = encK p ++ r := by
  unfold dK at h
  split at h
  · cases h
  · rename_i k s hk
    obtain ⟨e1, h1⟩ := dT_inv (m := 64) hb hk
    have hb1 : ∀ y ∈ s, y < 256 := fun y hy => hb y (by rw [e1]; simp [hy])
    split at h
    · cases h
    · rename_i vs s2 hs
      cases h
      obtain ⟨e2, _⟩ := dL_inv (e := encX) (G := fun _ => True) (fun hb h => ⟨dX_inv hb h, trivial⟩) hb1 hs
      rw [e1, e2]
      simp [encK, encXs]
theorem dS_inv {xs r : List Nat} {s : Sd} (hb : ∀ y ∈ xs, y < 256) (h : dS xs = .ok (s, r)) : xs = encD s.m s.bs s.ps ++ r ∧ 0 ≤ s.m ∧ s.m ≤ 65536 ∧ s.bs.length ≤ 65536 ∧ s.ps.length ≤ 65536 := by
  unfold dS at h
  split at h
  · cases h
  · rename_i m s1 hm
    obtain ⟨e1, h1⟩ := dI_inv hb hm
    have hb1 : ∀ y ∈ s1, y < 256 := fun y hy => hb y (by rw [e1]; simp [hy])
    split at h
    · cases h
    · rename_i bs s2 hs
      obtain ⟨e2, h2, _⟩ := dL_inv (e := encI) (G := fun _ => True) (fun hb h => ⟨(dI_inv hb h).1, trivial⟩) hb1 hs
      have hb2 : ∀ y ∈ s2, y < 256 := fun y hy => hb1 y (by rw [e2]; simp [hy])
      split at h
      · cases h
      · rename_i ps s3 hp
        cases h
        obtain ⟨e3, h3, _⟩ := dL_inv (e := encK) (G := fun _ => True) (fun hb h => ⟨dK_inv hb h, trivial⟩) hb2 hp
        refine ⟨?_, h1.1, h1.2, h2, h3⟩
        rw [e1, e2, e3]
        simp [encD, encIs, encKs]
end Go.Proofs.YtldghdbfhikcoaaGreatDoor
/- Keys with their versions in rows of their own, one more behind. Conditions as each names them. -/
namespace Go.Proofs.YtldghdbfhikcoaaGreatDoor
open Go.ChangeShapes Go.WideShapes Go.ChangeAt Go.RowKit Go.Lib Go.Maps
set_option linter.unusedVariables false
set_option linter.unusedSimpArgs false

def hdC (h : Hd) : List Value := [.string h.key, .slice h.vo h.L h.cap]
def hdsC (hs : List Hd) : List Value := hs.flatMap hdC
theorem hdsC_length (hs : List Hd) : (hdsC hs).length = hs.length * 2 := by
  induction hs with
  | nil => rfl
  | cons p ps ih => simp [hdsC, hdC] at *; omega
theorem hdsC_snoc (hs : List Hd) (x : Hd) : hdsC (hs ++ [x]) = hdsC hs ++ hdC x := by simp [hdsC]
theorem hdsC_get (hs : List Hd) (i : Nat) (h : i < hs.length) : (hdsC hs)[i * 2]? = some (.string (hs.getD i Hd.zero).key) ∧ (hdsC hs)[i * 2 + 1]? = some (.slice (hs.getD i Hd.zero).vo (hs.getD i Hd.zero).L (hs.getD i Hd.zero).cap) := by
  induction hs generalizing i with
  | nil => simp at h
  | cons p ps ih =>
    cases i with
    | zero => simp [hdsC, hdC]
    | succ i =>
      have := ih i (by simpa using h)
      have e1 : (hdsC (p :: ps))[(i + 1) * 2]? = (hdsC ps)[i * 2]? := by
        rw [show (i + 1) * 2 = i * 2 + 2 by omega]
        simp [hdsC, hdC]
      have e2 : (hdsC (p :: ps))[(i + 1) * 2 + 1]? = (hdsC ps)[i * 2 + 1]? := by
        rw [show (i + 1) * 2 + 1 = i * 2 + 1 + 2 by omega]
        simp [hdsC, hdC]
      rw [e1, e2]
      simpa using this
theorem hdC_one (h : Hd) : ∀ u ∈ hdC h, u.oneCell' = true := by
  intro u hu
  simp only [hdC, List.mem_cons, List.not_mem_nil, or_false] at hu
  rcases hu with rfl | rfl <;> rfl
/-- Two rows share no block. -/
def Apa (a b : Option Addr) : Prop := ∀ p q, a = some p → b = some q → p.block ≠ q.block
/-- Keys with their versions, handed out: a row of its own, each key's versions in a row of their own, made since w. -/
structure HOut (w w' : World) (ro : Option Addr) (N rc : Nat) (hs : List Hd) : Prop where
  len : N = hs.length
  row : w'.ownsRow w.heap.size 73 2 (.slice ro N rc) N (hdsC hs)
  each : ∀ h ∈ hs, VOut w w' h.vo h.L h.cap h.vs
  apart : hs.Pairwise fun a b => Apa a.vo b.vo
theorem HOut.keep {w w1 w2 : World} {ro : Option Addr} {N rc : Nat} {hs : List Hd} (h : HOut w w1 ro N rc hs) (hf : Fr [] w1 w2) : HOut w w2 ro N rc hs := ⟨h.len, owns_keepB h.row hf (by simp), fun x hx => (h.each x hx).keepS hf (by simp), h.apart⟩
theorem VOut.block {w w' : World} {ro : Option Addr} {N rc : Nat} {vs : List Vn} (h : VOut w w' ro N rc vs) (p : Addr) (hp : ro = some p) : w.heap.size ≤ p.block ∧ p.block < w'.heap.size := by
  obtain ⟨rf, _, ho⟩ := h.own
  have e : (Value.slice ro N rf).ownBlock = some p.block := by rw [hp]; rfl
  obtain ⟨h1, cur, h2⟩ := owns_cells ho e
  exact ⟨h1, lt_of_block h2⟩
theorem HOut.newApart {w wr w2 : World} {ro : Option Addr} {N rc : Nat} {hs : List Hd} {vo : Option Addr} {L c : Nat} {vs : List Vn} (h : HOut w wr ro N rc hs) (hV : VOut wr w2 vo L c vs) : ∀ x ∈ hs, Apa x.vo vo := by
  intro x hx p q hp hq e
  have h1 := (h.each x hx).block p hp
  have h2 := hV.block q hq
  omega
theorem HOut.rs {w w' : World} {ro : Option Addr} {N rc : Nat} {hs : List Hd} (h : HOut w w' ro N rc hs) (hl : LoOk hs) (hN : N ≤ 3518437208882) : HRs w' ro hs := by
  refine ⟨fun h0 => ?_, by rw [← h.len]; exact hN, fun x hx => ?_⟩
  · rcases h.row.2 with ⟨_, h1⟩ | ⟨g, cap, cur, hv, _, hg, _, _, _, ht⟩
    · have := h.len; omega
    · cases hv
      refine ⟨g, 0, rfl, lt_of_block hg, fun i hi => ?_⟩
      obtain ⟨e1, e2⟩ := hdsC_get hs i hi
      have hN2 := h.len
      constructor
      · rw [cell_of_row _ _ _ _ _ _ hg, Nat.zero_add, ← Array.getElem?_toList, ← e1, ← ht, List.getElem?_take_of_lt (by omega)]
      · rw [cell_of_row _ _ _ _ _ _ hg, Nat.zero_add, ← Array.getElem?_toList, ← e2, ← ht, List.getElem?_take_of_lt (by omega)]
  · have hV := h.each x hx
    have ho := hl.2 x hx
    exact ⟨by have := ho.1.2; omega, hV.len, hV.cap, hV.each ho.2.2⟩
theorem Tryz.undHds : Tryz.prog.underlying 23 = some (.slice 73) := by kernel_rfl
theorem Tryz.infoHd : (Tryz.prog.info? 73).map (fun i => (i.zero, i.size, i.bytes)) = some (some (.agg #[.string ⟨#[]⟩, .slice none 0 0]), 2, 40) := by kernel_rfl
theorem infoHd_parts : ∃ i, Tryz.prog.info? 73 = some i ∧ i.zero = some (.agg #[.string ⟨#[]⟩, .slice none 0 0]) ∧ i.size = 2 ∧ i.bytes = 40 := by
  have h := Tryz.infoHd
  cases hi : Tryz.prog.info? 73 with
  | none => rw [hi] at h; cases h
  | some i =>
    rw [hi] at h
    simp only [Option.map_some, Option.some.injEq, Prod.mk.injEq] at h
    exact ⟨i, rfl, h.1, h.2.1, h.2.2⟩
/-- One key with its versions more. -/
theorem wpList_appH (w0 w : World) {ops : Array Oper} {rest : List Oper} {o : Oper} {a : Act} {Q : Exit → Act → World → Prop} (hgd : o.guard = none) (s x : Operand)
    (ho : o.op = .call { callee := .builtin .append, args := #[s, x], argTypes := #[23, 23] })
    (so : Option Addr) (N c : Nat) (hs : List Hd) (hsv : a.eval s = .slice so N c) (hK : HOut w0 w so N c hs) (hN : N < 3518437208883) (h0 : w0.heap.size ≤ w.heap.size) (p : Hd) (hV : VOut w0 w p.vo p.L p.cap p.vs) (hAp : ∀ x ∈ hs, Apa x.vo p.vo) (hx : a.eval x = .slice (some ⟨w.heap.size, 0, none⟩) 1 1)
    (h : ∀ so' c' w', HOut w0 w' so' (N + 1) c' (hs ++ [p]) → Fr (Value.slice so N c).ownBlock.toList w w' → wpList Tryz.prog ops Q rest (a.put o.dst (.slice so' (N + 1) c')) w') : wpList Tryz.prog ops Q (o :: rest) a (w.alloc (.cells #[.string p.key, .slice p.vo p.L p.cap] 73)) := by
  obtain ⟨i0, hi, hz0, hz1, hz2⟩ := infoHd_parts
  have hmx : 3518437208884 ≤ maxLen := by unfold maxLen; omega
  refine wpList_append_own (w.alloc (.cells #[.string p.key, .slice p.vo p.L p.cap] 73)) hgd s x 23 ho w0.heap.size 73 i0 _ 2 40 Tryz.undHds hi hz0 hz1 hz2 rfl (by decide) (.slice so N c) N (hdsC hs) hsv (owns_keepB hK.row (Fr.alloc [] w _) (by simp)) ⟨w.heap.size, 0, none⟩ 1 1 (hdC p) hx rfl ?_ (hdC_one p) (by omega) (by omega) (by simp; omega) ?_
  · intro j u hu
    have hr := heap_alloc_new w (.cells #[.string p.key, .slice p.vo p.L p.cap] 73)
    rw [Addr.add_lit, cell_of_row _ _ _ _ _ _ hr, Nat.zero_add]
    simpa [hdC] using hu
  · intro v' w' hown' hg' _
    obtain ⟨bo, cap', rfl⟩ : ∃ bo cap', v' = .slice bo (N + 1) cap' := by
      rcases hown'.2 with ⟨_, h1⟩ | ⟨g, cap, _, rfl, _⟩
      · omega
      · exact ⟨_, cap, rfl⟩
    rw [← hdsC_snoc] at hown'
    have hF : Fr (Value.slice so N c).ownBlock.toList w w' := ((Fr.alloc [] w _).mono (by simp)).then (Fr.grown (S := (Value.slice so N c).ownBlock.toList) hg' (fun y hy _ => Option.mem_toList.2 hy))
    refine h bo cap' w' ⟨by rw [hK.len]; simp, hown', fun y hy => ?_, by rw [List.pairwise_append]; exact ⟨hK.apart, List.pairwise_singleton _ _, fun a ha b hb => by simp at hb; subst hb; exact hAp a ha⟩⟩ hF
    have hVy : VOut w0 w y.vo y.L y.cap y.vs := by
      rcases List.mem_append.1 hy with h1 | h1
      · exact hK.each y h1
      · simp at h1; subst h1; exact hV
    refine hVy.keepS hF fun j hj hm => ?_
    obtain ⟨_, c1, e1⟩ := hVy.blk j hj
    obtain ⟨_, c2, e2⟩ := owns_cells hK.row (Option.mem_toList.1 hm)
    rw [e1] at e2
    simp only [Option.some.injEq, Obj.cells.injEq] at e2
    exact absurd e2.2.1 (by decide)
end Go.Proofs.YtldghdbfhikcoaaGreatDoor

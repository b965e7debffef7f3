/- The document's reading of a checkpoint, as what is left to read; its taker, live or not, by one word. Plain lemmas and contracts. -/
import Derived.Test.YtdojhkgnnbdfkaaGreatYa18
import Derived.Test.YtdojhkgnnbdfkaaGreatLk18
namespace Go.Proofs.YtdojhkgnnbdfkaaGreat
open BigFrame Go.ChangeShapes Go.WideShapes Go.ChangeAt Go.RowKit Go.Lib Go.Maps
set_option linter.unusedVariables false
set_option linter.unusedSimpArgs false

/-- These ahead of what is read then. -/
def preL {α : Type} (a : List α) : Except Nat (List α × List Nat) → Except Nat (List α × List Nat)
  | .error e => .error e
  | .ok (l, s) => .ok (a ++ l, s)
theorem preL_nil {α : Type} (r : Except Nat (List α × List Nat)) : preL [] r = r := by
  cases r with
  | error e => rfl
  | ok p => rfl
theorem preL_step {α : Type} {f : List Nat → Except Nat (α × List Nat)} {k : Nat} {ys zs : List Nat} {x : α} (a : List α) (h : f ys = .ok (x, zs)) : preL a (dR f (k + 1) ys) = preL (a ++ [x]) (dR f k zs) := by
  show preL a (match f ys with | .error e => .error e | .ok (x, r) => match dR f k r with | .error e => .error e | .ok (l, s) => .ok (x :: l, s)) = _
  rw [h]
  simp only
  cases dR f k zs with
  | error e => rfl
  | ok p => simp [preL]
theorem preL_err {α : Type} {f : List Nat → Except Nat (α × List Nat)} {k c : Nat} {ys : List Nat} (a : List α) (h : f ys = .error c) : preL a (dR f (k + 1) ys) = .error c := by
  show preL a (match f ys with | .error e => .error e | .ok (x, r) => match dR f k r with | .error e => .error e | .ok (l, s) => .ok (x :: l, s)) = _
  rw [h]
  rfl
theorem preL_end {α : Type} {f : List Nat → Except Nat (α × List Nat)} {ys : List Nat} (a : List α) : preL a (dR f 0 ys) = .ok (a, ys) := by
  show preL a (.ok ([], ys)) = _
  simp [preL]
/-- Behind the keys. -/
def kK (m : Int) (bs : List Int) : Except Nat (List Kv × List Nat) → Except Nat (Sd × List Nat)
  | .error e => .error e
  | .ok (ps, t) => .ok (⟨m, bs, ps⟩, t)
/-- Behind the numbers beyond. -/
def kB (m : Int) : Except Nat (List Int × List Nat) → Except Nat (Sd × List Nat)
  | .error e => .error e
  | .ok (bs, s) => kK m bs (dL dK s)
/-- Behind a key's versions. -/
def kV (m : Int) (bs : List Int) (ps : List Kv) (key : ByteArray) (j : Nat) : Except Nat (List Vn × List Nat) → Except Nat (Sd × List Nat)
  | .error e => .error e
  | .ok (vs, s) => kK m bs (preL (ps ++ [(key, vs)]) (dR dK j s))
theorem dS_kB {xs ys : List Nat} {m : Nat} (h : dN xs = .ok (m, ys)) : dS xs = kB (m : Int) (dL dI ys) := by
  unfold dS
  rw [dI_ok h]
  simp only
  cases dL dI ys with
  | error e => rfl
  | ok p =>
    obtain ⟨bs, s⟩ := p
    simp only [kB]
    cases dL dK s with
    | error e => rfl
    | ok q => rfl
theorem kK_key {m : Int} {bs : List Int} {ps : List Kv} {j : Nat} {ys zs us : List Nat} {key : ByteArray} {n : Nat} (h : dT 64 ys = .ok (key, zs)) (h2 : dN zs = .ok (n, us)) : kK m bs (preL ps (dR dK (j + 1) ys)) = kV m bs ps key j (dR dX n us) := by
  cases hv : dR dX n us with
  | error e =>
    rw [preL_err ps (dK_l h (by rw [dL_of h2]; exact hv))]
    rfl
  | ok p =>
    obtain ⟨vs, s⟩ := p
    rw [preL_step ps (dK_ok h (by rw [dL_of h2]; exact hv))]
    rfl
/-- The taker, live or not. -/
def St (w : World) (t : Nat) (ao : Option Addr) (L cap : Nat) (lv : Nat → Prop) (de : Nat → Prop) : Prop := (∃ p, Yl w t ao L cap p ∧ lv p) ∨ (∃ c, Yd w t c ∧ de c)
section
variable {w w' : World} {t : Nat} {ao : Option Addr} {L cap : Nat} {xs : List Nat} {lv : Nat → Prop} {de : Nat → Prop}
theorem St.keep {S : List Nat} (h : St w t ao L cap lv de) (hf : Fr S w w') (hn : t ∉ S) : St w' t ao L cap lv de := by
  rcases h with ⟨p, h1, h2⟩ | ⟨c, h1, h2⟩
  · exact Or.inl ⟨p, h1.keep hf hn, h2⟩
  · exact Or.inr ⟨c, h1.keep hf hn, h2⟩
theorem St.imp {lv2 : Nat → Prop} {de2 : Nat → Prop} (h : St w t ao L cap lv de) (h1 : ∀ p, p ≤ L → lv p → lv2 p) (h2 : ∀ c, de c → de2 c) : St w t ao L cap lv2 de2 := by
  rcases h with ⟨p, h3, h4⟩ | ⟨c, h3, h4⟩
  · exact Or.inl ⟨p, h3, h1 p h3.le h4⟩
  · exact Or.inr ⟨c, h3, h2 c h4⟩
theorem St.lt (h : St w t ao L cap lv de) : t < w.heap.size := by
  rcases h with ⟨p, h3, h4⟩ | ⟨c, ⟨_, _, _, _, h3⟩, h4⟩
  · exact h3.ta.lt
  · exact h3.lt
/-- Its code: 0 where it is live. -/
theorem St.code (h : St w t ao L cap lv de) : ∃ c : Nat, w.cell? ⟨t, 4, none⟩ = some (.int .i64 (c : Int)) ∧ ((c = 0 ∧ ∃ p, Yl w t ao L cap p ∧ lv p) ∨ (c ≠ 0 ∧ Yd w t c ∧ de c)) := by
  rcases h with ⟨p, h3, h4⟩ | ⟨c, h3, h4⟩
  · exact ⟨0, h3.ta.cs.2.2.2.2, Or.inl ⟨rfl, p, h3, h4⟩⟩
  · obtain ⟨h0, s, p, c', h5⟩ := h3
    exact ⟨c, h5.cs.2.2.2.2, Or.inr ⟨h0, ⟨h0, s, p, c', h5⟩, h4⟩⟩
theorem number_st (h : St w t ao L cap lv de) (hB : Yb w ao L cap xs) : Calls Tryz.prog 100 #[.pointer (some ⟨t, 0, none⟩)] w fun e w' => ∃ z : Int, e = .returned (.int .i64 z) ∧ Fr [t] w w' ∧ St w' t ao L cap (fun p' => ∃ p n : Nat, lv p ∧ dN (xs.drop p) = .ok (n, xs.drop p') ∧ z = n ∧ n ≤ 65536) (fun c => de c ∨ ∃ p, lv p ∧ dN (xs.drop p) = .error c) := by
  rcases h with ⟨p, h3, h4⟩ | ⟨c, h3, h4⟩
  · refine (ywnumber_any h3 hB).mono ?_
    rintro e w' (⟨c, z, h5, rfl, h6, h7⟩ | ⟨n, p', h5, rfl, h6, h7, h8⟩)
    · exact ⟨z, rfl, h7, Or.inr ⟨c, h6, Or.inr ⟨p, h4, h5⟩⟩⟩
    · exact ⟨n, rfl, h8, Or.inl ⟨p', h7, p, n, h4, h5, rfl, h6⟩⟩
  · refine (ywnumber_dead h3).mono ?_
    rintro e w' ⟨rfl, rfl⟩
    exact ⟨0, rfl, Fr.refl _ _, Or.inr ⟨c, h3, Or.inl h4⟩⟩
theorem text_st (m : Nat) (hm : m ≤ 65536) (h : St w t ao L cap lv de) (hB : Yb w ao L cap xs) : Calls Tryz.prog 101 #[.pointer (some ⟨t, 0, none⟩), .int .i64 (m : Int)] w fun e w' => ∃ s : ByteArray, e = .returned (.string s) ∧ Fr [t] w w' ∧ St w' t ao L cap (fun p' => ∃ p, lv p ∧ dT m (xs.drop p) = .ok (s, xs.drop p')) (fun c => de c ∨ ∃ p, lv p ∧ dT m (xs.drop p) = .error c) := by
  rcases h with ⟨p, h3, h4⟩ | ⟨c, h3, h4⟩
  · refine (ywtext_any m hm h3 hB).mono ?_
    rintro e w' (⟨c, z, h5, rfl, h6, h7⟩ | ⟨n, p', h5, rfl, h7, h8⟩)
    · exact ⟨z, rfl, h7, Or.inr ⟨c, h6, Or.inr ⟨p, h4, h5⟩⟩⟩
    · exact ⟨n, rfl, h8, Or.inl ⟨p', h7, p, h4, h5⟩⟩
  · refine (ywtext_dead (m : Int) h3).mono ?_
    rintro e w' ⟨rfl, rfl⟩
    exact ⟨_, rfl, Fr.refl _ _, Or.inr ⟨c, h3, Or.inl h4⟩⟩
theorem drop_st (h : St w t ao L cap lv de) (hB : Yb w ao L cap xs) : Calls Tryz.prog 102 #[.pointer (some ⟨t, 0, none⟩)] w fun e w' => ∃ b : Bool, e = .returned (.bool b) ∧ Fr [t] w w' ∧ St w' t ao L cap (fun p' => ∃ p d, lv p ∧ dF (xs.drop p) = .ok (d, xs.drop p') ∧ (d = 0 ∨ d = 1) ∧ b = decide (d = 1)) (fun c => de c ∨ ∃ p, lv p ∧ dF (xs.drop p) = .error c) := by
  rcases h with ⟨p, h3, h4⟩ | ⟨c, h3, h4⟩
  · refine (ywdrop_any h3 hB).mono ?_
    rintro e w' (⟨c, z, h5, rfl, h6, h7⟩ | ⟨d, p', h5, h6, rfl, h7, h8⟩)
    · exact ⟨z, rfl, h7, Or.inr ⟨c, h6, Or.inr ⟨p, h4, h5⟩⟩⟩
    · exact ⟨_, rfl, h8, Or.inl ⟨p', h7, p, d, h4, h5, h6, rfl⟩⟩
  · refine (ywdrop_dead h3).mono ?_
    rintro e w' ⟨rfl, rfl⟩
    exact ⟨_, rfl, Fr.refl _ _, Or.inr ⟨c, h3, Or.inl h4⟩⟩
end
end Go.Proofs.YtdojhkgnnbdfkaaGreat

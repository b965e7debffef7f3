/- A checkpoint's head, and what a slot's bytes say. Plain lemmas. -/
import Derived.Test.YtdojhkgnnbdfkaaGreatCrc
import Derived.Test.YtdojhkgnnbdfkaaGreatLv18
namespace Go.Proofs.YtdojhkgnnbdfkaaGreat
open Go.ChangeShapes Go.WideShapes Go.ChangeAt Go.RowKit Go.Lib
set_option linter.unusedVariables false
set_option linter.unusedSimpArgs false

/-- What stands between the sign and the sum. -/
def midB (g n : Nat) : List Nat := leB 8 g ++ leB 4 n
def sumH (g : Nat) (xs : List Nat) : Nat := more (more 0 (midB g xs.length)) xs
/-- The head ahead of such bytes, of a generation. -/
def hdB (g : Nat) (xs : List Nat) : List Nat := leB 4 1464880980 ++ (midB g xs.length ++ leB 4 (sumH g xs))
theorem midB_length (g n : Nat) : (midB g n).length = 12 := by simp [midB, leB_length]
theorem hdB_length (g : Nat) (xs : List Nat) : (hdB g xs).length = 20 := by simp [hdB, leB_length, midB_length]
theorem midB_lt (g n : Nat) : ∀ x ∈ midB g n, x < 256 := by
  intro x hx
  rcases List.mem_append.1 hx with h | h
  · exact leB_lt _ _ x h
  · exact leB_lt _ _ x h
theorem hdB_lt (g : Nat) (xs : List Nat) : ∀ x ∈ hdB g xs, x < 256 := by
  intro x hx
  rcases List.mem_append.1 hx with h | h
  · exact leB_lt _ _ x h
  · rcases List.mem_append.1 h with h | h
    · exact midB_lt _ _ x h
    · exact leB_lt _ _ x h
theorem leB_leN : ∀ (xs : List Nat), (∀ x ∈ xs, x < 256) → leB xs.length (leN xs) = xs := by
  intro xs
  induction xs with
  | nil => intro _; rfl
  | cons x r ih =>
    intro h
    have hx := h x (by simp)
    simp only [List.length_cons, leB, leN]
    rw [show (x + 256 * leN r) % 256 = x by omega, show (x + 256 * leN r) / 256 = leN r by omega, ih (fun y hy => h y (by simp [hy]))]
theorem leB_mod (k n : Nat) : leB k (n % 256 ^ k) = leB k n := by
  induction k generalizing n with
  | zero => rfl
  | succ k ih =>
    simp only [leB]
    have e1 : n % 256 ^ (k + 1) % 256 = n % 256 := by rw [Nat.pow_succ, Nat.mul_comm]; exact Nat.mod_mul_right_mod _ _ _
    have e2 : n % 256 ^ (k + 1) / 256 = n / 256 % 256 ^ k := by rw [Nat.pow_succ, Nat.mul_comm]; exact Nat.mod_mul_right_div_self _ _ _
    rw [e1, e2, ih]
/-- A slot's bytes are a checkpoint's head and bytes. -/
structure Good (ys : List Nat) (g : Nat) (xs : List Nat) : Prop where
  eq : ys = hdB g xs ++ xs
  lo : 1 ≤ g
  hi : g ≤ 4611686018427387904
theorem Good.drop {ys xs : List Nat} {g : Nat} (h : Good ys g xs) : ys.drop 20 = xs := by rw [h.eq, List.drop_left' (hdB_length g xs)]
theorem Good.take {ys xs : List Nat} {g : Nat} (h : Good ys g xs) : ys.take 20 = hdB g xs := by rw [h.eq, List.take_left' (hdB_length g xs)]
theorem hd_gen (g : Nat) (xs r : List Nat) (hg : g < 256 ^ 8) : leN (((hdB g xs ++ r).drop 4).take 8) = g := by
  have e : hdB g xs ++ r = leB 4 1464880980 ++ (leB 8 g ++ (leB 4 xs.length ++ (leB 4 (sumH g xs) ++ r))) := by simp [hdB, midB]
  rw [e, List.drop_left' (leB_length 4 _), List.take_left' (leB_length 8 _), leN_leB 8 g hg]
theorem Good.gen {ys xs : List Nat} {g : Nat} (h : Good ys g xs) : leN ((ys.drop 4).take 8) = g := by
  rw [h.eq]
  exact hd_gen g xs xs (by have := h.hi; omega)
theorem Good.uniq {ys xs xs' : List Nat} {g g' : Nat} (h : Good ys g xs) (k : Good ys g' xs') : g = g' ∧ xs = xs' := ⟨h.gen.symm.trans k.gen, h.drop.symm.trans k.drop⟩
theorem Good.len {ys xs : List Nat} {g : Nat} (h : Good ys g xs) : ys.length = 20 + xs.length := by rw [h.eq, List.length_append, hdB_length]
theorem Good.of {ys : List Nat} {g : Nat} (h : ys.take 20 = hdB g (ys.drop 20)) (h1 : 1 ≤ g) (h2 : g ≤ 4611686018427387904) : Good ys g (ys.drop 20) := ⟨by rw [← h, List.take_append_drop], h1, h2⟩
/-- What a slot's bytes say. -/
def Wh (ys : List Nat) (ok : Bool) (g : Nat) (m : Int) (bs : List Int) (ps : List Kv) : Prop :=
  (ok = true ∧ ∃ xs, Good ys g xs ∧ AnsD xs 0 m bs ps) ∨ (ok = false ∧ g = 0 ∧ m = 0 ∧ bs = [] ∧ ps = [] ∧ ∀ g' xs m' bs' ps', Good ys g' xs → ¬ AnsD xs 0 m' bs' ps')
theorem Wh.uniq {ys : List Nat} {ok ok' : Bool} {g g' : Nat} {m m' : Int} {bs bs' : List Int} {ps ps' : List Kv} (h : Wh ys ok g m bs ps) (k : Wh ys ok' g' m' bs' ps') : ok = ok' ∧ g = g' ∧ m = m' ∧ bs = bs' ∧ ps = ps' := by
  rcases h with ⟨rfl, xs, h1, h2⟩ | ⟨rfl, rfl, rfl, rfl, rfl, h1⟩ <;> rcases k with ⟨rfl, xs', k1, k2⟩ | ⟨rfl, rfl, rfl, rfl, rfl, k1⟩
  · obtain ⟨rfl, rfl⟩ := h1.uniq k1
    obtain ⟨_, e1, e2, e3⟩ := h2.uniq k2
    exact ⟨rfl, rfl, e1, e2, e3⟩
  · exact (k1 _ _ _ _ _ h1 h2).elim
  · exact (h1 _ _ _ _ _ k1 k2).elim
  · exact ⟨rfl, rfl, rfl, rfl, rfl⟩
theorem Wh.short {ys : List Nat} (h : ys.length < 20) : Wh ys false 0 0 [] [] := Or.inr ⟨rfl, rfl, rfl, rfl, rfl, fun g' xs m' bs' ps' hG => by have := hG.len; omega⟩
theorem Wh.none {ys : List Nat} (h : ∀ g xs, ¬ Good ys g xs) : Wh ys false 0 0 [] [] := Or.inr ⟨rfl, rfl, rfl, rfl, rfl, fun g' xs m' bs' ps' hG => (h _ _ hG).elim⟩
theorem Wh.range {ys : List Nat} (h : leN ((ys.drop 4).take 8) < 1 ∨ 4611686018427387904 < leN ((ys.drop 4).take 8)) : Wh ys false 0 0 [] [] := Wh.none fun g xs hG => by
  have := hG.gen
  have := hG.lo
  have := hG.hi
  omega
theorem Wh.head {ys : List Nat} (h : ys.take 20 ≠ hdB (leN ((ys.drop 4).take 8)) (ys.drop 20)) : Wh ys false 0 0 [] [] := Wh.none fun g xs hG => h (by rw [hG.gen, hG.drop]; exact hG.take)
theorem Wh.bad {ys xs : List Nat} {g c : Nat} {m : Int} {bs : List Int} {ps : List Kv} (hG : Good ys g xs) (h : AnsD xs c m bs ps) (hc : c ≠ 0) : Wh ys false 0 0 [] [] := Or.inr ⟨rfl, rfl, rfl, rfl, rfl, fun g' xs' m' bs' ps' hG' h' => by
  obtain ⟨rfl, rfl⟩ := hG.uniq hG'
  exact hc (h.uniq h').1⟩
theorem Wh.ok {ys xs : List Nat} {g : Nat} {m : Int} {bs : List Int} {ps : List Kv} (hG : Good ys g xs) (h : AnsD xs 0 m bs ps) : Wh ys true g m bs ps := Or.inl ⟨rfl, xs, hG, h⟩
theorem Wh.g_le {ys : List Nat} {ok : Bool} {g : Nat} {m : Int} {bs : List Int} {ps : List Kv} (h : Wh ys ok g m bs ps) : g ≤ 4611686018427387904 := by
  rcases h with ⟨_, xs, h1, _⟩ | ⟨_, rfl, _⟩
  · exact h1.hi
  · omega
theorem Wh.g_ok {ys : List Nat} {ok : Bool} {g : Nat} {m : Int} {bs : List Int} {ps : List Kv} (h : Wh ys ok g m bs ps) : ok = true ↔ 0 < g := by
  rcases h with ⟨rfl, xs, h1, _⟩ | ⟨rfl, rfl, _⟩
  · have := h1.lo
    simp; omega
  · simp
/-- The newest of two slots. -/
def Nw (s0 s1 : List Nat) (ok : Bool) (g slot : Nat) (m : Int) (bs : List Int) (ps : List Kv) : Prop :=
  (slot = 0 ∧ Wh s0 ok g m bs ps ∧ ∃ ok1 g1 m1 bs1 ps1, Wh s1 ok1 g1 m1 bs1 ps1 ∧ g1 ≤ g) ∨ (slot = 1 ∧ Wh s1 ok g m bs ps ∧ ∃ ok0 g0 m0 bs0 ps0, Wh s0 ok0 g0 m0 bs0 ps0 ∧ g0 < g)
theorem Nw.uniq {s0 s1 : List Nat} {ok ok' : Bool} {g g' i i' : Nat} {m m' : Int} {bs bs' : List Int} {ps ps' : List Kv} (h : Nw s0 s1 ok g i m bs ps) (k : Nw s0 s1 ok' g' i' m' bs' ps') : ok = ok' ∧ g = g' ∧ i = i' ∧ m = m' ∧ bs = bs' ∧ ps = ps' := by
  rcases h with ⟨rfl, h1, o1, g1, m1, b1, p1, h2, h3⟩ | ⟨rfl, h1, o1, g1, m1, b1, p1, h2, h3⟩ <;> rcases k with ⟨rfl, k1, o2, g2, m2, b2, p2, k2, k3⟩ | ⟨rfl, k1, o2, g2, m2, b2, p2, k2, k3⟩
  · obtain ⟨e1, e2, e3, e4, e5⟩ := h1.uniq k1
    exact ⟨e1, e2, rfl, e3, e4, e5⟩
  · have e := (h1.uniq k2).2.1
    have f := (h2.uniq k1).2.1
    omega
  · have e := (h1.uniq k2).2.1
    have f := (h2.uniq k1).2.1
    omega
  · obtain ⟨e1, e2, e3, e4, e5⟩ := h1.uniq k1
    exact ⟨e1, e2, rfl, e3, e4, e5⟩
theorem Nw.slot {s0 s1 : List Nat} {ok : Bool} {g i : Nat} {m : Int} {bs : List Int} {ps : List Kv} (h : Nw s0 s1 ok g i m bs ps) : (i = 0 ∨ i = 1) ∧ g ≤ 4611686018427387904 ∧ (ok = true ↔ 0 < g) := by
  rcases h with ⟨rfl, h1, _⟩ | ⟨rfl, h1, _⟩
  · exact ⟨Or.inl rfl, h1.g_le, h1.g_ok⟩
  · exact ⟨Or.inr rfl, h1.g_le, h1.g_ok⟩
end Go.Proofs.YtdojhkgnnbdfkaaGreat

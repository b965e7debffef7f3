/- The document's Whole: contract. Conditions: fewer than 2^41 bytes. -/
import Derived.Test.YtdojhkgnnbdfkaaGreatSg19
import Derived.Test.YtdojhkgnnbdfkaaGreatRefMore
import Derived.Test.YtdojhkgnnbdfkaaGreatRef2
import Derived.Test.YtdojhkgnnbdfkaaGreatYo18
namespace Go.Proofs.YtdojhkgnnbdfkaaGreat
open BigFrame Go.ChangeShapes Go.WideShapes Go.ChangeAt Go.RowKit Go.Lib Go.Maps
set_option linter.unusedVariables false
set_option linter.unusedSimpArgs false

/-- A reader's next number of so many bytes, or that it went wrong before. -/
def FxR (ys : List Nat) (wd p c p' c' v : Nat) : Prop := (c = 0 ∧ wd ≤ (ys.drop p).length ∧ p' = p + wd ∧ c' = 0 ∧ v = leN ((ys.drop p).take wd)) ∨ (c = 0 ∧ (ys.drop p).length < wd ∧ p' = p ∧ c' = 5 ∧ v = 0) ∨ (c ≠ 0 ∧ p' = p ∧ c' = c ∧ v = 0)
theorem fx_any (ao : Option Addr) (L cap p c wd : Nat) (ys : List Nat) (w : World) (h : Rs w ao ys) (hb : ∀ x ∈ ys, x < 256) (hL : L = ys.length) (hp : p ≤ L) (hw1 : 1 ≤ wd) (hw8 : wd ≤ 8) : ∃ p' c' v, FxR ys wd p c p' c' v ∧ p' ≤ L ∧ v < 2^64 ∧
    Calls Tryz.prog 83 #[(.agg #[.bool false, .slice ao L cap, .int .i64 (p : Int), .int .i64 (c : Int)]), .int .i64 (wd : Int)] w fun e w' => e = .returned (.tuple #[(.agg #[.bool false, .slice ao L cap, .int .i64 (p' : Int), .int .i64 (c' : Int)]), .int .u64 (v : Int)]) ∧ Fr [] w w' := by
  by_cases hc : c = 0
  · subst hc
    have hx := xFixed_live ao L cap p ys (wd : Int) w h hb hL hp
    by_cases hl : (ys.drop p).length < wd
    · have e : fixF (wd : Int) (ys.drop p) = (0, 0, 5) := by
        unfold fixF
        rw [if_neg (by omega), if_pos (by omega)]
      rw [e] at hx
      exact ⟨p, 5, 0, Or.inr (Or.inl ⟨rfl, hl, rfl, rfl, rfl⟩), hp, by omega, hx⟩
    · have e : fixF (wd : Int) (ys.drop p) = (leN ((ys.drop p).take wd), wd, 0) := by
        unfold fixF
        rw [if_neg (by omega), if_neg (by omega), Int.toNat_natCast]
      rw [e] at hx
      have hlt : leN ((ys.drop p).take wd) < 2^64 := by
        have h9 := leN_lt ((ys.drop p).take wd) (fun x hx => hb x (List.mem_of_mem_drop (List.mem_of_mem_take hx)))
        have h8 : ((ys.drop p).take wd).length ≤ 8 := by simp; omega
        exact Nat.lt_of_lt_of_le h9 (Nat.le_trans (Nat.pow_le_pow_right (by omega) h8) (by decide))
      refine ⟨p + wd, 0, leN ((ys.drop p).take wd), Or.inl ⟨rfl, by omega, rfl, rfl, rfl⟩, by simp at hl; omega, hlt, ?_⟩
      simpa [stepAt] using hx
  · exact ⟨p, c, 0, Or.inr (Or.inr ⟨hc, rfl, rfl, rfl⟩), hp, by omega, xFixed_dead false ao L cap (p : Int) (c : Int) (wd : Int) w (Or.inr (by omega))⟩
/-- What the document's Whole answers. -/
def WhP (ys : List Nat) (w : World) (e : Ending) (w' : World) : Prop := ∃ (ok : Bool) (g gg : Nat) (m : Int) (bo : Option Addr) (Lb cb : Nat) (ho : Option Addr) (Lh ch : Nat) (bs : List Int) (hs : List Hd), e = .returned (.tuple #[.agg #[.int .i64 m, .slice bo Lb cb, .slice ho Lh ch], .int .u64 (gg : Int), .bool ok]) ∧ Wh ys ok g m bs (hs.map Hd.kv) ∧ (ok = true → gg = g) ∧ gg < 2^64 ∧ SvO w w' bo Lb cb ho Lh ch bs hs ∧ Fr [] w w'
theorem WhP.no {ys : List Nat} {w w' : World} (h : Wh ys false 0 0 [] []) (hf : Fr [] w w') : WhP ys w (.returned (.tuple #[.agg #[.int .i64 0, .slice none 0 0, .slice none 0 0], .int .u64 0, .bool false])) w' :=
  ⟨false, 0, 0, 0, none, 0, 0, none, 0, 0, [], [], rfl, h, fun e => (by cases e), by omega, SvO.nil _ _, hf⟩
/-- All four numbers of a head were there. -/
structure Fo (ys : List Nat) (v1 v2 v3 v4 : Nat) : Prop where
  len : 20 ≤ ys.length
  e1 : v1 = leN (ys.take 4)
  e2 : v2 = leN ((ys.drop 4).take 8)
  e3 : v3 = leN ((ys.drop 12).take 4)
  e4 : v4 = leN ((ys.drop 16).take 4)
theorem fo_of {ys : List Nat} {p1 c1 v1 p2 c2 v2 p3 c3 v3 p4 c4 v4 : Nat} (h1 : FxR ys 4 0 0 p1 c1 v1) (h2 : FxR ys 8 p1 c1 p2 c2 v2) (h3 : FxR ys 4 p2 c2 p3 c3 v3) (h4 : FxR ys 4 p3 c3 p4 c4 v4) : (c4 ≠ 0 ∧ ys.length < 20) ∨ (c4 = 0 ∧ p4 = 20 ∧ Fo ys v1 v2 v3 v4) := by
  rcases h1 with ⟨_, a1, rfl, rfl, rfl⟩ | ⟨_, a1, rfl, rfl, rfl⟩ | ⟨q, _⟩
  · rcases h2 with ⟨_, a2, rfl, rfl, rfl⟩ | ⟨_, a2, rfl, rfl, rfl⟩ | ⟨q, _⟩
    · rcases h3 with ⟨_, a3, rfl, rfl, rfl⟩ | ⟨_, a3, rfl, rfl, rfl⟩ | ⟨q, _⟩
      · rcases h4 with ⟨_, a4, rfl, rfl, rfl⟩ | ⟨_, a4, rfl, rfl, rfl⟩ | ⟨q, _⟩
        · simp at a4
          exact Or.inr ⟨rfl, rfl, ⟨by omega, by simp, by simp, by simp, by simp⟩⟩
        · simp at a4
          exact Or.inl ⟨by omega, by omega⟩
        · exact absurd rfl q
      · simp at a3
        rcases h4 with ⟨q, _⟩ | ⟨q, _⟩ | ⟨_, rfl, rfl, rfl⟩
        · omega
        · omega
        · exact Or.inl ⟨by omega, by omega⟩
      · exact absurd rfl q
    · simp at a2
      rcases h3 with ⟨q, _⟩ | ⟨q, _⟩ | ⟨_, rfl, rfl, rfl⟩
      · omega
      · omega
      · rcases h4 with ⟨q, _⟩ | ⟨q, _⟩ | ⟨_, rfl, rfl, rfl⟩
        · omega
        · omega
        · exact Or.inl ⟨by omega, by omega⟩
    · exact absurd rfl q
  · simp at a1
    rcases h2 with ⟨q, _⟩ | ⟨q, _⟩ | ⟨_, rfl, rfl, rfl⟩
    · omega
    · omega
    · rcases h3 with ⟨q, _⟩ | ⟨q, _⟩ | ⟨_, rfl, rfl, rfl⟩
      · omega
      · omega
      · rcases h4 with ⟨q, _⟩ | ⟨q, _⟩ | ⟨_, rfl, rfl, rfl⟩
        · omega
        · omega
        · exact Or.inl ⟨by omega, by omega⟩
  · exact absurd rfl q
theorem hd_split (g : Nat) (xs r : List Nat) : hdB g xs ++ r = leB 4 1464880980 ++ (leB 8 g ++ (leB 4 xs.length ++ (leB 4 (sumH g xs) ++ r))) := by simp [hdB, midB]
theorem Good.parts {ys xs : List Nat} {g v1 v2 v3 v4 : Nat} (h : Good ys g xs) (f : Fo ys v1 v2 v3 v4) (hx : xs.length < 2^32) : v1 = 1464880980 ∧ v2 = g ∧ v3 = xs.length ∧ v4 = sumH g xs := by
  have e := hd_split g xs xs
  rw [← h.eq] at e
  have l4 : ∀ n, (leB 4 n).length = 4 := leB_length 4
  have d1 : ys.drop 4 = leB 8 g ++ (leB 4 xs.length ++ (leB 4 (sumH g xs) ++ xs)) := by rw [e, List.drop_left' (l4 _)]
  have d2 : ys.drop 12 = leB 4 xs.length ++ (leB 4 (sumH g xs) ++ xs) := by rw [show 12 = 4 + 8 from rfl, ← List.drop_drop, d1, List.drop_left' (leB_length 8 _)]
  have d3 : ys.drop 16 = leB 4 (sumH g xs) ++ xs := by rw [show 16 = 12 + 4 from rfl, ← List.drop_drop, d2, List.drop_left' (l4 _)]
  refine ⟨?_, ?_, ?_, ?_⟩
  · rw [f.e1, e, List.take_left' (l4 _), leN_leB 4 _ (by decide)]
  · rw [f.e2]; exact h.gen
  · rw [f.e3, d2, List.take_left' (l4 _), leN_leB 4 _ (by omega)]
  · rw [f.e4, d3, List.take_left' (l4 _), leN_leB 4 _ (by have := more_lt (more 0 (midB g xs.length)) xs; unfold sumH; omega)]
theorem Fo.good {ys : List Nat} {v1 v2 v3 v4 : Nat} (f : Fo ys v1 v2 v3 v4) (hb : ∀ x ∈ ys, x < 256) (h1 : v1 = 1464880980) (h2 : 1 ≤ v2) (h2' : v2 ≤ 4611686018427387904) (h3 : v3 = (ys.drop 20).length) (h4 : v4 = more (more 0 ((ys.drop 4).take 12)) (ys.drop 20)) : Good ys v2 (ys.drop 20) := by
  have hl := f.len
  have key : ∀ (a n : Nat), a + n ≤ ys.length → leB n (leN ((ys.drop a).take n)) = (ys.drop a).take n := fun a n h => by
    have h9 := leB_leN ((ys.drop a).take n) (fun x hx => hb x (List.mem_of_mem_drop (List.mem_of_mem_take hx)))
    have h8 : ((ys.drop a).take n).length = n := by simp; omega
    rw [h8] at h9
    exact h9
  have k1 := key 0 4 (by omega)
  have k2 := key 4 8 (by omega)
  have k3 := key 12 4 (by omega)
  have k4 := key 16 4 (by omega)
  simp only [List.drop_zero] at k1
  rw [← f.e1, h1] at k1
  rw [← f.e2] at k2
  rw [← f.e3, h3] at k3
  rw [← f.e4] at k4
  have hmid : midB v2 (ys.drop 20).length = (ys.drop 4).take 12 := by
    unfold midB
    rw [k2, k3, show (ys.drop 12) = (ys.drop 4).drop 8 by rw [List.drop_drop], ← List.take_add]
  have hsum : sumH v2 (ys.drop 20) = v4 := by unfold sumH; rw [hmid, h4]
  refine ⟨?_, h2, h2'⟩
  rw [hd_split, hsum, k1, k2, k3, k4]
  rw [show ys.drop 16 = (ys.drop 12).drop 4 by rw [List.drop_drop], show ys.drop 20 = ((ys.drop 12).drop 4).drop 4 by rw [List.drop_drop, List.drop_drop], List.take_append_drop, List.take_append_drop, show ys.drop 12 = (ys.drop 4).drop 8 by rw [List.drop_drop], List.take_append_drop, List.take_append_drop]
end Go.Proofs.YtdojhkgnnbdfkaaGreat

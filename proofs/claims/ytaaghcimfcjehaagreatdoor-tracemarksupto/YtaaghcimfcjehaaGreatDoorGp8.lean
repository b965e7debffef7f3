/- Texts of this claim laid together, one behind the other: contracts and plain lemmas; conditions as each names them. -/
import Derived.Test.YtaaghcimfcjehaaGreatDoorGp2
import Derived.Lib.TrailingZeros
import Derived.Laws.ShiftsVarLaws
import Derived.Laws.BitsAllLaws
import Derived.Laws.Bits64b
import Derived.Laws.Tables
import Derived.Deep.RegionHeld3
/- A gate's numbers as plain mathematics: how far the mark goes, and bits of words. Plain lemmas. -/
namespace Go.Proofs.YtaaghcimfcjehaaGreatDoor
set_option linter.unusedVariables false
set_option linter.unusedSimpArgs false

/-- A number put into a rising list. -/
def insI (n : Int) : List Int → List Int
  | [] => [n]
  | x :: r => if n < x then n :: x :: r else x :: insI n r
theorem insI_mem (n y : Int) : ∀ xs, y ∈ insI n xs ↔ y = n ∨ y ∈ xs
  | [] => by simp [insI]
  | x :: r => by
    unfold insI
    split
    · simp
    · simp only [List.mem_cons, insI_mem n y r]
      constructor
      · rintro (h | h | h)
        · exact Or.inr (Or.inl h)
        · exact Or.inl h
        · exact Or.inr (Or.inr h)
      · rintro (h | h | h)
        · exact Or.inr (Or.inl h)
        · exact Or.inl h
        · exact Or.inr (Or.inr h)
theorem insI_ris (n : Int) : ∀ xs, Ris xs → n ∉ xs → Ris (insI n xs)
  | [], _, _ => List.pairwise_singleton _ _
  | x :: r, h, hn => by
    have h' := List.pairwise_cons.1 h
    unfold insI
    split
    · rename_i hlt
      refine List.pairwise_cons.2 ⟨fun y hy => ?_, h⟩
      rcases List.mem_cons.1 hy with e | e
      · omega
      · have := h'.1 y e; omega
    · rename_i hlt
      have hne : n ≠ x := fun e => hn (by simp [e])
      refine List.pairwise_cons.2 ⟨fun y hy => ?_, insI_ris n r h'.2 (fun e => hn (by simp [e]))⟩
      rcases (insI_mem n y r).1 hy with e | e
      · omega
      · exact h'.1 y e
theorem insI_length (n : Int) : ∀ xs, (insI n xs).length = xs.length + 1
  | [] => rfl
  | x :: r => by
    unfold insI
    split
    · simp
    · simp [insI_length n r]
/-- How far the mark goes, and who is beyond it then. -/
def adv (m : Int) : List Int → Int × List Int
  | [] => (m, [])
  | x :: r => if x = m + 1 then adv (m + 1) r else (m, x :: r)
/-- A mark, and those beyond it, rising. -/
structure Gt (m : Int) (xs : List Int) : Prop where
  low : 0 ≤ m
  top : m ≤ 65536
  ris : Ris xs
  bey : ∀ x ∈ xs, m < x ∧ x ≤ 65536
theorem Gt.few {m : Int} {xs : List Int} (h : Gt m xs) : xs.length ≤ 65536 := Ris.few (n := 65536) (a := 1) h.ris (fun x hx => by have := h.bey x hx; have := h.low; omega)
theorem Gt.tail {m x : Int} {r : List Int} (h : Gt m (x :: r)) (e : x = m + 1) : Gt (m + 1) r := by
  have h' := List.pairwise_cons.1 h.ris
  refine ⟨by have := h.low; omega, by have := h.bey x (by simp); omega, h'.2, fun y hy => ?_⟩
  have := h'.1 y hy
  have := h.bey y (by simp [hy])
  omega
theorem Gt.head {m x : Int} {r : List Int} (h : Gt m (x :: r)) : m + 1 ∈ x :: r ↔ x = m + 1 := by
  constructor
  · intro hm
    rcases List.mem_cons.1 hm with e | e
    · omega
    · have := (List.pairwise_cons.1 h.ris).1 _ e
      have := h.bey x (by simp)
      omega
  · intro e; simp [e]
theorem adv_gt : ∀ (xs : List Int) (m : Int), Gt m xs → Gt (adv m xs).1 (adv m xs).2 ∧ (adv m xs).1 + 1 ∉ (adv m xs).2 ∧ m ≤ (adv m xs).1 ∧ ∀ y, (y ≤ (adv m xs).1 ∨ y ∈ (adv m xs).2) ↔ (y ≤ m ∨ y ∈ xs)
  | [], m, h => ⟨h, by simp [adv], Int.le_refl _, fun y => Iff.rfl⟩
  | x :: r, m, h => by
    unfold adv
    split
    · rename_i e
      obtain ⟨h1, h2, h3, h4⟩ := adv_gt r (m + 1) (h.tail e)
      refine ⟨h1, h2, by omega, fun y => (h4 y).trans ?_⟩
      simp only [List.mem_cons]
      constructor
      · rintro (h | h)
        · by_cases hy : y = x
          · exact Or.inr (Or.inl hy)
          · exact Or.inl (by omega)
        · exact Or.inr (Or.inr h)
      · rintro (h | h | h)
        · exact Or.inl (by omega)
        · exact Or.inl (by omega)
        · exact Or.inr h
    · rename_i e
      exact ⟨h, fun hm => e (h.head.1 hm), Int.le_refl _, fun y => Iff.rfl⟩
theorem adv_step {m x : Int} {r : List Int} (e : x = m + 1) : adv m (x :: r) = adv (m + 1) r := by simp [adv, e]
theorem adv_stop {m : Int} {xs : List Int} (h : Gt m xs) (hn : m + 1 ∉ xs) : adv m xs = (m, xs) := by
  cases xs with
  | nil => rfl
  | cons x r => unfold adv; rw [if_neg (fun e => hn (h.head.2 e))]
/-- Those not above a number. -/
def upTo (xs : List Int) (a : Int) : List Int := xs.filter fun x => decide (x ≤ a)
theorem upTo_mem {xs : List Int} {a x : Int} : x ∈ upTo xs a ↔ x ∈ xs ∧ x ≤ a := by simp [upTo]
theorem upTo_snoc {xs : List Int} (h : Ris xs) {a b z : Int} (hz : z ∈ xs) (h1 : a < z) (h2 : z ≤ b) (hb : ∀ x ∈ xs, a < x → x ≤ b → x = z) : upTo xs b = upTo xs a ++ [z] := by
  refine Ris.one (h.filter _) (Ris.snoc (h.filter _) (fun x hx => by have := (upTo_mem.1 hx).2; omega)) (fun x => ?_)
  simp only [List.mem_append, List.mem_singleton]
  show x ∈ upTo xs b ↔ x ∈ upTo xs a ∨ x = z
  rw [upTo_mem, upTo_mem]
  constructor
  · rintro ⟨h3, h4⟩
    by_cases h5 : x ≤ a
    · exact Or.inl ⟨h3, h5⟩
    · exact Or.inr (hb x h3 (by omega) h4)
  · rintro (⟨h3, h4⟩ | rfl)
    · exact ⟨h3, by omega⟩
    · exact ⟨hz, h2⟩
theorem upTo_same {xs : List Int} {a b : Int} (hab : a ≤ b) (hb : ∀ x ∈ xs, a < x → ¬ x ≤ b) : upTo xs b = upTo xs a := by
  refine List.filter_congr (fun x hx => ?_)
  by_cases h : x ≤ a
  · simp [h]; omega
  · have := hb x hx (by omega)
    simp [h, this]
theorem upTo_all {xs : List Int} {a : Int} (h : ∀ x ∈ xs, x ≤ a) : upTo xs a = xs := List.filter_eq_self.2 (fun x hx => by simpa using h x hx)
theorem upTo_none {xs : List Int} {a : Int} (h : ∀ x ∈ xs, a < x) : upTo xs a = [] := List.filter_eq_nil_iff.2 (fun x hx => by have := h x hx; simp; omega)
/-- A number's word, its bit there. -/
def wdOf (n : Int) : Nat := (n.toNat - 1) / 64
def btOf (n : Int) : Nat := (n.toNat - 1) % 64
def pw2 (k : Nat) : Nat := 2 ^ k
def bitAt (ws : List Nat) (n : Int) : Bool := (ws.getD (wdOf n) 0).testBit (btOf n)
theorem wd_bt {n y : Int} (hn : 1 ≤ n) (hy : 1 ≤ y) : (wdOf n = wdOf y ∧ btOf n = btOf y) ↔ n = y := by
  unfold wdOf btOf
  constructor
  · rintro ⟨h1, h2⟩
    have := Nat.div_add_mod (n.toNat - 1) 64
    have := Nat.div_add_mod (y.toNat - 1) 64
    omega
  · rintro rfl; exact ⟨rfl, rfl⟩
theorem btOf_lt (n : Int) : btOf n < 64 := Nat.mod_lt _ (by decide)
theorem wdOf_lt {n : Int} (h1 : 1 ≤ n) (h2 : n ≤ 65536) : wdOf n < 1024 := by unfold wdOf; omega
theorem pw2_lt {k : Nat} (h : k < 64) : pw2 k < 2 ^ 64 := Nat.pow_lt_pow_right (by decide) h
/-- Words that hold just the bits of these numbers. -/
structure Wds (ws : List Nat) (xs : List Int) : Prop where
  len : ws.length = 1024
  low : ∀ x ∈ ws, x < 2 ^ 64
  bits : ∀ n, 1 ≤ n → n ≤ 65536 → (bitAt ws n = true ↔ n ∈ xs)
theorem Wds.at {ws : List Nat} {xs : List Int} (h : Wds ws xs) (i : Nat) : ws.getD i 0 < 2 ^ 64 := by
  by_cases hi : i < ws.length
  · simp [List.getD, hi]; exact h.low _ (List.getElem_mem _)
  · simp [List.getD, hi]
theorem Wds.zero : Wds (List.replicate 1024 0) [] := by
  refine ⟨List.length_replicate, fun x hx => ?_, fun n h1 h2 => ?_⟩
  · rw [(List.mem_replicate.1 hx).2]
    exact Nat.two_pow_pos _
  · have := wdOf_lt h1 h2
    have e : (List.replicate 1024 0).getD (wdOf n) 0 = 0 := by
      rw [List.getD, List.getElem?_replicate, if_pos this]
      rfl
    unfold bitAt
    rw [e]
    simp
theorem getD_set {ws : List Nat} {i j x : Nat} (hi : i < ws.length) : (ws.set i x).getD j 0 = if i = j then x else ws.getD j 0 := by
  by_cases h : i = j
  · subst h; simp [List.getD, hi]
  · simp [List.getD, h, List.getElem?_set]
theorem Wds.put {ws : List Nat} {xs ys : List Int} {n : Int} (h : Wds ws xs) (h1 : 1 ≤ n) (h2 : n ≤ 65536) (hy : ∀ y, y ∈ ys ↔ y = n ∨ y ∈ xs) : Wds (ws.set (wdOf n) (ws.getD (wdOf n) 0 ||| pw2 (btOf n))) ys := by
  have hw := wdOf_lt h1 h2
  refine ⟨by simp [h.len], fun x hx => ?_, fun y hy1 hy2 => ?_⟩
  · rcases List.mem_or_eq_of_mem_set hx with e | e
    · exact h.low x e
    · subst e
      exact Nat.or_lt_two_pow (h.at _) (pw2_lt (btOf_lt n))
  · rw [hy, ← h.bits y hy1 hy2, ← wd_bt hy1 h1]
    unfold bitAt
    rw [getD_set (by rw [h.len]; exact hw)]
    by_cases e : wdOf n = wdOf y
    · rw [if_pos e, Nat.testBit_or, pw2, Nat.testBit_two_pow, e]
      simp only [Bool.or_eq_true, decide_eq_true_eq, true_and]
      constructor
      · rintro (h3 | h3)
        · exact Or.inr h3
        · exact Or.inl h3.symm
      · rintro (h3 | h3)
        · exact Or.inr h3.symm
        · exact Or.inl h3
    · rw [if_neg e]
      constructor
      · exact Or.inr
      · rintro (⟨h3, _⟩ | h3)
        · exact absurd h3.symm e
        · exact h3
/-- One bit away. -/
theorem Wds.cut {ws : List Nat} {xs ys : List Int} {n : Int} (h : Wds ws xs) (h1 : 1 ≤ n) (h2 : n ≤ 65536) (hy : ∀ y, y ∈ ys ↔ y ≠ n ∧ y ∈ xs) {v : Nat} (hv : ∀ b, v.testBit b = ((ws.getD (wdOf n) 0).testBit b && !decide (btOf n = b))) : Wds (ws.set (wdOf n) v) ys := by
  have hw := wdOf_lt h1 h2
  refine ⟨by simp [h.len], fun x hx => ?_, fun y hy1 hy2 => ?_⟩
  · rcases List.mem_or_eq_of_mem_set hx with e | e
    · exact h.low x e
    · subst e
      refine Nat.lt_pow_two_of_testBit _ (fun b hb => ?_)
      rw [hv, Nat.testBit_lt_two_pow (Nat.lt_of_lt_of_le (h.at _) (Nat.pow_le_pow_right (by decide) hb))]
      rfl
  · rw [hy, ← h.bits y hy1 hy2, show (y ≠ n) ↔ _ from not_congr (wd_bt hy1 h1).symm]
    unfold bitAt
    rw [getD_set (by rw [h.len]; exact hw)]
    by_cases e : wdOf n = wdOf y
    · rw [if_pos e, hv, e]
      simp only [Bool.and_eq_true, Bool.not_eq_true', decide_eq_false_iff_not, true_and]
      constructor
      · rintro ⟨h3, h4⟩; exact ⟨fun x => h4 x.symm, h3⟩
      · rintro ⟨h3, h4⟩; exact ⟨h4, fun x => h3 x.symm⟩
    · rw [if_neg e]
      constructor
      · intro h3; exact ⟨fun x => e x.1.symm, h3⟩
      · rintro ⟨_, h3⟩; exact h3
/-- The lowest bit of a word: where it is, and the word without it. -/
theorem low_bit (x : Nat) (h0 : x ≠ 0) (hx : x < 2 ^ 64) : Lib.ctz 64 x < 64 ∧ x.testBit (Lib.ctz 64 x) = true ∧ (∀ b, b < Lib.ctz 64 x → x.testBit b = false) ∧ (∀ b, (x &&& (x - 1)).testBit b = (decide (Lib.ctz 64 x < b) && x.testBit b)) ∧ x &&& (x - 1) < x := by
  obtain ⟨q, hq, hc⟩ := Lib.ctzFrom_spec 64 x (by omega) hx
  have hz : Lib.ctz 64 x = Lib.ctzFrom 64 x := by unfold Lib.ctz; rw [if_neg h0]
  rw [hz]
  obtain ⟨c, hcc⟩ : ∃ c, c = Lib.ctzFrom 64 x := ⟨_, rfl⟩
  rw [← hcc] at hq hc ⊢
  have hp : 0 < 2 ^ c := Nat.two_pow_pos c
  have b0 : ∀ b, b < c → x.testBit b = false := by
    intro b hb
    rw [hq, Nat.mul_comm, Nat.testBit_mul_two_pow]
    have : ¬ c ≤ b := by omega
    simp [this]
  have b1 : x.testBit c = true := by
    rw [hq, Nat.mul_comm, Nat.testBit_mul_two_pow]
    simp
  have e1 : x - 1 = 2 ^ (c + 1) * q + (2 ^ c - 1) := by
    rw [hq, Nat.pow_succ, Nat.mul_add, Nat.mul_one, ← Nat.mul_assoc]
    omega
  have b2 : (x - 1).testBit c = false := by
    have := Nat.testBit_two_pow_mul_add (i := c + 1) q (b := 2 ^ c - 1) (by rw [Nat.pow_succ]; omega) c
    rw [e1, this, if_pos (by omega)]
    exact Nat.testBit_lt_two_pow (by omega)
  have b3 : ∀ b, c < b → (x - 1).testBit b = x.testBit b := by
    intro b hb
    have h1 := Nat.testBit_two_pow_mul_add (i := c + 1) q (b := 2 ^ c - 1) (by rw [Nat.pow_succ]; omega) b
    have h2 := Nat.testBit_two_pow_mul_add (i := c + 1) q (b := 2 ^ c) (by rw [Nat.pow_succ]; omega) b
    have e2 : x = 2 ^ (c + 1) * q + 2 ^ c := by
      rw [hq, Nat.pow_succ, Nat.mul_add, Nat.mul_one, ← Nat.mul_assoc]
    rw [e1, h1, if_neg (by omega)]
    rw [if_neg (by omega)] at h2
    rw [← h2, ← e2]
  have b4 : ∀ b, (x &&& (x - 1)).testBit b = (decide (c < b) && x.testBit b) := by
    intro b
    rw [Nat.testBit_and]
    by_cases h1 : c < b
    · rw [b3 b h1]; simp [h1]
    · by_cases h2 : b = c
      · subst h2; rw [b2]; simp
      · rw [b0 b (by omega)]; simp
  refine ⟨hc, b1, b0, b4, ?_⟩
  have h1 : x &&& (x - 1) ≤ x - 1 := Nat.and_le_right
  omega
end Go.Proofs.YtaaghcimfcjehaaGreatDoor
/- A gate in memory; contracts of place, set, clear, isSet, there, Mark, Has. Conditions as each names them. -/
namespace Go.Proofs.YtaaghcimfcjehaaGreatDoor
open Go.ChangeShapes Go.WideShapes Go.ChangeAt Go.RowKit Go.Lib Go.Maps
set_option linter.unusedVariables false
set_option linter.unusedSimpArgs false

def u64s (ws : List Nat) : List Value := ws.map fun (x : Nat) => Value.int .u64 (x : Int)
theorem u64s_length (ws : List Nat) : (u64s ws).length = ws.length := by simp [u64s]
theorem row_setV {w : World} {g j : Nat} {xs : List Value} {t : TypeId} (v : Value) (h : w.heap[g]? = some (.cells xs.toArray t (0, 0))) : (w.setCell ⟨g, j, none⟩ v).heap[g]? = some (.cells (xs.set j v).toArray t (0, 0)) := by
  have hlt := lt_of_block h
  have h' : w.heap[g] = .cells xs.toArray t (0, 0) := by simpa [Array.getElem?_eq_getElem hlt] using h
  show (w.heap.modify g _)[g]? = _
  rw [Array.getElem?_eq_getElem (by simpa using hlt), Array.getElem_modify_self, h']
  simp
/-- A gate in block g: its mark, its words. -/
structure GM (w : World) (g : Nat) (m : Int) (ws : List Nat) : Prop where
  box : w.heap[g]? = some (.cells (Value.bool true :: Value.int .i64 m :: u64s ws).toArray 193 (0, 0))
section
variable {w w' : World} {g : Nat} {m : Int} {ws : List Nat}
theorem GM.lt (h : GM w g m ws) : g < w.heap.size := lt_of_block h.box
theorem GM.keep {S : List Nat} (h : GM w g m ws) (hf : Fr S w w') (hn : g ∉ S) : GM w' g m ws := ⟨hf.keep h.box hn⟩
theorem GM.c0 (h : GM w g m ws) : w.cell? ⟨g, 0, none⟩ = some (.bool true) := by rw [cell_of_row _ _ _ _ _ _ h.box]; rfl
theorem GM.c1 (h : GM w g m ws) : w.cell? ⟨g, 1, none⟩ = some (.int .i64 m) := by rw [cell_of_row _ _ _ _ _ _ h.box]; rfl
theorem GM.cw (h : GM w g m ws) (i : Nat) (hi : i < ws.length) : w.cell? ⟨g, 2 + i, none⟩ = some (.int .u64 ((ws.getD i 0 : Nat) : Int)) := by
  rw [cell_of_row _ _ _ _ _ _ h.box, List.getElem?_toArray, Nat.add_comm, List.getElem?_cons_succ, List.getElem?_cons_succ]
  simp [u64s, List.getD, hi]
theorem GM.free (h : GM w g m ws) (i : Nat) : w.frozen? ⟨g, i, none⟩ = false := by
  unfold World.frozen?
  rw [h.box]
  rfl
theorem GM.mark (h : GM w g m ws) (n : Int) : GM (w.setCell ⟨g, 1, none⟩ (.int .i64 n)) g n ws := ⟨row_setV _ h.box⟩
theorem GM.put (h : GM w g m ws) (i x : Nat) : GM (w.setCell ⟨g, 2 + i, none⟩ (.int .u64 (x : Int))) g m (ws.set i x) := by
  refine ⟨?_⟩
  have := row_setV (j := 2 + i) (.int .u64 (x : Int)) h.box
  rw [this]
  congr 2
  rw [Nat.add_comm]
  simp [u64s, List.map_set]
end
theorem Tryz.undArrG : Tryz.prog.underlying 191 = some (.array 1024 190) := by kernel_rfl
theorem pow_bt (n : Int) : (2 : Int) ^ btOf n = ((pw2 (btOf n) : Nat) : Int) := by simp [pw2]
set_option maxHeartbeats 1000000 in
theorem aplace_any (n : Int) (w : World) (h1 : 1 ≤ n) (h2 : n ≤ 65536) :
    Calls Tryz.prog 142 #[.int .i64 n] w fun e w' => e = .returned (.tuple #[.int .i64 ((wdOf n : Nat) : Int), .int .u64 ((pw2 (btOf n) : Nat) : Int)]) ∧ Fr [] w w' := by
  go_enter Tryz.func142, Tryz.ntmps142
  go_wp2_with fail
  go_quiet (fail)
  go_wp2
  refine bodyPost_ret (results_tmp2 rfl _ _ _) rfl ?_
  have e1 : (n - 1) / 64 = ((wdOf n : Nat) : Int) := by unfold wdOf; omega
  have e2 : ((n - 1) % 64).toNat = btOf n := by unfold btOf; omega
  have e3 : IntKind.u64.wrap (2 ^ ((n - 1) % 64).toNat) = ((pw2 (btOf n) : Nat) : Int) := by
    rw [e2, pow_bt, IntKind.wrap_u64]
    have := pw2_lt (btOf_lt n)
    omega
  refine ⟨?_, Fr.drewN _ _ _⟩
  show Ending.returned (.tuple #[.int .i64 ((n - 1) / 64), .int .u64 (IntKind.u64.wrap (2 ^ ((n - 1) % 64).toNat))]) = _
  rw [e1, e3]
set_option maxHeartbeats 4000000 in
set_option maxRecDepth 100000 in
theorem aset_any {g : Nat} {m : Int} {ws : List Nat} {xs : List Int} (n : Int) (w : World) (h : GM w g m ws) (hx : Wds ws xs) (h1 : 1 ≤ n) (h2 : n ≤ 65536) :
    Calls Tryz.prog 114 #[.pointer (some ⟨g, 0, none⟩), .int .i64 n] w fun e w' => e = .returned (.tuple #[]) ∧ GM w' g m (ws.set (wdOf n) (ws.getD (wdOf n) 0 ||| pw2 (btOf n))) ∧ Fr [g] w w' := by
  have HP : Hid (Calls _ _ _ _ _) := aplace_any n w h1 h2
  have hi := wdOf_lt h1 h2
  have hB := pw2_lt (btOf_lt n)
  have hX := hx.at (wdOf n)
  obtain ⟨X, hXX⟩ : ∃ X, X = ws.getD (wdOf n) 0 := ⟨_, rfl⟩
  obtain ⟨i, hii⟩ : ∃ i, i = wdOf n := ⟨_, rfl⟩
  obtain ⟨B, hBB⟩ : ∃ B, B = pw2 (btOf n) := ⟨_, rfl⟩
  rw [← hXX] at hX ⊢
  rw [← hii] at hi HP hXX ⊢
  rw [← hBB] at hB HP ⊢
  obtain ⟨Y, hY⟩ : ∃ Y : Nat, Y = X ||| B := ⟨_, rfl⟩
  have hor : bits .or .u64 (X : Int) (B : Int) = (Y : Int) := by rw [hY]; exact u64_or_nat X B hX hB
  have HM : Hid (∀ W, Fr [] w W → GM W g m ws) := fun W hf => h.keep hf (by simp)
  have HC : Hid (∀ W, Fr [] w W → W.cell? ⟨g, 2 + i, none⟩ = some (.int .u64 (X : Int))) := fun W hf => by rw [hXX]; exact (h.keep hf (by simp)).cw i (by rw [hx.len]; exact hi)
  rw [← hY]
  clear h hx hii hBB hXX hY h1 h2
  go_enter Tryz.func114, Tryz.ntmps114
  go_wp2_with fail
  refine Calls.mono HP.out ?_
  rintro e w1 ⟨rfl, hF⟩
  have hc := HC.out _ hF
  have hfz := (HM.out _ hF).free (2 + i)
  have hii : (i : Int) < 1024 := by omega
  clear HP HC
  go_wp2_with fail
  go_region
  go_wp2
  go_end0
  refine ⟨rfl, ((HM.out _ hF).put i Y).keep (Fr.drew [] _) (by simp), ?_⟩
  exact (hF.trans ((Fr.set (S := [g]) w1 ⟨g, 2 + i, none⟩ _ (by simp)).then (Fr.drew _ _)) (by simp) (fun x hx _ => hx))
theorem andNot_bits {X k : Nat} (hk : k < 64) (b : Nat) : (X &&& (18446744073709551615 - pw2 k)).testBit b = (decide (b < 64) && X.testBit b && !decide (k = b)) := by
  have e : 18446744073709551615 - pw2 k = 2 ^ 64 - (pw2 k + 1) := by omega
  rw [Nat.testBit_and, e, Nat.testBit_two_pow_sub_succ (pw2_lt hk), pw2, Nat.testBit_two_pow]
  by_cases h1 : b < 64 <;> by_cases h2 : k = b <;> simp [h1, h2]
theorem high_bit {X b : Nat} (hX : X < 2 ^ 64) (hb : X.testBit b = true) : b < 64 := by
  apply Nat.lt_of_not_le
  intro h
  rw [Nat.testBit_lt_two_pow (Nat.lt_of_lt_of_le hX (Nat.pow_le_pow_right (by decide) h))] at hb
  cases hb
set_option maxHeartbeats 4000000 in
set_option maxRecDepth 100000 in
theorem aclear_any {g : Nat} {m : Int} {ws : List Nat} {xs : List Int} (n : Int) (w : World) (h : GM w g m ws) (hx : Wds ws xs) (h1 : 1 ≤ n) (h2 : n ≤ 65536) :
    Calls Tryz.prog 174 #[.pointer (some ⟨g, 0, none⟩), .int .i64 n] w fun e w' => e = .returned (.tuple #[]) ∧ (∃ v, GM w' g m (ws.set (wdOf n) v) ∧ ∀ b, v.testBit b = ((ws.getD (wdOf n) 0).testBit b && !decide (btOf n = b))) ∧ Fr [g] w w' := by
  have HP : Hid (Calls _ _ _ _ _) := aplace_any n w h1 h2
  have hi := wdOf_lt h1 h2
  have hB := pw2_lt (btOf_lt n)
  have hX := hx.at (wdOf n)
  have HV : Hid (∀ b, ((ws.getD (wdOf n) 0) &&& (18446744073709551615 - pw2 (btOf n))).testBit b = ((ws.getD (wdOf n) 0).testBit b && !decide (btOf n = b))) := by
    intro b
    rw [andNot_bits (btOf_lt n)]
    cases hb : (ws.getD (wdOf n) 0).testBit b with
    | false => simp
    | true => simp [high_bit hX hb]
  obtain ⟨X, hXX⟩ : ∃ X, X = ws.getD (wdOf n) 0 := ⟨_, rfl⟩
  obtain ⟨i, hii⟩ : ∃ i, i = wdOf n := ⟨_, rfl⟩
  obtain ⟨B, hBB⟩ : ∃ B, B = pw2 (btOf n) := ⟨_, rfl⟩
  rw [← hXX] at hX HV ⊢
  rw [← hii] at hi HP hXX ⊢
  rw [← hBB] at hB HP HV
  obtain ⟨Y, hY⟩ : ∃ Y : Nat, Y = X &&& (18446744073709551615 - B) := ⟨_, rfl⟩
  have hor : bits .andNot .u64 (X : Int) (B : Int) = (Y : Int) := by rw [hY]; exact u64_andNot_nat X B hX hB
  have HM : Hid (∀ W, Fr [] w W → GM W g m ws) := fun W hf => h.keep hf (by simp)
  have HC : Hid (∀ W, Fr [] w W → W.cell? ⟨g, 2 + i, none⟩ = some (.int .u64 (X : Int))) := fun W hf => by rw [hXX]; exact (h.keep hf (by simp)).cw i (by rw [hx.len]; exact hi)
  rw [← hY] at HV
  clear h hx hii hBB hXX hY h1 h2
  go_enter Tryz.func174, Tryz.ntmps174
  go_wp2_with fail
  refine Calls.mono HP.out ?_
  rintro e w1 ⟨rfl, hF⟩
  have hc := HC.out _ hF
  have hfz := (HM.out _ hF).free (2 + i)
  have hii : (i : Int) < 1024 := by omega
  clear HP HC
  go_wp2_with fail
  go_region
  go_wp2
  go_end0
  refine ⟨rfl, ⟨Y, ((HM.out _ hF).put i Y).keep (Fr.drew [] _) (by simp), HV.out⟩, ?_⟩
  exact (hF.trans ((Fr.set (S := [g]) w1 ⟨g, 2 + i, none⟩ _ (by simp)).then (Fr.drew _ _)) (by simp) (fun x hx _ => hx))
theorem and_bit {X k : Nat} : ((X &&& pw2 k : Nat) != 0) = X.testBit k := by
  have hb : ∀ b, (X &&& pw2 k).testBit b = (X.testBit b && decide (k = b)) := fun b => by rw [Nat.testBit_and, pw2, Nat.testBit_two_pow]
  cases h : X.testBit k with
  | true =>
    have h1 := hb k
    rw [h] at h1
    have : X &&& pw2 k ≠ 0 := fun e => by rw [e] at h1; simp at h1
    simp [this]
  | false =>
    have : X &&& pw2 k = 0 := Nat.eq_of_testBit_eq (fun b => by
      rw [hb b]
      by_cases e : k = b
      · subst e; simp [h]
      · simp [e])
    simp [this]
set_option maxHeartbeats 4000000 in
set_option maxRecDepth 100000 in
theorem aisset_any {g : Nat} {m : Int} {ws : List Nat} {xs : List Int} (n : Int) (b : Bool) (w : World) (h : GM w g m ws) (hx : Wds ws xs) (h1 : 1 ≤ n) (hxs : ∀ x ∈ xs, x ≤ 65536) (hb : b = true ↔ n ∈ xs) :
    Calls Tryz.prog 171 #[.pointer (some ⟨g, 0, none⟩), .int .i64 n] w fun e w' => e = .returned (.bool b) ∧ Fr [] w w' := by
  by_cases h2 : n ≤ 65536
  · have HP : Hid (Calls _ _ _ _ _) := aplace_any n w h1 h2
    have hi := wdOf_lt h1 h2
    have hB := pw2_lt (btOf_lt n)
    have hX := hx.at (wdOf n)
    have hbit : (((ws.getD (wdOf n) 0) &&& pw2 (btOf n) : Nat) != 0) = b := by
      rw [and_bit]
      have := hx.bits n h1 h2
      unfold bitAt at this
      cases hb2 : b with
      | true => exact this.2 (hb.1 hb2)
      | false =>
        cases hc : (ws.getD (wdOf n) 0).testBit (btOf n) with
        | false => rfl
        | true => exact absurd (hb.2 (this.1 hc)) (by simp [hb2])
    obtain ⟨X, hXX⟩ : ∃ X, X = ws.getD (wdOf n) 0 := ⟨_, rfl⟩
    obtain ⟨i, hii⟩ : ∃ i, i = wdOf n := ⟨_, rfl⟩
    obtain ⟨B, hBB⟩ : ∃ B, B = pw2 (btOf n) := ⟨_, rfl⟩
    rw [← hXX] at hX hbit
    rw [← hii] at hi HP hXX
    rw [← hBB] at hB HP hbit
    obtain ⟨Y, hY⟩ : ∃ Y : Nat, Y = X &&& B := ⟨_, rfl⟩
    have hor : bits .and .u64 (X : Int) (B : Int) = (Y : Int) := by rw [hY]; exact u64_and_nat X B hX hB
    have HC : Hid (∀ W, Fr [] w W → W.cell? ⟨g, 2 + i, none⟩ = some (.int .u64 (X : Int))) := fun W hf => by rw [hXX]; exact (h.keep hf (by simp)).cw i (by rw [hx.len]; exact hi)
    rw [← hY] at hbit
    have hq : ((Y : Int) != 0) = b := by
      rw [← hbit]
      by_cases h0 : Y = 0
      · rw [h0]; rfl
      · have h3 : (Y : Int) ≠ 0 := by omega
        rw [bne_iff_ne.2 h3, bne_iff_ne.2 h0]
    clear h hx hii hBB hXX hY hbit hb
    go_enter Tryz.func171, Tryz.ntmps171
    go_wp2_with fail
    refine Calls.mono HP.out ?_
    rintro e w1 ⟨rfl, hF⟩
    have hc := HC.out _ hF
    have hii : (i : Int) < 1024 := by omega
    clear HP HC
    go_wp2
    go_ret
    exact ⟨rfl, hF⟩
  · have hbf : b = false := by
      cases hbb : b with
      | false => rfl
      | true => have := hxs n (hb.1 hbb); omega
    subst hbf
    clear h hx hb hxs
    go_enter Tryz.func171, Tryz.ntmps171
    go_wp2
    go_ret
    exact ⟨rfl, Fr.refl _ _⟩
theorem athere_any {g : Nat} {m : Int} {ws : List Nat} (w : World) (h : GM w g m ws) : Calls Tryz.prog 154 #[.pointer (some ⟨g, 0, none⟩)] w fun e w' => e = .returned (.bool true) ∧ w = w' := by
  have c0 := h.c0
  clear h
  go_enter Tryz.func154, Tryz.ntmps154
  go_wp2
  go_ret
  exact ⟨rfl, rfl⟩
/-- A gate that is not there: nil, or a zero struct. -/
def NoG (w : World) (p : Option Addr) : Prop := p = none ∨ ∃ z, p = some ⟨z, 0, none⟩ ∧ z < w.heap.size ∧ w.cell? ⟨z, 0, none⟩ = some (.bool false)
theorem NoG.keep {S : List Nat} {w w' : World} {p : Option Addr} (h : NoG w p) (hf : Fr S w w') (hn : ∀ a, p = some a → a.block ∉ S) : NoG w' p := by
  rcases h with h | ⟨z, e, hl, hz⟩
  · exact Or.inl h
  · exact Or.inr ⟨z, e, Nat.lt_of_lt_of_le hl hf.size, (World.cell?_of_block (hf.block z hl (hn _ e))).trans hz⟩
theorem athere_no (p : Option Addr) (w : World) (h : NoG w p) : Calls Tryz.prog 154 #[.pointer p] w fun e w' => e = .returned (.bool false) ∧ w = w' := by
  rcases h with rfl | ⟨z, rfl, _, c0⟩
  · go_enter Tryz.func154, Tryz.ntmps154
    go_wp2
    go_ret
    exact ⟨rfl, rfl⟩
  · go_enter Tryz.func154, Tryz.ntmps154
    go_wp2
    go_ret
    exact ⟨rfl, rfl⟩
theorem amark_any {g : Nat} {m : Int} {ws : List Nat} (w : World) (h : GM w g m ws) : Calls Tryz.prog 126 #[.pointer (some ⟨g, 0, none⟩)] w fun e w' => e = .returned (.int .i64 m) ∧ w = w' := by
  have HT : Hid (Calls _ _ _ _ _) := athere_any w h
  have c1 := h.c1
  clear h
  go_enter Tryz.func126, Tryz.ntmps126
  go_wp2_with fail
  refine Calls.mono HT.out ?_
  rintro e w1 ⟨rfl, rfl⟩
  go_wp2
  go_ret
  exact ⟨rfl, rfl⟩
theorem amark_no (p : Option Addr) (w : World) (h : NoG w p) : Calls Tryz.prog 126 #[.pointer p] w fun e w' => e = .returned (.int .i64 0) ∧ w = w' := by
  have HT : Hid (Calls _ _ _ _ _) := athere_no p w h
  clear h
  go_enter Tryz.func126, Tryz.ntmps126
  go_wp2_with fail
  refine Calls.mono HT.out ?_
  rintro e w1 ⟨rfl, rfl⟩
  go_wp2
  go_ret
  exact ⟨rfl, rfl⟩
theorem ahas_no (p : Option Addr) (n : Int) (w : World) (h : NoG w p) : Calls Tryz.prog 143 #[.pointer p, .int .i64 n] w fun e w' => e = .returned (.bool false) ∧ w = w' := by
  have HT : Hid (Calls _ _ _ _ _) := athere_no p w h
  clear h
  go_enter Tryz.func143, Tryz.ntmps143
  go_wp2_with fail
  refine Calls.mono HT.out ?_
  rintro e w1 ⟨rfl, rfl⟩
  go_wp2
  go_ret
  exact ⟨rfl, rfl⟩
theorem adone_none (p : Option Addr) (n : Int) (w : World) (h : NoG w p) : Calls Tryz.prog 148 #[.pointer p, .int .i64 n] w fun e w' => e = .returned (.tuple #[.int .i64 0, .int .i64 2]) ∧ w = w' := by
  have HT : Hid (Calls _ _ _ _ _) := athere_no p w h
  clear h
  go_enter Tryz.func148, Tryz.ntmps148
  go_wp2_with fail
  refine Calls.mono HT.out ?_
  rintro e w1 ⟨rfl, rfl⟩
  go_wp2
  refine bodyPost_ret (results_tmp2 rfl _ _ _) rfl ?_
  exact ⟨rfl, rfl⟩
set_option maxHeartbeats 2000000 in
theorem ahas_any {g : Nat} {m : Int} {ws : List Nat} {xs : List Int} (n : Int) (b : Bool) (w : World) (h : GM w g m ws) (hx : Wds ws xs) (hxs : ∀ x ∈ xs, x ≤ 65536) (hb : b = true ↔ 1 ≤ n ∧ (n ≤ m ∨ n ∈ xs)) :
    Calls Tryz.prog 143 #[.pointer (some ⟨g, 0, none⟩), .int .i64 n] w fun e w' => e = .returned (.bool b) ∧ Fr [] w w' := by
  have HT : Hid (Calls _ _ _ _ _) := athere_any w h
  have c1 := h.c1
  by_cases h1 : 1 ≤ n
  · by_cases h2 : n ≤ m
    · have hbt : b = true := hb.2 ⟨h1, Or.inl h2⟩
      subst hbt
      clear h hx hxs hb
      go_enter Tryz.func143, Tryz.ntmps143
      go_wp2_with fail
      refine Calls.mono HT.out ?_
      rintro e w1 ⟨rfl, rfl⟩
      go_wp2
      go_ret
      exact ⟨rfl, Fr.refl _ _⟩
    · have HI : Hid (Calls _ _ _ _ _) := aisset_any n b w h hx h1 hxs (by rw [hb]; constructor
                                                                          · rintro ⟨_, h3 | h3⟩
                                                                            · exact absurd h3 h2
                                                                            · exact h3
                                                                          · intro h3; exact ⟨h1, Or.inr h3⟩)
      have hd : decide (n ≤ m) = false := by simpa using h2
      clear h hx hxs hb
      go_enter Tryz.func143, Tryz.ntmps143
      go_wp2_with fail
      refine Calls.mono HT.out ?_
      rintro e w1 ⟨rfl, rfl⟩
      go_wp2_with fail
      refine Calls.mono HI.out ?_
      rintro e w1 ⟨rfl, hF⟩
      go_wp2
      go_ret
      exact ⟨rfl, hF⟩
  · have hbf : b = false := by
      cases hbb : b with
      | false => rfl
      | true => exact absurd (hb.1 hbb).1 h1
    subst hbf
    clear h hx hxs hb
    go_enter Tryz.func143, Tryz.ntmps143
    go_wp2_with fail
    refine Calls.mono HT.out ?_
    rintro e w1 ⟨rfl, rfl⟩
    go_wp2
    go_ret
    exact ⟨rfl, Fr.refl _ _⟩
end Go.Proofs.YtaaghcimfcjehaaGreatDoor

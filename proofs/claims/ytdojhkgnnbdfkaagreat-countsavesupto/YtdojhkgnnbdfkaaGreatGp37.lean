/- Texts of this claim laid together, one behind the other: contracts and plain lemmas; conditions as each names them. -/
import Derived.Test.YtdojhkgnnbdfkaaGreatGp35
/- A disk: what it holds, what its calls do to that; how the program's disk and the document's lie in memory. Conditions as each lemma names them. -/
namespace Go.Proofs.YtdojhkgnnbdfkaaGreat
open Go.ChangeShapes Go.WideShapes Go.ChangeAt Go.RowKit Go.Lib

/-- What a disk holds: its capacity, its slots, how many raw writes it still lets be done (below 0: any number), whether it is dead, how many were done. -/
structure Sk where
  C : Nat
  s0 : List Nat
  s1 : List Nat
  l : Int
  dd : Bool
  n : Nat
structure Sk.ok (t : Sk) : Prop where
  cap : t.C ≤ 16777216
  f0 : t.s0.length ≤ t.C
  f1 : t.s1.length ≤ t.C
  b0 : ∀ x ∈ t.s0, x < 256
  b1 : ∀ x ∈ t.s1, x < 256
  l0 : -1 ≤ t.l
  l1 : t.l ≤ 9223372036854775807
  dl : t.dd = true → t.l = 0
def Sk.new (C : Nat) : Sk := ⟨C, [], [], -1, false, 0⟩
def Sk.dead (t : Sk) : Sk := { t with dd := true }
def Sk.next (t : Sk) : Sk := { t with l := if 0 < t.l then t.l - 1 else t.l, n := t.n + 1 }
def Sk.put0 (t : Sk) (xs : List Nat) : Sk := { t with s0 := xs }
def Sk.put1 (t : Sk) (xs : List Nat) : Sk := { t with s1 := xs }
def Sk.mend (t : Sk) : Sk := { t with dd := false, l := -1 }
def Sk.cut (t : Sk) (n : Int) : Sk := { t with l := if n < 0 then -1 else n }
theorem Sk.new_ok (C : Nat) (h : C ≤ 16777216) : (Sk.new C).ok := ⟨h, by simp [Sk.new], by simp [Sk.new], by simp [Sk.new], by simp [Sk.new], by simp [Sk.new], by simp [Sk.new], by simp [Sk.new]⟩
theorem Sk.ok.dead {t : Sk} (h : t.ok) (hl : t.l = 0) : t.dead.ok := { h with dl := fun _ => hl }
theorem Sk.ok.next {t : Sk} (h : t.ok) (hl : t.l ≠ 0) : t.next.ok := by
  refine { h with l0 := ?_, l1 := ?_, dl := fun e => absurd (h.dl e) hl }
  · have := h.l0; simp only [Sk.next]; split <;> omega
  · have := h.l1; simp only [Sk.next]; split <;> omega
theorem Sk.ok.put0 {t : Sk} (h : t.ok) {xs : List Nat} (h0 : xs.length ≤ t.C) (h1 : ∀ x ∈ xs, x < 256) : (t.put0 xs).ok := { h with f0 := h0, b0 := h1 }
theorem Sk.ok.put1 {t : Sk} (h : t.ok) {xs : List Nat} (h0 : xs.length ≤ t.C) (h1 : ∀ x ∈ xs, x < 256) : (t.put1 xs).ok := { h with f1 := h0, b1 := h1 }
theorem Sk.ok.mend {t : Sk} (h : t.ok) : t.mend.ok := { h with l0 := by simp [Sk.mend], l1 := by simp [Sk.mend], dl := fun e => by simp [Sk.mend] at e }
theorem Sk.ok.cut {t : Sk} (h : t.ok) {n : Int} (hn : n ≤ 9223372036854775807) (hd : t.dd = false) : (t.cut n).ok := by
  refine { h with l0 := ?_, l1 := ?_, dl := fun e => ?_ }
  · simp only [Sk.cut]; split <;> omega
  · simp only [Sk.cut]; split <;> omega
  · have e' : t.dd = true := e
    rw [hd] at e'
    cases e'

/-- What a write answers, and what the disk is then. -/
inductive Wrote (t : Sk) (s a : Int) (ys : List Nat) : Int → Sk → Prop
  | noslot (h : ¬ (s = 0 ∨ s = 1)) : Wrote t s a ys 1 t
  | noplace (h : s = 0 ∨ s = 1) (h2 : a < 0) : Wrote t s a ys 1 t
  | much (h : s = 0 ∨ s = 1) (h2 : 0 ≤ a) (h3 : 64 < ys.length) : Wrote t s a ys 1 t
  | order0 (h : s = 0) (h2 : 0 ≤ a) (h3 : ys.length ≤ 64) (h4 : (t.s0.length : Int) < a) : Wrote t s a ys 6 t
  | order1 (h : s = 1) (h2 : 0 ≤ a) (h3 : ys.length ≤ 64) (h4 : (t.s1.length : Int) < a) : Wrote t s a ys 6 t
  | space0 (h : s = 0) (h2 : 0 ≤ a) (h3 : ys.length ≤ 64) (h4 : a ≤ t.s0.length) (h5 : (t.C : Int) < a + ys.length) : Wrote t s a ys 13 t
  | space1 (h : s = 1) (h2 : 0 ≤ a) (h3 : ys.length ≤ 64) (h4 : a ≤ t.s1.length) (h5 : (t.C : Int) < a + ys.length) : Wrote t s a ys 13 t
  | cut0 (h : s = 0) (h2 : 0 ≤ a) (h3 : ys.length ≤ 64) (h4 : a ≤ t.s0.length) (h5 : a + ys.length ≤ t.C) (h6 : t.l = 0) : Wrote t s a ys 11 t.dead
  | cut1 (h : s = 1) (h2 : 0 ≤ a) (h3 : ys.length ≤ 64) (h4 : a ≤ t.s1.length) (h5 : a + ys.length ≤ t.C) (h6 : t.l = 0) : Wrote t s a ys 11 t.dead
  | done0 (h : s = 0) (h2 : 0 ≤ a) (h3 : ys.length ≤ 64) (h4 : a ≤ t.s0.length) (h5 : a + ys.length ≤ t.C) (h6 : t.l ≠ 0) : Wrote t s a ys 0 (t.next.put0 (layB t.s0 a.toNat ys))
  | done1 (h : s = 1) (h2 : 0 ≤ a) (h3 : ys.length ≤ 64) (h4 : a ≤ t.s1.length) (h5 : a + ys.length ≤ t.C) (h6 : t.l ≠ 0) : Wrote t s a ys 0 (t.next.put1 (layB t.s1 a.toNat ys))
theorem Wrote.some (t : Sk) (s a : Int) (ys : List Nat) : ∃ E t', Wrote t s a ys E t' := by
  by_cases hs : s = 0 ∨ s = 1
  · by_cases ha : a < 0
    · exact ⟨_, _, .noplace hs ha⟩
    · by_cases hy : 64 < ys.length
      · exact ⟨_, _, .much hs (by omega) hy⟩
      · rcases hs with h | h
        · by_cases h4 : (t.s0.length : Int) < a
          · exact ⟨_, _, .order0 h (by omega) (by omega) h4⟩
          · by_cases h5 : (t.C : Int) < a + ys.length
            · exact ⟨_, _, .space0 h (by omega) (by omega) (by omega) h5⟩
            · by_cases h6 : t.l = 0
              · exact ⟨_, _, .cut0 h (by omega) (by omega) (by omega) (by omega) h6⟩
              · exact ⟨_, _, .done0 h (by omega) (by omega) (by omega) (by omega) h6⟩
        · by_cases h4 : (t.s1.length : Int) < a
          · exact ⟨_, _, .order1 h (by omega) (by omega) h4⟩
          · by_cases h5 : (t.C : Int) < a + ys.length
            · exact ⟨_, _, .space1 h (by omega) (by omega) (by omega) h5⟩
            · by_cases h6 : t.l = 0
              · exact ⟨_, _, .cut1 h (by omega) (by omega) (by omega) (by omega) h6⟩
              · exact ⟨_, _, .done1 h (by omega) (by omega) (by omega) (by omega) h6⟩
  · exact ⟨_, _, .noslot hs⟩
theorem Wrote.ok {t t' : Sk} {s a E : Int} {ys : List Nat} (h : Wrote t s a ys E t') (ht : t.ok) (hy : ∀ x ∈ ys, x < 256) : t'.ok := by
  cases h with
  | cut0 h h2 h3 h4 h5 h6 => exact ht.dead h6
  | cut1 h h2 h3 h4 h5 h6 => exact ht.dead h6
  | done0 h h2 h3 h4 h5 h6 =>
    refine (ht.next h6).put0 ?_ (layB_low _ _ _ ht.b0 hy)
    rw [layB_length _ _ _ (by omega)]
    have := ht.f0
    show _ ≤ t.C
    omega
  | done1 h h2 h3 h4 h5 h6 =>
    refine (ht.next h6).put1 ?_ (layB_low _ _ _ ht.b1 hy)
    rw [layB_length _ _ _ (by omega)]
    have := ht.f1
    show _ ≤ t.C
    omega
  | _ => exact ht
theorem Wrote.n {t t' : Sk} {s a E : Int} {ys : List Nat} (h : Wrote t s a ys E t') : t'.n ≤ t.n + 1 := by
  cases h <;> simp [Sk.dead, Sk.next, Sk.put0, Sk.put1]
inductive Cleared (t : Sk) (s : Int) : Int → Sk → Prop
  | noslot (h : ¬ (s = 0 ∨ s = 1)) : Cleared t s 1 t
  | cut (h : s = 0 ∨ s = 1) (h6 : t.l = 0) : Cleared t s 11 t.dead
  | done0 (h : s = 0) (h6 : t.l ≠ 0) : Cleared t s 0 (t.next.put0 [])
  | done1 (h : s = 1) (h6 : t.l ≠ 0) : Cleared t s 0 (t.next.put1 [])
theorem Cleared.some (t : Sk) (s : Int) : ∃ E t', Cleared t s E t' := by
  by_cases hs : s = 0 ∨ s = 1
  · by_cases h6 : t.l = 0
    · exact ⟨_, _, .cut hs h6⟩
    · rcases hs with h | h
      · exact ⟨_, _, .done0 h h6⟩
      · exact ⟨_, _, .done1 h h6⟩
  · exact ⟨_, _, .noslot hs⟩
theorem Cleared.ok {t t' : Sk} {s E : Int} (h : Cleared t s E t') (ht : t.ok) : t'.ok := by
  cases h with
  | noslot h => exact ht
  | cut h h6 => exact ht.dead h6
  | done0 h h6 => exact (ht.next h6).put0 (by simp) (by simp)
  | done1 h h6 => exact (ht.next h6).put1 (by simp) (by simp)
theorem Cleared.n {t t' : Sk} {s E : Int} (h : Cleared t s E t') : t'.n ≤ t.n + 1 := by
  cases h <;> simp [Sk.dead, Sk.next, Sk.put0, Sk.put1]
/-- What a Read answers. -/
inductive Told (t : Sk) (s : Int) : Int → List Nat → Prop
  | noslot (h : ¬ (s = 0 ∨ s = 1)) : Told t s 1 []
  | slot0 (h : s = 0) : Told t s 0 t.s0
  | slot1 (h : s = 1) : Told t s 0 t.s1
theorem Told.some (t : Sk) (s : Int) : ∃ E xs, Told t s E xs := by
  by_cases hs : s = 0 ∨ s = 1
  · rcases hs with h | h
    · exact ⟨_, _, .slot0 h⟩
    · exact ⟨_, _, .slot1 h⟩
  · exact ⟨_, _, .noslot hs⟩
theorem Told.few {t : Sk} {s E : Int} {xs : List Nat} (h : Told t s E xs) (ht : t.ok) : xs.length ≤ 16777216 := by
  have := ht.cap
  have := ht.f0
  have := ht.f1
  cases h <;> simp <;> omega

/-- Two rows of bytes that lie apart. -/
structure Two (w : World) (v0 v1 : Value) (s0 s1 : List Nat) : Prop where
  r0 : w.ownsRow 0 5 1 v0 s0.length (bts s0)
  r1 : w.ownsRow 0 5 1 v1 s1.length (bts s1)
  ap : ∀ k, v0.ownBlock = some k → v1.ownBlock ≠ some k
theorem Two.keep {S : List Nat} {w w' : World} {v0 v1 : Value} {s0 s1 : List Nat} (h : Two w v0 v1 s0 s1) (hf : Fr S w w') (h0 : ∀ k, v0.ownBlock = some k → k ∉ S) (h1 : ∀ k, v1.ownBlock = some k → k ∉ S) : Two w' v0 v1 s0 s1 :=
  ⟨owns_keep h.r0 hf h0, owns_keep h.r1 hf h1, h.ap⟩
/-- A row's block is the old one's, or new, or none. -/
def Mv (n : Nat) (v v' : Value) : Prop := ∀ k, v'.ownBlock = some k → v.ownBlock = some k ∨ n ≤ k
theorem Moved.mv {n : Nat} {v v' : Value} (h : Moved n v v') : Mv n v v' := by
  intro k hk
  rcases h with h | ⟨x, hx, hge⟩
  · exact Or.inl (h ▸ hk)
  · rw [hx] at hk; cases hk; exact Or.inr hge
theorem Mv.nil (n : Nat) (v : Value) : Mv n v (.slice none 0 0) := by intro k hk; simp [Value.ownBlock] at hk
theorem own_row_nil (w : World) : w.ownsRow 0 5 1 (.slice none 0 0) ([] : List Nat).length (bts []) := ⟨rfl, .inl ⟨rfl, rfl⟩⟩
theorem Two.put0 {w w' : World} {v0 v1 v : Value} {s0 s1 xs : List Nat} (h : Two w v0 v1 s0 s1) (hf : Fr v0.ownBlock.toList w w') (ho : w'.ownsRow 0 5 1 v xs.length (bts xs)) (hm : Mv w.heap.size v0 v) : Two w' v v1 xs s1 := by
  refine ⟨ho, owns_keep h.r1 hf (fun k hk hm => h.ap k (by simpa using hm) hk), ?_⟩
  intro k hk hk1
  rcases hm k hk with hm | hge
  · exact h.ap k hm hk1
  · have := (h.r1.lt _ hk1).2
    omega
theorem Two.put1 {w w' : World} {v0 v1 v : Value} {s0 s1 xs : List Nat} (h : Two w v0 v1 s0 s1) (hf : Fr v1.ownBlock.toList w w') (ho : w'.ownsRow 0 5 1 v xs.length (bts xs)) (hm : Mv w.heap.size v1 v) : Two w' v0 v s0 xs := by
  refine ⟨owns_keep h.r0 hf (fun k hk hm => h.ap k hk (by simpa using hm)), ho, ?_⟩
  intro k hk hk1
  rcases hm k hk1 with hm | hge
  · exact h.ap k hk hm
  · have := (h.r0.lt _ hk).2
    omega
/-- What belongs to a disk. -/
def dOwn (g : Nat) (v0 v1 : Value) : List Nat := g :: (v0.ownBlock.toList ++ v1.ownBlock.toList)
theorem mem_dOwn {g k : Nat} {v0 v1 : Value} : k ∈ dOwn g v0 v1 ↔ k = g ∨ v0.ownBlock = some k ∨ v1.ownBlock = some k := by simp [dOwn]
/-- From one set of blocks to another: no old block beyond the first differs; what the second has more is new. -/
structure To (S S' : List Nat) (w w' : World) : Prop where
  fr : Fr S w w'
  grew : ∀ k ∈ S', k ∈ S ∨ w.heap.size ≤ k
theorem To.refl (S : List Nat) (w : World) : To S S w w := ⟨Fr.refl _ _, fun _ h => Or.inl h⟩
theorem To.same {S T : List Nat} {w w' : World} (h : Fr T w w') (hT : ∀ k ∈ T, k ∈ S) : To S S w w' := ⟨h.mono (fun k hk _ => hT k hk), fun _ h => Or.inl h⟩
theorem To.then {S S' S'' : List Nat} {a b c : World} (h : To S S' a b) (k : To S' S'' b c) : To S S'' a c := by
  refine ⟨h.fr.trans k.fr (fun _ hx _ => hx) (fun x hx hl => ?_), fun x hx => ?_⟩
  · rcases h.grew x hx with h1 | h1
    · exact h1
    · omega
  · rcases k.grew x hx with h1 | h1
    · exact h.grew x h1
    · exact Or.inr (Nat.le_trans h.fr.size h1)
theorem dOwn_moved0 {g n : Nat} {v0 v1 v : Value} (h : Mv n v0 v) : ∀ k ∈ dOwn g v v1, k ∈ dOwn g v0 v1 ∨ n ≤ k := by
  intro k hk
  rw [mem_dOwn] at hk
  rcases hk with hk | hk | hk
  · exact Or.inl (mem_dOwn.2 (Or.inl hk))
  · rcases h k hk with h | hge
    · exact Or.inl (mem_dOwn.2 (Or.inr (Or.inl h)))
    · exact Or.inr hge
  · exact Or.inl (mem_dOwn.2 (Or.inr (Or.inr hk)))
theorem dOwn_moved1 {g n : Nat} {v0 v1 v : Value} (h : Mv n v1 v) : ∀ k ∈ dOwn g v0 v, k ∈ dOwn g v0 v1 ∨ n ≤ k := by
  intro k hk
  rw [mem_dOwn] at hk
  rcases hk with hk | hk | hk
  · exact Or.inl (mem_dOwn.2 (Or.inl hk))
  · exact Or.inl (mem_dOwn.2 (Or.inr (Or.inl hk)))
  · rcases h k hk with h | hge
    · exact Or.inl (mem_dOwn.2 (Or.inr (Or.inr h)))
    · exact Or.inr hge
theorem own_keepx {w w' : World} {v0 v1 : Value} {s0 s1 : List Nat} {g : Nat} {cb : Array Value} {t : TypeId} {x : Value} {j : Nat} (h : Two w v0 v1 s0 s1) (hb : w.heap[g]? = some (.cells cb t (0, 0))) (hne : 5 ≠ t) (e : w' = w.setCell ⟨g, j, none⟩ x) : Two w' v0 v1 s0 s1 := by
  subst e
  have n0 := own_not (own_type h.r0) hb hne
  have n1 := own_not (own_type h.r1) hb hne
  refine h.keep (Fr.set (S := [g]) w ⟨g, j, none⟩ x (by simp)) ?_ ?_
  · intro k hk hm
    rw [List.mem_singleton] at hm
    exact n0 (by simpa [hm] using hk)
  · intro k hk hm
    rw [List.mem_singleton] at hm
    exact n1 (by simpa [hm] using hk)

/-- The program's disk. -/
structure Dk (w : World) (g : Nat) (v0 v1 : Value) (t : Sk) : Prop where
  box : w.heap[g]? = some (.cells #[.bool true, .int .i64 (t.C : Int), v0, v1, .int .i64 t.l, .bool t.dd, .int .i64 (t.n : Int)] 103 (0, 0))
  two : Two w v0 v1 t.s0 t.s1
/-- The document's. -/
structure Rk (w : World) (g : Nat) (v0 v1 : Value) (t : Sk) : Prop where
  box : w.heap[g]? = some (.cells #[.int .i64 (t.C : Int), v0, v1, .int .i64 t.l, .bool t.dd, .int .i64 (t.n : Int)] 79 (0, 0))
  two : Two w v0 v1 t.s0 t.s1
section
variable {w w' : World} {g : Nat} {v0 v1 : Value} {t : Sk}
theorem Dk.cell (h : Dk w g v0 v1 t) (j : Nat) : w.cell? ⟨g, j, none⟩ = #[Value.bool true, .int .i64 (t.C : Int), v0, v1, .int .i64 t.l, .bool t.dd, .int .i64 (t.n : Int)][j]? := cell_of_row _ _ _ _ _ _ h.box
theorem Dk.free (h : Dk w g v0 v1 t) (j : Nat) : w.frozen? ⟨g, j, none⟩ = false := by simp [World.frozen?, h.box]
theorem Rk.cell (h : Rk w g v0 v1 t) (j : Nat) : w.cell? ⟨g, j, none⟩ = #[Value.int .i64 (t.C : Int), v0, v1, .int .i64 t.l, .bool t.dd, .int .i64 (t.n : Int)][j]? := cell_of_row _ _ _ _ _ _ h.box
theorem Rk.free (h : Rk w g v0 v1 t) (j : Nat) : w.frozen? ⟨g, j, none⟩ = false := by simp [World.frozen?, h.box]
theorem Dk.keep {S : List Nat} (h : Dk w g v0 v1 t) (hf : Fr S w w') (hS : ∀ k ∈ S, k ∉ dOwn g v0 v1) : Dk w' g v0 v1 t :=
  ⟨hf.keep h.box (fun hm => hS g hm (mem_dOwn.2 (Or.inl rfl))), h.two.keep hf (fun k hk hm => hS k hm (mem_dOwn.2 (Or.inr (Or.inl hk)))) (fun k hk hm => hS k hm (mem_dOwn.2 (Or.inr (Or.inr hk))))⟩
theorem Rk.keep {S : List Nat} (h : Rk w g v0 v1 t) (hf : Fr S w w') (hS : ∀ k ∈ S, k ∉ dOwn g v0 v1) : Rk w' g v0 v1 t :=
  ⟨hf.keep h.box (fun hm => hS g hm (mem_dOwn.2 (Or.inl rfl))), h.two.keep hf (fun k hk hm => hS k hm (mem_dOwn.2 (Or.inr (Or.inl hk)))) (fun k hk hm => hS k hm (mem_dOwn.2 (Or.inr (Or.inr hk))))⟩
theorem Dk.lt (h : Dk w g v0 v1 t) : ∀ k ∈ dOwn g v0 v1, k < w.heap.size := by
  intro k hk
  rcases mem_dOwn.1 hk with rfl | hk | hk
  · exact lt_of_block h.box
  · exact (h.two.r0.lt k hk).2
  · exact (h.two.r1.lt k hk).2
theorem Rk.lt (h : Rk w g v0 v1 t) : ∀ k ∈ dOwn g v0 v1, k < w.heap.size := by
  intro k hk
  rcases mem_dOwn.1 hk with rfl | hk | hk
  · exact lt_of_block h.box
  · exact (h.two.r0.lt k hk).2
  · exact (h.two.r1.lt k hk).2
theorem Dk.n0 (h : Dk w g v0 v1 t) : g ∉ v0.ownBlock.toList := own_not (own_type h.two.r0) h.box (by decide)
theorem Dk.n1 (h : Dk w g v0 v1 t) : g ∉ v1.ownBlock.toList := own_not (own_type h.two.r1) h.box (by decide)
theorem Rk.n0 (h : Rk w g v0 v1 t) : g ∉ v0.ownBlock.toList := own_not (own_type h.two.r0) h.box (by decide)
theorem Rk.n1 (h : Rk w g v0 v1 t) : g ∉ v1.ownBlock.toList := own_not (own_type h.two.r1) h.box (by decide)
theorem Dk.setN (h : Dk w g v0 v1 t) (m : Nat) : Dk (w.setCell ⟨g, 6, none⟩ (.int .i64 (m : Int))) g v0 v1 { t with n := m } := ⟨row_setCell _ h.box, own_keepx h.two h.box (by decide) rfl⟩
theorem Dk.setL (h : Dk w g v0 v1 t) (x : Int) : Dk (w.setCell ⟨g, 4, none⟩ (.int .i64 x)) g v0 v1 { t with l := x } := ⟨row_setCell _ h.box, own_keepx h.two h.box (by decide) rfl⟩
theorem Dk.setD (h : Dk w g v0 v1 t) (b : Bool) : Dk (w.setCell ⟨g, 5, none⟩ (.bool b)) g v0 v1 { t with dd := b } := ⟨row_setCell _ h.box, own_keepx h.two h.box (by decide) rfl⟩
theorem Rk.setN (h : Rk w g v0 v1 t) (m : Nat) : Rk (w.setCell ⟨g, 5, none⟩ (.int .i64 (m : Int))) g v0 v1 { t with n := m } := ⟨row_setCell _ h.box, own_keepx h.two h.box (by decide) rfl⟩
theorem Rk.setL (h : Rk w g v0 v1 t) (x : Int) : Rk (w.setCell ⟨g, 3, none⟩ (.int .i64 x)) g v0 v1 { t with l := x } := ⟨row_setCell _ h.box, own_keepx h.two h.box (by decide) rfl⟩
theorem Rk.setD (h : Rk w g v0 v1 t) (b : Bool) : Rk (w.setCell ⟨g, 4, none⟩ (.bool b)) g v0 v1 { t with dd := b } := ⟨row_setCell _ h.box, own_keepx h.two h.box (by decide) rfl⟩
theorem Dk.set0 {v : Value} {xs : List Nat} (h : Dk w g v0 v1 t) (hf : Fr v0.ownBlock.toList w w') (ho : w'.ownsRow 0 5 1 v xs.length (bts xs)) (hm : Mv w.heap.size v0 v) : Dk (w'.setCell ⟨g, 2, none⟩ v) g v v1 (t.put0 xs) ∧ To (dOwn g v0 v1) (dOwn g v v1) w (w'.setCell ⟨g, 2, none⟩ v) := by
  have hb := hf.keep h.box h.n0
  have hT := h.two.put0 hf ho hm
  refine ⟨⟨row_setCell _ hb, own_keepx hT hb (by decide) rfl⟩, ⟨?_, dOwn_moved0 hm⟩⟩
  exact (hf.mono (fun k hk _ => mem_dOwn.2 (Or.inr (Or.inl (by simpa using hk))))).then (Fr.set _ _ _ (mem_dOwn.2 (Or.inl rfl)))
theorem Dk.set1 {v : Value} {xs : List Nat} (h : Dk w g v0 v1 t) (hf : Fr v1.ownBlock.toList w w') (ho : w'.ownsRow 0 5 1 v xs.length (bts xs)) (hm : Mv w.heap.size v1 v) : Dk (w'.setCell ⟨g, 3, none⟩ v) g v0 v (t.put1 xs) ∧ To (dOwn g v0 v1) (dOwn g v0 v) w (w'.setCell ⟨g, 3, none⟩ v) := by
  have hb := hf.keep h.box h.n1
  have hT := h.two.put1 hf ho hm
  refine ⟨⟨row_setCell _ hb, own_keepx hT hb (by decide) rfl⟩, ⟨?_, dOwn_moved1 hm⟩⟩
  exact (hf.mono (fun k hk _ => mem_dOwn.2 (Or.inr (Or.inr (by simpa using hk))))).then (Fr.set _ _ _ (mem_dOwn.2 (Or.inl rfl)))
theorem Rk.set0 {v : Value} {xs : List Nat} (h : Rk w g v0 v1 t) (hf : Fr v0.ownBlock.toList w w') (ho : w'.ownsRow 0 5 1 v xs.length (bts xs)) (hm : Mv w.heap.size v0 v) : Rk (w'.setCell ⟨g, 1, none⟩ v) g v v1 (t.put0 xs) ∧ To (dOwn g v0 v1) (dOwn g v v1) w (w'.setCell ⟨g, 1, none⟩ v) := by
  have hb := hf.keep h.box h.n0
  have hT := h.two.put0 hf ho hm
  refine ⟨⟨row_setCell _ hb, own_keepx hT hb (by decide) rfl⟩, ⟨?_, dOwn_moved0 hm⟩⟩
  exact (hf.mono (fun k hk _ => mem_dOwn.2 (Or.inr (Or.inl (by simpa using hk))))).then (Fr.set _ _ _ (mem_dOwn.2 (Or.inl rfl)))
theorem Rk.set1 {v : Value} {xs : List Nat} (h : Rk w g v0 v1 t) (hf : Fr v1.ownBlock.toList w w') (ho : w'.ownsRow 0 5 1 v xs.length (bts xs)) (hm : Mv w.heap.size v1 v) : Rk (w'.setCell ⟨g, 2, none⟩ v) g v0 v (t.put1 xs) ∧ To (dOwn g v0 v1) (dOwn g v0 v) w (w'.setCell ⟨g, 2, none⟩ v) := by
  have hb := hf.keep h.box h.n1
  have hT := h.two.put1 hf ho hm
  refine ⟨⟨row_setCell _ hb, own_keepx hT hb (by decide) rfl⟩, ⟨?_, dOwn_moved1 hm⟩⟩
  exact (hf.mono (fun k hk _ => mem_dOwn.2 (Or.inr (Or.inr (by simpa using hk))))).then (Fr.set _ _ _ (mem_dOwn.2 (Or.inl rfl)))
end
end Go.Proofs.YtdojhkgnnbdfkaaGreat
/- What the program's disk does, call by call: there, hasSlot, letOne, New, Dead, Capacity, Writes, Cut, Mend, Clear. Conditions: the disk's numbers are such as its calls leave them; fewer than 2^40 raw writes were done. -/
namespace Go.Proofs.YtdojhkgnnbdfkaaGreat
open Go.ChangeShapes Go.WideShapes Go.ChangeAt Go.RowKit Go.Lib

abbrev ptr (g : Nat) : Value := .pointer (some ⟨g, 0, none⟩)
section
variable {w : World} {g : Nat} {v0 v1 : Value} {t : Sk}
theorem Dk.c0 (h : Dk w g v0 v1 t) : w.cell? ⟨g, 0, none⟩ = some (.bool true) := h.cell 0
theorem Dk.c1 (h : Dk w g v0 v1 t) : w.cell? ⟨g, 1, none⟩ = some (.int .i64 (t.C : Int)) := h.cell 1
theorem Dk.c2 (h : Dk w g v0 v1 t) : w.cell? ⟨g, 2, none⟩ = some v0 := h.cell 2
theorem Dk.c3 (h : Dk w g v0 v1 t) : w.cell? ⟨g, 3, none⟩ = some v1 := h.cell 3
theorem Dk.c4 (h : Dk w g v0 v1 t) : w.cell? ⟨g, 4, none⟩ = some (.int .i64 t.l) := h.cell 4
theorem Dk.c5 (h : Dk w g v0 v1 t) : w.cell? ⟨g, 5, none⟩ = some (.bool t.dd) := h.cell 5
theorem Dk.c6 (h : Dk w g v0 v1 t) : w.cell? ⟨g, 6, none⟩ = some (.int .i64 (t.n : Int)) := h.cell 6
theorem Rk.c0 (h : Rk w g v0 v1 t) : w.cell? ⟨g, 0, none⟩ = some (.int .i64 (t.C : Int)) := h.cell 0
theorem Rk.c1 (h : Rk w g v0 v1 t) : w.cell? ⟨g, 1, none⟩ = some v0 := h.cell 1
theorem Rk.c2 (h : Rk w g v0 v1 t) : w.cell? ⟨g, 2, none⟩ = some v1 := h.cell 2
theorem Rk.c3 (h : Rk w g v0 v1 t) : w.cell? ⟨g, 3, none⟩ = some (.int .i64 t.l) := h.cell 3
theorem Rk.c4 (h : Rk w g v0 v1 t) : w.cell? ⟨g, 4, none⟩ = some (.bool t.dd) := h.cell 4
theorem Rk.c5 (h : Rk w g v0 v1 t) : w.cell? ⟨g, 5, none⟩ = some (.int .i64 (t.n : Int)) := h.cell 5
theorem Dk.gS (_h : Dk w g v0 v1 t) : ∀ k ∈ [g], k ∈ dOwn g v0 v1 := by intro k hk; rw [List.mem_singleton] at hk; exact mem_dOwn.2 (Or.inl hk)
end

set_option maxHeartbeats 400000 in
theorem there_any (g : Nat) (w : World) (h : w.cell? ⟨g, 0, none⟩ = some (.bool true)) : Calls Tryz.prog 76 #[ptr g] w fun e w' => e = .returned (.bool true) ∧ w = w' := by
  go_enter Tryz.func76, Tryz.ntmps76
  go_wp2
  go_ret
  exact ⟨rfl, rfl⟩
/-- No disk: nil, or a zero one. -/
def Gone (w : World) (p : Value) : Prop := p = .pointer none ∨ ∃ z, p = ptr z ∧ w.cell? ⟨z, 0, none⟩ = some (.bool false)
set_option maxHeartbeats 400000 in
theorem there_no (p : Value) (w : World) (h : Gone w p) : Calls Tryz.prog 76 #[p] w fun e w' => e = .returned (.bool false) ∧ w = w' := by
  rcases h with rfl | ⟨z, rfl, hz⟩
  · go_enter Tryz.func76, Tryz.ntmps76
    go_wp2
    go_ret
    exact ⟨rfl, rfl⟩
  · go_enter Tryz.func76, Tryz.ntmps76
    go_wp2
    go_ret
    exact ⟨rfl, rfl⟩
set_option maxHeartbeats 400000 in
theorem hasSlot_yes (p : Value) (s : Int) (w : World) (h : s = 0 ∨ s = 1) : Calls Tryz.prog 88 #[p, .int .i64 s] w fun e w' => e = .returned (.bool true) ∧ w = w' := by
  rcases h with rfl | rfl
  · go_enter Tryz.func88, Tryz.ntmps88
    go_wp2
    go_ret
    exact ⟨rfl, rfl⟩
  · go_enter Tryz.func88, Tryz.ntmps88
    go_wp2
    go_ret
    exact ⟨rfl, rfl⟩
set_option maxHeartbeats 400000 in
theorem hasSlot_no (p : Value) (s : Int) (w : World) (h : ¬ (s = 0 ∨ s = 1)) : Calls Tryz.prog 88 #[p, .int .i64 s] w fun e w' => e = .returned (.bool false) ∧ w = w' := by
  by_cases h0 : s < 0
  · clear h
    go_enter Tryz.func88, Tryz.ntmps88
    go_wp2
    go_ret
    exact ⟨rfl, rfl⟩
  · have h1 : 0 ≤ s := by omega
    have h2 : 2 ≤ s := by omega
    clear h h0
    go_enter Tryz.func88, Tryz.ntmps88
    go_wp2
    go_ret
    exact ⟨by simp; omega, rfl⟩

section
variable {w : World} {g : Nat} {v0 v1 : Value} {t : Sk}
set_option maxHeartbeats 1000000 in
theorem letOne_cut (h : Dk w g v0 v1 t) (hl : t.l = 0) : Calls Tryz.prog 113 #[ptr g] w fun e w' => e = .returned (.int .i64 11) ∧ Dk w' g v0 v1 t.dead ∧ Fr [g] w w' := by
  have c4 := h.c4
  have c5 := h.c5
  have f5 := h.free 5
  have HX : Hid (Dk (w.setCell ⟨g, 5, none⟩ (.bool true)) g v0 v1 t.dead) := h.setD true
  rw [hl] at c4
  clear hl
  go_enter Tryz.func113, Tryz.ntmps113
  go_wp2
  go_ret
  exact ⟨rfl, HX.out, Fr.set _ _ _ (by simp)⟩
set_option maxHeartbeats 1000000 in
theorem letOne_ok (h : Dk w g v0 v1 t) (hl : t.l ≠ 0) (ht : t.ok) (hn : t.n < 2^40) : Calls Tryz.prog 113 #[ptr g] w fun e w' => e = .returned (.int .i64 0) ∧ Dk w' g v0 v1 t.next ∧ Fr [g] w w' := by
  have c4 := h.c4
  have c6 := h.c6
  have f4 := h.free 4
  have f6 := h.free 6
  by_cases h0 : 0 < t.l
  · have HX : Hid (Dk ((w.setCell ⟨g, 4, none⟩ (.int .i64 (t.l - 1))).setCell ⟨g, 6, none⟩ (.int .i64 ((t.n : Int) + 1))) g v0 v1 t.next) := by
      have e : t.next = { t with l := t.l - 1, n := t.n + 1 } := by simp [Sk.next, h0]
      rw [e]
      have := (h.setL (t.l - 1)).setN (t.n + 1)
      show Dk _ _ _ _ _
      simpa using this
    obtain ⟨l, hll⟩ : ∃ l, l = t.l := ⟨_, rfl⟩
    obtain ⟨n, hnn⟩ : ∃ n, n = t.n := ⟨_, rfl⟩
    have hl1 := ht.l1
    rw [← hll] at c4 h0 HX hl1
    rw [← hnn] at c6 HX hn
    have b1 : (l == 0) = false := by simp; omega
    have b2 : (l != -1) = true := by simp; omega
    clear hl hll hnn ht
    go_enter Tryz.func113, Tryz.ntmps113
    go_wp2
    go_ret
    exact ⟨rfl, HX.out, (Fr.set _ _ _ (by simp)).then (Fr.set _ _ _ (by simp))⟩
  · have hl1 : t.l = -1 := by have := ht.l0; omega
    have HX : Hid (Dk (w.setCell ⟨g, 6, none⟩ (.int .i64 ((t.n : Int) + 1))) g v0 v1 t.next) := by
      have e : t.next = { t with n := t.n + 1 } := by simp [Sk.next, h0]
      rw [e]
      have := h.setN (t.n + 1)
      show Dk _ _ _ _ _
      simpa using this
    obtain ⟨n, hnn⟩ : ∃ n, n = t.n := ⟨_, rfl⟩
    rw [hl1] at c4
    rw [← hnn] at c6 HX hn
    clear hl hl1 h0 hnn ht
    go_enter Tryz.func113, Tryz.ntmps113
    go_wp2
    go_ret
    exact ⟨rfl, HX.out, Fr.set _ _ _ (by simp)⟩
theorem capacity_any (h : Dk w g v0 v1 t) : Calls Tryz.prog 51 #[ptr g] w fun e w' => e = .returned (.int .i64 (t.C : Int)) ∧ w = w' := by
  have c1 := h.c1
  go_enter Tryz.func51, Tryz.ntmps51
  go_wp2_with fail
  refine (there_any g _ h.c0).mono ?_
  rintro e w' ⟨rfl, rfl⟩
  go_wp2
  go_ret
  exact ⟨rfl, rfl⟩
end
set_option maxHeartbeats 1000000 in
theorem new_ok (C : Nat) (w : World) (h : C ≤ 16777216) : Calls Tryz.prog 28 #[.int .i64 (C : Int)] w fun e w' => e = .returned (.tuple #[ptr w.heap.size, .int .i64 0]) ∧ Dk w' w.heap.size (.slice none 0 0) (.slice none 0 0) (Sk.new C) ∧ Fr [] w w' := by
  have h0 : (0 : Int) ≤ C := by omega
  have h1 : (C : Int) ≤ 16777216 := by omega
  go_enter Tryz.func28, Tryz.ntmps28
  go_wp2
  go_ret2
  exact ⟨rfl, ⟨heap_alloc_new w _, own_row_nil _, own_row_nil _, by intro k hk; simp [Value.ownBlock] at hk⟩, Fr.alloc _ _ _⟩
set_option maxHeartbeats 1000000 in
theorem new_no (n : Int) (w : World) (h : n < 0 ∨ 16777216 < n) : Calls Tryz.prog 28 #[.int .i64 n] w fun e w' => e = .returned (.tuple #[.pointer none, .int .i64 1]) ∧ w = w' := by
  rcases h with h | h
  · go_enter Tryz.func28, Tryz.ntmps28
    go_wp2
    go_ret2
    exact ⟨rfl, rfl⟩
  · have h0 : 0 ≤ n := by omega
    go_enter Tryz.func28, Tryz.ntmps28
    go_wp2
    go_ret2
    exact ⟨rfl, rfl⟩
end Go.Proofs.YtdojhkgnnbdfkaaGreat

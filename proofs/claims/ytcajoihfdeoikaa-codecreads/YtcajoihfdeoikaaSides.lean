/- What the statement's helper takes answers of a reader and the reference's that go side by side, and of readers that are not there. -/
import Derived.Test.YtcajoihfdeoikaaTwin
namespace Go.Proofs.Ytcajoihfdeoikaa
open Go.ChangeShapes Go.WideShapes Go.ChangeAt Go.RowKit Go.Lib
set_option linter.unusedVariables false

theorem rd_sync {α : Type} (f : List Nat → α × Nat × Nat) (z : α) (xs : List Nat) (p : Nat) (hz : (f (xs.drop p)).2.2 ≠ 0 → (f (xs.drop p)).1 = z) :
    rdBy f z (xs.drop p) 0 = ((f (xs.drop p)).1, xs.drop (stepAt (f (xs.drop p)).2 p), (f (xs.drop p)).2.2) := by
  unfold rdBy stepAt
  rw [if_neg (by simp)]
  by_cases h : (f (xs.drop p)).2.2 = 0
  · rw [if_neg (by simp [h]), if_pos h, List.drop_drop, h]
  · rw [if_pos h, if_neg h, hz h]
theorem stepAt_le (r : Nat × Nat) (p L : Nat) (hp : p ≤ L) (h : r.2 = 0 → r.1 ≤ L - p) : stepAt r p ≤ L := by
  unfold stepAt
  split
  · rename_i h0; have := h h0; omega
  · exact hp
theorem fix_zero (wd : Int) (ys : List Nat) (h : (fixF wd ys).2.2 ≠ 0) : (fixF wd ys).1 = 0 := by
  unfold fixF at h ⊢
  split at h
  · rename_i h1; rw [if_pos h1]
  · rename_i h1
    rw [if_neg h1]
    split at h
    · rename_i h2; rw [if_pos h2]
    · simp at h
theorem int_zero (ys : List Nat) (h : (intF ys).2.2 ≠ 0) : (intF ys).1 = 0 := by
  simp only [intF] at h ⊢
  rw [short_zero ys 0 0 h]
  rfl
theorem text_zero (ms : Int) (ys : List Nat) (h : (textF ms ys).2.2 ≠ 0) : (textF ms ys).1 = ⟨#[]⟩ := by
  unfold textF at h ⊢
  split at h
  · rename_i h1; rw [if_pos h1]
  · rename_i h1
    rw [if_neg h1]
    split at h
    · rename_i h2; rw [if_pos h2]
    · rename_i h2
      rw [if_neg h2]
      split at h
      · rename_i h3; rw [if_pos h3]
      · rename_i h3
        rw [if_neg h3]
        split at h
        · rename_i h4; rw [if_pos h4]
        · simp at h
theorem rdBy_dead {α : Type} (f : List Nat → α × Nat × Nat) (z : α) (xs : List Nat) (er : Nat) (h : er ≠ 0) : rdBy f z xs er = (z, xs, er) := by simp [rdBy, h]

theorem rs_of_row {w : World} {b : Nat} {xs ys : List Nat} (h : w.heap[b]? = some (.cells (bts (xs ++ ys)).toArray 5 (0, 0))) (hl : xs.length < 2^40) : Rs w (some ⟨b, 0, none⟩) xs :=
  ⟨fun _ => ⟨b, 0, rfl, fun j hj => by
    have hlt : j < (bts xs).length := by rw [bts_length]; exact hj
    have := row_src h j _ (by rw [bts_append, List.getElem?_append_left hlt]; exact bts_get xs j hj)
    rw [Addr.add_lit] at this
    exact this⟩, by omega⟩

theorem takesLive1 (g r t L p er : Nat) (xs : List Nat) (aoR : Option Addr) (capR : Nat) (k n wd ms : Int) (tx : ByteArray) (w : World) (hk : k = 1) (hm0 : -9223372036854775808 ≤ ms) (hm1 : ms ≤ 9223372036854775807)
    (hR : Rd w g r (xs.drop p) er aoR capR) (hrow : w.heap[t]? = some (.cells (bts (xs ++ [77])).toArray 5 (0, 0))) (hb : ∀ x ∈ xs, x < 256) (hL : L = xs.length) (hLl : L < 2^40) (hp : p ≤ L) :
    Calls Try.prog 13 #[.pointer (some ⟨g, 0, none⟩), (.agg #[.bool false, (.slice (some ⟨t, 0, none⟩) L (L + 1)), .int .i64 (p : Int), .int .i64 (er : Int)]), .agg #[.int .u8 k, .int .u64 n, .int .i64 wd, .string tx, .int .i64 ms]] w fun e w' => ∃ p1 e1 : Nat, e = .returned (.tuple #[(.agg #[.bool false, (.slice (some ⟨t, 0, none⟩) L (L + 1)), .int .i64 (p1 : Int), .int .i64 (e1 : Int)]), .bool true]) ∧ p1 ≤ L ∧ (∃ ao' cap', Rd w' g r (xs.drop p1) e1 ao' cap') ∧ Fr [g] w w' := by
  have hQ : ∀ p1 e1 : Nat, ∀ T W W', (∃ ao' cap', Rd W g r (xs.drop p1) e1 ao' cap') → Fr T W W' → (∀ x, x ∈ T → w.heap.size ≤ x) → ∃ ao' cap', Rd W' g r (xs.drop p1) e1 ao' cap' := by
    rintro p1 e1 T W W' ⟨a', c', hh⟩ hf hT
    exact ⟨a', c', hh.keep hf (fun hx => by have := hT _ hx; have := hR.lt; omega) (fun hx => by have := hT _ hx; have := hR.sl.blk; omega)⟩
  by_cases he : er = 0
  · subst he
    have hsync := rd_sync (fixF wd) 0 xs p (fix_zero wd _)
    refine (takes1 (some ⟨g, 0, none⟩) false (some ⟨t, 0, none⟩) L (L + 1) (p : Int) 0 (stepAt ((fixF wd) (xs.drop p)).2 p : Nat) (((fixF wd) (xs.drop p)).2.2 : Nat) ((fixF wd) (xs.drop p)).1 k n wd ms tx [g] (fun w' => ∃ ao' cap', Rd w' g r (xs.drop (stepAt ((fixF wd) (xs.drop p)).2 p)) ((fixF wd) (xs.drop p)).2.2 ao' cap') w hk
      (fun W hf => xFixed_live _ L (L + 1) p xs wd W ((rs_of_row hrow (by omega)).fr hf) hb hL hp) (fun W hf => ?_) (by intro x hx; simp at hx; rw [hx]; exact hR.lt) (hQ _ _)).mono ?_
    · refine (rFixed_any g r _ _ _ _ wd _ (hR.keep hf (by simp) (by simp))).mono ?_
      rintro e w' ⟨rfl, ao', cap', h1, h2⟩
      rw [hsync] at h1 ⊢
      exact ⟨rfl, ⟨ao', cap', h1⟩, h2⟩
    · rintro e w' ⟨rfl, h1, h2⟩
      exact ⟨_, _, rfl, stepAt_le _ _ _ hp (fun h0 => by have := ((fixF_size wd (xs.drop p) h0).2); rw [List.length_drop, ← hL] at this; omega), h1, h2⟩
  · have hsync := rdBy_dead (fixF wd) 0 (xs.drop p) er he
    refine (takes1 (some ⟨g, 0, none⟩) false (some ⟨t, 0, none⟩) L (L + 1) (p : Int) (er : Int) (p : Int) (er : Int) 0 k n wd ms tx [g] (fun w' => ∃ ao' cap', Rd w' g r (xs.drop p) er ao' cap') w hk
      (fun W hf => xFixed_dead false _ L (L + 1) _ _ wd W (Or.inr (by omega))) (fun W hf => ?_) (by intro x hx; simp at hx; rw [hx]; exact hR.lt) (hQ _ _)).mono ?_
    · refine (rFixed_any g r _ _ _ _ wd _ (hR.keep hf (by simp) (by simp))).mono ?_
      rintro e w' ⟨rfl, ao', cap', h1, h2⟩
      rw [hsync] at h1 ⊢
      exact ⟨rfl, ⟨ao', cap', h1⟩, h2⟩
    · rintro e w' ⟨rfl, h1, h2⟩
      exact ⟨_, _, rfl, hp, h1, h2⟩

theorem takesLive3 (g r t L p er : Nat) (xs : List Nat) (aoR : Option Addr) (capR : Nat) (k n wd ms : Int) (tx : ByteArray) (w : World) (hk : k = 3) (hm0 : -9223372036854775808 ≤ ms) (hm1 : ms ≤ 9223372036854775807)
    (hR : Rd w g r (xs.drop p) er aoR capR) (hrow : w.heap[t]? = some (.cells (bts (xs ++ [77])).toArray 5 (0, 0))) (hb : ∀ x ∈ xs, x < 256) (hL : L = xs.length) (hLl : L < 2^40) (hp : p ≤ L) :
    Calls Try.prog 13 #[.pointer (some ⟨g, 0, none⟩), (.agg #[.bool false, (.slice (some ⟨t, 0, none⟩) L (L + 1)), .int .i64 (p : Int), .int .i64 (er : Int)]), .agg #[.int .u8 k, .int .u64 n, .int .i64 wd, .string tx, .int .i64 ms]] w fun e w' => ∃ p1 e1 : Nat, e = .returned (.tuple #[(.agg #[.bool false, (.slice (some ⟨t, 0, none⟩) L (L + 1)), .int .i64 (p1 : Int), .int .i64 (e1 : Int)]), .bool true]) ∧ p1 ≤ L ∧ (∃ ao' cap', Rd w' g r (xs.drop p1) e1 ao' cap') ∧ Fr [g] w w' := by
  have hQ : ∀ p1 e1 : Nat, ∀ T W W', (∃ ao' cap', Rd W g r (xs.drop p1) e1 ao' cap') → Fr T W W' → (∀ x, x ∈ T → w.heap.size ≤ x) → ∃ ao' cap', Rd W' g r (xs.drop p1) e1 ao' cap' := by
    rintro p1 e1 T W W' ⟨a', c', hh⟩ hf hT
    exact ⟨a', c', hh.keep hf (fun hx => by have := hT _ hx; have := hR.lt; omega) (fun hx => by have := hT _ hx; have := hR.sl.blk; omega)⟩
  by_cases he : er = 0
  · subst he
    have hsync := rd_sync intF 0 xs p (int_zero _)
    refine (takes3 (some ⟨g, 0, none⟩) false (some ⟨t, 0, none⟩) L (L + 1) (p : Int) 0 (stepAt (intF (xs.drop p)).2 p : Nat) ((intF (xs.drop p)).2.2 : Nat) (intF (xs.drop p)).1 k n wd ms tx [g] (fun w' => ∃ ao' cap', Rd w' g r (xs.drop (stepAt (intF (xs.drop p)).2 p)) (intF (xs.drop p)).2.2 ao' cap') w hk
      (fun W hf => xInt_live _ L (L + 1) p xs W ((rs_of_row hrow (by omega)).fr hf) hb hL hp) (fun W hf => ?_) (by intro x hx; simp at hx; rw [hx]; exact hR.lt) (hQ _ _)).mono ?_
    · refine (rInt_any g r _ _ _ _ _ (hR.keep hf (by simp) (by simp))).mono ?_
      rintro e w' ⟨rfl, ao', cap', h1, h2⟩
      rw [hsync] at h1 ⊢
      exact ⟨rfl, ⟨ao', cap', h1⟩, h2⟩
    · rintro e w' ⟨rfl, h1, h2⟩
      exact ⟨_, _, rfl, stepAt_le _ _ _ hp (fun h0 => by have := ((intF_size (xs.drop p) h0).2); rw [List.length_drop, ← hL] at this; omega), h1, h2⟩
  · have hsync := rdBy_dead intF 0 (xs.drop p) er he
    refine (takes3 (some ⟨g, 0, none⟩) false (some ⟨t, 0, none⟩) L (L + 1) (p : Int) (er : Int) (p : Int) (er : Int) 0 k n wd ms tx [g] (fun w' => ∃ ao' cap', Rd w' g r (xs.drop p) er ao' cap') w hk
      (fun W hf => xInt_dead false _ L (L + 1) _ _ W (Or.inr (by omega))) (fun W hf => ?_) (by intro x hx; simp at hx; rw [hx]; exact hR.lt) (hQ _ _)).mono ?_
    · refine (rInt_any g r _ _ _ _ _ (hR.keep hf (by simp) (by simp))).mono ?_
      rintro e w' ⟨rfl, ao', cap', h1, h2⟩
      rw [hsync] at h1 ⊢
      exact ⟨rfl, ⟨ao', cap', h1⟩, h2⟩
    · rintro e w' ⟨rfl, h1, h2⟩
      exact ⟨_, _, rfl, hp, h1, h2⟩

theorem takesLive4 (g r t L p er : Nat) (xs : List Nat) (aoR : Option Addr) (capR : Nat) (k n wd ms : Int) (tx : ByteArray) (w : World) (hk : k = 4) (hm0 : -9223372036854775808 ≤ ms) (hm1 : ms ≤ 9223372036854775807)
    (hR : Rd w g r (xs.drop p) er aoR capR) (hrow : w.heap[t]? = some (.cells (bts (xs ++ [77])).toArray 5 (0, 0))) (hb : ∀ x ∈ xs, x < 256) (hL : L = xs.length) (hLl : L < 2^40) (hp : p ≤ L) :
    Calls Try.prog 13 #[.pointer (some ⟨g, 0, none⟩), (.agg #[.bool false, (.slice (some ⟨t, 0, none⟩) L (L + 1)), .int .i64 (p : Int), .int .i64 (er : Int)]), .agg #[.int .u8 k, .int .u64 n, .int .i64 wd, .string tx, .int .i64 ms]] w fun e w' => ∃ p1 e1 : Nat, e = .returned (.tuple #[(.agg #[.bool false, (.slice (some ⟨t, 0, none⟩) L (L + 1)), .int .i64 (p1 : Int), .int .i64 (e1 : Int)]), .bool true]) ∧ p1 ≤ L ∧ (∃ ao' cap', Rd w' g r (xs.drop p1) e1 ao' cap') ∧ Fr [g] w w' := by
  have hQ : ∀ p1 e1 : Nat, ∀ T W W', (∃ ao' cap', Rd W g r (xs.drop p1) e1 ao' cap') → Fr T W W' → (∀ x, x ∈ T → w.heap.size ≤ x) → ∃ ao' cap', Rd W' g r (xs.drop p1) e1 ao' cap' := by
    rintro p1 e1 T W W' ⟨a', c', hh⟩ hf hT
    exact ⟨a', c', hh.keep hf (fun hx => by have := hT _ hx; have := hR.lt; omega) (fun hx => by have := hT _ hx; have := hR.sl.blk; omega)⟩
  by_cases he : er = 0
  · subst he
    have hsync := rd_sync (textF ms) ⟨#[]⟩ xs p (text_zero ms _)
    refine (takes4 (some ⟨g, 0, none⟩) false (some ⟨t, 0, none⟩) L (L + 1) (p : Int) 0 (stepAt ((textF ms) (xs.drop p)).2 p : Nat) (((textF ms) (xs.drop p)).2.2 : Nat) ((textF ms) (xs.drop p)).1 k n wd ms tx [g] (fun w' => ∃ ao' cap', Rd w' g r (xs.drop (stepAt ((textF ms) (xs.drop p)).2 p)) ((textF ms) (xs.drop p)).2.2 ao' cap') w hk
      (fun W hf => xText_live _ L (L + 1) p xs ms hm0 hm1 (by omega) W ((rs_of_row hrow (by omega)).fr hf) hb hL hp) (fun W hf => ?_) (by intro x hx; simp at hx; rw [hx]; exact hR.lt) (hQ _ _)).mono ?_
    · refine (rText_any g r _ _ _ _ ms _ (hR.keep hf (by simp) (by simp)) hm0 hm1).mono ?_
      rintro e w' ⟨rfl, ao', cap', h1, h2⟩
      rw [hsync] at h1 ⊢
      exact ⟨rfl, ⟨ao', cap', h1⟩, h2⟩
    · rintro e w' ⟨rfl, h1, h2⟩
      exact ⟨_, _, rfl, stepAt_le _ _ _ hp (fun h0 => by have := ((textF_size ms (xs.drop p) h0).2); rw [List.length_drop, ← hL] at this; omega), h1, h2⟩
  · have hsync := rdBy_dead (textF ms) ⟨#[]⟩ (xs.drop p) er he
    refine (takes4 (some ⟨g, 0, none⟩) false (some ⟨t, 0, none⟩) L (L + 1) (p : Int) (er : Int) (p : Int) (er : Int) ⟨#[]⟩ k n wd ms tx [g] (fun w' => ∃ ao' cap', Rd w' g r (xs.drop p) er ao' cap') w hk
      (fun W hf => xText_dead false _ L (L + 1) _ _ ms W (Or.inr (by omega))) (fun W hf => ?_) (by intro x hx; simp at hx; rw [hx]; exact hR.lt) (hQ _ _)).mono ?_
    · refine (rText_any g r _ _ _ _ ms _ (hR.keep hf (by simp) (by simp)) hm0 hm1).mono ?_
      rintro e w' ⟨rfl, ao', cap', h1, h2⟩
      rw [hsync] at h1 ⊢
      exact ⟨rfl, ⟨ao', cap', h1⟩, h2⟩
    · rintro e w' ⟨rfl, h1, h2⟩
      exact ⟨_, _, rfl, hp, h1, h2⟩

theorem takesLivee (g r t L p er : Nat) (xs : List Nat) (aoR : Option Addr) (capR : Nat) (k n wd ms : Int) (tx : ByteArray) (w : World) (hk : k ≠ 1 ∧ k ≠ 3 ∧ k ≠ 4) (hm0 : -9223372036854775808 ≤ ms) (hm1 : ms ≤ 9223372036854775807)
    (hR : Rd w g r (xs.drop p) er aoR capR) (hrow : w.heap[t]? = some (.cells (bts (xs ++ [77])).toArray 5 (0, 0))) (hb : ∀ x ∈ xs, x < 256) (hL : L = xs.length) (hLl : L < 2^40) (hp : p ≤ L) :
    Calls Try.prog 13 #[.pointer (some ⟨g, 0, none⟩), (.agg #[.bool false, (.slice (some ⟨t, 0, none⟩) L (L + 1)), .int .i64 (p : Int), .int .i64 (er : Int)]), .agg #[.int .u8 k, .int .u64 n, .int .i64 wd, .string tx, .int .i64 ms]] w fun e w' => ∃ p1 e1 : Nat, e = .returned (.tuple #[(.agg #[.bool false, (.slice (some ⟨t, 0, none⟩) L (L + 1)), .int .i64 (p1 : Int), .int .i64 (e1 : Int)]), .bool true]) ∧ p1 ≤ L ∧ (∃ ao' cap', Rd w' g r (xs.drop p1) e1 ao' cap') ∧ Fr [g] w w' := by
  have hQ : ∀ p1 e1 : Nat, ∀ T W W', (∃ ao' cap', Rd W g r (xs.drop p1) e1 ao' cap') → Fr T W W' → (∀ x, x ∈ T → w.heap.size ≤ x) → ∃ ao' cap', Rd W' g r (xs.drop p1) e1 ao' cap' := by
    rintro p1 e1 T W W' ⟨a', c', hh⟩ hf hT
    exact ⟨a', c', hh.keep hf (fun hx => by have := hT _ hx; have := hR.lt; omega) (fun hx => by have := hT _ hx; have := hR.sl.blk; omega)⟩
  by_cases he : er = 0
  · subst he
    have hsync := rd_sync (shortF 0 0) 0 xs p (short_zero _ 0 0)
    refine (takese (some ⟨g, 0, none⟩) false (some ⟨t, 0, none⟩) L (L + 1) (p : Int) 0 (stepAt ((shortF 0 0) (xs.drop p)).2 p : Nat) (((shortF 0 0) (xs.drop p)).2.2 : Nat) ((shortF 0 0) (xs.drop p)).1 k n wd ms tx [g] (fun w' => ∃ ao' cap', Rd w' g r (xs.drop (stepAt ((shortF 0 0) (xs.drop p)).2 p)) ((shortF 0 0) (xs.drop p)).2.2 ao' cap') w hk
      (fun W hf => xVar_live _ L (L + 1) p xs W ((rs_of_row hrow (by omega)).fr hf) hb hL hp) (fun W hf => ?_) (by intro x hx; simp at hx; rw [hx]; exact hR.lt) (hQ _ _)).mono ?_
    · refine (rVar_any g r _ _ _ _ _ (hR.keep hf (by simp) (by simp))).mono ?_
      rintro e w' ⟨rfl, ao', cap', h1, h2⟩
      rw [hsync] at h1 ⊢
      exact ⟨rfl, ⟨ao', cap', h1⟩, h2⟩
    · rintro e w' ⟨rfl, h1, h2⟩
      exact ⟨_, _, rfl, stepAt_le _ _ _ hp (fun h0 => by have := ((shortF_size (xs.drop p) 0 0 h0).2.2); rw [List.length_drop, ← hL] at this; omega), h1, h2⟩
  · have hsync := rdBy_dead (shortF 0 0) 0 (xs.drop p) er he
    refine (takese (some ⟨g, 0, none⟩) false (some ⟨t, 0, none⟩) L (L + 1) (p : Int) (er : Int) (p : Int) (er : Int) 0 k n wd ms tx [g] (fun w' => ∃ ao' cap', Rd w' g r (xs.drop p) er ao' cap') w hk
      (fun W hf => xVar_dead false _ L (L + 1) _ _ W (Or.inr (by omega))) (fun W hf => ?_) (by intro x hx; simp at hx; rw [hx]; exact hR.lt) (hQ _ _)).mono ?_
    · refine (rVar_any g r _ _ _ _ _ (hR.keep hf (by simp) (by simp))).mono ?_
      rintro e w' ⟨rfl, ao', cap', h1, h2⟩
      rw [hsync] at h1 ⊢
      exact ⟨rfl, ⟨ao', cap', h1⟩, h2⟩
    · rintro e w' ⟨rfl, h1, h2⟩
      exact ⟨_, _, rfl, hp, h1, h2⟩

theorem takesLive (g r t L p er : Nat) (xs : List Nat) (aoR : Option Addr) (capR : Nat) (k n wd ms : Int) (tx : ByteArray) (w : World) (hm0 : -9223372036854775808 ≤ ms) (hm1 : ms ≤ 9223372036854775807)
    (hR : Rd w g r (xs.drop p) er aoR capR) (hrow : w.heap[t]? = some (.cells (bts (xs ++ [77])).toArray 5 (0, 0))) (hb : ∀ x ∈ xs, x < 256) (hL : L = xs.length) (hLl : L < 2^40) (hp : p ≤ L) :
    Calls Try.prog 13 #[.pointer (some ⟨g, 0, none⟩), (.agg #[.bool false, (.slice (some ⟨t, 0, none⟩) L (L + 1)), .int .i64 (p : Int), .int .i64 (er : Int)]), .agg #[.int .u8 k, .int .u64 n, .int .i64 wd, .string tx, .int .i64 ms]] w fun e w' => ∃ p1 e1 : Nat, e = .returned (.tuple #[(.agg #[.bool false, (.slice (some ⟨t, 0, none⟩) L (L + 1)), .int .i64 (p1 : Int), .int .i64 (e1 : Int)]), .bool true]) ∧ p1 ≤ L ∧ (∃ ao' cap', Rd w' g r (xs.drop p1) e1 ao' cap') ∧ Fr [g] w w' := by
  rcases (show k = 1 ∨ k = 3 ∨ k = 4 ∨ (k ≠ 1 ∧ k ≠ 3 ∧ k ≠ 4) from by omega) with hk | hk | hk | hk
  · exact takesLive1 g r t L p er xs aoR capR k n wd ms tx w hk hm0 hm1 hR hrow hb hL hLl hp
  · exact takesLive3 g r t L p er xs aoR capR k n wd ms tx w hk hm0 hm1 hR hrow hb hL hLl hp
  · exact takesLive4 g r t L p er xs aoR capR k n wd ms tx w hk hm0 hm1 hR hrow hb hL hLl hp
  · exact takesLivee g r t L p er xs aoR capR k n wd ms tx w hk hm0 hm1 hR hrow hb hL hLl hp
theorem takesOut (po : Option Addr) (k n wd ms : Int) (tx : ByteArray) (w : World) (h : Out w po) :
    Calls Try.prog 13 #[.pointer po, (.agg #[.bool true, (.slice none 0 0), .int .i64 0, .int .i64 0]), .agg #[.int .u8 k, .int .u64 n, .int .i64 wd, .string tx, .int .i64 ms]] w fun e w' => e = .returned (.tuple #[(.agg #[.bool true, (.slice none 0 0), .int .i64 0, .int .i64 0]), .bool true]) ∧ True ∧ Fr [] w w' := by
  have tr : ∀ (f : Nat) (args : Array Value) (W : World) (v : Value), AnsF f args W v → RdA f args W v [] (fun _ => True) := fun f args W v hh => hh.calls.mono (fun e w' ⟨h1, h2⟩ => ⟨h1, trivial, h2⟩)
  rcases (show k = 1 ∨ k = 3 ∨ k = 4 ∨ (k ≠ 1 ∧ k ≠ 3 ∧ k ≠ 4) from by omega) with hk | hk | hk | hk
  · exact takes1 po true none 0 0 0 0 0 0 0 k n wd ms tx [] (fun _ => True) w hk (fun W hf => xFixed_dead true _ 0 0 _ _ wd W (Or.inl rfl)) (fun W hf => tr _ _ _ _ (rFixed_out po wd W (h.keep hf))) (by simp) (by intros; trivial)
  · exact takes3 po true none 0 0 0 0 0 0 0 k n wd ms tx [] (fun _ => True) w hk (fun W hf => xInt_dead true _ 0 0 _ _ W (Or.inl rfl)) (fun W hf => tr _ _ _ _ (rInt_out po W (h.keep hf))) (by simp) (by intros; trivial)
  · exact takes4 po true none 0 0 0 0 0 0 ⟨#[]⟩ k n wd ms tx [] (fun _ => True) w hk (fun W hf => xText_dead true _ 0 0 _ _ ms W (Or.inl rfl)) (fun W hf => tr _ _ _ _ (rText_out po ms W (h.keep hf))) (by simp) (by intros; trivial)
  · exact takese po true none 0 0 0 0 0 0 0 k n wd ms tx [] (fun _ => True) w hk (fun W hf => xVar_dead true _ 0 0 _ _ W (Or.inl rfl)) (fun W hf => tr _ _ _ _ (rVar_out po W (h.keep hf))) (by simp) (by intros; trivial)
/-- takesLive's contract, kept from the walk. -/
def TkA (g r t L p er : Nat) (xs : List Nat) (k n wd ms : Int) (tx : ByteArray) (w : World) : Prop := Calls Try.prog 13 #[.pointer (some ⟨g, 0, none⟩), (.agg #[.bool false, (.slice (some ⟨t, 0, none⟩) L (L + 1)), .int .i64 (p : Int), .int .i64 (er : Int)]), .agg #[.int .u8 k, .int .u64 n, .int .i64 wd, .string tx, .int .i64 ms]] w fun e w' => ∃ p1 e1 : Nat, e = .returned (.tuple #[(.agg #[.bool false, (.slice (some ⟨t, 0, none⟩) L (L + 1)), .int .i64 (p1 : Int), .int .i64 (e1 : Int)]), .bool true]) ∧ p1 ≤ L ∧ (∃ ao' cap', Rd w' g r (xs.drop p1) e1 ao' cap') ∧ Fr [g] w w'
theorem TkA.calls {g r t L p er : Nat} {xs : List Nat} {k n wd ms : Int} {tx : ByteArray} {w : World} (h : TkA g r t L p er xs k n wd ms tx w) : Calls Try.prog 13 #[.pointer (some ⟨g, 0, none⟩), (.agg #[.bool false, (.slice (some ⟨t, 0, none⟩) L (L + 1)), .int .i64 (p : Int), .int .i64 (er : Int)]), .agg #[.int .u8 k, .int .u64 n, .int .i64 wd, .string tx, .int .i64 ms]] w fun e w' => ∃ p1 e1 : Nat, e = .returned (.tuple #[(.agg #[.bool false, (.slice (some ⟨t, 0, none⟩) L (L + 1)), .int .i64 (p1 : Int), .int .i64 (e1 : Int)]), .bool true]) ∧ p1 ≤ L ∧ (∃ ao' cap', Rd w' g r (xs.drop p1) e1 ao' cap') ∧ Fr [g] w w' := h
end Go.Proofs.Ytcajoihfdeoikaa

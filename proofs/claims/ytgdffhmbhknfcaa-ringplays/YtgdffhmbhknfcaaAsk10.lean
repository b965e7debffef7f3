/- Contract of the law's own helper asked, of two rings that hold the same. Conditions as each names them. -/
import Derived.Test.YtgdffhmbhknfcaaPs10
import Derived.Deep.Cut
namespace Go.Proofs.Ytgdffhmbhknfcaa
open Go.ChangeShapes Go.WideShapes Go.ChangeAt Go.RowKit Go.Lib
set_option linter.unusedVariables false
set_option linter.unusedSimpArgs false

/-- The program's ring at p and the document's at q hold the same, and lie apart. -/
structure AS (W : World) (p q : Option Addr) (O1 O2 : List Nat) (C : Nat) (xs : List Int) (cl : Bool) : Prop where
  ps : PS W p O1 C xs cl
  qs : QS W q O2 C xs cl
  dj : ∀ b ∈ O1, b ∉ O2
  pq : ∀ a, p = some a → a.block ∉ O2
section
variable {W W' : World} {p q : Option Addr} {O1 O2 : List Nat} {C : Nat} {xs : List Int} {cl : Bool}
theorem AS.same (h : AS W p q O1 O2 C xs cl) (hf : Fr [] W W') : AS W' p q O1 O2 C xs cl := ⟨h.ps.same hf, h.qs.same hf, h.dj, h.pq⟩
theorem AS.keep {S : List Nat} (h : AS W p q O1 O2 C xs cl) (hf : Fr S W W') (hp : ∀ a, p = some a → a.block ∉ S) (h1 : ∀ b ∈ O1, b ∉ S) (h2 : ∀ b ∈ O2, b ∉ S) : AS W' p q O1 O2 C xs cl := ⟨h.ps.keep hf hp h1, h.qs.keep hf h2, h.dj, h.pq⟩
/-- Behind a call of the one, and one of the other. -/
theorem AS.two {W1 W2 : World} {O1' O2' : List Nat} {xs' : List Int} {cl' : Bool} (h : AS W p q O1 O2 C xs cl) (h1 : PS W1 p O1' C xs' cl') (f1 : Fr O1 W W1) (n1 : Nw W O1 O1') (h2 : QS W2 q O2' C xs' cl') (f2 : Fr O2 W1 W2) (n2 : Nw W1 O2 O2') :
    AS W2 p q O1' O2' C xs' cl' ∧ Fr (O1 ++ O2) W W2 ∧ Nw W (O1 ++ O2) (O1' ++ O2') := by
  have hs := f1.size
  have hl1 := h1.lt
  have hl2 := h.qs.lt
  have hl := h.ps.lt
  have d1 : ∀ b ∈ O1', b ∉ O2 := fun b hb hb2 => by
    rcases n1 b hb with h3 | h3
    · exact h.dj b h3 hb2
    · have := hl2 b hb2; omega
  refine ⟨⟨h1.keep f2 h.pq d1, h2, fun b hb hb2 => ?_, fun a e hb2 => ?_⟩, (f1.mono (by simp +contextual)).then (f2.mono (by simp +contextual)), fun b hb => ?_⟩
  · rcases n2 b hb2 with h3 | h3
    · exact d1 b hb h3
    · have := hl1.1 b hb; omega
  · rcases n2 _ hb2 with h3 | h3
    · exact h.pq a e h3
    · have := hl.2 a e; omega
  · simp only [List.mem_append] at hb ⊢
    rcases hb with hb | hb
    · rcases n1 b hb with h3 | h3
      · exact Or.inl (Or.inl h3)
      · exact Or.inr h3
    · rcases n2 b hb with h3 | h3
      · exact Or.inl (Or.inr h3)
      · exact Or.inr (by omega)
end
set_option maxHeartbeats 16000000 in
set_option maxRecDepth 100000 in
theorem asked_put (p q : Option Addr) (O1 O2 : List Nat) (C : Nat) (xs : List Int) (cl : Bool) (X : Int) (w : World) (h : AS w p q O1 O2 C xs cl) (hX : -9223372036854775808 ≤ X ∧ X ≤ 9223372036854775807) :
    Calls Try.prog 9 #[.pointer p, .pointer q, .agg #[.int .u8 1, .int .i64 X]] w fun e w' => e = .returned (.bool true) ∧ ∃ O1' O2' xs' cl', AS w' p q O1' O2' C xs' cl' ∧ Fr (O1 ++ O2) w w' ∧ Nw w (O1 ++ O2) (O1' ++ O2') := by
  have hfew := h.ps.few
  have hb1 : (w.alloc (.cells #[.int .u8 1, .int .i64 X] 36)).heap[w.heap.size]? = some (.cells #[.int .u8 1, .int .i64 X] 36 (0, 0)) := heap_alloc_new w _
  have hF0 : Fr [] w (w.alloc (.cells #[.int .u8 1, .int .i64 X] 36)) := Fr.alloc _ _ _
  have HA0 : Hid (AS (w.alloc (.cells #[.int .u8 1, .int .i64 X] 36)) p q O1 O2 C xs cl) := h.same hF0
  have hl1 := h.ps.lt.1
  have hl2 := h.qs.lt
  have HN1 : Hid (∀ b, b ∈ O1 ++ O2 → b ≠ w.heap.size) := fun b hb e => by
    simp only [List.mem_append] at hb
    rcases hb with hb | hb
    · have := hl1 b hb; omega
    · have := hl2 b hb; omega
  clear h hl1 hl2
  go_enter Try.func9, Try.ntmps9
  go_upto_region 1 with fail
  obtain ⟨w1, HW1⟩ : ∃ w1, Hid (w.alloc (.cells #[.int .u8 1, .int .i64 X] 36) = w1) := ⟨_, rfl⟩
  rw [HW1.out] at hb1 hF0 HA0 ⊢
  obtain ⟨bx, hbx⟩ : ∃ bx, bx = w.heap.size := ⟨_, rfl⟩
  rw [← hbx] at hb1 HN1 ⊢
  clear HW1
  have HS : Hid (∀ S V, (∀ b ∈ S, b ∈ O1 ++ O2) → Fr S w1 V → V.cell? ⟨bx, 0, none⟩ = some (.int .u8 1) ∧ V.cell? ⟨bx, 1, none⟩ = some (.int .i64 X)) := fun S V hS hf => by
    have := hf.keep hb1 (fun hh => HN1.out bx (hS _ hh) rfl)
    exact ⟨by rw [cell_of_row _ _ _ _ _ _ this]; rfl, by rw [cell_of_row _ _ _ _ _ _ this]; rfl⟩
  have HNw1 : Hid (∀ O', Nw w1 (O1 ++ O2) O' → Nw w (O1 ++ O2) O') := fun O' hn b hb => by
    rcases hn b hb with h3 | h3
    · exact Or.inl h3
    · have := hF0.size; exact Or.inr (by omega)
  obtain ⟨c0, c1⟩ := HS.out [] w1 (by simp) (Fr.refl _ _)
  clear hb1 hbx
  obtain ⟨B, hB⟩ : ∃ B, B = (!cl && decide (xs.length < C)) := ⟨_, rfl⟩
  have hBB : (B != B) = false := by cases B <;> rfl
  have P1 : Hid (∀ V, Fr [] w1 V → Calls _ _ _ _ _) := fun V hf => ps_put X B (HA0.out.ps.same hf) hB
  have P2 : Hid (∀ V, Fr O1 w1 V → Calls _ _ _ _ _) := fun V hf => qs_put X B (HA0.out.qs.keep hf (fun b hb hb1 => HA0.out.dj b hb1 hb)) hB
  clear hB
  go_wp2_with fail
  go_region_held3 (fun V => V.cell? ⟨bx, 0, none⟩ = some (.int .u8 1) ∧ V.cell? ⟨bx, 1, none⟩ = some (.int .i64 X)) (go_keep)
    (first
      | (with_reducible refine Calls.mono (P2.out _ hG2) ?_; rintro e w3 ⟨rfl, O2', hQ3, hF3, hN3⟩; have hG3 := (hG2.mono (T := O1 ++ O2) (by simp +contextual)).then (hF3.mono (by simp +contextual)); obtain ⟨e0, e1⟩ := HS.out (O1 ++ O2) w3 (fun b h => h) hG3)
      | (with_reducible refine Calls.mono (P1.out _ (Fr.drew _ _)) ?_; rintro e w2 ⟨rfl, O1', hP2, hF2, hN2⟩; have hG2 : Fr O1 w1 w2 := (Fr.drew _ w1).then hF2; obtain ⟨d0, d1⟩ := HS.out O1 w2 (by simp +contextual) hG2))
  all_goals (
    obtain ⟨hAS, hFS, hNS⟩ := HA0.out.two hP2 hG2 hN2 hQ3 hF3 hN3
    have HA : Hid (AS w3 p q O1' O2' C (putT B xs X) cl) := hAS
    have HFr : Hid (Fr (O1 ++ O2) w w3) := (hF0.mono (by simp)).then hFS
    have HNw : Hid (Nw w (O1 ++ O2) (O1' ++ O2')) := HNw1.out _ hNS
    clear hAS hFS hNS hP2 hQ3 hF3 hN3 hF2 hN2 hG2 hG3 P1 P2 c0 c1 d0 d1 e0 e1

    -- the calls that change nothing
    obtain ⟨x9, hx9⟩ : ∃ x9, x9 = (putT B xs X).headD 0 := ⟨_, rfl⟩
    obtain ⟨b9, hb9⟩ : ∃ b9, b9 = !(putT B xs X).isEmpty := ⟨_, rfl⟩
    obtain ⟨n9, hn9⟩ : ∃ n9, n9 = (putT B xs X).length := ⟨_, rfl⟩
    obtain ⟨r9, hr9⟩ : ∃ r9, r9 = if cl then 0 else C - (putT B xs X).length := ⟨_, rfl⟩
    obtain ⟨o9, ho9⟩ : ∃ o9, o9 = (cl && decide ((putT B xs X).length = 0)) := ⟨_, rfl⟩
    have T1 : Hid (∀ V, Fr [] w3 V → Calls _ _ _ _ _) := fun V hf => ps_first x9 b9 (HA.out.ps.same hf) hx9 hb9
    have T2 : Hid (∀ V, Fr [] w3 V → Calls _ _ _ _ _) := fun V hf => qs_first x9 b9 (HA.out.qs.same hf) hx9 hb9
    have T3 : Hid (∀ V, Fr [] w3 V → Calls _ _ _ _ _) := fun V hf => ps_len n9 (HA.out.ps.same hf) hn9
    have T4 : Hid (∀ V, Fr [] w3 V → Calls _ _ _ _ _) := fun V hf => qs_len n9 (HA.out.qs.same hf) hn9
    have T5 : Hid (∀ V, Fr [] w3 V → Calls _ _ _ _ _) := fun V hf => ps_room r9 (HA.out.ps.same hf) hr9
    have T6 : Hid (∀ V, Fr [] w3 V → Calls _ _ _ _ _) := fun V hf => qs_room r9 (HA.out.qs.same hf) hr9
    have T7 : Hid (∀ V, Fr [] w3 V → Calls _ _ _ _ _) := fun V hf => ps_over o9 (HA.out.ps.same hf) ho9
    have T8 : Hid (∀ V, Fr [] w3 V → Calls _ _ _ _ _) := fun V hf => qs_over o9 (HA.out.qs.same hf) ho9
    clear hx9 hb9 hn9 hr9 ho9
    go_wp2_with fail
    refine Calls.mono (T1.out _ (Fr.refl _ _)) ?_
    rintro e v1 ⟨rfl, f1⟩
    go_wp2_with fail
    refine Calls.mono (T2.out _ f1) ?_
    rintro e v2 ⟨rfl, f2⟩
    have f2 := f1.then f2
    go_wp2_with fail
    refine Calls.mono (T3.out _ f2) ?_
    rintro e v3 ⟨rfl, f3⟩
    have f3 := f2.then f3
    go_wp2_with fail
    refine Calls.mono (T4.out _ f3) ?_
    rintro e v4 ⟨rfl, f4⟩
    have f4 := f3.then f4
    go_wp2_with fail
    refine Calls.mono (T5.out _ f4) ?_
    rintro e v5 ⟨rfl, f5⟩
    have f5 := f4.then f5
    go_wp2_with fail
    refine Calls.mono (T6.out _ f5) ?_
    rintro e v6 ⟨rfl, f6⟩
    have f6 := f5.then f6
    go_wp2_with fail
    refine Calls.mono (T7.out _ f6) ?_
    rintro e v7 ⟨rfl, f7⟩
    have f7 := f6.then f7
    go_wp2_with fail
    refine Calls.mono (T8.out _ f7) ?_
    rintro e v8 ⟨rfl, f8⟩
    have f8 := f7.then f8
    go_wp2
    go_ret
    exact ⟨rfl, _, _, _, _, HA.out.same f8, HFr.out.then (f8.mono (by simp)), HNw.out⟩)
set_option maxHeartbeats 16000000 in
set_option maxRecDepth 100000 in
theorem asked_take (p q : Option Addr) (O1 O2 : List Nat) (C : Nat) (xs : List Int) (cl : Bool) (X : Int) (w : World) (h : AS w p q O1 O2 C xs cl) (hX : -9223372036854775808 ≤ X ∧ X ≤ 9223372036854775807) :
    Calls Try.prog 9 #[.pointer p, .pointer q, .agg #[.int .u8 2, .int .i64 X]] w fun e w' => e = .returned (.bool true) ∧ ∃ O1' O2' xs' cl', AS w' p q O1' O2' C xs' cl' ∧ Fr (O1 ++ O2) w w' ∧ Nw w (O1 ++ O2) (O1' ++ O2') := by
  have hfew := h.ps.few
  have hb1 : (w.alloc (.cells #[.int .u8 2, .int .i64 X] 36)).heap[w.heap.size]? = some (.cells #[.int .u8 2, .int .i64 X] 36 (0, 0)) := heap_alloc_new w _
  have hF0 : Fr [] w (w.alloc (.cells #[.int .u8 2, .int .i64 X] 36)) := Fr.alloc _ _ _
  have HA0 : Hid (AS (w.alloc (.cells #[.int .u8 2, .int .i64 X] 36)) p q O1 O2 C xs cl) := h.same hF0
  have hl1 := h.ps.lt.1
  have hl2 := h.qs.lt
  have HN1 : Hid (∀ b, b ∈ O1 ++ O2 → b ≠ w.heap.size) := fun b hb e => by
    simp only [List.mem_append] at hb
    rcases hb with hb | hb
    · have := hl1 b hb; omega
    · have := hl2 b hb; omega
  clear h hl1 hl2
  go_enter Try.func9, Try.ntmps9
  go_upto_region 1 with fail
  obtain ⟨w1, HW1⟩ : ∃ w1, Hid (w.alloc (.cells #[.int .u8 2, .int .i64 X] 36) = w1) := ⟨_, rfl⟩
  rw [HW1.out] at hb1 hF0 HA0 ⊢
  obtain ⟨bx, hbx⟩ : ∃ bx, bx = w.heap.size := ⟨_, rfl⟩
  rw [← hbx] at hb1 HN1 ⊢
  clear HW1
  have HS : Hid (∀ S V, (∀ b ∈ S, b ∈ O1 ++ O2) → Fr S w1 V → V.cell? ⟨bx, 0, none⟩ = some (.int .u8 2) ∧ V.cell? ⟨bx, 1, none⟩ = some (.int .i64 X)) := fun S V hS hf => by
    have := hf.keep hb1 (fun hh => HN1.out bx (hS _ hh) rfl)
    exact ⟨by rw [cell_of_row _ _ _ _ _ _ this]; rfl, by rw [cell_of_row _ _ _ _ _ _ this]; rfl⟩
  have HNw1 : Hid (∀ O', Nw w1 (O1 ++ O2) O' → Nw w (O1 ++ O2) O') := fun O' hn b hb => by
    rcases hn b hb with h3 | h3
    · exact Or.inl h3
    · have := hF0.size; exact Or.inr (by omega)
  obtain ⟨c0, c1⟩ := HS.out [] w1 (by simp) (Fr.refl _ _)
  clear hb1 hbx
  obtain ⟨x, hx⟩ : ∃ x, x = xs.headD 0 := ⟨_, rfl⟩
  obtain ⟨B, hB⟩ : ∃ B, B = !xs.isEmpty := ⟨_, rfl⟩
  have hBB : (B != B) = false := by cases B <;> rfl
  have hxx : (x != x) = false := by simp
  have P1 : Hid (Calls _ _ _ _ _) := ps_take x B HA0.out.ps hx hB
  have P2 : Hid (∀ V, Fr O1 w1 V → Calls _ _ _ _ _) := fun V hf => qs_take x B (HA0.out.qs.keep hf (fun b hb hb1 => HA0.out.dj b hb1 hb)) hx hB
  clear hB hx
  go_wp2_with fail
  refine Calls.mono P1.out ?_
  rintro e w2 ⟨rfl, hP2, hF2⟩
  go_wp2_with fail
  refine Calls.mono (P2.out _ hF2) ?_
  rintro e w3 ⟨rfl, hQ3, hF3⟩
  obtain ⟨hAS, hFS, hNS⟩ := HA0.out.two hP2 hF2 (Nw.refl _ _) hQ3 hF3 (Nw.refl _ _)
  have HA : Hid (AS w3 p q O1 O2 C xs.tail cl) := hAS
  have HFr : Hid (Fr (O1 ++ O2) w w3) := (hF0.mono (by simp)).then hFS
  have HNw : Hid (Nw w (O1 ++ O2) (O1 ++ O2)) := HNw1.out _ hNS
  clear hAS hFS hNS hP2 hQ3 hF3 hF2 P1 P2 c0 c1

  -- the calls that change nothing
  obtain ⟨x9, hx9⟩ : ∃ x9, x9 = (xs.tail).headD 0 := ⟨_, rfl⟩
  obtain ⟨b9, hb9⟩ : ∃ b9, b9 = !(xs.tail).isEmpty := ⟨_, rfl⟩
  obtain ⟨n9, hn9⟩ : ∃ n9, n9 = (xs.tail).length := ⟨_, rfl⟩
  obtain ⟨r9, hr9⟩ : ∃ r9, r9 = if cl then 0 else C - (xs.tail).length := ⟨_, rfl⟩
  obtain ⟨o9, ho9⟩ : ∃ o9, o9 = (cl && decide ((xs.tail).length = 0)) := ⟨_, rfl⟩
  have T1 : Hid (∀ V, Fr [] w3 V → Calls _ _ _ _ _) := fun V hf => ps_first x9 b9 (HA.out.ps.same hf) hx9 hb9
  have T2 : Hid (∀ V, Fr [] w3 V → Calls _ _ _ _ _) := fun V hf => qs_first x9 b9 (HA.out.qs.same hf) hx9 hb9
  have T3 : Hid (∀ V, Fr [] w3 V → Calls _ _ _ _ _) := fun V hf => ps_len n9 (HA.out.ps.same hf) hn9
  have T4 : Hid (∀ V, Fr [] w3 V → Calls _ _ _ _ _) := fun V hf => qs_len n9 (HA.out.qs.same hf) hn9
  have T5 : Hid (∀ V, Fr [] w3 V → Calls _ _ _ _ _) := fun V hf => ps_room r9 (HA.out.ps.same hf) hr9
  have T6 : Hid (∀ V, Fr [] w3 V → Calls _ _ _ _ _) := fun V hf => qs_room r9 (HA.out.qs.same hf) hr9
  have T7 : Hid (∀ V, Fr [] w3 V → Calls _ _ _ _ _) := fun V hf => ps_over o9 (HA.out.ps.same hf) ho9
  have T8 : Hid (∀ V, Fr [] w3 V → Calls _ _ _ _ _) := fun V hf => qs_over o9 (HA.out.qs.same hf) ho9
  clear hx9 hb9 hn9 hr9 ho9
  go_wp2_with fail
  refine Calls.mono (T1.out _ (Fr.refl _ _)) ?_
  rintro e v1 ⟨rfl, f1⟩
  go_wp2_with fail
  refine Calls.mono (T2.out _ f1) ?_
  rintro e v2 ⟨rfl, f2⟩
  have f2 := f1.then f2
  go_wp2_with fail
  refine Calls.mono (T3.out _ f2) ?_
  rintro e v3 ⟨rfl, f3⟩
  have f3 := f2.then f3
  go_wp2_with fail
  refine Calls.mono (T4.out _ f3) ?_
  rintro e v4 ⟨rfl, f4⟩
  have f4 := f3.then f4
  go_wp2_with fail
  refine Calls.mono (T5.out _ f4) ?_
  rintro e v5 ⟨rfl, f5⟩
  have f5 := f4.then f5
  go_wp2_with fail
  refine Calls.mono (T6.out _ f5) ?_
  rintro e v6 ⟨rfl, f6⟩
  have f6 := f5.then f6
  go_wp2_with fail
  refine Calls.mono (T7.out _ f6) ?_
  rintro e v7 ⟨rfl, f7⟩
  have f7 := f6.then f7
  go_wp2_with fail
  refine Calls.mono (T8.out _ f7) ?_
  rintro e v8 ⟨rfl, f8⟩
  have f8 := f7.then f8
  go_wp2
  go_ret
  exact ⟨rfl, _, _, _, _, HA.out.same f8, HFr.out.then (f8.mono (by simp)), HNw.out⟩
set_option maxHeartbeats 16000000 in
set_option maxRecDepth 100000 in
theorem asked_close (p q : Option Addr) (O1 O2 : List Nat) (C : Nat) (xs : List Int) (cl : Bool) (X : Int) (w : World) (h : AS w p q O1 O2 C xs cl) (hX : -9223372036854775808 ≤ X ∧ X ≤ 9223372036854775807) :
    Calls Try.prog 9 #[.pointer p, .pointer q, .agg #[.int .u8 3, .int .i64 X]] w fun e w' => e = .returned (.bool true) ∧ ∃ O1' O2' xs' cl', AS w' p q O1' O2' C xs' cl' ∧ Fr (O1 ++ O2) w w' ∧ Nw w (O1 ++ O2) (O1' ++ O2') := by
  have hfew := h.ps.few
  have hb1 : (w.alloc (.cells #[.int .u8 3, .int .i64 X] 36)).heap[w.heap.size]? = some (.cells #[.int .u8 3, .int .i64 X] 36 (0, 0)) := heap_alloc_new w _
  have hF0 : Fr [] w (w.alloc (.cells #[.int .u8 3, .int .i64 X] 36)) := Fr.alloc _ _ _
  have HA0 : Hid (AS (w.alloc (.cells #[.int .u8 3, .int .i64 X] 36)) p q O1 O2 C xs cl) := h.same hF0
  have hl1 := h.ps.lt.1
  have hl2 := h.qs.lt
  have HN1 : Hid (∀ b, b ∈ O1 ++ O2 → b ≠ w.heap.size) := fun b hb e => by
    simp only [List.mem_append] at hb
    rcases hb with hb | hb
    · have := hl1 b hb; omega
    · have := hl2 b hb; omega
  clear h hl1 hl2
  go_enter Try.func9, Try.ntmps9
  go_upto_region 1 with fail
  obtain ⟨w1, HW1⟩ : ∃ w1, Hid (w.alloc (.cells #[.int .u8 3, .int .i64 X] 36) = w1) := ⟨_, rfl⟩
  rw [HW1.out] at hb1 hF0 HA0 ⊢
  obtain ⟨bx, hbx⟩ : ∃ bx, bx = w.heap.size := ⟨_, rfl⟩
  rw [← hbx] at hb1 HN1 ⊢
  clear HW1
  have HS : Hid (∀ S V, (∀ b ∈ S, b ∈ O1 ++ O2) → Fr S w1 V → V.cell? ⟨bx, 0, none⟩ = some (.int .u8 3) ∧ V.cell? ⟨bx, 1, none⟩ = some (.int .i64 X)) := fun S V hS hf => by
    have := hf.keep hb1 (fun hh => HN1.out bx (hS _ hh) rfl)
    exact ⟨by rw [cell_of_row _ _ _ _ _ _ this]; rfl, by rw [cell_of_row _ _ _ _ _ _ this]; rfl⟩
  have HNw1 : Hid (∀ O', Nw w1 (O1 ++ O2) O' → Nw w (O1 ++ O2) O') := fun O' hn b hb => by
    rcases hn b hb with h3 | h3
    · exact Or.inl h3
    · have := hF0.size; exact Or.inr (by omega)
  obtain ⟨c0, c1⟩ := HS.out [] w1 (by simp) (Fr.refl _ _)
  clear hb1 hbx
  have P1 : Hid (Calls _ _ _ _ _) := ps_close HA0.out.ps
  have P2 : Hid (∀ V, Fr O1 w1 V → Calls _ _ _ _ _) := fun V hf => qs_close (HA0.out.qs.keep hf (fun b hb hb1 => HA0.out.dj b hb1 hb))
  go_wp2_with fail
  refine Calls.mono P1.out ?_
  rintro e w2 ⟨⟨v, rfl⟩, hP2, hF2⟩
  go_wp2_with fail
  refine Calls.mono (P2.out _ hF2) ?_
  rintro e w3 ⟨⟨v', rfl⟩, hQ3, hF3⟩
  obtain ⟨hAS, hFS, hNS⟩ := HA0.out.two hP2 hF2 (Nw.refl _ _) hQ3 hF3 (Nw.refl _ _)
  obtain ⟨cl', hcl'⟩ : ∃ cl', cl' = decide (0 < C) := ⟨_, rfl⟩
  rw [← hcl'] at hAS
  have HA : Hid (AS w3 p q O1 O2 C xs cl') := hAS
  have HFr : Hid (Fr (O1 ++ O2) w w3) := (hF0.mono (by simp)).then hFS
  have HNw : Hid (Nw w (O1 ++ O2) (O1 ++ O2)) := HNw1.out _ hNS
  clear hAS hFS hNS hP2 hQ3 hF3 hF2 P1 P2 c0 c1 hcl'

  -- the calls that change nothing
  obtain ⟨x9, hx9⟩ : ∃ x9, x9 = (xs).headD 0 := ⟨_, rfl⟩
  obtain ⟨b9, hb9⟩ : ∃ b9, b9 = !(xs).isEmpty := ⟨_, rfl⟩
  obtain ⟨n9, hn9⟩ : ∃ n9, n9 = (xs).length := ⟨_, rfl⟩
  obtain ⟨r9, hr9⟩ : ∃ r9, r9 = if cl' then 0 else C - (xs).length := ⟨_, rfl⟩
  obtain ⟨o9, ho9⟩ : ∃ o9, o9 = (cl' && decide ((xs).length = 0)) := ⟨_, rfl⟩
  have T1 : Hid (∀ V, Fr [] w3 V → Calls _ _ _ _ _) := fun V hf => ps_first x9 b9 (HA.out.ps.same hf) hx9 hb9
  have T2 : Hid (∀ V, Fr [] w3 V → Calls _ _ _ _ _) := fun V hf => qs_first x9 b9 (HA.out.qs.same hf) hx9 hb9
  have T3 : Hid (∀ V, Fr [] w3 V → Calls _ _ _ _ _) := fun V hf => ps_len n9 (HA.out.ps.same hf) hn9
  have T4 : Hid (∀ V, Fr [] w3 V → Calls _ _ _ _ _) := fun V hf => qs_len n9 (HA.out.qs.same hf) hn9
  have T5 : Hid (∀ V, Fr [] w3 V → Calls _ _ _ _ _) := fun V hf => ps_room r9 (HA.out.ps.same hf) hr9
  have T6 : Hid (∀ V, Fr [] w3 V → Calls _ _ _ _ _) := fun V hf => qs_room r9 (HA.out.qs.same hf) hr9
  have T7 : Hid (∀ V, Fr [] w3 V → Calls _ _ _ _ _) := fun V hf => ps_over o9 (HA.out.ps.same hf) ho9
  have T8 : Hid (∀ V, Fr [] w3 V → Calls _ _ _ _ _) := fun V hf => qs_over o9 (HA.out.qs.same hf) ho9
  clear hx9 hb9 hn9 hr9 ho9
  go_wp2_with fail
  refine Calls.mono (T1.out _ (Fr.refl _ _)) ?_
  rintro e v1 ⟨rfl, f1⟩
  go_wp2_with fail
  refine Calls.mono (T2.out _ f1) ?_
  rintro e v2 ⟨rfl, f2⟩
  have f2 := f1.then f2
  go_wp2_with fail
  refine Calls.mono (T3.out _ f2) ?_
  rintro e v3 ⟨rfl, f3⟩
  have f3 := f2.then f3
  go_wp2_with fail
  refine Calls.mono (T4.out _ f3) ?_
  rintro e v4 ⟨rfl, f4⟩
  have f4 := f3.then f4
  go_wp2_with fail
  refine Calls.mono (T5.out _ f4) ?_
  rintro e v5 ⟨rfl, f5⟩
  have f5 := f4.then f5
  go_wp2_with fail
  refine Calls.mono (T6.out _ f5) ?_
  rintro e v6 ⟨rfl, f6⟩
  have f6 := f5.then f6
  go_wp2_with fail
  refine Calls.mono (T7.out _ f6) ?_
  rintro e v7 ⟨rfl, f7⟩
  have f7 := f6.then f7
  go_wp2_with fail
  refine Calls.mono (T8.out _ f7) ?_
  rintro e v8 ⟨rfl, f8⟩
  have f8 := f7.then f8
  go_wp2
  go_ret
  exact ⟨rfl, _, _, _, _, HA.out.same f8, HFr.out.then (f8.mono (by simp)), HNw.out⟩
set_option maxHeartbeats 16000000 in
set_option maxRecDepth 100000 in
theorem asked_look (p q : Option Addr) (O1 O2 : List Nat) (C : Nat) (xs : List Int) (cl : Bool) (k : Nat) (X : Int) (w : World) (h : AS w p q O1 O2 C xs cl) (hk : k ≤ 255) (h1 : k ≠ 1) (h2 : k ≠ 2) (h3 : k ≠ 3) (h4 : k ≠ 4) (hX : -9223372036854775808 ≤ X ∧ X ≤ 9223372036854775807) :
    Calls Try.prog 9 #[.pointer p, .pointer q, .agg #[.int .u8 (k : Int), .int .i64 X]] w fun e w' => e = .returned (.bool true) ∧ ∃ O1' O2' xs' cl', AS w' p q O1' O2' C xs' cl' ∧ Fr (O1 ++ O2) w w' ∧ Nw w (O1 ++ O2) (O1' ++ O2') := by
  have hfew := h.ps.few
  have hb1 : (w.alloc (.cells #[.int .u8 (k : Int), .int .i64 X] 36)).heap[w.heap.size]? = some (.cells #[.int .u8 (k : Int), .int .i64 X] 36 (0, 0)) := heap_alloc_new w _
  have hF0 : Fr [] w (w.alloc (.cells #[.int .u8 (k : Int), .int .i64 X] 36)) := Fr.alloc _ _ _
  have HA0 : Hid (AS (w.alloc (.cells #[.int .u8 (k : Int), .int .i64 X] 36)) p q O1 O2 C xs cl) := h.same hF0
  have hl1 := h.ps.lt.1
  have hl2 := h.qs.lt
  have HN1 : Hid (∀ b, b ∈ O1 ++ O2 → b ≠ w.heap.size) := fun b hb e => by
    simp only [List.mem_append] at hb
    rcases hb with hb | hb
    · have := hl1 b hb; omega
    · have := hl2 b hb; omega
  clear h hl1 hl2
  go_enter Try.func9, Try.ntmps9
  go_upto_region 1 with fail
  obtain ⟨w1, HW1⟩ : ∃ w1, Hid (w.alloc (.cells #[.int .u8 (k : Int), .int .i64 X] 36) = w1) := ⟨_, rfl⟩
  rw [HW1.out] at hb1 hF0 HA0 ⊢
  obtain ⟨bx, hbx⟩ : ∃ bx, bx = w.heap.size := ⟨_, rfl⟩
  rw [← hbx] at hb1 HN1 ⊢
  clear HW1
  have HS : Hid (∀ S V, (∀ b ∈ S, b ∈ O1 ++ O2) → Fr S w1 V → V.cell? ⟨bx, 0, none⟩ = some (.int .u8 (k : Int)) ∧ V.cell? ⟨bx, 1, none⟩ = some (.int .i64 X)) := fun S V hS hf => by
    have := hf.keep hb1 (fun hh => HN1.out bx (hS _ hh) rfl)
    exact ⟨by rw [cell_of_row _ _ _ _ _ _ this]; rfl, by rw [cell_of_row _ _ _ _ _ _ this]; rfl⟩
  have HNw1 : Hid (∀ O', Nw w1 (O1 ++ O2) O' → Nw w (O1 ++ O2) O') := fun O' hn b hb => by
    rcases hn b hb with h3 | h3
    · exact Or.inl h3
    · have := hF0.size; exact Or.inr (by omega)
  obtain ⟨c0, c1⟩ := HS.out [] w1 (by simp) (Fr.refl _ _)
  clear hb1 hbx
  have HA : Hid (AS w1 p q O1 O2 C xs cl) := HA0.out
  have HFr : Hid (Fr (O1 ++ O2) w w1) := hF0.mono (by simp)
  have HNw : Hid (Nw w (O1 ++ O2) (O1 ++ O2)) := Nw.refl _ _
  have g1 : ¬ (k : Int) = 1 := by omega
  have g2 : ¬ (k : Int) = 2 := by omega
  have g3 : ¬ (k : Int) = 3 := by omega
  have g4 : ¬ (k : Int) = 4 := by omega
  clear h1 h2 h3 h4

  -- the calls that change nothing
  obtain ⟨x9, hx9⟩ : ∃ x9, x9 = (xs).headD 0 := ⟨_, rfl⟩
  obtain ⟨b9, hb9⟩ : ∃ b9, b9 = !(xs).isEmpty := ⟨_, rfl⟩
  obtain ⟨n9, hn9⟩ : ∃ n9, n9 = (xs).length := ⟨_, rfl⟩
  obtain ⟨r9, hr9⟩ : ∃ r9, r9 = if cl then 0 else C - (xs).length := ⟨_, rfl⟩
  obtain ⟨o9, ho9⟩ : ∃ o9, o9 = (cl && decide ((xs).length = 0)) := ⟨_, rfl⟩
  have T1 : Hid (∀ V, Fr [] w1 V → Calls _ _ _ _ _) := fun V hf => ps_first x9 b9 (HA.out.ps.same hf) hx9 hb9
  have T2 : Hid (∀ V, Fr [] w1 V → Calls _ _ _ _ _) := fun V hf => qs_first x9 b9 (HA.out.qs.same hf) hx9 hb9
  have T3 : Hid (∀ V, Fr [] w1 V → Calls _ _ _ _ _) := fun V hf => ps_len n9 (HA.out.ps.same hf) hn9
  have T4 : Hid (∀ V, Fr [] w1 V → Calls _ _ _ _ _) := fun V hf => qs_len n9 (HA.out.qs.same hf) hn9
  have T5 : Hid (∀ V, Fr [] w1 V → Calls _ _ _ _ _) := fun V hf => ps_room r9 (HA.out.ps.same hf) hr9
  have T6 : Hid (∀ V, Fr [] w1 V → Calls _ _ _ _ _) := fun V hf => qs_room r9 (HA.out.qs.same hf) hr9
  have T7 : Hid (∀ V, Fr [] w1 V → Calls _ _ _ _ _) := fun V hf => ps_over o9 (HA.out.ps.same hf) ho9
  have T8 : Hid (∀ V, Fr [] w1 V → Calls _ _ _ _ _) := fun V hf => qs_over o9 (HA.out.qs.same hf) ho9
  clear hx9 hb9 hn9 hr9 ho9
  go_wp2_with fail
  refine Calls.mono (T1.out _ (Fr.refl _ _)) ?_
  rintro e v1 ⟨rfl, f1⟩
  go_wp2_with fail
  refine Calls.mono (T2.out _ f1) ?_
  rintro e v2 ⟨rfl, f2⟩
  have f2 := f1.then f2
  go_wp2_with fail
  refine Calls.mono (T3.out _ f2) ?_
  rintro e v3 ⟨rfl, f3⟩
  have f3 := f2.then f3
  go_wp2_with fail
  refine Calls.mono (T4.out _ f3) ?_
  rintro e v4 ⟨rfl, f4⟩
  have f4 := f3.then f4
  go_wp2_with fail
  refine Calls.mono (T5.out _ f4) ?_
  rintro e v5 ⟨rfl, f5⟩
  have f5 := f4.then f5
  go_wp2_with fail
  refine Calls.mono (T6.out _ f5) ?_
  rintro e v6 ⟨rfl, f6⟩
  have f6 := f5.then f6
  go_wp2_with fail
  refine Calls.mono (T7.out _ f6) ?_
  rintro e v7 ⟨rfl, f7⟩
  have f7 := f6.then f7
  go_wp2_with fail
  refine Calls.mono (T8.out _ f7) ?_
  rintro e v8 ⟨rfl, f8⟩
  have f8 := f7.then f8
  go_wp2
  go_ret
  exact ⟨rfl, _, _, _, _, HA.out.same f8, HFr.out.then (f8.mono (by simp)), HNw.out⟩
set_option maxHeartbeats 16000000 in
set_option maxRecDepth 100000 in
theorem asked_all (p q : Option Addr) (O1 O2 : List Nat) (C : Nat) (xs : List Int) (cl : Bool) (X : Int) (w : World) (h : AS w p q O1 O2 C xs cl) (hX : -9223372036854775808 ≤ X ∧ X ≤ 9223372036854775807) :
    Calls Try.prog 9 #[.pointer p, .pointer q, .agg #[.int .u8 4, .int .i64 X]] w fun e w' => e = .returned (.bool true) ∧ ∃ O1' O2' xs' cl', AS w' p q O1' O2' C xs' cl' ∧ Fr (O1 ++ O2) w w' ∧ Nw w (O1 ++ O2) (O1' ++ O2') := by
  have hfew := h.ps.few
  have hb1 : (w.alloc (.cells #[.int .u8 4, .int .i64 X] 36)).heap[w.heap.size]? = some (.cells #[.int .u8 4, .int .i64 X] 36 (0, 0)) := heap_alloc_new w _
  have hF0 : Fr [] w (w.alloc (.cells #[.int .u8 4, .int .i64 X] 36)) := Fr.alloc _ _ _
  have HA0 : Hid (AS (w.alloc (.cells #[.int .u8 4, .int .i64 X] 36)) p q O1 O2 C xs cl) := h.same hF0
  have hl1 := h.ps.lt.1
  have hl2 := h.qs.lt
  have HN1 : Hid (∀ b, b ∈ O1 ++ O2 → b ≠ w.heap.size) := fun b hb e => by
    simp only [List.mem_append] at hb
    rcases hb with hb | hb
    · have := hl1 b hb; omega
    · have := hl2 b hb; omega
  clear h hl1 hl2
  go_enter Try.func9, Try.ntmps9
  go_upto_region 1 with fail
  obtain ⟨w1, HW1⟩ : ∃ w1, Hid (w.alloc (.cells #[.int .u8 4, .int .i64 X] 36) = w1) := ⟨_, rfl⟩
  rw [HW1.out] at hb1 hF0 HA0 ⊢
  obtain ⟨bx, hbx⟩ : ∃ bx, bx = w.heap.size := ⟨_, rfl⟩
  rw [← hbx] at hb1 HN1 ⊢
  clear HW1
  have HS : Hid (∀ S V, (∀ b ∈ S, b ∈ O1 ++ O2) → Fr S w1 V → V.cell? ⟨bx, 0, none⟩ = some (.int .u8 4) ∧ V.cell? ⟨bx, 1, none⟩ = some (.int .i64 X)) := fun S V hS hf => by
    have := hf.keep hb1 (fun hh => HN1.out bx (hS _ hh) rfl)
    exact ⟨by rw [cell_of_row _ _ _ _ _ _ this]; rfl, by rw [cell_of_row _ _ _ _ _ _ this]; rfl⟩
  have HNw1 : Hid (∀ O', Nw w1 (O1 ++ O2) O' → Nw w (O1 ++ O2) O') := fun O' hn b hb => by
    rcases hn b hb with h3 | h3
    · exact Or.inl h3
    · have := hF0.size; exact Or.inr (by omega)
  obtain ⟨c0, c1⟩ := HS.out [] w1 (by simp) (Fr.refl _ _)
  clear hb1 hbx
  have P1 : Hid (∀ V, Fr [] w1 V → Calls _ _ _ _ _) := fun V hf => ps_gone X (HA0.out.ps.same hf) hX
  have P2 : Hid (∀ V, Fr [] w1 V → Calls _ _ _ _ _) := fun V hf => qs_all (HA0.out.qs.same hf)
  have hlt : (xs.take X.toNat).length ≤ 65536 := by rw [List.length_take]; omega
  have P3 : Hid (∀ lo n c V, QR V lo n c xs → Calls Try.prog 24 #[.slice lo n c, .int .i64 X] V fun e w' => ∃ n', e = .returned (.slice lo n' c) ∧ QR w' lo n' c (xs.take X.toNat) ∧ Fr [] V w') := fun lo n c V hQ => few_any lo n c xs X V hQ (by have := hQ.len; omega) hX
  have P4 : Hid (∀ a n ca b m cb V, QR V a n ca (xs.take X.toNat) → QR V b m cb (xs.take X.toNat) → Calls Try.prog 10 #[.slice a n ca, .slice b m cb] V fun e w' => e = .returned (.bool true) ∧ Fr [] V w') := fun a n ca b m cb V ha hb => sameInts_any a b n m ca cb _ V ha hb hlt
  clear hlt
  go_wp2_with fail
  go_region_held3 (fun V => V.cell? ⟨bx, 0, none⟩ = some (.int .u8 4) ∧ V.cell? ⟨bx, 1, none⟩ = some (.int .i64 X)) (go_keep)
    (first
      | (with_reducible refine Calls.mono (P4.out _ _ _ _ _ _ _ k4 k5) ?_; rintro e w5 ⟨rfl, hF5⟩; have hG5 := hG4.then hF5; obtain ⟨e0, e1⟩ := HS.out [] w5 (by simp) hG5)
      | (with_reducible refine Calls.mono (P3.out _ _ _ _ k3) ?_; rintro e w4 ⟨n4, rfl, k5, hF4⟩; have hG4 := hG3.then hF4; have k4 := k2.keep hF4 (by simp); obtain ⟨e0, e1⟩ := HS.out [] w4 (by simp) hG4)
      | (with_reducible refine Calls.mono (P2.out _ hG2) ?_; rintro e w3 ⟨lo3, n3, c3, rfl, k3, hF3⟩; have hG3 := hG2.then hF3; have k2 := k1.keep hF3 (by simp); obtain ⟨e0, e1⟩ := HS.out [] w3 (by simp) hG3)
      | (with_reducible refine Calls.mono (P1.out _ (Fr.drew _ _)) ?_; rintro e w2 ⟨lo2, n2, c2, rfl, k1, hF2⟩; have hG2 : Fr [] w1 w2 := (Fr.drew _ w1).then hF2; obtain ⟨d0, d1⟩ := HS.out [] w2 (by simp) hG2))
  all_goals (
    have HA : Hid (AS w5 p q O1 O2 C xs cl) := HA0.out.same hG5
    have HFr : Hid (Fr (O1 ++ O2) w w5) := (hF0.mono (by simp)).then (hG5.mono (by simp))
    have HNw : Hid (Nw w (O1 ++ O2) (O1 ++ O2)) := Nw.refl _ _
    clear P1 P2 P3 P4

    -- the calls that change nothing
    obtain ⟨x9, hx9⟩ : ∃ x9, x9 = (xs).headD 0 := ⟨_, rfl⟩
    obtain ⟨b9, hb9⟩ : ∃ b9, b9 = !(xs).isEmpty := ⟨_, rfl⟩
    obtain ⟨n9, hn9⟩ : ∃ n9, n9 = (xs).length := ⟨_, rfl⟩
    obtain ⟨r9, hr9⟩ : ∃ r9, r9 = if cl then 0 else C - (xs).length := ⟨_, rfl⟩
    obtain ⟨o9, ho9⟩ : ∃ o9, o9 = (cl && decide ((xs).length = 0)) := ⟨_, rfl⟩
    have T1 : Hid (∀ V, Fr [] w5 V → Calls _ _ _ _ _) := fun V hf => ps_first x9 b9 (HA.out.ps.same hf) hx9 hb9
    have T2 : Hid (∀ V, Fr [] w5 V → Calls _ _ _ _ _) := fun V hf => qs_first x9 b9 (HA.out.qs.same hf) hx9 hb9
    have T3 : Hid (∀ V, Fr [] w5 V → Calls _ _ _ _ _) := fun V hf => ps_len n9 (HA.out.ps.same hf) hn9
    have T4 : Hid (∀ V, Fr [] w5 V → Calls _ _ _ _ _) := fun V hf => qs_len n9 (HA.out.qs.same hf) hn9
    have T5 : Hid (∀ V, Fr [] w5 V → Calls _ _ _ _ _) := fun V hf => ps_room r9 (HA.out.ps.same hf) hr9
    have T6 : Hid (∀ V, Fr [] w5 V → Calls _ _ _ _ _) := fun V hf => qs_room r9 (HA.out.qs.same hf) hr9
    have T7 : Hid (∀ V, Fr [] w5 V → Calls _ _ _ _ _) := fun V hf => ps_over o9 (HA.out.ps.same hf) ho9
    have T8 : Hid (∀ V, Fr [] w5 V → Calls _ _ _ _ _) := fun V hf => qs_over o9 (HA.out.qs.same hf) ho9
    clear hx9 hb9 hn9 hr9 ho9
    go_wp2_with fail
    refine Calls.mono (T1.out _ (Fr.refl _ _)) ?_
    rintro e v1 ⟨rfl, f1⟩
    go_wp2_with fail
    refine Calls.mono (T2.out _ f1) ?_
    rintro e v2 ⟨rfl, f2⟩
    have f2 := f1.then f2
    go_wp2_with fail
    refine Calls.mono (T3.out _ f2) ?_
    rintro e v3 ⟨rfl, f3⟩
    have f3 := f2.then f3
    go_wp2_with fail
    refine Calls.mono (T4.out _ f3) ?_
    rintro e v4 ⟨rfl, f4⟩
    have f4 := f3.then f4
    go_wp2_with fail
    refine Calls.mono (T5.out _ f4) ?_
    rintro e v5 ⟨rfl, f5⟩
    have f5 := f4.then f5
    go_wp2_with fail
    refine Calls.mono (T6.out _ f5) ?_
    rintro e v6 ⟨rfl, f6⟩
    have f6 := f5.then f6
    go_wp2_with fail
    refine Calls.mono (T7.out _ f6) ?_
    rintro e v7 ⟨rfl, f7⟩
    have f7 := f6.then f7
    go_wp2_with fail
    refine Calls.mono (T8.out _ f7) ?_
    rintro e v8 ⟨rfl, f8⟩
    have f8 := f7.then f8
    go_wp2
    go_ret
    exact ⟨rfl, _, _, _, _, HA.out.same f8, HFr.out.then (f8.mono (by simp)), HNw.out⟩)
theorem asked_any (p q : Option Addr) (O1 O2 : List Nat) (C : Nat) (xs : List Int) (cl : Bool) (k : Nat) (X : Int) (w : World) (h : AS w p q O1 O2 C xs cl) (hk : k ≤ 255) (hX : -9223372036854775808 ≤ X ∧ X ≤ 9223372036854775807) :
    Calls Try.prog 9 #[.pointer p, .pointer q, .agg #[.int .u8 (k : Int), .int .i64 X]] w fun e w' => e = .returned (.bool true) ∧ ∃ O1' O2' xs' cl', AS w' p q O1' O2' C xs' cl' ∧ Fr (O1 ++ O2) w w' ∧ Nw w (O1 ++ O2) (O1' ++ O2') := by
  by_cases h1 : k = 1
  · subst h1; exact asked_put p q O1 O2 C xs cl X w h hX
  by_cases h2 : k = 2
  · subst h2; exact asked_take p q O1 O2 C xs cl X w h hX
  by_cases h3 : k = 3
  · subst h3; exact asked_close p q O1 O2 C xs cl X w h hX
  by_cases h4 : k = 4
  · subst h4; exact asked_all p q O1 O2 C xs cl X w h hX
  exact asked_look p q O1 O2 C xs cl k X w h hk h1 h2 h3 h4 hX
end Go.Proofs.Ytgdffhmbhknfcaa

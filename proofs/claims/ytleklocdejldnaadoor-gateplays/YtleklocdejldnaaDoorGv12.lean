/- Both gates side by side, there or not: Done, looks, Beyond, Mark; Beyond of two lengths. Conditions as each names them. -/
import Derived.Test.YtleklocdejldnaaDoorLw12
namespace Go.Proofs.YtleklocdejldnaaDoor
open Go.ChangeShapes Go.WideShapes Go.ChangeAt Go.RowKit Go.Lib Go.Maps
set_option linter.unusedVariables false
set_option linter.unusedSimpArgs false

theorem beyond2_any (k N M : Nat) (w : World) (hN : N ≤ 9007199254740992) (hM : M ≤ 9007199254740992) (h0 : w.cell? ⟨k, 0, none⟩ = some (.int .i64 (N : Int))) (h1 : w.cell? ⟨k, 1, none⟩ = some (.int .i64 (M : Int))) :
    Calls Tryd.prog 6 #[.slice (some ⟨k, 0, none⟩) 2 2] w fun e w' => e = .returned (.bool (decide (1048576 < N + M))) ∧ w = w' := by
  by_cases h : 1048576 < N
  · have h' : (1048576 : Int) < N := by omega
    have E : Hid (decide (1048576 < N + M) = true) := by show decide _ = true; simp; omega
    go_enter Tryd.func6, Tryd.ntmps6
    go_wp2_with fail
    refine wp_loop_rounds 1 ?_
    rw [rounds_succ]
    go_wp2
    go_ret
    rw [E.out]
    exact ⟨rfl, rfl⟩
  · have h' : (N : Int) ≤ 1048576 := by omega
    by_cases h3 : 1048576 < N + M
    · have h3' : (1048576 : Int) < (N : Int) + M := by omega
      have E : Hid (decide (1048576 < N + M) = true) := by show decide _ = true; simp; omega
      go_enter Tryd.func6, Tryd.ntmps6
      go_wp2_with fail
      refine wp_loop_rounds 2 ?_
      rw [rounds_succ]
      go_wp2
      rw [rounds_succ]
      go_wp2
      go_ret
      rw [E.out]
      exact ⟨rfl, rfl⟩
    · have h3' : (N : Int) + M ≤ 1048576 := by omega
      have E : Hid (decide (1048576 < N + M) = false) := by show decide _ = false; simp; omega
      go_enter Tryd.func6, Tryd.ntmps6
      go_wp2_with fail
      refine wp_loop_rounds 3 ?_
      rw [rounds_succ]
      go_wp2
      rw [rounds_succ]
      go_wp2
      rw [rounds_succ]
      go_wp2
      go_ret
      rw [E.out]
      exact ⟨rfl, rfl⟩
/-- A zero gate in block z. -/
def ZG (w : World) (z : Nat) : Prop := ∃ cs, w.heap[z]? = some (.cells cs 53 (0, 0)) ∧ cs[0]? = some (.bool false)
theorem ZG.keep {S : List Nat} {w w' : World} {z : Nat} (h : ZG w z) (hf : Fr S w w') (hn : z ∉ S) : ZG w' z := by
  obtain ⟨cs, h1, h2⟩ := h
  exact ⟨cs, hf.keep h1 hn, h2⟩
theorem ZG.no {w : World} {z : Nat} (h : ZG w z) : NoG w (some ⟨z, 0, none⟩) := by
  obtain ⟨cs, h1, h2⟩ := h
  exact Or.inr ⟨z, rfl, lt_of_block h1, by rw [cell_of_row _ _ _ _ _ _ h1]; exact h2⟩
/-- Both gates, there or not: their blocks, the document's row, the mark, those beyond. -/
def Pq (w : World) (p q : Option Addr) (gb ob : List Nat) (lo : Option Addr) (m : Int) (xs : List Int) : Prop :=
  (p = none ∧ q = none ∧ gb = [] ∧ ob = [] ∧ lo = none ∧ m = 0 ∧ xs = []) ∨ (∃ g gs n c, p = some ⟨g, 0, none⟩ ∧ q = some ⟨gs, 0, none⟩ ∧ gb = [g] ∧ ob = [gs] ∧ GG w g m xs ∧ OG w gs lo n c m xs)
section
variable {w w' : World} {p q : Option Addr} {gb ob : List Nat} {lo : Option Addr} {m : Int} {xs : List Int}
theorem GG.ty {g : Nat} (h : GG w g m xs) : ∃ cs, w.heap[g]? = some (.cells cs 53 (0, 0)) := by
  obtain ⟨ws, h1, _⟩ := h.mem
  exact ⟨_, h1.box⟩
theorem blk_ne {a b : Nat} {ca cb : Array Value} {ta tb : TypeId} (ha : w.heap[a]? = some (.cells ca ta (0, 0))) (hb : w.heap[b]? = some (.cells cb tb (0, 0))) (h : ta ≠ tb) : a ≠ b := by
  rintro rfl
  rw [ha] at hb
  simp only [Option.some.injEq, Obj.cells.injEq] at hb
  exact h hb.2.1
theorem Pq.keep {S : List Nat} (h : Pq w p q gb ob lo m xs) (hf : Fr S w w') (hS : ∀ k cs, w.heap[k]? = some (.cells cs 53 (0, 0)) ∨ w.heap[k]? = some (.cells cs 67 (0, 0)) → k ∈ gb ++ ob → k ∉ S) (hl : ∀ b, qb lo = some b → b ∉ S) : Pq w' p q gb ob lo m xs := by
  rcases h with h | ⟨g, gs, n, c, rfl, rfl, rfl, rfl, h1, h2⟩
  · exact Or.inl h
  · obtain ⟨cs, hg⟩ := h1.ty
    exact Or.inr ⟨g, gs, n, c, rfl, rfl, rfl, rfl, h1.keep hf (hS g cs (Or.inl hg) (by simp)), h2.keep hf (hS gs _ (Or.inr h2.box) (by simp)) hl⟩
theorem Pq.quiet (h : Pq w p q gb ob lo m xs) (hf : Fr [] w w') : Pq w' p q gb ob lo m xs := h.keep hf (by simp) (by simp)
theorem Pq.few (h : Pq w p q gb ob lo m xs) : xs.length ≤ 65536 := by
  rcases h with ⟨_, _, _, _, _, _, rfl⟩ | ⟨g, gs, n, c, _, _, _, _, h1, _⟩
  · simp
  · exact h1.ok.1.few
theorem Pq.rowT (h : Pq w p q gb ob lo m xs) {b : Nat} (hb : qb lo = some b) : ∃ cs, w.heap[b]? = some (.cells cs 3 (0, 0)) := by
  rcases h with ⟨_, _, _, _, rfl, _⟩ | ⟨g, gs, n, c, _, _, _, _, _, h2⟩
  · cases hb
  · exact h2.row.ty hb
theorem Pq.lt (h : Pq w p q gb ob lo m xs) {b : Nat} (hb : qb lo = some b) : b < w.heap.size := by
  obtain ⟨cs, h1⟩ := h.rowT hb
  exact lt_of_block h1
theorem Pq.glt (h : Pq w p q gb ob lo m xs) : ∀ k ∈ gb ++ ob, k < w.heap.size := by
  rcases h with ⟨_, _, rfl, rfl, _⟩ | ⟨g, gs, n, c, _, _, rfl, rfl, h1, h2⟩
  · simp
  · intro k hk
    simp at hk
    rcases hk with rfl | rfl
    · exact h1.lt
    · exact h2.lt
theorem pq_mark (h : Pq w p q gb ob lo m xs) : Calls Tryd.prog 19 #[.pointer p] w fun e w' => e = .returned (.int .i64 m) ∧ Fr [] w w' := by
  rcases h with ⟨rfl, rfl, _, _, _, rfl, rfl⟩ | ⟨g, gs, n, c, rfl, rfl, _, _, h1, h2⟩
  · refine (amark_no none w (Or.inl rfl)).mono ?_
    rintro e w' ⟨rfl, rfl⟩
    exact ⟨rfl, Fr.refl _ _⟩
  · exact gg_mark h1
theorem pq_omark (h : Pq w p q gb ob lo m xs) : Calls Tryd.prog 20 #[.pointer q] w fun e w' => e = .returned (.int .i64 m) ∧ Fr [] w w' := by
  rcases h with ⟨rfl, rfl, _, _, _, rfl, rfl⟩ | ⟨g, gs, n, c, rfl, rfl, _, _, h1, h2⟩
  · exact omark_nil w
  · exact omark_any w h2
theorem pq_beyond (h : Pq w p q gb ob lo m xs) (hT : Tz w) : Calls Tryd.prog 12 #[.pointer p] w fun e w' => ∃ o N c, e = .returned (.slice o N c) ∧ IOw w.heap.size w' o N c xs ∧ Fr [] w w' := by
  rcases h with ⟨rfl, rfl, _, _, _, rfl, rfl⟩ | ⟨g, gs, n, c, rfl, rfl, _, _, h1, h2⟩
  · refine (abeyond_none none w (Or.inl rfl)).mono ?_
    rintro e w' ⟨rfl, rfl⟩
    exact ⟨none, 0, 0, rfl, IOw.nil _ _, Fr.refl _ _⟩
  · exact gg_beyond h1 hT
theorem pq_obeyond (h : Pq w p q gb ob lo m xs) : Calls Tryd.prog 18 #[.pointer q] w fun e w' => ∃ o N c, e = .returned (.slice o N c) ∧ IOw w.heap.size w' o N c xs ∧ Fr [] w w' := by
  rcases h with ⟨rfl, rfl, _, _, _, rfl, rfl⟩ | ⟨g, gs, n, c, rfl, rfl, _, _, h1, h2⟩
  · refine (obeyond_nil w).mono ?_
    rintro e w' ⟨rfl, hF⟩
    exact ⟨none, 0, 0, rfl, IOw.nil _ _, hF⟩
  · refine (obeyond_any w h2).mono ?_
    rintro e w' ⟨o, rc, rfl, hO, hF⟩
    exact ⟨o, n, rc, rfl, hO, hF⟩
theorem pq_has (h : Pq w p q gb ob lo m xs) (n : Int) : ∃ b : Bool, (∀ W, Fr [] w W → Calls Tryd.prog 22 #[.pointer p, .int .i64 n] W fun e w' => e = .returned (.bool b) ∧ Fr [] W w') ∧ (∀ W, Fr [] w W → Calls Tryd.prog 61 #[.pointer q, .int .i64 n] W fun e w' => e = .returned (.bool b) ∧ Fr [] W w') := by
  rcases h with ⟨rfl, rfl, _, _, _, rfl, rfl⟩ | ⟨g, gs, k, c, rfl, rfl, _, _, h1, h2⟩
  · refine ⟨false, fun W _ => (ahas_no none n W (Or.inl rfl)).mono ?_, fun W _ => ohas_nil n W⟩
    rintro e w' ⟨rfl, rfl⟩
    exact ⟨rfl, Fr.refl _ _⟩
  · by_cases hb : 1 ≤ n ∧ (n ≤ m ∨ n ∈ xs)
    · exact ⟨true, fun W hf => gg_has (h1.keep hf (by simp)) n true ⟨fun _ => hb, fun _ => rfl⟩, fun W hf => ohas_any n true W (h2.keep hf (by simp) (by simp)) ⟨fun _ => hb, fun _ => rfl⟩⟩
    · exact ⟨false, fun W hf => gg_has (h1.keep hf (by simp)) n false ⟨fun e => (by cases e), fun e => absurd e hb⟩, fun W hf => ohas_any n false W (h2.keep hf (by simp) (by simp)) ⟨fun e => (by cases e), fun e => absurd e hb⟩⟩
/-- Done, on both sides. -/
theorem pq_done (h : Pq w p q gb ob lo m xs) (n : Int) : ∃ up er m' xs', Calls Tryd.prog 15 #[.pointer p, .int .i64 n] w fun e w1 => e = .returned (.tuple #[.int .i64 up, .int .i64 er]) ∧ Fr gb w w1 ∧
    Calls Tryd.prog 16 #[.pointer q, .int .i64 n] w1 fun e w2 => e = .returned (.tuple #[.int .i64 up, .int .i64 er]) ∧ Fr ob w1 w2 ∧ ∃ lo', Pq w2 p q gb ob lo' m' xs' ∧ ∀ b, qb lo' = some b → qb lo = some b ∨ w.heap.size ≤ b := by
  rcases h with ⟨rfl, rfl, rfl, rfl, rfl, rfl, rfl⟩ | ⟨g, gs, k, c, rfl, rfl, rfl, rfl, h1, h2⟩
  · refine ⟨0, 2, 0, [], (adone_none none n w (Or.inl rfl)).mono ?_⟩
    rintro e w1 ⟨rfl, rfl⟩
    refine ⟨rfl, Fr.refl _ _, (odone_nil n w).mono ?_⟩
    rintro e w2 ⟨rfl, hF⟩
    exact ⟨rfl, hF, none, Or.inl ⟨rfl, rfl, rfl, rfl, rfl, rfl, rfl⟩, fun b hb => (by cases hb)⟩
  · obtain ⟨up, er, m', xs', hd⟩ := DoT.ex m xs n h1.ok
    refine ⟨up, er, m', xs', (gg_done h1 hd).mono ?_⟩
    rintro e w1 ⟨rfl, hG1, hF1⟩
    obtain ⟨cs, hg⟩ := h1.ty
    have hne : gs ≠ g := blk_ne h2.box hg (by decide)
    have hO1 : OG w1 gs lo k c m xs := h2.keep hF1 (by simpa using hne) (fun b hb => by
      obtain ⟨cb, hb2⟩ := h2.row.ty hb
      simpa using blk_ne hb2 hg (by decide))
    refine ⟨rfl, hF1, (og_done hO1 hd).mono ?_⟩
    rintro e w2 ⟨rfl, ⟨lo', k', c', hO2, hl⟩, hF2⟩
    refine ⟨rfl, hF2, lo', Or.inr ⟨g, gs, k', c', rfl, rfl, rfl, rfl, hG1.keep hF2 (by simpa using hne.symm), hO2⟩, fun b hb => ?_⟩
    rcases hl b hb with e | e
    · exact Or.inl e
    · exact Or.inr (Nat.le_trans hF1.size e)
end
set_option maxHeartbeats 4000000 in
theorem looks_of {w : World} {p q : Option Addr} {m : Int} {xs : List Int} {b : Bool} (n : Int) (hx : xs.length ≤ 65536)
    (h1 : ∀ W, Fr [] w W → Calls Tryd.prog 19 #[.pointer p] W fun e w' => e = .returned (.int .i64 m) ∧ Fr [] W w') (h2 : ∀ W, Fr [] w W → Calls Tryd.prog 20 #[.pointer q] W fun e w' => e = .returned (.int .i64 m) ∧ Fr [] W w')
    (h3 : ∀ W, Fr [] w W → Calls Tryd.prog 22 #[.pointer p, .int .i64 n] W fun e w' => e = .returned (.bool b) ∧ Fr [] W w') (h4 : ∀ W, Fr [] w W → Calls Tryd.prog 61 #[.pointer q, .int .i64 n] W fun e w' => e = .returned (.bool b) ∧ Fr [] W w')
    (h5 : ∀ W, Fr [] w W → Calls Tryd.prog 12 #[.pointer p] W fun e w' => ∃ o N c, e = .returned (.slice o N c) ∧ IOw W.heap.size w' o N c xs ∧ Fr [] W w') (h6 : ∀ W, Fr [] w W → Calls Tryd.prog 18 #[.pointer q] W fun e w' => ∃ o N c, e = .returned (.slice o N c) ∧ IOw W.heap.size w' o N c xs ∧ Fr [] W w') :
    Calls Tryd.prog 14 #[.pointer p, .pointer q, .int .i64 n] w fun e w' => e = .returned (.bool true) ∧ Fr [] w w' := by
  have H1 : Hid _ := h1
  have H2 : Hid _ := h2
  have H3 : Hid _ := h3
  have H4 : Hid _ := h4
  have H5 : Hid _ := h5
  have H6 : Hid _ := h6
  have q1 : (m == m) = true := by simp
  have q2 : (b == b) = true := by simp
  clear h1 h2 h3 h4 h5 h6
  go_enter Tryd.func14, Tryd.ntmps14
  go_wp2_with fail
  refine Calls.mono (H1.out _ (Fr.refl _ _)) ?_
  rintro e w1 ⟨rfl, hF1⟩
  go_wp2_with fail
  refine Calls.mono (H2.out _ hF1) ?_
  rintro e w2 ⟨rfl, hF2⟩
  have hF2 := hF1.then hF2
  go_wp2_with fail
  refine Calls.mono (H3.out _ hF2) ?_
  rintro e w3 ⟨rfl, hF3⟩
  have hF3 := hF2.then hF3
  go_wp2_with fail
  refine Calls.mono (H4.out _ hF3) ?_
  rintro e w4 ⟨rfl, hF4⟩
  have hF4 := hF3.then hF4
  go_wp2_with fail
  refine Calls.mono (H5.out _ hF4) ?_
  rintro e w5 ⟨o, N, c, rfl, hO, hF5⟩
  have hF5 := hF4.then hF5
  go_wp2_with fail
  refine Calls.mono (H6.out _ hF5) ?_
  rintro e w6 ⟨o', N', c', rfl, hO', hF6⟩
  have e1 := hO.len
  have e2 := hO'.len
  obtain rfl : N' = N := by omega
  have HS : Hid (Calls _ _ _ _ _) := same12 o o' N' c c' xs w6 ((hO.rs (by omega)).keep hF6) (hO'.rs (by omega)) e1 (by omega)
  have hF6 := hF5.then hF6
  clear hO hO' e1 e2 hF1 hF2 hF3 hF4 hF5
  go_wp2_with fail
  refine Calls.mono HS.out ?_
  rintro e w7 ⟨rfl, hF7⟩
  go_wp2
  go_ret
  exact ⟨rfl, hF6.then hF7⟩
theorem pq_looks {w : World} {p q : Option Addr} {gb ob : List Nat} {lo : Option Addr} {m : Int} {xs : List Int} (h : Pq w p q gb ob lo m xs) (hT : Tz w) (n : Int) : Calls Tryd.prog 14 #[.pointer p, .pointer q, .int .i64 n] w fun e w' => e = .returned (.bool true) ∧ Fr [] w w' := by
  obtain ⟨b, h3, h4⟩ := pq_has h n
  exact looks_of (b := b) n h.few (fun W hf => pq_mark (h.quiet hf)) (fun W hf => pq_omark (h.quiet hf)) h3 h4 (fun W hf => pq_beyond (h.quiet hf) (hT.keep hf (by simp))) (fun W hf => pq_obeyond (h.quiet hf))
theorem zg_looks {w : World} {z : Nat} (h : ZG w z) (n : Int) : Calls Tryd.prog 14 #[.pointer (some ⟨z, 0, none⟩), .pointer none, .int .i64 n] w fun e w' => e = .returned (.bool true) ∧ Fr [] w w' := by
  have hn : ∀ W, Fr [] w W → NoG W (some ⟨z, 0, none⟩) := fun W hf => (h.keep hf (by simp)).no
  refine looks_of (b := false) (m := 0) (xs := []) n (by simp) (fun W hf => (amark_no _ W (hn W hf)).mono ?_) (fun W hf => omark_nil W) (fun W hf => (ahas_no _ n W (hn W hf)).mono ?_) (fun W hf => ohas_nil n W) (fun W hf => (abeyond_none _ W (hn W hf)).mono ?_) (fun W hf => (obeyond_nil W).mono ?_)
  · rintro e w' ⟨rfl, rfl⟩; exact ⟨rfl, Fr.refl _ _⟩
  · rintro e w' ⟨rfl, rfl⟩; exact ⟨rfl, Fr.refl _ _⟩
  · rintro e w' ⟨rfl, rfl⟩; exact ⟨none, 0, 0, rfl, IOw.nil _ _, Fr.refl _ _⟩
  · rintro e w' ⟨rfl, hF⟩; exact ⟨none, 0, 0, rfl, IOw.nil _ _, hF⟩
end Go.Proofs.YtleklocdejldnaaDoor

/- A ring and the document's, there or not, told by what they hold; the helpers few, SameInts. Conditions as each names them. -/
import Derived.Test.YtgdffhmbhknfcaaGn10
import Derived.Test.YtgdffhmbhknfcaaQc10
import Derived.Test.YtgdffhmbhknfcaaRn10
namespace Go.Proofs.Ytgdffhmbhknfcaa
open Go.ChangeShapes Go.WideShapes Go.ChangeAt Go.RowKit Go.Lib
set_option linter.unusedVariables false
set_option linter.unusedSimpArgs false

/-- The program's ring at p: its blocks O; C its capacity (0: it is not there), xs its things. -/
def PS (W : World) (p : Option Addr) (O : List Nat) (C : Nat) (xs : List Int) (cl : Bool) : Prop :=
  (∃ g pb, p = some ⟨g, 0, none⟩ ∧ O = Rg.own g pb ∧ Rg W g pb C xs cl) ∨ (NoR W p ∧ O = [] ∧ C = 0 ∧ xs = [] ∧ cl = false)
/-- The document's ring at q. -/
def QS (W : World) (q : Option Addr) (O : List Nat) (C : Nat) (xs : List Int) (cl : Bool) : Prop :=
  (∃ k lo n c, q = some ⟨k, 0, none⟩ ∧ O = k :: (qb lo).toList ∧ QM W k lo n c C xs cl) ∨ (q = none ∧ O = [] ∧ C = 0 ∧ xs = [] ∧ cl = false)
/-- No block of O' is another's: it is of O, or new. -/
def Nw (W : World) (O O' : List Nat) : Prop := ∀ b ∈ O', b ∈ O ∨ W.heap.size ≤ b
theorem Nw.refl (W : World) (O : List Nat) : Nw W O O := fun b hb => Or.inl hb
def putT (B : Bool) (xs : List Int) (x : Int) : List Int := if B then xs ++ [x] else xs
section
variable {W W' : World} {p q : Option Addr} {O : List Nat} {C : Nat} {xs : List Int} {cl : Bool}
theorem PS.keep {S : List Nat} (h : PS W p O C xs cl) (hf : Fr S W W') (hp : ∀ a, p = some a → a.block ∉ S) (hO : ∀ b ∈ O, b ∉ S) : PS W' p O C xs cl := by
  rcases h with ⟨g, pb, rfl, rfl, h⟩ | ⟨h, h2⟩
  · exact Or.inl ⟨g, pb, rfl, rfl, h.keep hf (hO g (by simp [Rg.own])) (fun b e => hO b (by simp [Rg.own, e]))⟩
  · exact Or.inr ⟨h.keep hf hp, h2⟩
theorem PS.same (h : PS W p O C xs cl) (hf : Fr [] W W') : PS W' p O C xs cl := h.keep hf (by simp) (by simp)
theorem PS.lt (h : PS W p O C xs cl) : (∀ b ∈ O, b < W.heap.size) ∧ ∀ a, p = some a → a.block < W.heap.size := by
  rcases h with ⟨g, pb, rfl, rfl, h⟩ | ⟨h, rfl, _⟩
  · refine ⟨fun b hb => ?_, fun a e => by cases e; exact h.lt⟩
    simp only [Rg.own, List.mem_cons, Option.mem_toList] at hb
    rcases hb with rfl | hb
    · exact h.lt
    · exact h.plt hb
  · refine ⟨by simp, fun a e => ?_⟩
    rcases h with rfl | ⟨z, rfl, hz⟩
    · cases e
    · cases e; exact lt_of_block hz
theorem PS.few (h : PS W p O C xs cl) : xs.length ≤ C ∧ C ≤ 65536 := by
  rcases h with ⟨g, pb, rfl, rfl, h⟩ | ⟨h, rfl, rfl, rfl, _⟩
  · have := h.few; omega
  · simp
theorem PS.own (h : PS W p O C xs cl) : ∀ a, p = some a → a.block ∈ O ∨ O = [] := by
  rcases h with ⟨g, pb, rfl, rfl, h⟩ | ⟨h, rfl, _⟩
  · intro a e; cases e; exact Or.inl (by simp [Rg.own])
  · intro a e; exact Or.inr rfl
theorem QS.keep {S : List Nat} (h : QS W q O C xs cl) (hf : Fr S W W') (hO : ∀ b ∈ O, b ∉ S) : QS W' q O C xs cl := by
  rcases h with ⟨k, lo, n, c, rfl, rfl, h⟩ | h
  · exact Or.inl ⟨k, lo, n, c, rfl, rfl, h.keep hf (hO k (by simp)) (fun b e => hO b (by simp [e]))⟩
  · exact Or.inr h
theorem QS.same (h : QS W q O C xs cl) (hf : Fr [] W W') : QS W' q O C xs cl := h.keep hf (by simp)
theorem QS.lt (h : QS W q O C xs cl) : ∀ b ∈ O, b < W.heap.size := by
  rcases h with ⟨k, lo, n, c, rfl, rfl, h⟩ | ⟨_, rfl, _⟩
  · intro b hb
    simp only [List.mem_cons, Option.mem_toList] at hb
    rcases hb with rfl | hb
    · exact h.lt
    · exact h.blt hb
  · simp
theorem ps_put (x : Int) (B : Bool) (h : PS W p O C xs cl) (hB : B = (!cl && decide (xs.length < C))) : Calls Try.prog 14 #[.pointer p, .int .i64 x] W fun e W' => e = .returned (.bool B) ∧ ∃ O', PS W' p O' C (putT B xs x) cl ∧ Fr O W W' ∧ Nw W O O' := by
  subst hB
  rcases h with ⟨g, pb, rfl, rfl, h⟩ | ⟨h, rfl, rfl, rfl, rfl⟩
  · have hfew := h.few
    by_cases hr : cl = false ∧ xs.length < C
    · obtain ⟨rfl, hr⟩ := hr
      refine (gput_any x W h hr).mono ?_
      rintro e W' ⟨rfl, pb', hR, hF, hM⟩
      refine ⟨by simp [hr], Rg.own g pb', Or.inl ⟨g, pb', rfl, rfl, by simp [putT, hr]; exact hR⟩, hF, ?_⟩
      intro b hb
      simp only [Rg.own, List.mem_cons, Option.mem_toList] at hb ⊢
      rcases hb with rfl | hb
      · exact Or.inl (Or.inl rfl)
      · rcases hM with rfl | ⟨k, rfl, hk⟩
        · exact Or.inl (Or.inr hb)
        · cases hb; exact Or.inr hk
    · obtain ⟨N, F, K, ps, h1⟩ := h
      have hb : (!cl && decide (xs.length < C)) = false := by
        cases cl with
        | true => rfl
        | false => simp at hr ⊢; omega
      refine (gput_full x W h1 (by
        cases cl with
        | true => exact Or.inl rfl
        | false => right; rw [← h1.pl.cnt]; simp at hr; omega)).mono ?_
      rintro e W' ⟨rfl, hF⟩
      rw [hb]
      exact ⟨rfl, _, Or.inl ⟨g, pb, rfl, rfl, ⟨N, F, K, ps, h1.keep hF (by simp) (by simp)⟩⟩, hF.mono (by simp), Nw.refl _ _⟩
  · refine (gput_no p x W h).mono ?_
    rintro e W' ⟨rfl, rfl⟩
    exact ⟨rfl, [], Or.inr ⟨h, rfl, rfl, rfl, rfl⟩, Fr.refl _ _, Nw.refl _ _⟩
theorem qs_put (x : Int) (B : Bool) (h : QS W q O C xs cl) (hB : B = (!cl && decide (xs.length < C))) : Calls Try.prog 21 #[.pointer q, .int .i64 x] W fun e W' => e = .returned (.bool B) ∧ ∃ O', QS W' q O' C (putT B xs x) cl ∧ Fr O W W' ∧ Nw W O O' := by
  subst hB
  rcases h with ⟨k, lo, n, c, rfl, rfl, h⟩ | ⟨rfl, rfl, rfl, rfl, rfl⟩
  · have hfew := h.few
    have hl := h.row.len
    by_cases hr : cl = false ∧ xs.length < C
    · obtain ⟨rfl, hr⟩ := hr
      refine (qput_any x W h (by omega)).mono ?_
      rintro e W' ⟨rfl, lo', n', c', hR, hF, hM⟩
      refine ⟨by simp [hr], _, Or.inl ⟨k, lo', n', c', rfl, rfl, by simp [putT, hr]; exact hR⟩, hF, ?_⟩
      intro b hb
      simp only [List.mem_cons, Option.mem_toList] at hb ⊢
      rcases hb with rfl | hb
      · exact Or.inl (Or.inl rfl)
      · rcases hM with e | ⟨k, e, hk⟩
        · rw [e] at hb; exact Or.inl (Or.inr hb)
        · rw [e] at hb; cases hb; exact Or.inr hk
    · have hb : (!cl && decide (xs.length < C)) = false := by
        cases cl with
        | true => rfl
        | false => simp at hr ⊢; omega
      refine (qput_full x W h (by
        cases cl with
        | true => exact Or.inl rfl
        | false => right; simp at hr; omega)).mono ?_
      rintro e W' ⟨rfl, hF⟩
      rw [hb]
      exact ⟨rfl, _, Or.inl ⟨k, lo, n, c, rfl, rfl, h.keep hF (by simp) (by simp)⟩, hF.mono (by simp), Nw.refl _ _⟩
  · refine (qput_nil x W).mono ?_
    rintro e W' ⟨rfl, hF⟩
    exact ⟨rfl, [], Or.inr ⟨rfl, rfl, rfl, rfl, rfl⟩, hF, Nw.refl _ _⟩
theorem ps_take (x : Int) (B : Bool) (h : PS W p O C xs cl) (hx : x = xs.headD 0) (hB : B = !xs.isEmpty) : Calls Try.prog 15 #[.pointer p] W fun e W' => e = .returned (.tuple #[.int .i64 x, .bool B]) ∧ PS W' p O C xs.tail cl ∧ Fr O W W' := by
  subst hx hB
  rcases h with ⟨g, pb, rfl, rfl, h⟩ | ⟨h, rfl, rfl, rfl, rfl⟩
  · cases xs with
    | nil =>
      refine (gtake_nil W h).mono ?_
      rintro e W' ⟨rfl, rfl⟩
      exact ⟨rfl, Or.inl ⟨g, pb, rfl, rfl, h⟩, Fr.refl _ _⟩
    | cons y ys =>
      refine (gtake_any y W h).mono ?_
      rintro e W' ⟨rfl, hR, hF⟩
      exact ⟨rfl, Or.inl ⟨g, pb, rfl, rfl, hR⟩, hF⟩
  · refine (gtake_no p W h).mono ?_
    rintro e W' ⟨rfl, rfl⟩
    exact ⟨rfl, Or.inr ⟨h, rfl, rfl, rfl, rfl⟩, Fr.refl _ _⟩
theorem qs_take (x : Int) (B : Bool) (h : QS W q O C xs cl) (hx : x = xs.headD 0) (hB : B = !xs.isEmpty) : Calls Try.prog 22 #[.pointer q] W fun e W' => e = .returned (.tuple #[.int .i64 x, .bool B]) ∧ QS W' q O C xs.tail cl ∧ Fr O W W' := by
  subst hx hB
  rcases h with ⟨k, lo, n, c, rfl, rfl, h⟩ | ⟨rfl, rfl, rfl, rfl, rfl⟩
  · cases xs with
    | nil =>
      obtain rfl : n = 0 := h.row.len
      refine (qtake_zero W h).mono ?_
      rintro e W' ⟨rfl, hF⟩
      exact ⟨rfl, Or.inl ⟨k, lo, 0, c, rfl, rfl, h.keep hF (by simp) (by simp)⟩, hF.mono (by simp)⟩
    | cons y ys =>
      refine (qtake_any W h).mono ?_
      rintro e W' ⟨rfl, lo', n', c', hR, hF, hb⟩
      exact ⟨rfl, Or.inl ⟨k, lo', n', c', rfl, by rw [hb], hR⟩, hF.mono (by simp)⟩
  · refine (qtake_nil W).mono ?_
    rintro e W' ⟨rfl, hF⟩
    exact ⟨rfl, Or.inr ⟨rfl, rfl, rfl, rfl, rfl⟩, hF⟩
theorem ps_first (x : Int) (B : Bool) (h : PS W p O C xs cl) (hx : x = xs.headD 0) (hB : B = !xs.isEmpty) : Calls Try.prog 25 #[.pointer p] W fun e W' => e = .returned (.tuple #[.int .i64 x, .bool B]) ∧ Fr [] W W' := by
  subst hx hB
  rcases h with ⟨g, pb, rfl, rfl, N, F, K, ps, h⟩ | ⟨h, rfl, rfl, rfl, rfl⟩
  · cases xs with
    | nil =>
      obtain rfl : K = 0 := h.pl.cnt.symm
      refine (gfirst_nil W h).mono ?_
      rintro e W' ⟨rfl, rfl⟩
      exact ⟨rfl, Fr.refl _ _⟩
    | cons y ys =>
      obtain ⟨K, rfl⟩ : ∃ K', K = K' + 1 := ⟨ys.length, by have := h.pl.cnt; simpa using this.symm⟩
      exact gfirst_any W h
  · refine (gfirst_no p W h).mono ?_
    rintro e W' ⟨rfl, rfl⟩
    exact ⟨rfl, Fr.refl _ _⟩
theorem qs_first (x : Int) (B : Bool) (h : QS W q O C xs cl) (hx : x = xs.headD 0) (hB : B = !xs.isEmpty) : Calls Try.prog 26 #[.pointer q] W fun e W' => e = .returned (.tuple #[.int .i64 x, .bool B]) ∧ Fr [] W W' := by
  subst hx hB
  rcases h with ⟨k, lo, n, c, rfl, rfl, h⟩ | ⟨rfl, rfl, rfl, rfl, rfl⟩
  · cases xs with
    | nil =>
      obtain rfl : n = 0 := h.row.len
      exact qfirst_zero W h
    | cons y ys => exact qfirst_any W h
  · exact qfirst_nil W
theorem ps_len (K : Nat) (h : PS W p O C xs cl) (hK : K = xs.length) : Calls Try.prog 16 #[.pointer p] W fun e W' => e = .returned (.int .i64 (K : Int)) ∧ Fr [] W W' := by
  subst hK
  rcases h with ⟨g, pb, rfl, rfl, N, F, K, ps, h⟩ | ⟨h, rfl, rfl, rfl, rfl⟩
  · rw [h.pl.cnt]
    refine (glen_any W h).mono ?_
    rintro e W' ⟨rfl, rfl⟩
    exact ⟨rfl, Fr.refl _ _⟩
  · refine (glen_no p W h).mono ?_
    rintro e W' ⟨rfl, rfl⟩
    exact ⟨rfl, Fr.refl _ _⟩
theorem qs_len (K : Nat) (h : QS W q O C xs cl) (hK : K = xs.length) : Calls Try.prog 27 #[.pointer q] W fun e W' => e = .returned (.int .i64 (K : Int)) ∧ Fr [] W W' := by
  subst hK
  rcases h with ⟨k, lo, n, c, rfl, rfl, h⟩ | ⟨rfl, rfl, rfl, rfl, rfl⟩
  · rw [← h.row.len]; exact qlen_any W h
  · exact qlen_nil W
theorem ps_room (R : Nat) (h : PS W p O C xs cl) (hR : R = if cl then 0 else C - xs.length) : Calls Try.prog 17 #[.pointer p] W fun e W' => e = .returned (.int .i64 (R : Int)) ∧ Fr [] W W' := by
  subst hR
  rcases h with ⟨g, pb, rfl, rfl, N, F, K, ps, h⟩ | ⟨h, rfl, rfl, rfl, rfl⟩
  · exact groom_any W h _ (by rw [h.pl.cnt])
  · refine (groom_no p W h).mono ?_
    rintro e W' ⟨rfl, rfl⟩
    exact ⟨rfl, Fr.refl _ _⟩
theorem qs_room (R : Nat) (h : QS W q O C xs cl) (hR : R = if cl then 0 else C - xs.length) : Calls Try.prog 28 #[.pointer q] W fun e W' => e = .returned (.int .i64 (R : Int)) ∧ Fr [] W W' := by
  subst hR
  rcases h with ⟨k, lo, n, c, rfl, rfl, h⟩ | ⟨rfl, rfl, rfl, rfl, rfl⟩
  · exact qroom_any W h _ (by rw [h.row.len])
  · exact qroom_nil W
theorem ps_over (B : Bool) (h : PS W p O C xs cl) (hB : B = (cl && decide (xs.length = 0))) : Calls Try.prog 19 #[.pointer p] W fun e W' => e = .returned (.bool B) ∧ Fr [] W W' := by
  subst hB
  rcases h with ⟨g, pb, rfl, rfl, N, F, K, ps, h⟩ | ⟨h, rfl, rfl, rfl, rfl⟩
  · refine (gover_any W h (cl && decide (xs.length = 0)) (by rw [h.pl.cnt])).mono ?_
    rintro e W' ⟨rfl, rfl⟩
    exact ⟨rfl, Fr.refl _ _⟩
  · refine (gover_no p W h).mono ?_
    rintro e W' ⟨rfl, rfl⟩
    exact ⟨rfl, Fr.refl _ _⟩
theorem qs_over (B : Bool) (h : QS W q O C xs cl) (hB : B = (cl && decide (xs.length = 0))) : Calls Try.prog 29 #[.pointer q] W fun e W' => e = .returned (.bool B) ∧ Fr [] W W' := by
  subst hB
  rcases h with ⟨k, lo, n, c, rfl, rfl, h⟩ | ⟨rfl, rfl, rfl, rfl, rfl⟩
  · exact qover_any W h _ (by rw [h.row.len])
  · exact qover_nil W
theorem ps_close (h : PS W p O C xs cl) : Calls Try.prog 18 #[.pointer p] W fun e W' => (∃ v, e = .returned v) ∧ PS W' p O C xs (decide (0 < C)) ∧ Fr O W W' := by
  rcases h with ⟨g, pb, rfl, rfl, N, F, K, ps, h⟩ | ⟨h, rfl, rfl, rfl, rfl⟩
  · refine (gclose_any W h).mono ?_
    rintro e W' ⟨hv, hR, hF⟩
    have hc : decide (0 < C) = true := by have := h.cap; simp; omega
    rw [hc]
    exact ⟨hv, Or.inl ⟨g, pb, rfl, rfl, _, _, _, _, hR⟩, hF.mono (by simp [Rg.own])⟩
  · refine (gclose_no p W h).mono ?_
    rintro e W' ⟨hv, rfl⟩
    exact ⟨hv, Or.inr ⟨h, rfl, rfl, rfl, rfl⟩, Fr.refl _ _⟩
theorem qs_close (h : QS W q O C xs cl) : Calls Try.prog 23 #[.pointer q] W fun e W' => (∃ v, e = .returned v) ∧ QS W' q O C xs (decide (0 < C)) ∧ Fr O W W' := by
  rcases h with ⟨k, lo, n, c, rfl, rfl, h⟩ | ⟨rfl, rfl, rfl, rfl, rfl⟩
  · refine (qclose_any W h).mono ?_
    rintro e W' ⟨hv, hR, hF⟩
    have hc : decide (0 < C) = true := by have := h.few; simp; omega
    rw [hc]
    exact ⟨hv, Or.inl ⟨k, lo, n, c, rfl, rfl, hR⟩, hF.mono (by simp)⟩
  · refine (qclose_nil W).mono ?_
    rintro e W' ⟨hv, hF⟩
    exact ⟨hv, Or.inr ⟨rfl, rfl, rfl, rfl, rfl⟩, hF⟩
theorem qs_all (h : QS W q O C xs cl) : Calls Try.prog 12 #[.pointer q] W fun e W' => ∃ lo n c, e = .returned (.slice lo n c) ∧ QR W' lo n c xs ∧ Fr [] W W' := by
  rcases h with ⟨k, lo, n, c, rfl, rfl, h⟩ | ⟨rfl, rfl, rfl, rfl, rfl⟩
  · refine (qall_any W h).mono ?_
    rintro e W' ⟨rfl, hF⟩
    exact ⟨lo, n, c, rfl, h.row.keep hF (by simp), hF⟩
  · refine (qall_nil W).mono ?_
    rintro e W' ⟨rfl, hF⟩
    exact ⟨none, 0, 0, rfl, ⟨rfl, Nat.le_refl _, .inl ⟨rfl, rfl⟩⟩, hF⟩
theorem QR.of_own {base : Nat} {v : Value} {ns : List Int} (h : W.ownsRow base 3 1 v ns.length (vals ns)) : ∃ lo c, v = .slice lo ns.length c ∧ QR W lo ns.length c ns := by
  rcases h.2 with ⟨rfl, h0⟩ | ⟨g, cap, cur, rfl, _, hg, hnc, _, hcs, ht⟩
  · exact ⟨none, 0, by rw [h0], rfl, by omega, .inl ⟨rfl, rfl⟩⟩
  · refine ⟨_, cap, rfl, rfl, hnc, .inr ⟨g, 0, cur, rfl, hg, by omega, fun i hi => ?_⟩⟩
    have e1 : (vals ns)[i]? = some (.int .i64 (ns.getD i 0)) := vals_get _ _ hi
    rw [Nat.zero_add, ← e1, ← ht, List.getElem?_take_of_lt (by omega), Array.getElem?_toList]
theorem ps_gone (most : Int) (h : PS W p O C xs cl) (hm : -9223372036854775808 ≤ most ∧ most ≤ 9223372036854775807) : Calls Try.prog 11 #[.pointer p, .int .i64 most] W fun e W' => ∃ lo n c, e = .returned (.slice lo n c) ∧ QR W' lo n c (xs.take most.toNat) ∧ Fr [] W W' := by
  have hT : Tells W p xs := by
    rcases h with ⟨g, pb, rfl, rfl, h⟩ | ⟨h, rfl, rfl, rfl, rfl⟩
    · exact tells_any h
    · exact tells_no h
  refine (callsIn_wide.1 (gone_in p xs (by have := h.few; omega) most W hT hm)).mono ?_
  rintro e W' ⟨v, rfl, ho, hF⟩
  obtain ⟨lo, c, rfl, hQ⟩ := QR.of_own ho
  exact ⟨lo, _, c, rfl, hQ, hF⟩
set_option maxHeartbeats 1000000 in
theorem few_any (lo : Option Addr) (n c : Nat) (xs : List Int) (most : Int) (w : World) (h : QR w lo n c xs) (hn : n ≤ 65536) (hm : -9223372036854775808 ≤ most ∧ most ≤ 9223372036854775807) :
    Calls Try.prog 24 #[.slice lo n c, .int .i64 most] w fun e w' => ∃ n', e = .returned (.slice lo n' c) ∧ QR w' lo n' c (xs.take most.toNat) ∧ Fr [] w w' := by
  have hl := h.len
  have hfit := h.fit
  by_cases h1 : most < (n : Int)
  · have HQ : Hid (∀ k : Nat, (k : Int) = max most 0 → QR w lo k c (xs.take most.toNat)) := by
      intro k hk
      have hkn : k ≤ n := by omega
      refine ⟨by rw [List.length_take]; omega, by omega, ?_⟩
      rcases h.row with h | ⟨b, off, cur, e, hb, hoc, hc⟩
      · exact .inl h
      · refine .inr ⟨b, off, cur, e, hb, hoc, fun i hi => ?_⟩
        rw [hc i (by omega)]
        simp only [List.getD]
        rw [List.getElem?_take_of_lt (by omega)]
    have hlo : lo = none → c = 0 := by
      intro e
      rcases h.row with ⟨_, h0⟩ | ⟨b, off, cur, e2, _⟩
      · exact h0
      · rw [e] at e2; cases e2
    by_cases h2 : 0 < most
    · obtain ⟨k, rfl⟩ : ∃ k : Nat, most = (k : Int) := ⟨most.toNat, by omega⟩
      have hQ := HQ.out k (by omega)
      have hk0 : 0 < k := by omega
      have hkc : k ≤ c := by omega
      have hkc2 : (k : Int) ≤ (c : Int) := by omega
      obtain ⟨b, off, rfl⟩ : ∃ b off, lo = some ⟨b, off, none⟩ := by
        rcases h.row with ⟨_, h0⟩ | ⟨b, off, cur, e2, _⟩
        · omega
        · exact ⟨b, off, e2⟩
      have HQ2 : Hid (QR w (some ⟨b, off, none⟩) k c (xs.take (k : Int).toNat)) := hQ
      clear HQ h hQ hlo hl
      go_enter Try.func24, Try.ntmps24
      go_wp2
      go_ret
      exact ⟨k, rfl, HQ2.out, Fr.refl _ _⟩
    · have HQ2 : Hid (QR w lo 0 c (xs.take most.toNat)) := HQ.out 0 (by omega)
      have hmz : most ≤ 0 := by omega
      by_cases hz : most = 0
      · subst hz
        cases lo with
        | none =>
          obtain rfl := hlo rfl
          exact absurd h1 (by omega)
        | some a =>
          clear HQ h hl hlo
          go_enter Try.func24, Try.ntmps24
          go_wp2
          go_ret
          exact ⟨0, rfl, HQ2.out, Fr.refl _ _⟩
      · have hlt : most < 0 := by omega
        cases lo with
        | none =>
          obtain rfl := hlo rfl
          clear HQ h hl hlo
          go_enter Try.func24, Try.ntmps24
          go_wp2
          go_ret
          exact ⟨0, rfl, HQ2.out, Fr.refl _ _⟩
        | some a =>
          clear HQ h hl hlo
          go_enter Try.func24, Try.ntmps24
          go_wp2
          go_ret
          exact ⟨0, rfl, HQ2.out, Fr.refl _ _⟩
  · have HQ : Hid (QR w lo n c (xs.take most.toNat)) := by
      rw [List.take_of_length_le (by omega)]
      exact h
    have h2 : (n : Int) ≤ most := by omega
    clear h hl
    go_enter Try.func24, Try.ntmps24
    go_wp2
    go_ret
    exact ⟨n, rfl, HQ.out, Fr.refl _ _⟩
set_option maxHeartbeats 2000000 in
set_option maxRecDepth 100000 in
theorem sameInts_any (a b : Option Addr) (n m ca cb : Nat) (xs : List Int) (w : World) (ha : QR w a n ca xs) (hb : QR w b m cb xs) (hl : xs.length ≤ 65536) :
    Calls Try.prog 10 #[.slice a n ca, .slice b m cb] w fun e w' => e = .returned (.bool true) ∧ Fr [] w w' := by
  obtain rfl : n = m := ha.len.trans hb.len.symm
  have hn : n ≤ 65536 := by have := ha.len; omega
  have hne : ((n : Int) != n) = false := by simp
  by_cases h0 : 0 < n
  · obtain ⟨ba, oa, rfl, hca⟩ := ha.lies h0
    obtain ⟨bb, ob, rfl, hcb⟩ := hb.lies h0
    clear ha hb
    go_enter Try.func10, Try.ntmps10
    go_wp2_with fail
    go_loopw [5] (fun ii wr => ∃ (i q : Nat), ii = .int .i64 i ∧ i ≤ n ∧ wr = w.drewN q) (fun ii _ => n - (intOf ii).toNat)
    case atStart => exact ⟨0, 0, rfl, Nat.zero_le _, rfl⟩
    case round =>
      obtain ⟨i, q, rfl, hiL, rfl⟩ := hrel
      by_cases hi : i < n
      · have hx := hca i hi
        have hy := hcb i hi
        obtain ⟨x, hxx⟩ : ∃ x, x = xs.getD i 0 := ⟨_, rfl⟩
        rw [← hxx] at hx hy
        clear hxx hca hcb
        have hb1 : (x != x) = false := by simp
        go_wp2_with fail
        go_quiet (fail)
        go_wp2
        go_roundw
        case rel => exact ⟨i + 1, _, by simp, by omega, rfl⟩
        case measure => simp [intOf]; omega
      · go_wp2
        go_ret
        exact ⟨rfl, Fr.drewN _ _ _⟩
  · obtain rfl : n = 0 := by omega
    clear ha hb
    go_enter Try.func10, Try.ntmps10
    go_wp2_with fail
    refine wp_loop_rounds 1 ?_
    rw [rounds_succ]
    go_wp2
    go_ret
    exact ⟨rfl, Fr.refl _ _⟩
end
end Go.Proofs.Ytgdffhmbhknfcaa

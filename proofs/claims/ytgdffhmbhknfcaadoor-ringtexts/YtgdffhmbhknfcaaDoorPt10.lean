/- A ring of texts and the document's ring, told by what they hold. Conditions as each names them. -/
import Derived.Test.YtgdffhmbhknfcaaDoorItx
namespace Go.Proofs.YtgdffhmbhknfcaaDoor
open Go.ChangeShapes Go.WideShapes Go.ChangeAt Go.RowKit Go.Lib
set_option linter.unusedVariables false
set_option linter.unusedSimpArgs false

def PT (W : World) (g : Nat) (O : List Nat) (C : Nat) (ts : List ByteArray) : Prop := ∃ pb, O = Rg.own g pb ∧ Rg W g pb C ts false
def QT (W : World) (q : Nat) (O : List Nat) (C : Nat) (xs : List Int) : Prop := ∃ lo n c, O = q :: (qb lo).toList ∧ QM W q lo n c C xs false
def Nw (W : World) (O O' : List Nat) : Prop := ∀ b ∈ O', b ∈ O ∨ W.heap.size ≤ b
theorem Nw.refl (W : World) (O : List Nat) : Nw W O O := fun b hb => Or.inl hb
section
variable {W W' : World} {g q : Nat} {O : List Nat} {C : Nat} {ts : List ByteArray} {xs : List Int}
theorem PT.keep {S : List Nat} (h : PT W g O C ts) (hf : Fr S W W') (hO : ∀ b ∈ O, b ∉ S) : PT W' g O C ts := by
  obtain ⟨pb, rfl, h⟩ := h
  exact ⟨pb, rfl, h.keep hf (hO g (by simp [Rg.own])) (fun b e => hO b (by simp [Rg.own, e]))⟩
theorem PT.lt (h : PT W g O C ts) : ∀ b ∈ O, b < W.heap.size := by
  obtain ⟨pb, rfl, h⟩ := h
  intro b hb
  simp only [Rg.own, List.mem_cons, Option.mem_toList] at hb
  rcases hb with rfl | hb
  · exact h.lt
  · exact h.plt hb
theorem QT.keep {S : List Nat} (h : QT W q O C xs) (hf : Fr S W W') (hO : ∀ b ∈ O, b ∉ S) : QT W' q O C xs := by
  obtain ⟨lo, n, c, rfl, h⟩ := h
  exact ⟨lo, n, c, rfl, h.keep hf (hO q (by simp)) (fun b e => hO b (by simp [e]))⟩
theorem QT.lt (h : QT W q O C xs) : ∀ b ∈ O, b < W.heap.size := by
  obtain ⟨lo, n, c, rfl, h⟩ := h
  intro b hb
  simp only [List.mem_cons, Option.mem_toList] at hb
  rcases hb with rfl | hb
  · exact h.lt
  · exact h.blt hb
theorem QT.few (h : QT W q O C xs) : xs.length ≤ C ∧ C ≤ 65536 := by
  obtain ⟨lo, n, c, rfl, h⟩ := h
  have := h.few
  have := h.row.len
  omega
theorem pt_put (t : ByteArray) (h : PT W g O C ts) (hr : ts.length < C) : Calls Tryd.prog 9 #[.pointer (some ⟨g, 0, none⟩), .string t] W fun e W' => e = .returned (.bool true) ∧ ∃ O', PT W' g O' C (ts ++ [t]) ∧ Fr O W W' ∧ Nw W O O' := by
  obtain ⟨pb, rfl, h⟩ := h
  refine (gput_any t W h hr).mono ?_
  rintro e W' ⟨rfl, pb', hR, hF, hM⟩
  refine ⟨rfl, Rg.own g pb', ⟨pb', rfl, hR⟩, hF, ?_⟩
  intro b hb
  simp only [Rg.own, List.mem_cons, Option.mem_toList] at hb ⊢
  rcases hb with rfl | hb
  · exact Or.inl (Or.inl rfl)
  · rcases hM with rfl | ⟨k, rfl, hk⟩
    · exact Or.inl (Or.inr hb)
    · cases hb; exact Or.inr hk
theorem pt_full (t : ByteArray) (h : PT W g O C ts) (hr : ts.length = C) : Calls Tryd.prog 9 #[.pointer (some ⟨g, 0, none⟩), .string t] W fun e W' => e = .returned (.bool false) ∧ ∃ O', PT W' g O' C ts ∧ Fr O W W' ∧ Nw W O O' := by
  obtain ⟨pb, rfl, N, F, K, ps, h⟩ := h
  refine (gput_full t W h (Or.inr (by rw [← h.pl.cnt]; exact hr))).mono ?_
  rintro e W' ⟨rfl, hF⟩
  exact ⟨rfl, _, ⟨pb, rfl, N, F, K, ps, h.keep hF (by simp) (by simp)⟩, hF.mono (by simp), Nw.refl _ _⟩
theorem qt_put (x : Int) (h : QT W q O C xs) (hr : xs.length < C) : Calls Tryd.prog 10 #[.pointer (some ⟨q, 0, none⟩), .int .i64 x] W fun e W' => e = .returned (.bool true) ∧ ∃ O', QT W' q O' C (xs ++ [x]) ∧ Fr O W W' ∧ Nw W O O' := by
  obtain ⟨lo, n, c, rfl, h⟩ := h
  have hl := h.row.len
  refine (qput_any x W h (by omega)).mono ?_
  rintro e W' ⟨rfl, lo', n', c', hR, hF, hM⟩
  refine ⟨rfl, _, ⟨lo', n', c', rfl, hR⟩, hF, ?_⟩
  intro b hb
  simp only [List.mem_cons, Option.mem_toList] at hb ⊢
  rcases hb with rfl | hb
  · exact Or.inl (Or.inl rfl)
  · rcases hM with e | ⟨k, e, hk⟩
    · rw [e] at hb; exact Or.inl (Or.inr hb)
    · rw [e] at hb; cases hb; exact Or.inr hk
theorem qt_full (x : Int) (h : QT W q O C xs) (hr : xs.length = C) : Calls Tryd.prog 10 #[.pointer (some ⟨q, 0, none⟩), .int .i64 x] W fun e W' => e = .returned (.bool false) ∧ ∃ O', QT W' q O' C xs ∧ Fr O W W' ∧ Nw W O O' := by
  obtain ⟨lo, n, c, rfl, h⟩ := h
  have hl := h.row.len
  refine (qput_full x W h (Or.inr (by omega))).mono ?_
  rintro e W' ⟨rfl, hF⟩
  exact ⟨rfl, _, ⟨lo, n, c, rfl, h.keep hF (by simp) (by simp)⟩, hF.mono (by simp), Nw.refl _ _⟩
theorem pt_take (t : ByteArray) (h : PT W g O C (t :: ts)) : Calls Tryd.prog 6 #[.pointer (some ⟨g, 0, none⟩)] W fun e W' => e = .returned (.tuple #[.string t, .bool true]) ∧ PT W' g O C ts ∧ Fr O W W' := by
  obtain ⟨pb, rfl, h⟩ := h
  refine (gtake_any t W h).mono ?_
  rintro e W' ⟨rfl, hR, hF⟩
  exact ⟨rfl, ⟨pb, rfl, hR⟩, hF⟩
theorem pt_none (h : PT W g O C []) : Calls Tryd.prog 6 #[.pointer (some ⟨g, 0, none⟩)] W fun e W' => e = .returned (.tuple #[.string ⟨#[]⟩, .bool false]) ∧ PT W' g O C [] ∧ Fr O W W' := by
  obtain ⟨pb, rfl, h⟩ := h
  refine (gtake_nil W h).mono ?_
  rintro e W' ⟨rfl, rfl⟩
  exact ⟨rfl, ⟨pb, rfl, h⟩, Fr.refl _ _⟩
theorem qt_take (x : Int) (h : QT W q O C (x :: xs)) : Calls Tryd.prog 7 #[.pointer (some ⟨q, 0, none⟩)] W fun e W' => e = .returned (.tuple #[.int .i64 x, .bool true]) ∧ QT W' q O C xs ∧ Fr O W W' := by
  obtain ⟨lo, n, c, rfl, h⟩ := h
  refine (qtake_any W h).mono ?_
  rintro e W' ⟨rfl, lo', n', c', hR, hF, hb⟩
  exact ⟨rfl, ⟨lo', n', c', by rw [hb], hR⟩, hF.mono (by simp)⟩
theorem qt_none (h : QT W q O C []) : Calls Tryd.prog 7 #[.pointer (some ⟨q, 0, none⟩)] W fun e W' => e = .returned (.tuple #[.int .i64 0, .bool false]) ∧ QT W' q O C [] ∧ Fr O W W' := by
  obtain ⟨lo, n, c, rfl, h⟩ := h
  obtain rfl : n = 0 := h.row.len
  refine (qtake_zero W h).mono ?_
  rintro e W' ⟨rfl, hF⟩
  exact ⟨rfl, ⟨lo, 0, c, rfl, h.keep hF (by simp) (by simp)⟩, hF.mono (by simp)⟩
end
/-- The texts are those of the numbers; both lie apart, and so does the result. -/
structure T2 (w W : World) (rb g q : Nat) (O1 O2 : List Nat) (C : Nat) (xs : List Int) : Prop where
  p : PT W g O1 C (xs.map it)
  q : QT W q O2 C xs
  dj : ∀ b ∈ O1, b ∉ O2
  rs : W.heap[rb]? = some (.cells #[.bool false] 4 (0, 0))
  nr : ∀ b, b ∈ O1 ++ O2 → b ≠ rb
  nw : ∀ b, b ∈ O1 ++ O2 → w.heap.size ≤ b
  ok : ∀ x ∈ xs, okI x
  fr : Fr [] w W
section
variable {w W W' : World} {rb g q : Nat} {O1 O2 : List Nat} {C : Nat} {xs : List Int}
theorem T2.same (h : T2 w W rb g q O1 O2 C xs) (hf : Fr [] W W') : T2 w W' rb g q O1 O2 C xs := ⟨h.p.keep hf (by simp), h.q.keep hf (by simp), h.dj, hf.keep h.rs (by simp), h.nr, h.nw, h.ok, h.fr.then hf⟩
theorem T2.qs {V : World} (h : T2 w W rb g q O1 O2 C xs) (hf : Fr O1 W V) : QT V q O2 C xs := h.q.keep hf (fun b hb hb1 => h.dj b hb1 hb)
theorem T2.two {W1 W2 : World} {O1' O2' : List Nat} {xs' : List Int} (h : T2 w W rb g q O1 O2 C xs) (h1 : PT W1 g O1' C (xs'.map it)) (f1 : Fr O1 W W1) (n1 : Nw W O1 O1') (h2 : QT W2 q O2' C xs') (f2 : Fr O2 W1 W2) (n2 : Nw W1 O2 O2') (hok : ∀ x ∈ xs', okI x) : T2 w W2 rb g q O1' O2' C xs' := by
  have hs := f1.size
  have hl1 := h1.lt
  have hl2 := h.q.lt
  have hrb := lt_of_block h.rs
  have d1 : ∀ b ∈ O1', b ∉ O2 := fun b hb hb2 => by
    rcases n1 b hb with h3 | h3
    · exact h.dj b h3 hb2
    · have := hl2 b hb2; omega
  have hws := h.fr.size
  have hf : Fr (O1 ++ O2) W W2 := (f1.mono (by simp +contextual)).then (f2.mono (by simp +contextual))
  refine ⟨h1.keep f2 d1, h2, fun b hb hb2 => ?_, hf.keep h.rs (fun hh => h.nr rb hh rfl), fun b hb => ?_, fun b hb => ?_, hok, h.fr.on hf h.nw⟩
  · rcases n2 b hb2 with h3 | h3
    · exact d1 b hb h3
    · have := hl1 b hb; omega
  · rcases List.mem_append.1 hb with hb | hb
    · rcases n1 b hb with h3 | h3
      · exact h.nr b (by simp [h3])
      · omega
    · rcases n2 b hb with h3 | h3
      · exact h.nr b (by simp [h3])
      · omega
  · rcases List.mem_append.1 hb with hb | hb
    · rcases n1 b hb with h3 | h3
      · exact h.nw b (by simp [h3])
      · omega
    · rcases n2 b hb with h3 | h3
      · exact h.nw b (by simp [h3])
      · omega
end
end Go.Proofs.YtgdffhmbhknfcaaDoor

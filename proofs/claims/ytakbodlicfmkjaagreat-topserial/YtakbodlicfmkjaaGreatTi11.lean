/- A table that keeps a log of which some have ended: its calls in the log's own words. Conditions as each names them. -/
import Derived.Test.YtakbodlicfmkjaaGreatTa11
import Derived.Test.YtakbodlicfmkjaaGreatTd11
namespace Go.Proofs.YtakbodlicfmkjaaGreat
open Go.ChangeShapes Go.WideShapes Go.ChangeAt Go.RowKit Go.Lib Go.Maps
set_option linter.unusedVariables false
set_option linter.unusedSimpArgs false

/-- Is it open? -/
def Op11 (L : Lg) (en : Int → Prop) (x : Int) : Prop := (∃ p ∈ L, p.1 = x) ∧ ¬ en x
/-- A table that keeps the log L of which en have ended. -/
def Tl (w : World) (tb : Nat) (B : List Nat) (n : Nat) (L : Lg) (en : Int → Prop) : Prop := ∃ D, Tb w tb B n D ∧ Inv D L en ∧ D.newest ≤ 65536
section
variable {w w' : World} {tb : Nat} {B : List Nat} {n : Nat} {L : Lg} {en : Int → Prop}
theorem Inv.op_eq {D : Dt} (h : Inv D L en) : D.op = Op11 L en := funext fun x => propext (h.op x)
theorem Tl.keep {S : List Nat} (h : Tl w tb B n L en) (hf : Fr S w w') (hS : ∀ j ∈ B, j ∉ S) : Tl w' tb B n L en := by
  obtain ⟨D, h1, h2⟩ := h
  exact ⟨D, h1.keep hf hS, h2⟩
theorem Tl.quiet (h : Tl w tb B n L en) (hf : Fr [] w w') : Tl w' tb B n L en := h.keep hf (by simp)
theorem Tl.mono {m : Nat} (h : Tl w tb B n L en) (hn : n ≤ m) : Tl w tb B m L en := by
  obtain ⟨D, h1, h2⟩ := h
  exact ⟨D, h1.mono hn, h2⟩
theorem Tl.mine (h : Tl w tb B n L en) : ∀ j ∈ B, j < w.heap.size := by
  obtain ⟨D, h1, h2⟩ := h
  exact h1.mine
theorem Tl.ris (h : Tl w tb B n L en) : RisL L := by
  obtain ⟨D, h1, h2, _⟩ := h
  exact h2.ris
theorem Tl.small (h : Tl w tb B n L en) : ∀ x, Op11 L en x → 1 ≤ x ∧ x ≤ 65536 := by
  obtain ⟨D, h1, h2, h3⟩ := h
  intro x hx
  rw [← h2.op_eq] at hx
  exact (h2.good h3).op x hx
theorem Tl.free (h : Tl w tb B n L en) {m : Int} (hm : Op11 L en m) (hf : ∀ y, Op11 L en y → ¬ Dep L m y) {i : Int} (hi : i < m) (hr : Nr L i m) : en i := by
  obtain ⟨D, h1, h2, h3⟩ := h
  rw [← h2.op_eq] at hm hf
  exact h2.free hm hf hi hr
theorem Tl.order (h : Tl w tb B n L en) : ∀ m, en m → ∀ i, i < m → Nr L i m → en i := by
  obtain ⟨D, h1, h2, h3⟩ := h
  exact h2.order
theorem Tl.ended (h : Tl w tb B n L en) : ∀ m, en m → ∃ p ∈ L, p.1 = m := by
  obtain ⟨D, h1, h2, h3⟩ := h
  exact h2.ended
theorem tl_new (w : World) : Calls Tryz.prog 57 #[] w fun e w' => ∃ tb B, e = .returned (.pointer (some ⟨tb, 0, none⟩)) ∧ Tl w' tb B 0 [] (fun _ => False) ∧ (∀ j ∈ B, w.heap.size ≤ j) ∧ Fr [] w w' := by
  refine (tnew_any w).mono ?_
  rintro e w' ⟨tb, B, rfl, h1, h2, h3⟩
  exact ⟨tb, B, rfl, ⟨_, h1, Inv.none, by show (0 : Int) ≤ 65536; omega⟩, h2, h3⟩
/-- For whom a new one waits. -/
def AdT (L : Lg) (en : Int → Prop) (ks : List ByteArray) (xs : List Int) : Prop := Ris xs ∧ ∀ m, m ∈ xs ↔ Op11 L en m ∧ ∃ k ∈ ks, lst L k = m
theorem tl_add (nn : Int) (wo : Option Addr) (M mc : Nat) (ws : List Wt) (w : World) (h : Tl w tb B n L en) (hW : WRs w wo ws) (hM : M = ws.length) (hok : okT nn ws) (hnew : ∀ p ∈ L, p.1 < nn) (hn : n < 1073741824) (hWB : 0 < ws.length → ∀ a, wo = some a → a.block ∉ B) :
    Calls Tryz.prog 257 #[.pointer (some ⟨tb, 0, none⟩), .agg #[.int .i64 nn, .slice wo M mc]] w fun e w' => ∃ xs B', e = .returned (.tuple #[.int .i64 ((xs.length : Nat) : Int), .int .i64 0]) ∧ AdT L en (keysW ws) xs ∧ Tl w' tb B' (n + 65) (L ++ [(nn, keysW ws)]) en ∧ (∀ j ∈ B', j ∈ B ∨ w.heap.size ≤ j) ∧ Fr B w w' := by
  obtain ⟨D, h1, h2, h3⟩ := h
  have hlt : D.newest < nn := by
    rcases h2.tip with e | ⟨p, hp, e⟩
    · have := hok.1; omega
    · have := hnew p hp; omega
  refine (tadd_any nn wo M mc ws w h1 (h2.good h3) hW hM hok hlt (fun ho => ?_) hn hWB).mono ?_
  · obtain ⟨⟨p, hp, e⟩, _⟩ := (h2.op nn).1 ho
    have := hnew p hp
    omega
  · rintro e w' ⟨xs, B', rfl, k1, k2, k3, k4⟩
    refine ⟨xs, B', rfl, ⟨k1.1, fun m => ?_⟩, ⟨_, k2, h2.add hlt k1, hok.2.1⟩, k3, k4⟩
    rw [k1.2 m, h2.op_eq]
    simp only [h2.last]
theorem tl_waits (m : Int) (w : World) (h : Tl w tb B n L en) (hm : Op11 L en m) :
    Calls Tryz.prog 345 #[.pointer (some ⟨tb, 0, none⟩), .int .i64 m] w fun e w' => ∃ so N c ys, e = .returned (.tuple #[.slice so N c, .int .i64 0]) ∧ IOw w.heap.size w' so N c ys ∧ WtT L (Op11 L en) m ys ∧ Fr [] w w' := by
  obtain ⟨D, h1, h2, h3⟩ := h
  rw [← h2.op_eq] at hm ⊢
  refine (twaits_any m w h1 (h2.good h3) hm).mono ?_
  rintro e w' ⟨so, N, c, ys, rfl, k1, k2, k3⟩
  exact ⟨so, N, c, ys, rfl, k1, k2.of h2 hm, k3⟩
theorem tl_open (w : World) (h : Tl w tb B n L en) (hn : n < 1099511627776) :
    Calls Tryz.prog 44 #[.pointer (some ⟨tb, 0, none⟩)] w fun e w' => ∃ so N c ys, e = .returned (.slice so N c) ∧ IOw w.heap.size w' so N c ys ∧ Ris ys ∧ (∀ x, x ∈ ys ↔ Op11 L en x) ∧ Fr [] w w' := by
  obtain ⟨D, h1, h2, h3⟩ := h
  rw [← h2.op_eq]
  exact topen_any w h1 (h2.good h3) hn
theorem tl_done (m : Int) (w : World) (h : Tl w tb B n L en) (hm : Op11 L en m) (hf : ∀ y, Op11 L en y → ¬ Dep L m y) :
    Calls Tryz.prog 340 #[.pointer (some ⟨tb, 0, none⟩), .int .i64 m] w fun e w' => ∃ so N c zs, e = .returned (.tuple #[.slice so N c, .int .i64 0]) ∧ IOw w.heap.size w' so N c zs ∧ DoT L (Op11 L en) m zs ∧ Tl w' tb B n L (fun x => en x ∨ x = m) ∧ Fr B w w' := by
  obtain ⟨D, h1, h2, h3⟩ := h
  rw [← h2.op_eq] at hm hf ⊢
  refine (tdone_any m w h1 (h2.good h3) hm (fun x hx hw => ?_) (fun x hx => (((h2.bh m hm).2 x).1 hx).1) (fun a ha => ?_)).mono ?_
  · obtain ⟨_, j1, j2⟩ := (h2.wt m x).1 hw
    exact hf x j1 j2
  · obtain ⟨j0, j1, j2⟩ := (h2.wt a m).1 ha
    exact ((h2.bh m hm).2 a).2 ⟨j0, j2⟩
  · rintro e w' ⟨so, N, c, zs, rfl, k1, k2, k3, k4⟩
    exact ⟨so, N, c, zs, rfl, k1, k2.of h2 hm, ⟨_, k3, h2.done hm hf, h3⟩, k4⟩
theorem tl_done_no (m y : Int) (w : World) (h : Tl w tb B n L en) (hm : Op11 L en m) (hy : Op11 L en y) (hd : Dep L m y) :
    Calls Tryz.prog 340 #[.pointer (some ⟨tb, 0, none⟩), .int .i64 m] w fun e w' => e = .returned (.tuple #[.slice none 0 0, .int .i64 6]) ∧ Fr [] w w' := by
  obtain ⟨D, h1, h2, h3⟩ := h
  rw [← h2.op_eq] at hm hy
  exact tdone_no m w h1 (h2.good h3) hm y ((h2.ah m hm).2.2 y hd hy) ((h2.wt m y).2 ⟨hm, hy, hd⟩)
end
end Go.Proofs.YtakbodlicfmkjaaGreat

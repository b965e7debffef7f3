/- A write taken off a reader: contracts of the closures, of the gate with each of them, of takeWrite. Conditions: the reader is one of NewReader with nothing wrong. -/
import Derived.Test.YtaefninikmaiiaaGreatDoorGate
namespace Go.Proofs.YtaefninikmaiiaaGreatDoor
open Go.ChangeShapes Go.WideShapes Go.ChangeAt Go.RowKit Go.Lib
set_option linter.unusedVariables false

/-- The call answers v; the reader's struct alone may differ. -/
def Er (fn : Nat) (args : Array Value) (w : World) (v : Value) (g : Nat) : Prop := Calls Tryz.prog fn args w fun e w' => e = .returned v ∧ Fr [g] w w'
theorem Er.calls {fn : Nat} {args : Array Value} {w : World} {v : Value} {g : Nat} (h : Er fn args w v g) : Calls Tryz.prog fn args w fun e w' => e = .returned v ∧ Fr [g] w w' := h
theorem tk_split {α : Type} (f : List Nat → α × Nat × Nat) (ref : α → Nat) (z : α) (xs : List Nat) (hs : (f xs).2.2 = 0 → 0 < (f xs).2.1 ∧ (f xs).2.1 ≤ xs.length) :
    (∃ c, c ≠ 0 ∧ tk f ref xs = .error c ∧ rdBy f z xs 0 = (z, xs, c)) ∨
    (∃ v ys, tk f ref xs = .error (ref v) ∧ ref v ≠ 0 ∧ v = (f xs).1 ∧ ys.length < xs.length ∧ rdBy f z xs 0 = (v, ys, 0)) ∨
    (∃ v ys, tk f ref xs = .ok (v, ys) ∧ ref v = 0 ∧ v = (f xs).1 ∧ ys.length < xs.length ∧ rdBy f z xs 0 = (v, ys, 0)) := by
  by_cases h : (f xs).2.2 = 0
  · have h1 := hs h
    have hl : (xs.drop (f xs).2.1).length < xs.length := by rw [List.length_drop]; omega
    have hr : rdBy f z xs 0 = ((f xs).1, xs.drop (f xs).2.1, 0) := by simp [rdBy, h]
    by_cases h2 : ref (f xs).1 = 0
    · exact Or.inr (Or.inr ⟨(f xs).1, xs.drop (f xs).2.1, by simp [tk, h, h2], h2, rfl, hl, hr⟩)
    · exact Or.inr (Or.inl ⟨(f xs).1, xs.drop (f xs).2.1, by simp [tk, h, h2], h2, rfl, hl, hr⟩)
  · exact Or.inl ⟨(f xs).2.2, h, by simp [tk, h], by simp [rdBy, h]⟩
theorem short_pos (xs : List Nat) (h : (shortF 0 0 xs).2.2 = 0) : 0 < (shortF 0 0 xs).2.1 ∧ (shortF 0 0 xs).2.1 ≤ xs.length := by
  have := shortF_size xs 0 0 h
  omega
theorem text_pos (m : Nat) (xs : List Nat) (h : (textF (m : Int) xs).2.2 = 0) : 0 < (textF (m : Int) xs).2.1 ∧ (textF (m : Int) xs).2.1 ≤ xs.length := by
  refine ⟨?_, (textF_size _ xs h).2⟩
  unfold textF at h ⊢
  rw [if_neg (by omega)] at h ⊢
  split at h
  · rename_i h2; exact absurd h h2
  · rename_i h2
    rw [if_neg h2]
    split at h
    · simp at h
    · rename_i h3
      rw [if_neg h3]
      split at h
      · simp at h
      · rename_i h4
        rw [if_neg h4]
        have := shortF_size xs 0 0 (by simpa using h2)
        simp only
        omega
theorem fix_pos (xs : List Nat) (h : (fixF 1 xs).2.2 = 0) : 0 < (fixF 1 xs).2.1 ∧ (fixF 1 xs).2.1 ≤ xs.length := by
  cases xs with
  | nil => rw [fix_none] at h; simp at h
  | cons x r => rw [fix_enc]; simp
theorem fix_val (xs : List Nat) (hb : ∀ x ∈ xs, x < 256) : (fixF 1 xs).1 < 2 ^ 64 := by
  cases xs with
  | nil => rw [fix_none]; decide
  | cons x r => rw [fix_enc]; have := hb x (by simp); simp only; omega

set_option maxHeartbeats 1000000 in
theorem tw1_any (g r bx : Nat) (xs : List Nat) (ao : Option Addr) (cap : Nat) (w : World) (h : Rd w g r xs 0 ao cap) (hb : w.cell? ⟨bx, 0, none⟩ = some (.pointer (some ⟨g, 0, none⟩))) :
    Dn 200 #[.pointer (some ⟨bx, 0, none⟩)] w (.string (rdBy (textF 64) ⟨#[]⟩ xs 0).1) g r (rdBy (textF 64) ⟨#[]⟩ xs 0).2.1 (rdBy (textF 64) ⟨#[]⟩ xs 0).2.2 := by
  show Calls _ _ _ _ _
  have hC := rText_any g r xs 0 ao cap 64 _ h (by decide) (by decide)
  obtain ⟨R, hR⟩ : ∃ R, R = rdBy (textF 64) ⟨#[]⟩ xs 0 := ⟨_, rfl⟩
  rw [← hR] at hC ⊢
  clear hR
  obtain ⟨R1, R2, R3⟩ := R
  simp only at hC ⊢
  go_enter Tryz.func200, Tryz.ntmps200
  go_wp2_with fail
  refine hC.mono ?_
  rintro e w1 ⟨rfl, hX⟩
  go_wp2
  go_ret
  exact ⟨rfl, hX⟩

set_option maxHeartbeats 1000000 in
theorem tw2_any (g r bx : Nat) (xs : List Nat) (ao : Option Addr) (cap : Nat) (w : World) (h : Rd w g r xs 0 ao cap) (hb : w.cell? ⟨bx, 0, none⟩ = some (.pointer (some ⟨g, 0, none⟩))) :
    Dn 202 #[.pointer (some ⟨bx, 0, none⟩)] w (.int .u64 ((rdBy (fixF 1) 0 xs 0).1 : Nat)) g r (rdBy (fixF 1) 0 xs 0).2.1 (rdBy (fixF 1) 0 xs 0).2.2 := by
  show Calls _ _ _ _ _
  have hC := rFixed_any g r xs 0 ao cap 1 _ h
  obtain ⟨R, hR⟩ : ∃ R, R = rdBy (fixF 1) 0 xs 0 := ⟨_, rfl⟩
  rw [← hR] at hC ⊢
  clear hR
  obtain ⟨R1, R2, R3⟩ := R
  simp only at hC ⊢
  go_enter Tryz.func202, Tryz.ntmps202
  go_wp2_with fail
  refine hC.mono ?_
  rintro e w1 ⟨rfl, hX⟩
  go_wp2
  go_ret
  exact ⟨rfl, hX⟩

set_option maxHeartbeats 1000000 in
theorem tw3_any (g r bx : Nat) (xs : List Nat) (ao : Option Addr) (cap : Nat) (w : World) (h : Rd w g r xs 0 ao cap) (hb : w.cell? ⟨bx, 0, none⟩ = some (.pointer (some ⟨g, 0, none⟩))) :
    Dn 204 #[.pointer (some ⟨bx, 0, none⟩)] w (.string (rdBy (textF 1024) ⟨#[]⟩ xs 0).1) g r (rdBy (textF 1024) ⟨#[]⟩ xs 0).2.1 (rdBy (textF 1024) ⟨#[]⟩ xs 0).2.2 := by
  show Calls _ _ _ _ _
  have hC := rText_any g r xs 0 ao cap 1024 _ h (by decide) (by decide)
  obtain ⟨R, hR⟩ : ∃ R, R = rdBy (textF 1024) ⟨#[]⟩ xs 0 := ⟨_, rfl⟩
  rw [← hR] at hC ⊢
  clear hR
  obtain ⟨R1, R2, R3⟩ := R
  simp only at hC ⊢
  go_enter Tryz.func204, Tryz.ntmps204
  go_wp2_with fail
  refine hC.mono ?_
  rintro e w1 ⟨rfl, hX⟩
  go_wp2
  go_ret
  exact ⟨rfl, hX⟩

theorem takeN_any (g r : Nat) (xs : List Nat) (ao : Option Addr) (cap : Nat) (w : World) (h : Rd w g r xs 0 ao cap) :
    (∃ c, c ≠ 0 ∧ tk (shortF 0 0) refN xs = .error c ∧ Er 187 #[.pointer (some ⟨g, 0, none⟩), .func (Fn.func 188) #[.pointer (some ⟨g, 0, none⟩)] #[], .func (Fn.func 189) #[] #[]] w (.tuple #[.int .u64 0, .int .i64 (c : Int)]) g) ∨
    (∃ v ys, tk (shortF 0 0) refN xs = .ok (v, ys) ∧ Dn 187 #[.pointer (some ⟨g, 0, none⟩), .func (Fn.func 188) #[.pointer (some ⟨g, 0, none⟩)] #[], .func (Fn.func 189) #[] #[]] w (.tuple #[.int .u64 (v : Int), .int .i64 0]) g r ys 0) := by
  have hD : Dn 188 #[.pointer (some ⟨g, 0, none⟩)] w (.int .u64 ((rdBy (shortF 0 0) 0 xs 0).1 : Nat)) g r (rdBy (shortF 0 0) 0 xs 0).2.1 (rdBy (shortF 0 0) 0 xs 0).2.2 := rVar_any g r xs 0 ao cap w h
  rcases tk_split (shortF 0 0) refN 0 xs (short_pos xs) with ⟨c, hc, h1, h2⟩ | ⟨v, ys, h1, hc, hv, hl, h2⟩ | ⟨v, ys, h1, hc, hv, hl, h2⟩
  · rw [h2] at hD
    exact Or.inl ⟨c, hc, h1, gateN_wrong _ g r c xs ao cap w h hc hD⟩
  · rw [h2] at hD
    exact Or.inl ⟨refN v, hc, h1, gateN_ref _ g r _ v xs ys ao cap w h hc hl hD (numberWrong_any v (hv ▸ shortF_val xs 0 0 (by omega) (by omega) h.sl.low))⟩
  · rw [h2] at hD
    have hR := (numberWrong_any v (hv ▸ shortF_val xs 0 0 (by omega) (by omega) h.sl.low))
    rw [hc] at hR
    exact Or.inr ⟨v, ys, h1, gateN_good _ g r v xs ys ao cap w h hl hD hR⟩

theorem takeC_any (g r : Nat) (xs : List Nat) (ao : Option Addr) (cap : Nat) (w : World) (h : Rd w g r xs 0 ao cap) :
    (∃ c, c ≠ 0 ∧ tk (shortF 0 0) refC xs = .error c ∧ Er 187 #[.pointer (some ⟨g, 0, none⟩), .func (Fn.func 188) #[.pointer (some ⟨g, 0, none⟩)] #[], .func (Fn.func 190) #[] #[]] w (.tuple #[.int .u64 0, .int .i64 (c : Int)]) g) ∨
    (∃ v ys, tk (shortF 0 0) refC xs = .ok (v, ys) ∧ Dn 187 #[.pointer (some ⟨g, 0, none⟩), .func (Fn.func 188) #[.pointer (some ⟨g, 0, none⟩)] #[], .func (Fn.func 190) #[] #[]] w (.tuple #[.int .u64 (v : Int), .int .i64 0]) g r ys 0) := by
  have hD : Dn 188 #[.pointer (some ⟨g, 0, none⟩)] w (.int .u64 ((rdBy (shortF 0 0) 0 xs 0).1 : Nat)) g r (rdBy (shortF 0 0) 0 xs 0).2.1 (rdBy (shortF 0 0) 0 xs 0).2.2 := rVar_any g r xs 0 ao cap w h
  rcases tk_split (shortF 0 0) refC 0 xs (short_pos xs) with ⟨c, hc, h1, h2⟩ | ⟨v, ys, h1, hc, hv, hl, h2⟩ | ⟨v, ys, h1, hc, hv, hl, h2⟩
  · rw [h2] at hD
    exact Or.inl ⟨c, hc, h1, gateC_wrong _ g r c xs ao cap w h hc hD⟩
  · rw [h2] at hD
    exact Or.inl ⟨refC v, hc, h1, gateC_ref _ g r _ v xs ys ao cap w h hc hl hD (countWrong_any v (hv ▸ shortF_val xs 0 0 (by omega) (by omega) h.sl.low))⟩
  · rw [h2] at hD
    have hR := (countWrong_any v (hv ▸ shortF_val xs 0 0 (by omega) (by omega) h.sl.low))
    rw [hc] at hR
    exact Or.inr ⟨v, ys, h1, gateC_good _ g r v xs ys ao cap w h hl hD hR⟩

theorem takeD_any (g r : Nat) (xs : List Nat) (ao : Option Addr) (cap : Nat) (w : World) (h : Rd w g r xs 0 ao cap) (bx : Nat) (hb : w.cell? ⟨bx, 0, none⟩ = some (.pointer (some ⟨g, 0, none⟩))) :
    (∃ c, c ≠ 0 ∧ tk (fixF 1) refD xs = .error c ∧ Er 187 #[.pointer (some ⟨g, 0, none⟩), .func (Fn.func 202) #[] #[.pointer (some ⟨bx, 0, none⟩)], .func (Fn.func 203) #[] #[]] w (.tuple #[.int .u64 0, .int .i64 (c : Int)]) g) ∨
    (∃ v ys, tk (fixF 1) refD xs = .ok (v, ys) ∧ Dn 187 #[.pointer (some ⟨g, 0, none⟩), .func (Fn.func 202) #[] #[.pointer (some ⟨bx, 0, none⟩)], .func (Fn.func 203) #[] #[]] w (.tuple #[.int .u64 (v : Int), .int .i64 0]) g r ys 0) := by
  have hD : Dn 202 #[.pointer (some ⟨bx, 0, none⟩)] w (.int .u64 ((rdBy (fixF 1) 0 xs 0).1 : Nat)) g r (rdBy (fixF 1) 0 xs 0).2.1 (rdBy (fixF 1) 0 xs 0).2.2 := tw2_any g r bx xs ao cap w h hb
  rcases tk_split (fixF 1) refD 0 xs (fix_pos xs) with ⟨c, hc, h1, h2⟩ | ⟨v, ys, h1, hc, hv, hl, h2⟩ | ⟨v, ys, h1, hc, hv, hl, h2⟩
  · rw [h2] at hD
    exact Or.inl ⟨c, hc, h1, gateD_wrong _ g r c xs ao cap w h hc hD⟩
  · rw [h2] at hD
    exact Or.inl ⟨refD v, hc, h1, gateD_ref _ g r _ v xs ys ao cap w h hc hl hD (dropWrong_any v (hv ▸ fix_val xs h.sl.low))⟩
  · rw [h2] at hD
    have hR := (dropWrong_any v (hv ▸ fix_val xs h.sl.low))
    rw [hc] at hR
    exact Or.inr ⟨v, ys, h1, gateD_good _ g r v xs ys ao cap w h hl hD hR⟩

theorem takeK_any (g r : Nat) (xs : List Nat) (ao : Option Addr) (cap : Nat) (w : World) (h : Rd w g r xs 0 ao cap) (bx : Nat) (hb : w.cell? ⟨bx, 0, none⟩ = some (.pointer (some ⟨g, 0, none⟩))) :
    (∃ c, c ≠ 0 ∧ tk (textF 64) refK xs = .error c ∧ Er 199 #[.pointer (some ⟨g, 0, none⟩), .func (Fn.func 200) #[] #[.pointer (some ⟨bx, 0, none⟩)], .func (Fn.func 201) #[] #[]] w (.tuple #[.string ⟨#[]⟩, .int .i64 (c : Int)]) g) ∨
    (∃ v ys, tk (textF 64) refK xs = .ok (v, ys) ∧ Dn 199 #[.pointer (some ⟨g, 0, none⟩), .func (Fn.func 200) #[] #[.pointer (some ⟨bx, 0, none⟩)], .func (Fn.func 201) #[] #[]] w (.tuple #[.string v, .int .i64 0]) g r ys 0) := by
  have hD : Dn 200 #[.pointer (some ⟨bx, 0, none⟩)] w (.string (rdBy (textF 64) ⟨#[]⟩ xs 0).1) g r (rdBy (textF 64) ⟨#[]⟩ xs 0).2.1 (rdBy (textF 64) ⟨#[]⟩ xs 0).2.2 := tw1_any g r bx xs ao cap w h hb
  rcases tk_split (textF 64) refK ⟨#[]⟩ xs (text_pos 64 xs) with ⟨c, hc, h1, h2⟩ | ⟨v, ys, h1, hc, hv, hl, h2⟩ | ⟨v, ys, h1, hc, hv, hl, h2⟩
  · rw [h2] at hD
    exact Or.inl ⟨c, hc, h1, gateK_wrong _ g r c xs ao cap w h hc hD⟩
  · rw [h2] at hD
    exact Or.inl ⟨refK v, hc, h1, gateK_ref _ g r _ v xs ys ao cap w h hc hl hD (keyWrong_any v )⟩
  · rw [h2] at hD
    have hR := (keyWrong_any v )
    rw [hc] at hR
    exact Or.inr ⟨v, ys, h1, gateK_good _ g r v xs ys ao cap w h hl hD hR⟩

theorem takeV_any (g r : Nat) (xs : List Nat) (ao : Option Addr) (cap : Nat) (w : World) (h : Rd w g r xs 0 ao cap) (bx : Nat) (hb : w.cell? ⟨bx, 0, none⟩ = some (.pointer (some ⟨g, 0, none⟩))) :
    (∃ c, c ≠ 0 ∧ tk (textF 1024) refV xs = .error c ∧ Er 199 #[.pointer (some ⟨g, 0, none⟩), .func (Fn.func 204) #[] #[.pointer (some ⟨bx, 0, none⟩)], .func (Fn.func 205) #[] #[]] w (.tuple #[.string ⟨#[]⟩, .int .i64 (c : Int)]) g) ∨
    (∃ v ys, tk (textF 1024) refV xs = .ok (v, ys) ∧ Dn 199 #[.pointer (some ⟨g, 0, none⟩), .func (Fn.func 204) #[] #[.pointer (some ⟨bx, 0, none⟩)], .func (Fn.func 205) #[] #[]] w (.tuple #[.string v, .int .i64 0]) g r ys 0) := by
  have hD : Dn 204 #[.pointer (some ⟨bx, 0, none⟩)] w (.string (rdBy (textF 1024) ⟨#[]⟩ xs 0).1) g r (rdBy (textF 1024) ⟨#[]⟩ xs 0).2.1 (rdBy (textF 1024) ⟨#[]⟩ xs 0).2.2 := tw3_any g r bx xs ao cap w h hb
  rcases tk_split (textF 1024) refV ⟨#[]⟩ xs (text_pos 1024 xs) with ⟨c, hc, h1, h2⟩ | ⟨v, ys, h1, hc, hv, hl, h2⟩ | ⟨v, ys, h1, hc, hv, hl, h2⟩
  · rw [h2] at hD
    exact Or.inl ⟨c, hc, h1, gateV_wrong _ g r c xs ao cap w h hc hD⟩
  · rw [h2] at hD
    exact Or.inl ⟨refV v, hc, h1, gateV_ref _ g r _ v xs ys ao cap w h hc hl hD (noneWrong_any v )⟩
  · rw [h2] at hD
    have hR := (noneWrong_any v )
    rw [hc] at hR
    exact Or.inr ⟨v, ys, h1, gateV_good _ g r v xs ys ao cap w h hl hD hR⟩

theorem Tryz.infoWt : (Tryz.prog.info? 124).map (fun i => (i.zero, i.size)) = some (some (.agg #[.string ⟨#[]⟩, .string ⟨#[]⟩, .bool false]), 3) := by kernel_rfl
end Go.Proofs.YtaefninikmaiiaaGreatDoor

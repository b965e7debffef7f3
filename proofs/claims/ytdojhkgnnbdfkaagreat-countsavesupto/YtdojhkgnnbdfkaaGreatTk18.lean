/- The taker of a checkpoint's bytes, in memory; contracts of take, number, text, dropped and of the closure that takes a version. Conditions as each names them. -/
import Derived.Test.YtdojhkgnnbdfkaaGreatSv18
namespace Go.Proofs.YtdojhkgnnbdfkaaGreat
open Go.ChangeShapes Go.WideShapes Go.ChangeAt Go.RowKit Go.Lib Go.Maps
set_option linter.unusedVariables false
set_option linter.unusedSimpArgs false

theorem tk_split {α : Type} (f : List Nat → α × Nat × Nat) (ref : α → Nat) (z : α) (xs : List Nat) (hs : (f xs).2.2 = 0 → 0 < (f xs).2.1 ∧ (f xs).2.1 ≤ xs.length) :
    (∃ c, c ≠ 0 ∧ tk f ref xs = .error c ∧ rdBy f z xs 0 = (z, xs, c)) ∨
    (∃ v ys, tk f ref xs = .error (ref v) ∧ ref v ≠ 0 ∧ v = (f xs).1 ∧ ys.length < xs.length ∧ rdBy f z xs 0 = (v, ys, 0)) ∨
    (∃ v ys, tk f ref xs = .ok (v, ys) ∧ ref v = 0 ∧ v = (f xs).1 ∧ ys.length < xs.length ∧ rdBy f z xs 0 = (v, ys, 0)) := by
  by_cases h : (f xs).2.2 = 0
  · have h1 := hs h
    have hl : (xs.drop (f xs).2.1).length < xs.length := by rw [List.length_drop]; omega
    have hr : rdBy f z xs 0 = ((f xs).1, xs.drop (f xs).2.1, 0) := by simp [rdBy, h]
    by_cases h2 : ref (f xs).1 = 0
    · exact Or.inr (Or.inr ⟨(f xs).1, xs.drop (f xs).2.1, by simp [tk, h, h2], h2, rfl, hl, hr⟩)
    · exact Or.inr (Or.inl ⟨(f xs).1, xs.drop (f xs).2.1, by simp [tk, h, h2], h2, rfl, hl, hr⟩)
  · exact Or.inl ⟨(f xs).2.2, h, by simp [tk, h], by simp [rdBy, h]⟩
theorem short_pos (xs : List Nat) (h : (shortF 0 0 xs).2.2 = 0) : 0 < (shortF 0 0 xs).2.1 ∧ (shortF 0 0 xs).2.1 ≤ xs.length := by
  have := shortF_size xs 0 0 h
  omega
theorem text_pos (m : Nat) (xs : List Nat) (h : (textF (m : Int) xs).2.2 = 0) : 0 < (textF (m : Int) xs).2.1 ∧ (textF (m : Int) xs).2.1 ≤ xs.length := by
  refine ⟨?_, (textF_size _ xs h).2⟩
  unfold textF at h ⊢
  rw [if_neg (by omega)] at h ⊢
  split at h
  · rename_i h2; exact absurd h h2
  · rename_i h2
    rw [if_neg h2]
    split at h
    · simp at h
    · rename_i h3
      rw [if_neg h3]
      split at h
      · simp at h
      · rename_i h4
        rw [if_neg h4]
        have := shortF_size xs 0 0 (by simpa using h2)
        simp only
        omega
theorem fix_pos (xs : List Nat) (h : (fixF 1 xs).2.2 = 0) : 0 < (fixF 1 xs).2.1 ∧ (fixF 1 xs).2.1 ≤ xs.length := by
  cases xs with
  | nil => rw [fix_none] at h; simp at h
  | cons x r => rw [fix_enc]; simp

/-- The call answers v, and the reader stands ahead of ys then, er being wrong. -/
def Dn (fn : Nat) (args : Array Value) (w : World) (v : Value) (g r : Nat) (ys : List Nat) (er : Nat) : Prop :=
  Calls Tryz.prog fn args w fun e w' => e = .returned v ∧ ∃ ao' cap', Rd w' g r ys er ao' cap' ∧ Fr [g] w w'
theorem Dn.calls {fn : Nat} {args : Array Value} {w : World} {v : Value} {g r : Nat} {ys : List Nat} {er : Nat} (h : Dn fn args w v g r ys er) :
    Calls Tryz.prog fn args w fun e w' => e = .returned v ∧ ∃ ao' cap', Rd w' g r ys er ao' cap' ∧ Fr [g] w w' := h
theorem endOf_wrong (er n : Nat) (h : er ≠ 0) : endOf er n = er := by simp [endOf, h]

/-- A taker's struct in block t. -/
structure TB (w : World) (t g c : Nat) : Prop where
  box : w.heap[t]? = some (.cells #[.pointer (some ⟨g, 0, none⟩), .int .i64 (c : Int)] 168 (0, 0))
theorem TB.lt {w : World} {t g c : Nat} (h : TB w t g c) : t < w.heap.size := lt_of_block h.box
theorem TB.c0 {w : World} {t g c : Nat} (h : TB w t g c) : w.cell? ⟨t, 0, none⟩ = some (.pointer (some ⟨g, 0, none⟩)) := by simp [World.cell?, h.box]
theorem TB.c1 {w : World} {t g c : Nat} (h : TB w t g c) : w.cell? ⟨t, 1, none⟩ = some (.int .i64 (c : Int)) := by simp [World.cell?, h.box]
theorem TB.f1 {w : World} {t g c : Nat} (h : TB w t g c) : w.frozen? ⟨t, 1, none⟩ = false := by simp [World.frozen?, h.box]
theorem TB.keep {S : List Nat} {w w' : World} {t g c : Nat} (h : TB w t g c) (hf : Fr S w w') (hn : t ∉ S) : TB w' t g c := ⟨hf.keep h.box hn⟩
theorem TB.set {w : World} {t g c : Nat} (h : TB w t g c) (d : Nat) : TB (w.setCell ⟨t, 1, none⟩ (.int .i64 (d : Int))) t g d := ⟨two_setCell1 h.box⟩
/-- A taker with nothing wrong, ahead of ys. -/
structure Tl (w : World) (t g r : Nat) (ys : List Nat) : Prop where
  tb : TB w t g 0
  rd : ∃ ao cap, Rd w g r ys 0 ao cap
theorem Tl.tg {w : World} {t g r : Nat} {ys : List Nat} (h : Tl w t g r ys) : t ≠ g := by
  rintro rfl
  obtain ⟨ao, cap, hr⟩ := h.rd
  have := h.tb.box
  rw [hr.box] at this
  simp at this
theorem Tl.tr {w : World} {t g r : Nat} {ys : List Nat} (h : Tl w t g r ys) (h0 : 0 < ys.length) : t ≠ r := by
  rintro rfl
  obtain ⟨ao, cap, hr⟩ := h.rd
  obtain ⟨off, _, hc⟩ := hr.sl.lies h0
  have h1 := hc 0 h0
  simp only [World.cell?, h.tb.box] at h1
  rcases off with _ | _ | off <;> simp at h1
theorem Tl.keep {S : List Nat} {w w' : World} {t g r : Nat} {ys : List Nat} (h : Tl w t g r ys) (hf : Fr S w w') (ht : t ∉ S) (hg : g ∉ S) (hr : r ∉ S) : Tl w' t g r ys := by
  obtain ⟨ao, cap, hR⟩ := h.rd
  exact ⟨h.tb.keep hf ht, ao, cap, hR.keep hf hg hr⟩
theorem Tl.keep0 {w w' : World} {t g r : Nat} {ys : List Nat} (h : Tl w t g r ys) (hf : Fr [] w w') : Tl w' t g r ys := h.keep hf (by simp) (by simp) (by simp)
/-- A taker with c wrong. -/
structure Td (w : World) (t g c : Nat) : Prop where
  tb : TB w t g c
  bad : c ≠ 0
theorem Td.keep0 {w w' : World} {t g c : Nat} (h : Td w t g c) (hf : Fr [] w w') : Td w' t g c := ⟨h.tb.keep hf (by simp), h.bad⟩

set_option maxHeartbeats 2000000 in
set_option maxRecDepth 100000 in
theorem takeU_dead (fv : Value) (t g c : Nat) (w : World) (h : Td w t g c) : Calls Tryz.prog 117 #[.pointer (some ⟨t, 0, none⟩), fv] w fun e w' => e = .returned (.int .u64 0) ∧ w = w' := by
  have c1 := h.tb.c1
  have hcb : ((c : Int) != 0) = true := by rw [bne_iff_ne]; have := h.bad; omega
  go_enter Tryz.func117, Tryz.ntmps117
  go_wp2
  go_ret
  exact ⟨rfl, rfl⟩
set_option maxHeartbeats 2000000 in
set_option maxRecDepth 100000 in
theorem takeS_dead (fv : Value) (t g c : Nat) (w : World) (h : Td w t g c) : Calls Tryz.prog 128 #[.pointer (some ⟨t, 0, none⟩), fv] w fun e w' => e = .returned (.string ⟨#[]⟩) ∧ w = w' := by
  have c1 := h.tb.c1
  have hcb : ((c : Int) != 0) = true := by rw [bne_iff_ne]; have := h.bad; omega
  go_enter Tryz.func128, Tryz.ntmps128
  go_wp2
  go_ret
  exact ⟨rfl, rfl⟩
-- LIVE
set_option maxHeartbeats 2000000 in
set_option maxRecDepth 100000 in
theorem takeV_wrong (p : Value) (t g r c : Nat) (xs : List Nat) (w : World) (h : Tl w t g r xs) (hc : c ≠ 0) (hD : Dn 118 #[p] w (.int .u64 0) g r xs c) :
    Calls Tryz.prog 117 #[.pointer (some ⟨t, 0, none⟩), .func (Fn.func 118) #[p] #[]] w fun e w' => e = .returned (.int .u64 0) ∧ Td w' t g c ∧ Fr [t, g] w w' := by
  have HE : Hid (endOf c xs.length = c) := endOf_wrong _ _ hc
  have htg := h.tg
  have c0 := h.tb.c0
  have c1 := h.tb.c1
  have HT : Hid (TB w t g 0) := h.tb
  have HC : Hid (c ≠ 0) := hc
  obtain ⟨ao, cap, hR⟩ := h.rd
  obtain ⟨L, hL⟩ : ∃ L, L = xs.length := ⟨_, rfl⟩
  have HL : Hid (L = xs.length) := hL
  have hl1 := left_any g r xs 0 ao cap w hR
  rw [← hL] at hl1
  clear hL hc h hR
  go_enter Tryz.func117, Tryz.ntmps117
  go_wp2_with fail
  refine hl1.mono ?_
  rintro e w1 ⟨rfl, rfl⟩
  go_wp2_with fail
  refine hD.calls.mono ?_
  rintro e w1 ⟨rfl, ao1, cap1, hR1, hF1⟩
  have hl2 := left_any g r xs c ao1 cap1 w1 hR1
  have hl3 := end_any g r xs c ao1 cap1 w1 hR1
  rw [← HL.out] at hl2
  rw [HE.out] at hl3
  have hT1 : TB w1 t g 0 := HT.out.keep hF1 (by simpa using htg)
  have HF : Hid (Fr [t, g] w w1) := hF1.mono (by simp)
  have d0 := hT1.c0
  have d1 := hT1.c1
  have df := hT1.f1
  have HT1 : Hid (TB w1 t g 0) := hT1
  clear hF1 hD hR1 hT1 c0 c1
  go_wp2_with fail
  refine hl2.mono ?_
  rintro e w2 ⟨rfl, rfl⟩
  go_wp2_with fail
  refine hl3.mono ?_
  rintro e w2 ⟨rfl, rfl⟩
  go_wp2
  go_ret
  exact ⟨rfl, ⟨HT1.out.set c, HC.out⟩, HF.out.then (Fr.set _ _ _ (by simp))⟩
set_option maxHeartbeats 2000000 in
set_option maxRecDepth 100000 in
theorem takeV_good (p : Value) (t g r : Nat) (v : Nat) (xs ys : List Nat) (w : World) (h : Tl w t g r xs) (hlt : ys.length < xs.length) (hD : Dn 118 #[p] w (.int .u64 (v : Int)) g r ys 0) :
    Calls Tryz.prog 117 #[.pointer (some ⟨t, 0, none⟩), .func (Fn.func 118) #[p] #[]] w fun e w' => e = .returned (.int .u64 (v : Int)) ∧ Tl w' t g r ys ∧ Fr [t, g] w w' := by
  have htg := h.tg
  have c0 := h.tb.c0
  have c1 := h.tb.c1
  have HT : Hid (TB w t g 0) := h.tb
  obtain ⟨ao, cap, hR⟩ := h.rd
  obtain ⟨L, hL⟩ : ∃ L, L = xs.length := ⟨_, rfl⟩
  obtain ⟨M, hM⟩ : ∃ M, M = ys.length := ⟨_, rfl⟩
  have hlb : ((M : Int) == L) = false := by rw [beq_eq_false_iff_ne]; omega
  have HM : Hid (M = ys.length) := hM
  have hl1 := left_any g r xs 0 ao cap w hR
  rw [← hL] at hl1
  clear hL hM hlt h hR
  go_enter Tryz.func117, Tryz.ntmps117
  go_wp2_with fail
  refine hl1.mono ?_
  rintro e w1 ⟨rfl, rfl⟩
  go_wp2_with fail
  refine hD.calls.mono ?_
  rintro e w1 ⟨rfl, ao1, cap1, hR1, hF1⟩
  have hl2 := left_any g r ys 0 ao1 cap1 w1 hR1
  rw [← HM.out] at hl2
  have hT1 : TB w1 t g 0 := HT.out.keep hF1 (by simpa using htg)
  have HF : Hid (Fr [t, g] w w1) := hF1.mono (by simp)
  have d0 := hT1.c0
  have d1 := hT1.c1
  have HT1 : Hid (Tl w1 t g r ys) := ⟨hT1, ao1, cap1, hR1⟩
  clear hF1 hD hR1 hT1 c0 c1
  go_wp2_with fail
  refine hl2.mono ?_
  rintro e w2 ⟨rfl, rfl⟩
  go_wp2
  go_ret
  exact ⟨rfl, HT1.out, HF.out⟩
set_option maxHeartbeats 2000000 in
set_option maxRecDepth 100000 in
theorem takeF_wrong (p : Value) (t g r c : Nat) (xs : List Nat) (w : World) (h : Tl w t g r xs) (hc : c ≠ 0) (hD : Dn 131 #[p] w (.int .u64 0) g r xs c) :
    Calls Tryz.prog 117 #[.pointer (some ⟨t, 0, none⟩), .func (Fn.func 131) #[] #[p]] w fun e w' => e = .returned (.int .u64 0) ∧ Td w' t g c ∧ Fr [t, g] w w' := by
  have HE : Hid (endOf c xs.length = c) := endOf_wrong _ _ hc
  have htg := h.tg
  have c0 := h.tb.c0
  have c1 := h.tb.c1
  have HT : Hid (TB w t g 0) := h.tb
  have HC : Hid (c ≠ 0) := hc
  obtain ⟨ao, cap, hR⟩ := h.rd
  obtain ⟨L, hL⟩ : ∃ L, L = xs.length := ⟨_, rfl⟩
  have HL : Hid (L = xs.length) := hL
  have hl1 := left_any g r xs 0 ao cap w hR
  rw [← hL] at hl1
  clear hL hc h hR
  go_enter Tryz.func117, Tryz.ntmps117
  go_wp2_with fail
  refine hl1.mono ?_
  rintro e w1 ⟨rfl, rfl⟩
  go_wp2_with fail
  refine hD.calls.mono ?_
  rintro e w1 ⟨rfl, ao1, cap1, hR1, hF1⟩
  have hl2 := left_any g r xs c ao1 cap1 w1 hR1
  have hl3 := end_any g r xs c ao1 cap1 w1 hR1
  rw [← HL.out] at hl2
  rw [HE.out] at hl3
  have hT1 : TB w1 t g 0 := HT.out.keep hF1 (by simpa using htg)
  have HF : Hid (Fr [t, g] w w1) := hF1.mono (by simp)
  have d0 := hT1.c0
  have d1 := hT1.c1
  have df := hT1.f1
  have HT1 : Hid (TB w1 t g 0) := hT1
  clear hF1 hD hR1 hT1 c0 c1
  go_wp2_with fail
  refine hl2.mono ?_
  rintro e w2 ⟨rfl, rfl⟩
  go_wp2_with fail
  refine hl3.mono ?_
  rintro e w2 ⟨rfl, rfl⟩
  go_wp2
  go_ret
  exact ⟨rfl, ⟨HT1.out.set c, HC.out⟩, HF.out.then (Fr.set _ _ _ (by simp))⟩
set_option maxHeartbeats 2000000 in
set_option maxRecDepth 100000 in
theorem takeF_good (p : Value) (t g r : Nat) (v : Nat) (xs ys : List Nat) (w : World) (h : Tl w t g r xs) (hlt : ys.length < xs.length) (hD : Dn 131 #[p] w (.int .u64 (v : Int)) g r ys 0) :
    Calls Tryz.prog 117 #[.pointer (some ⟨t, 0, none⟩), .func (Fn.func 131) #[] #[p]] w fun e w' => e = .returned (.int .u64 (v : Int)) ∧ Tl w' t g r ys ∧ Fr [t, g] w w' := by
  have htg := h.tg
  have c0 := h.tb.c0
  have c1 := h.tb.c1
  have HT : Hid (TB w t g 0) := h.tb
  obtain ⟨ao, cap, hR⟩ := h.rd
  obtain ⟨L, hL⟩ : ∃ L, L = xs.length := ⟨_, rfl⟩
  obtain ⟨M, hM⟩ : ∃ M, M = ys.length := ⟨_, rfl⟩
  have hlb : ((M : Int) == L) = false := by rw [beq_eq_false_iff_ne]; omega
  have HM : Hid (M = ys.length) := hM
  have hl1 := left_any g r xs 0 ao cap w hR
  rw [← hL] at hl1
  clear hL hM hlt h hR
  go_enter Tryz.func117, Tryz.ntmps117
  go_wp2_with fail
  refine hl1.mono ?_
  rintro e w1 ⟨rfl, rfl⟩
  go_wp2_with fail
  refine hD.calls.mono ?_
  rintro e w1 ⟨rfl, ao1, cap1, hR1, hF1⟩
  have hl2 := left_any g r ys 0 ao1 cap1 w1 hR1
  rw [← HM.out] at hl2
  have hT1 : TB w1 t g 0 := HT.out.keep hF1 (by simpa using htg)
  have HF : Hid (Fr [t, g] w w1) := hF1.mono (by simp)
  have d0 := hT1.c0
  have d1 := hT1.c1
  have HT1 : Hid (Tl w1 t g r ys) := ⟨hT1, ao1, cap1, hR1⟩
  clear hF1 hD hR1 hT1 c0 c1
  go_wp2_with fail
  refine hl2.mono ?_
  rintro e w2 ⟨rfl, rfl⟩
  go_wp2
  go_ret
  exact ⟨rfl, HT1.out, HF.out⟩
set_option maxHeartbeats 2000000 in
set_option maxRecDepth 100000 in
theorem takeT_wrong (p q : Value) (t g r c : Nat) (xs : List Nat) (w : World) (h : Tl w t g r xs) (hc : c ≠ 0) (hD : Dn 129 #[p, q] w (.string ⟨#[]⟩) g r xs c) :
    Calls Tryz.prog 128 #[.pointer (some ⟨t, 0, none⟩), .func (Fn.func 129) #[] #[p, q]] w fun e w' => e = .returned (.string ⟨#[]⟩) ∧ Td w' t g c ∧ Fr [t, g] w w' := by
  have HE : Hid (endOf c xs.length = c) := endOf_wrong _ _ hc
  have htg := h.tg
  have c0 := h.tb.c0
  have c1 := h.tb.c1
  have HT : Hid (TB w t g 0) := h.tb
  have HC : Hid (c ≠ 0) := hc
  obtain ⟨ao, cap, hR⟩ := h.rd
  obtain ⟨L, hL⟩ : ∃ L, L = xs.length := ⟨_, rfl⟩
  have HL : Hid (L = xs.length) := hL
  have hl1 := left_any g r xs 0 ao cap w hR
  rw [← hL] at hl1
  clear hL hc h hR
  go_enter Tryz.func128, Tryz.ntmps128
  go_wp2_with fail
  refine hl1.mono ?_
  rintro e w1 ⟨rfl, rfl⟩
  go_wp2_with fail
  refine hD.calls.mono ?_
  rintro e w1 ⟨rfl, ao1, cap1, hR1, hF1⟩
  have hl2 := left_any g r xs c ao1 cap1 w1 hR1
  have hl3 := end_any g r xs c ao1 cap1 w1 hR1
  rw [← HL.out] at hl2
  rw [HE.out] at hl3
  have hT1 : TB w1 t g 0 := HT.out.keep hF1 (by simpa using htg)
  have HF : Hid (Fr [t, g] w w1) := hF1.mono (by simp)
  have d0 := hT1.c0
  have d1 := hT1.c1
  have df := hT1.f1
  have HT1 : Hid (TB w1 t g 0) := hT1
  clear hF1 hD hR1 hT1 c0 c1
  go_wp2_with fail
  refine hl2.mono ?_
  rintro e w2 ⟨rfl, rfl⟩
  go_wp2_with fail
  refine hl3.mono ?_
  rintro e w2 ⟨rfl, rfl⟩
  go_wp2
  go_ret
  exact ⟨rfl, ⟨HT1.out.set c, HC.out⟩, HF.out.then (Fr.set _ _ _ (by simp))⟩
set_option maxHeartbeats 2000000 in
set_option maxRecDepth 100000 in
theorem takeT_good (p q : Value) (t g r : Nat) (v : ByteArray) (xs ys : List Nat) (w : World) (h : Tl w t g r xs) (hlt : ys.length < xs.length) (hD : Dn 129 #[p, q] w (.string v) g r ys 0) :
    Calls Tryz.prog 128 #[.pointer (some ⟨t, 0, none⟩), .func (Fn.func 129) #[] #[p, q]] w fun e w' => e = .returned (.string v) ∧ Tl w' t g r ys ∧ Fr [t, g] w w' := by
  have htg := h.tg
  have c0 := h.tb.c0
  have c1 := h.tb.c1
  have HT : Hid (TB w t g 0) := h.tb
  obtain ⟨ao, cap, hR⟩ := h.rd
  obtain ⟨L, hL⟩ : ∃ L, L = xs.length := ⟨_, rfl⟩
  obtain ⟨M, hM⟩ : ∃ M, M = ys.length := ⟨_, rfl⟩
  have hlb : ((M : Int) == L) = false := by rw [beq_eq_false_iff_ne]; omega
  have HM : Hid (M = ys.length) := hM
  have hl1 := left_any g r xs 0 ao cap w hR
  rw [← hL] at hl1
  clear hL hM hlt h hR
  go_enter Tryz.func128, Tryz.ntmps128
  go_wp2_with fail
  refine hl1.mono ?_
  rintro e w1 ⟨rfl, rfl⟩
  go_wp2_with fail
  refine hD.calls.mono ?_
  rintro e w1 ⟨rfl, ao1, cap1, hR1, hF1⟩
  have hl2 := left_any g r ys 0 ao1 cap1 w1 hR1
  rw [← HM.out] at hl2
  have hT1 : TB w1 t g 0 := HT.out.keep hF1 (by simpa using htg)
  have HF : Hid (Fr [t, g] w w1) := hF1.mono (by simp)
  have d0 := hT1.c0
  have d1 := hT1.c1
  have HT1 : Hid (Tl w1 t g r ys) := ⟨hT1, ao1, cap1, hR1⟩
  clear hF1 hD hR1 hT1 c0 c1
  go_wp2_with fail
  refine hl2.mono ?_
  rintro e w2 ⟨rfl, rfl⟩
  go_wp2
  go_ret
  exact ⟨rfl, HT1.out, HF.out⟩
end Go.Proofs.YtdojhkgnnbdfkaaGreat

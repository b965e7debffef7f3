/- The document's taker: in memory, and what its number, text and drop answer. Conditions: where its bytes lie, fewer than 2^41. -/
import Derived.Test.YtdojhkgnnbdfkaaGreatRef2
import Derived.Test.YtdojhkgnnbdfkaaGreatDe18
namespace Go.Proofs.YtdojhkgnnbdfkaaGreat
open BigFrame Go.ChangeShapes Go.WideShapes Go.ChangeAt Go.RowKit Go.Lib Go.Maps
set_option linter.unusedVariables false
set_option linter.unusedSimpArgs false

theorem put_row {w : World} {b j : Nat} {cs : Array Value} {t : TypeId} (x : Value) (h : w.heap[b]? = some (.cells cs t (0, 0))) : (w.setCell ⟨b, j, none⟩ x).heap[b]? = some (.cells (cs.setIfInBounds j x) t (0, 0)) := row_setCell x h
/-- The document's taker in a block of its own. -/
structure Ta (w : World) (t : Nat) (s : Value) (p c d : Int) : Prop where
  box : w.heap[t]? = some (.cells #[.bool false, s, .int .i64 p, .int .i64 c, .int .i64 d] 161 (0, 0))
section
variable {w w' : World} {t : Nat} {s : Value} {p c d : Int}
theorem Ta.cs (h : Ta w t s p c d) : w.cell? ⟨t, 0, none⟩ = some (.bool false) ∧ w.cell? ⟨t, 1, none⟩ = some s ∧ w.cell? ⟨t, 2, none⟩ = some (.int .i64 p) ∧ w.cell? ⟨t, 3, none⟩ = some (.int .i64 c) ∧ w.cell? ⟨t, 4, none⟩ = some (.int .i64 d) := by
  refine ⟨?_, ?_, ?_, ?_, ?_⟩ <;> (rw [cell_of_row _ _ _ _ _ _ h.box]; rfl)
theorem Ta.f (h : Ta w t s p c d) (j : Nat) : w.frozen? ⟨t, j, none⟩ = false := by simp [World.frozen?, h.box]
theorem Ta.keep {S : List Nat} (h : Ta w t s p c d) (hf : Fr S w w') (hn : t ∉ S) : Ta w' t s p c d := ⟨hf.keep h.box hn⟩
theorem Ta.lt (h : Ta w t s p c d) : t < w.heap.size := lt_of_block h.box
/-- The taker when another reader and another code are stored. -/
def taSet (w : World) (t : Nat) (s' : Value) (p' c' d' : Int) : World := ((((w.setCell ⟨t, 0, none⟩ (.bool false)).setCell ⟨t, 1, none⟩ s').setCell ⟨t, 2, none⟩ (.int .i64 p')).setCell ⟨t, 3, none⟩ (.int .i64 c')).setCell ⟨t, 4, none⟩ (.int .i64 d')
theorem Ta.set (h : Ta w t s p c d) (s' : Value) (p' c' d' : Int) : Ta (taSet w t s' p' c' d') t s' p' c' d' := by
  refine ⟨?_⟩
  unfold taSet
  rw [put_row _ (put_row _ (put_row _ (put_row _ (put_row _ h.box))))]
  rfl
theorem taSet_fr (w : World) (t : Nat) (s' : Value) (p' c' d' : Int) : Fr [t] w (taSet w t s' p' c' d') :=
  ((((Fr.set w _ _ (by simp)).then (Fr.set _ _ _ (by simp))).then (Fr.set _ _ _ (by simp))).then (Fr.set _ _ _ (by simp))).then (Fr.set _ _ _ (by simp))
theorem Ta.code (h : Ta w t s p c d) (d' : Int) : Ta (w.setCell ⟨t, 4, none⟩ (.int .i64 d')) t s p c d' := by
  refine ⟨?_⟩
  rw [put_row _ h.box]
  rfl
end
/-- Nothing is taken any more. -/
def Yd (w : World) (t c : Nat) : Prop := c ≠ 0 ∧ ∃ s p c', Ta w t s p c' (c : Int)
/-- It stands at p. -/
structure Yl (w : World) (t : Nat) (ao : Option Addr) (L cap p : Nat) : Prop where
  ta : Ta w t (.slice ao L cap) (p : Int) 0 0
  le : p ≤ L
theorem Yd.keep {S : List Nat} {w w' : World} {t c : Nat} (h : Yd w t c) (hf : Fr S w w') (hn : t ∉ S) : Yd w' t c := by
  obtain ⟨h0, s, p, c', h1⟩ := h
  exact ⟨h0, s, p, c', h1.keep hf hn⟩
theorem Yl.keep {S : List Nat} {w w' : World} {t : Nat} {ao : Option Addr} {L cap p : Nat} (h : Yl w t ao L cap p) (hf : Fr S w w') (hn : t ∉ S) : Yl w' t ao L cap p := ⟨h.ta.keep hf hn, h.le⟩
/-- The bytes that it reads. -/
structure Yb (w : World) (ao : Option Addr) (L cap : Nat) (xs : List Nat) : Prop where
  rs : Rs w ao xs
  low : ∀ x ∈ xs, x < 256
  len : L = xs.length
  le : L ≤ cap
theorem ywnumber_dead {w : World} {t c : Nat} (h : Yd w t c) : Calls Tryz.prog 100 #[.pointer (some ⟨t, 0, none⟩)] w fun e w' => e = .returned (.int .i64 0) ∧ w' = w := by
  obtain ⟨hc, s, p, c', h⟩ := h
  obtain ⟨x0, x1, x2, x3, x4⟩ := h.cs
  have hz : ((c : Int) == 0) = false := by simpa using hc
  have hz2 : ¬ (c : Int) = 0 := by omega
  clear h
  go_enter Tryz.func100, Tryz.ntmps100
  go_wp2
  go_ret
  exact ⟨rfl, rfl⟩
theorem ywtext_dead {w : World} {t c : Nat} (m : Int) (h : Yd w t c) : Calls Tryz.prog 101 #[.pointer (some ⟨t, 0, none⟩), .int .i64 m] w fun e w' => e = .returned (.string ⟨#[]⟩) ∧ w' = w := by
  obtain ⟨hc, s, p, c', h⟩ := h
  obtain ⟨x0, x1, x2, x3, x4⟩ := h.cs
  have hz2 : ¬ (c : Int) = 0 := by omega
  clear h
  go_enter Tryz.func101, Tryz.ntmps101
  go_wp2
  go_ret
  exact ⟨rfl, rfl⟩
theorem ywdrop_dead {w : World} {t c : Nat} (h : Yd w t c) : Calls Tryz.prog 102 #[.pointer (some ⟨t, 0, none⟩)] w fun e w' => e = .returned (.bool false) ∧ w' = w := by
  obtain ⟨hc, s, p, c', h⟩ := h
  obtain ⟨x0, x1, x2, x3, x4⟩ := h.cs
  have hz2 : ¬ (c : Int) = 0 := by omega
  clear h
  go_enter Tryz.func102, Tryz.ntmps102
  go_wp2
  go_ret
  exact ⟨rfl, rfl⟩
/-- A number taken. -/
def YnP (t : Nat) (ao : Option Addr) (L cap p : Nat) (xs : List Nat) (w : World) (e : Ending) (w' : World) : Prop :=
  (∃ c z, dN (xs.drop p) = .error c ∧ e = .returned (.int .i64 z) ∧ Yd w' t c ∧ Fr [t] w w') ∨ (∃ n p', dN (xs.drop p) = .ok (n, xs.drop p') ∧ e = .returned (.int .i64 (n : Nat)) ∧ n ≤ 65536 ∧ Yl w' t ao L cap p' ∧ Fr [t] w w')
set_option maxHeartbeats 4000000 in
set_option maxRecDepth 100000 in
theorem ywnumber_any {w : World} {t : Nat} {ao : Option Addr} {L cap p : Nat} {xs : List Nat} (h : Yl w t ao L cap p) (hB : Yb w ao L cap xs) : Calls Tryz.prog 100 #[.pointer (some ⟨t, 0, none⟩)] w fun e w' => YnP t ao L cap p xs w e w' := by
  have hF0 : Hid (t < w.heap.size) := h.ta.lt
  obtain ⟨⟨v, k, c⟩, hr⟩ : ∃ r, r = shortF 0 0 (xs.drop p) := ⟨_, rfl⟩
  obtain ⟨sp, hsp⟩ : ∃ sp, sp = stepAt (k, c) p := ⟨_, rfl⟩
  have hV := xVar_live ao L cap p xs w hB.rs hB.low hB.len h.le
  rw [← hr] at hV
  simp only at hV
  rw [← hsp] at hV
  have HV : Hid (Calls _ _ _ _ _) := hV
  have HR : Hid (shortF 0 0 (xs.drop p) = (v, k, c)) := hr.symm
  have HSp : Hid (sp = stepAt (k, c) p) := hsp
  have HT : Hid (∀ W, Fr [] w W → Ta W t (.slice ao L cap) (p : Int) 0 0) := fun W hf => h.ta.keep hf (by simp)
  have HL : Hid (p ≤ L ∧ L = xs.length ∧ ∀ x ∈ xs, x < 256) := ⟨h.le, hB.len, hB.low⟩
  obtain ⟨x0, x1, x2, x3, x4⟩ := h.ta.cs
  clear hV hr hsp h hB
  go_enter Tryz.func100, Tryz.ntmps100
  go_wp2_with fail
  refine Calls.mono HV.out ?_
  rintro e w1 ⟨rfl, hF1⟩
  have hT1 := HT.out _ hF1
  obtain ⟨w2, HW2⟩ : ∃ w2, Hid (w1.alloc (.cells #[.bool false, .slice ao L cap, .int .i64 (sp : Int), .int .i64 (c : Int)] 140) = w2) := ⟨_, rfl⟩
  have hF2 : Fr [] w1 w2 := by rw [← HW2.out]; exact Fr.alloc _ _ _
  have hB2 : Bx w2 w1.heap.size false (.slice ao L cap) (sp : Int) (c : Int) := ⟨by rw [← HW2.out]; exact heap_alloc_new w1 _⟩
  have hT2 := hT1.keep hF2 (by simp)
  have htl := hT1.lt
  obtain ⟨B, hBq⟩ : ∃ B, B = w1.heap.size := ⟨_, rfl⟩
  have htB : t ≠ B := by omega
  rw [← hBq] at hB2
  obtain ⟨w3, HW3⟩ : ∃ w3, Hid ((((w2.setCell ⟨t, 0, none⟩ (.bool false)).setCell ⟨t, 1, none⟩ (.slice ao L cap)).setCell ⟨t, 2, none⟩ (.int .i64 (sp : Int))).setCell ⟨t, 3, none⟩ (.int .i64 (c : Int)) = w3) := ⟨_, rfl⟩
  have hF3 : Fr [t] w2 w3 := by rw [← HW3.out]; exact Fr.sets4 _ _ _ _ _ _
  have hT3 : Ta w3 t (.slice ao L cap) (sp : Int) (c : Int) 0 := ⟨by
    rw [← HW3.out, put_row _ (put_row _ (put_row _ (put_row _ hT2.box)))]
    rfl⟩
  have hB3 := hB2.keep hF3 (by simp; omega)
  obtain ⟨w4, HW4⟩ : ∃ w4, Hid (w3.setCell ⟨t, 4, none⟩ (.int .i64 (c : Int)) = w4) := ⟨_, rfl⟩
  have hT4 : Ta w4 t (.slice ao L cap) (sp : Int) (c : Int) (c : Int) := by rw [← HW4.out]; exact hT3.code _
  have hF4 : Fr [t] w3 w4 := by rw [← HW4.out]; exact Fr.set _ _ _ (by simp)
  have HF4 : Hid (Fr [t] w w4) := (((hF1.then hF2).mono (T := [t]) (by simp)).then hF3).then hF4
  have HT4 : Hid (Ta w4 t (.slice ao L cap) (sp : Int) (c : Int) (c : Int)) := hT4
  obtain ⟨y0, y1, y2, y3, y4⟩ := hT2.cs
  have z0 := hT2.f 0
  have z1 := hT2.f 1
  have z2 := hT2.f 2
  have z3 := hT2.f 3
  have q0 := hB2.c0
  have q1 := hB2.c1
  have q2 := hB2.c2
  have q3 := hB2.c3
  go_upto_region 4 with fail
  rw [HW2.out]
  rw [← hBq]
  clear x0 x1 x2 x3 x4 HW2 hBq
  go_upto_region 5 with fail
  rw [HW3.out]
  clear y0 y1 y2 y3 y4 z0 z1 z2 z3 q0 q1 q2 q3 HW3
  have z4 := hT3.f 4
  have q3 := hB3.c3
  obtain ⟨y0, y1, y2, y3, y4⟩ := hT3.cs
  go_upto_region 6 with fail
  rw [HW4.out]
  clear y0 y1 y2 y3 y4 z4 q3 HW4
  obtain ⟨y0, y1, y2, y3, y4⟩ := hT4.cs
  have z4 := hT4.f 4
  clear hT1 hT2 hT3 hT4 hF1 hF2 hF3 hF4 hB2 hB3 htl htB HV HT
  by_cases hc : c = 0
  · subst hc
    have hk := short_pos (xs.drop p) (by rw [HR.out])
    rw [HR.out, List.length_drop] at hk
    simp only at hk
    have hspe : sp = p + k := by rw [HSp.out]; simp [stepAt]
    by_cases hbig : 65536 < v
    · have hbi : (65536 : Int) < (v : Int) := by omega
      have H1 : Hid (dN (xs.drop p) = .error 3) := by
        show dN _ = _
        unfold dN tk
        rw [HR.out]
        simp [refL, hbig]
      clear hk hspe
      go_wp2
      go_ret
      exact Or.inl ⟨3, _, H1.out, rfl, ⟨by decide, _, _, _, HT4.out.code 3⟩, HF4.out.then (Fr.set _ _ _ (by simp))⟩
    · have hbi : ¬ (65536 : Int) < (v : Int) := by omega
      have hrm : (v : Int) % 65537 = (v : Int) := by omega
      have H1 : Hid (dN (xs.drop p) = .ok (v, xs.drop sp)) := by
        show dN _ = _
        rw [hspe]
        unfold dN
        rw [tk_ok HR.out (by simp [refL]; omega), List.drop_drop]
      have HRes : Hid (Yl w4 t ao L cap sp) := ⟨HT4.out, by have := HL.out; omega⟩
      have hv : v ≤ 65536 := by omega
      clear hk hspe
      go_wp2
      go_ret
      exact Or.inr ⟨v, sp, H1.out, rfl, hv, HRes.out, HF4.out⟩
  · have H1 : Hid (dN (xs.drop p) = .error c) := tk_err HR.out hc
    have hci : ¬ (c : Int) = 0 := by omega
    go_wp2
    go_ret
    exact Or.inl ⟨c, _, H1.out, rfl, ⟨hc, _, _, _, HT4.out⟩, HF4.out⟩
/-- A text taken. -/
def YtP (m : Nat) (t : Nat) (ao : Option Addr) (L cap p : Nat) (xs : List Nat) (w : World) (e : Ending) (w' : World) : Prop :=
  (∃ c s, dT m (xs.drop p) = .error c ∧ e = .returned (.string s) ∧ Yd w' t c ∧ Fr [t] w w') ∨ (∃ s p', dT m (xs.drop p) = .ok (s, xs.drop p') ∧ e = .returned (.string s) ∧ Yl w' t ao L cap p' ∧ Fr [t] w w')
set_option maxHeartbeats 4000000 in
set_option maxRecDepth 100000 in
theorem ywtext_any {w : World} {t : Nat} {ao : Option Addr} {L cap p : Nat} {xs : List Nat} (m : Nat) (hm : m ≤ 65536) (h : Yl w t ao L cap p) (hB : Yb w ao L cap xs) : Calls Tryz.prog 101 #[.pointer (some ⟨t, 0, none⟩), .int .i64 (m : Int)] w fun e w' => YtP m t ao L cap p xs w e w' := by
  have hF0 : Hid (t < w.heap.size) := h.ta.lt
  obtain ⟨⟨v, k, c⟩, hr⟩ : ∃ r, r = textF (m : Int) (xs.drop p) := ⟨_, rfl⟩
  obtain ⟨sp, hsp⟩ : ∃ sp, sp = stepAt (k, c) p := ⟨_, rfl⟩
  have hV := xText_live ao L cap p xs (m : Int) (by omega) (by omega) hB.le w hB.rs hB.low hB.len h.le
  rw [← hr] at hV
  simp only at hV
  rw [← hsp] at hV
  have HV : Hid (Calls _ _ _ _ _) := hV
  have HR : Hid (textF (m : Int) (xs.drop p) = (v, k, c)) := hr.symm
  have HSp : Hid (sp = stepAt (k, c) p) := hsp
  have HT : Hid (∀ W, Fr [] w W → Ta W t (.slice ao L cap) (p : Int) 0 0) := fun W hf => h.ta.keep hf (by simp)
  have HL : Hid (p ≤ L ∧ L = xs.length ∧ ∀ x ∈ xs, x < 256) := ⟨h.le, hB.len, hB.low⟩
  obtain ⟨x0, x1, x2, x3, x4⟩ := h.ta.cs
  clear hV hr hsp h hB
  go_enter Tryz.func101, Tryz.ntmps101
  go_wp2_with fail
  refine Calls.mono HV.out ?_
  rintro e w1 ⟨rfl, hF1⟩
  have hT1 := HT.out _ hF1
  obtain ⟨w2, HW2⟩ : ∃ w2, Hid (w1.alloc (.cells #[.bool false, .slice ao L cap, .int .i64 (sp : Int), .int .i64 (c : Int)] 140) = w2) := ⟨_, rfl⟩
  have hF2 : Fr [] w1 w2 := by rw [← HW2.out]; exact Fr.alloc _ _ _
  have hB2 : Bx w2 w1.heap.size false (.slice ao L cap) (sp : Int) (c : Int) := ⟨by rw [← HW2.out]; exact heap_alloc_new w1 _⟩
  have hT2 := hT1.keep hF2 (by simp)
  have htl := hT1.lt
  obtain ⟨B, hBq⟩ : ∃ B, B = w1.heap.size := ⟨_, rfl⟩
  have htB : t ≠ B := by omega
  rw [← hBq] at hB2
  obtain ⟨w3, HW3⟩ : ∃ w3, Hid ((((w2.setCell ⟨t, 0, none⟩ (.bool false)).setCell ⟨t, 1, none⟩ (.slice ao L cap)).setCell ⟨t, 2, none⟩ (.int .i64 (sp : Int))).setCell ⟨t, 3, none⟩ (.int .i64 (c : Int)) = w3) := ⟨_, rfl⟩
  have hF3 : Fr [t] w2 w3 := by rw [← HW3.out]; exact Fr.sets4 _ _ _ _ _ _
  have hT3 : Ta w3 t (.slice ao L cap) (sp : Int) (c : Int) 0 := ⟨by
    rw [← HW3.out, put_row _ (put_row _ (put_row _ (put_row _ hT2.box)))]
    rfl⟩
  have hB3 := hB2.keep hF3 (by simp; omega)
  obtain ⟨w4, HW4⟩ : ∃ w4, Hid (w3.setCell ⟨t, 4, none⟩ (.int .i64 (c : Int)) = w4) := ⟨_, rfl⟩
  have hT4 : Ta w4 t (.slice ao L cap) (sp : Int) (c : Int) (c : Int) := by rw [← HW4.out]; exact hT3.code _
  have hF4 : Fr [t] w3 w4 := by rw [← HW4.out]; exact Fr.set _ _ _ (by simp)
  have HF4 : Hid (Fr [t] w w4) := (((hF1.then hF2).mono (T := [t]) (by simp)).then hF3).then hF4
  have HT4 : Hid (Ta w4 t (.slice ao L cap) (sp : Int) (c : Int) (c : Int)) := hT4
  obtain ⟨y0, y1, y2, y3, y4⟩ := hT2.cs
  have z0 := hT2.f 0
  have z1 := hT2.f 1
  have z2 := hT2.f 2
  have z3 := hT2.f 3
  have q0 := hB2.c0
  have q1 := hB2.c1
  have q2 := hB2.c2
  have q3 := hB2.c3
  go_upto_region 4 with fail
  rw [HW2.out]
  rw [← hBq]
  clear x0 x1 x2 x3 x4 HW2 hBq
  go_upto_region 5 with fail
  rw [HW3.out]
  clear y0 y1 y2 y3 y4 z0 z1 z2 z3 q0 q1 q2 q3 HW3
  have z4 := hT3.f 4
  have q3 := hB3.c3
  obtain ⟨y0, y1, y2, y3, y4⟩ := hT3.cs
  go_upto_region 6 with fail
  rw [HW4.out]
  clear y0 y1 y2 y3 y4 z4 q3 HW4
  obtain ⟨y0, y1, y2, y3, y4⟩ := hT4.cs
  have z4 := hT4.f 4
  clear hT1 hT2 hT3 hT4 hF1 hF2 hF3 hF4 hB2 hB3 htl htB HV HT
  by_cases hc : c = 0
  · subst hc
    have hk := text_pos m (xs.drop p) (by rw [HR.out])
    rw [HR.out, List.length_drop] at hk
    simp only at hk
    have hspe : sp = p + k := by rw [HSp.out]; simp [stepAt]
    have H1 : Hid (dT m (xs.drop p) = .ok (v, xs.drop sp)) := by
      show dT _ _ = _
      rw [hspe]
      unfold dT
      rw [tk_ok HR.out rfl, List.drop_drop]
    have HRes : Hid (Yl w4 t ao L cap sp) := ⟨HT4.out, by have := HL.out; omega⟩
    clear hk hspe
    go_wp2
    go_ret
    exact Or.inr ⟨v, sp, H1.out, rfl, HRes.out, HF4.out⟩
  · have H1 : Hid (dT m (xs.drop p) = .error c) := tk_err HR.out hc
    have hci : ¬ (c : Int) = 0 := by omega
    go_wp2
    go_ret
    exact Or.inl ⟨c, _, H1.out, rfl, ⟨hc, _, _, _, HT4.out⟩, HF4.out⟩
/-- The byte that says 0 or 1 taken. -/
def YfP (t : Nat) (ao : Option Addr) (L cap p : Nat) (xs : List Nat) (w : World) (e : Ending) (w' : World) : Prop :=
  (∃ c z, dF (xs.drop p) = .error c ∧ e = .returned (.bool z) ∧ Yd w' t c ∧ Fr [t] w w') ∨ (∃ d p', dF (xs.drop p) = .ok (d, xs.drop p') ∧ (d = 0 ∨ d = 1) ∧ e = .returned (.bool (decide (d = 1))) ∧ Yl w' t ao L cap p' ∧ Fr [t] w w')
set_option maxHeartbeats 4000000 in
set_option maxRecDepth 100000 in
theorem ywdrop_any {w : World} {t : Nat} {ao : Option Addr} {L cap p : Nat} {xs : List Nat} (h : Yl w t ao L cap p) (hB : Yb w ao L cap xs) : Calls Tryz.prog 102 #[.pointer (some ⟨t, 0, none⟩)] w fun e w' => YfP t ao L cap p xs w e w' := by
  have hF0 : Hid (t < w.heap.size) := h.ta.lt
  obtain ⟨⟨v, k, c⟩, hr⟩ : ∃ r, r = fixF 1 (xs.drop p) := ⟨_, rfl⟩
  obtain ⟨sp, hsp⟩ : ∃ sp, sp = stepAt (k, c) p := ⟨_, rfl⟩
  have hV := xFixed_live ao L cap p xs 1 w hB.rs hB.low hB.len h.le
  rw [← hr] at hV
  simp only at hV
  rw [← hsp] at hV
  have HV : Hid (Calls _ _ _ _ _) := hV
  have HR : Hid (fixF 1 (xs.drop p) = (v, k, c)) := hr.symm
  have HSp : Hid (sp = stepAt (k, c) p) := hsp
  have HT : Hid (∀ W, Fr [] w W → Ta W t (.slice ao L cap) (p : Int) 0 0) := fun W hf => h.ta.keep hf (by simp)
  have HL : Hid (p ≤ L ∧ L = xs.length ∧ ∀ x ∈ xs, x < 256) := ⟨h.le, hB.len, hB.low⟩
  obtain ⟨x0, x1, x2, x3, x4⟩ := h.ta.cs
  clear hV hr hsp h hB
  go_enter Tryz.func102, Tryz.ntmps102
  go_wp2_with fail
  refine Calls.mono HV.out ?_
  rintro e w1 ⟨rfl, hF1⟩
  have hT1 := HT.out _ hF1
  obtain ⟨w2, HW2⟩ : ∃ w2, Hid (w1.alloc (.cells #[.bool false, .slice ao L cap, .int .i64 (sp : Int), .int .i64 (c : Int)] 140) = w2) := ⟨_, rfl⟩
  have hF2 : Fr [] w1 w2 := by rw [← HW2.out]; exact Fr.alloc _ _ _
  have hB2 : Bx w2 w1.heap.size false (.slice ao L cap) (sp : Int) (c : Int) := ⟨by rw [← HW2.out]; exact heap_alloc_new w1 _⟩
  have hT2 := hT1.keep hF2 (by simp)
  have htl := hT1.lt
  obtain ⟨B, hBq⟩ : ∃ B, B = w1.heap.size := ⟨_, rfl⟩
  have htB : t ≠ B := by omega
  rw [← hBq] at hB2
  obtain ⟨w3, HW3⟩ : ∃ w3, Hid ((((w2.setCell ⟨t, 0, none⟩ (.bool false)).setCell ⟨t, 1, none⟩ (.slice ao L cap)).setCell ⟨t, 2, none⟩ (.int .i64 (sp : Int))).setCell ⟨t, 3, none⟩ (.int .i64 (c : Int)) = w3) := ⟨_, rfl⟩
  have hF3 : Fr [t] w2 w3 := by rw [← HW3.out]; exact Fr.sets4 _ _ _ _ _ _
  have hT3 : Ta w3 t (.slice ao L cap) (sp : Int) (c : Int) 0 := ⟨by
    rw [← HW3.out, put_row _ (put_row _ (put_row _ (put_row _ hT2.box)))]
    rfl⟩
  have hB3 := hB2.keep hF3 (by simp; omega)
  obtain ⟨w4, HW4⟩ : ∃ w4, Hid (w3.setCell ⟨t, 4, none⟩ (.int .i64 (c : Int)) = w4) := ⟨_, rfl⟩
  have hT4 : Ta w4 t (.slice ao L cap) (sp : Int) (c : Int) (c : Int) := by rw [← HW4.out]; exact hT3.code _
  have hF4 : Fr [t] w3 w4 := by rw [← HW4.out]; exact Fr.set _ _ _ (by simp)
  have HF4 : Hid (Fr [t] w w4) := (((hF1.then hF2).mono (T := [t]) (by simp)).then hF3).then hF4
  have HT4 : Hid (Ta w4 t (.slice ao L cap) (sp : Int) (c : Int) (c : Int)) := hT4
  obtain ⟨y0, y1, y2, y3, y4⟩ := hT2.cs
  have z0 := hT2.f 0
  have z1 := hT2.f 1
  have z2 := hT2.f 2
  have z3 := hT2.f 3
  have q0 := hB2.c0
  have q1 := hB2.c1
  have q2 := hB2.c2
  have q3 := hB2.c3
  go_upto_region 4 with fail
  rw [HW2.out]
  rw [← hBq]
  clear x0 x1 x2 x3 x4 HW2 hBq
  go_upto_region 5 with fail
  rw [HW3.out]
  clear y0 y1 y2 y3 y4 z0 z1 z2 z3 q0 q1 q2 q3 HW3
  have z4 := hT3.f 4
  have q3 := hB3.c3
  obtain ⟨y0, y1, y2, y3, y4⟩ := hT3.cs
  go_upto_region 6 with fail
  rw [HW4.out]
  clear y0 y1 y2 y3 y4 z4 q3 HW4
  obtain ⟨y0, y1, y2, y3, y4⟩ := hT4.cs
  have z4 := hT4.f 4
  clear hT1 hT2 hT3 hT4 hF1 hF2 hF3 hF4 hB2 hB3 htl htB HV HT
  by_cases hc : c = 0
  · subst hc
    have hk := fix_pos (xs.drop p) (by rw [HR.out])
    rw [HR.out, List.length_drop] at hk
    simp only at hk
    have hspe : sp = p + k := by rw [HSp.out]; simp [stepAt]
    by_cases hbig : 1 < v
    · have hbi : (1 : Int) < (v : Int) := by omega
      have H1 : Hid (dF (xs.drop p) = .error 4) := by
        show dF _ = _
        unfold dF tk
        rw [HR.out]
        have hv2 : ¬ (v = 0 ∨ v = 1) := by omega
        simp [refD, hv2]
      clear hk hspe
      go_wp2
      go_ret
      exact Or.inl ⟨4, _, H1.out, rfl, ⟨by decide, _, _, _, HT4.out.code 4⟩, HF4.out.then (Fr.set _ _ _ (by simp))⟩
    · have hbi : ¬ (1 : Int) < (v : Int) := by omega
      have hv : v = 0 ∨ v = 1 := by omega
      have H1 : Hid (dF (xs.drop p) = .ok (v, xs.drop sp)) := by
        show dF _ = _
        rw [hspe]
        unfold dF
        rw [tk_ok HR.out (by simp [refD]; omega), List.drop_drop]
      have HRes : Hid (Yl w4 t ao L cap sp) := ⟨HT4.out, by have := HL.out; omega⟩
      clear hk hspe
      rcases hv with rfl | rfl
      · go_wp2
        go_ret
        exact Or.inr ⟨0, sp, H1.out, Or.inl rfl, by simp, HRes.out, HF4.out⟩
      · go_wp2
        go_ret
        exact Or.inr ⟨1, sp, H1.out, Or.inr rfl, by simp, HRes.out, HF4.out⟩
  · have H1 : Hid (dF (xs.drop p) = .error c) := tk_err HR.out hc
    have hci : ¬ (c : Int) = 0 := by omega
    go_wp2
    go_ret
    exact Or.inl ⟨c, _, H1.out, rfl, ⟨hc, _, _, _, HT4.out⟩, HF4.out⟩
end Go.Proofs.YtdojhkgnnbdfkaaGreat

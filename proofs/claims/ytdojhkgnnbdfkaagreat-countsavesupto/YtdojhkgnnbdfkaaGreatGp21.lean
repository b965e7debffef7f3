/- Texts of this claim laid together, one behind the other: contracts and plain lemmas; conditions as each names them. -/
import Derived.Test.YtdojhkgnnbdfkaaGreatGp20
import Derived.Test.YtdojhkgnnbdfkaaGreatGp17
import Derived.Test.YtdojhkgnnbdfkaaGreatGp15
/- The document's taker: in memory, and what its number, text and drop answer. Conditions: where its bytes lie, fewer than 2^41. -/
namespace Go.Proofs.YtdojhkgnnbdfkaaGreat
open BigFrame Go.ChangeShapes Go.WideShapes Go.ChangeAt Go.RowKit Go.Lib Go.Maps
set_option linter.unusedVariables false
set_option linter.unusedSimpArgs false

theorem put_row {w : World} {b j : Nat} {cs : Array Value} {t : TypeId} (x : Value) (h : w.heap[b]? = some (.cells cs t (0, 0))) : (w.setCell ⟨b, j, none⟩ x).heap[b]? = some (.cells (cs.setIfInBounds j x) t (0, 0)) := row_setCell x h
/-- The document's taker in a block of its own. -/
structure Ta (w : World) (t : Nat) (s : Value) (p c d : Int) : Prop where
  box : w.heap[t]? = some (.cells #[.bool false, s, .int .i64 p, .int .i64 c, .int .i64 d] 161 (0, 0))
section
variable {w w' : World} {t : Nat} {s : Value} {p c d : Int}
theorem Ta.cs (h : Ta w t s p c d) : w.cell? ⟨t, 0, none⟩ = some (.bool false) ∧ w.cell? ⟨t, 1, none⟩ = some s ∧ w.cell? ⟨t, 2, none⟩ = some (.int .i64 p) ∧ w.cell? ⟨t, 3, none⟩ = some (.int .i64 c) ∧ w.cell? ⟨t, 4, none⟩ = some (.int .i64 d) := by
  refine ⟨?_, ?_, ?_, ?_, ?_⟩ <;> (rw [cell_of_row _ _ _ _ _ _ h.box]; rfl)
theorem Ta.f (h : Ta w t s p c d) (j : Nat) : w.frozen? ⟨t, j, none⟩ = false := by simp [World.frozen?, h.box]
theorem Ta.keep {S : List Nat} (h : Ta w t s p c d) (hf : Fr S w w') (hn : t ∉ S) : Ta w' t s p c d := ⟨hf.keep h.box hn⟩
theorem Ta.lt (h : Ta w t s p c d) : t < w.heap.size := lt_of_block h.box
/-- The taker when another reader and another code are stored. -/
def taSet (w : World) (t : Nat) (s' : Value) (p' c' d' : Int) : World := ((((w.setCell ⟨t, 0, none⟩ (.bool false)).setCell ⟨t, 1, none⟩ s').setCell ⟨t, 2, none⟩ (.int .i64 p')).setCell ⟨t, 3, none⟩ (.int .i64 c')).setCell ⟨t, 4, none⟩ (.int .i64 d')
theorem Ta.set (h : Ta w t s p c d) (s' : Value) (p' c' d' : Int) : Ta (taSet w t s' p' c' d') t s' p' c' d' := by
  refine ⟨?_⟩
  unfold taSet
  rw [put_row _ (put_row _ (put_row _ (put_row _ (put_row _ h.box))))]
  rfl
theorem taSet_fr (w : World) (t : Nat) (s' : Value) (p' c' d' : Int) : Fr [t] w (taSet w t s' p' c' d') :=
  ((((Fr.set w _ _ (by simp)).then (Fr.set _ _ _ (by simp))).then (Fr.set _ _ _ (by simp))).then (Fr.set _ _ _ (by simp))).then (Fr.set _ _ _ (by simp))
theorem Ta.code (h : Ta w t s p c d) (d' : Int) : Ta (w.setCell ⟨t, 4, none⟩ (.int .i64 d')) t s p c d' := by
  refine ⟨?_⟩
  rw [put_row _ h.box]
  rfl
end
/-- Nothing is taken any more. -/
def Yd (w : World) (t c : Nat) : Prop := c ≠ 0 ∧ ∃ s p c', Ta w t s p c' (c : Int)
/-- It stands at p. -/
structure Yl (w : World) (t : Nat) (ao : Option Addr) (L cap p : Nat) : Prop where
  ta : Ta w t (.slice ao L cap) (p : Int) 0 0
  le : p ≤ L
theorem Yd.keep {S : List Nat} {w w' : World} {t c : Nat} (h : Yd w t c) (hf : Fr S w w') (hn : t ∉ S) : Yd w' t c := by
  obtain ⟨h0, s, p, c', h1⟩ := h
  exact ⟨h0, s, p, c', h1.keep hf hn⟩
theorem Yl.keep {S : List Nat} {w w' : World} {t : Nat} {ao : Option Addr} {L cap p : Nat} (h : Yl w t ao L cap p) (hf : Fr S w w') (hn : t ∉ S) : Yl w' t ao L cap p := ⟨h.ta.keep hf hn, h.le⟩
/-- The bytes that it reads. -/
structure Yb (w : World) (ao : Option Addr) (L cap : Nat) (xs : List Nat) : Prop where
  rs : Rs w ao xs
  low : ∀ x ∈ xs, x < 256
  len : L = xs.length
  le : L ≤ cap
theorem ywnumber_dead {w : World} {t c : Nat} (h : Yd w t c) : Calls Tryz.prog 100 #[.pointer (some ⟨t, 0, none⟩)] w fun e w' => e = .returned (.int .i64 0) ∧ w' = w := by
  obtain ⟨hc, s, p, c', h⟩ := h
  obtain ⟨x0, x1, x2, x3, x4⟩ := h.cs
  have hz : ((c : Int) == 0) = false := by simpa using hc
  have hz2 : ¬ (c : Int) = 0 := by omega
  clear h
  go_enter Tryz.func100, Tryz.ntmps100
  go_wp2
  go_ret
  exact ⟨rfl, rfl⟩
theorem ywtext_dead {w : World} {t c : Nat} (m : Int) (h : Yd w t c) : Calls Tryz.prog 101 #[.pointer (some ⟨t, 0, none⟩), .int .i64 m] w fun e w' => e = .returned (.string ⟨#[]⟩) ∧ w' = w := by
  obtain ⟨hc, s, p, c', h⟩ := h
  obtain ⟨x0, x1, x2, x3, x4⟩ := h.cs
  have hz2 : ¬ (c : Int) = 0 := by omega
  clear h
  go_enter Tryz.func101, Tryz.ntmps101
  go_wp2
  go_ret
  exact ⟨rfl, rfl⟩
theorem ywdrop_dead {w : World} {t c : Nat} (h : Yd w t c) : Calls Tryz.prog 102 #[.pointer (some ⟨t, 0, none⟩)] w fun e w' => e = .returned (.bool false) ∧ w' = w := by
  obtain ⟨hc, s, p, c', h⟩ := h
  obtain ⟨x0, x1, x2, x3, x4⟩ := h.cs
  have hz2 : ¬ (c : Int) = 0 := by omega
  clear h
  go_enter Tryz.func102, Tryz.ntmps102
  go_wp2
  go_ret
  exact ⟨rfl, rfl⟩
/-- A number taken. -/
def YnP (t : Nat) (ao : Option Addr) (L cap p : Nat) (xs : List Nat) (w : World) (e : Ending) (w' : World) : Prop :=
  (∃ c z, dN (xs.drop p) = .error c ∧ e = .returned (.int .i64 z) ∧ Yd w' t c ∧ Fr [t] w w') ∨ (∃ n p', dN (xs.drop p) = .ok (n, xs.drop p') ∧ e = .returned (.int .i64 (n : Nat)) ∧ n ≤ 65536 ∧ Yl w' t ao L cap p' ∧ Fr [t] w w')
set_option maxHeartbeats 4000000 in
set_option maxRecDepth 100000 in
theorem ywnumber_any {w : World} {t : Nat} {ao : Option Addr} {L cap p : Nat} {xs : List Nat} (h : Yl w t ao L cap p) (hB : Yb w ao L cap xs) : Calls Tryz.prog 100 #[.pointer (some ⟨t, 0, none⟩)] w fun e w' => YnP t ao L cap p xs w e w' := by
  have hF0 : Hid (t < w.heap.size) := h.ta.lt
  obtain ⟨⟨v, k, c⟩, hr⟩ : ∃ r, r = shortF 0 0 (xs.drop p) := ⟨_, rfl⟩
  obtain ⟨sp, hsp⟩ : ∃ sp, sp = stepAt (k, c) p := ⟨_, rfl⟩
  have hV := xVar_live ao L cap p xs w hB.rs hB.low hB.len h.le
  rw [← hr] at hV
  simp only at hV
  rw [← hsp] at hV
  have HV : Hid (Calls _ _ _ _ _) := hV
  have HR : Hid (shortF 0 0 (xs.drop p) = (v, k, c)) := hr.symm
  have HSp : Hid (sp = stepAt (k, c) p) := hsp
  have HT : Hid (∀ W, Fr [] w W → Ta W t (.slice ao L cap) (p : Int) 0 0) := fun W hf => h.ta.keep hf (by simp)
  have HL : Hid (p ≤ L ∧ L = xs.length ∧ ∀ x ∈ xs, x < 256) := ⟨h.le, hB.len, hB.low⟩
  obtain ⟨x0, x1, x2, x3, x4⟩ := h.ta.cs
  clear hV hr hsp h hB
  go_enter Tryz.func100, Tryz.ntmps100
  go_wp2_with fail
  refine Calls.mono HV.out ?_
  rintro e w1 ⟨rfl, hF1⟩
  have hT1 := HT.out _ hF1
  obtain ⟨w2, HW2⟩ : ∃ w2, Hid (w1.alloc (.cells #[.bool false, .slice ao L cap, .int .i64 (sp : Int), .int .i64 (c : Int)] 140) = w2) := ⟨_, rfl⟩
  have hF2 : Fr [] w1 w2 := by rw [← HW2.out]; exact Fr.alloc _ _ _
  have hB2 : Bx w2 w1.heap.size false (.slice ao L cap) (sp : Int) (c : Int) := ⟨by rw [← HW2.out]; exact heap_alloc_new w1 _⟩
  have hT2 := hT1.keep hF2 (by simp)
  have htl := hT1.lt
  obtain ⟨B, hBq⟩ : ∃ B, B = w1.heap.size := ⟨_, rfl⟩
  have htB : t ≠ B := by omega
  rw [← hBq] at hB2
  obtain ⟨w3, HW3⟩ : ∃ w3, Hid ((((w2.setCell ⟨t, 0, none⟩ (.bool false)).setCell ⟨t, 1, none⟩ (.slice ao L cap)).setCell ⟨t, 2, none⟩ (.int .i64 (sp : Int))).setCell ⟨t, 3, none⟩ (.int .i64 (c : Int)) = w3) := ⟨_, rfl⟩
  have hF3 : Fr [t] w2 w3 := by rw [← HW3.out]; exact Fr.sets4 _ _ _ _ _ _
  have hT3 : Ta w3 t (.slice ao L cap) (sp : Int) (c : Int) 0 := ⟨by
    rw [← HW3.out, put_row _ (put_row _ (put_row _ (put_row _ hT2.box)))]
    rfl⟩
  have hB3 := hB2.keep hF3 (by simp; omega)
  obtain ⟨w4, HW4⟩ : ∃ w4, Hid (w3.setCell ⟨t, 4, none⟩ (.int .i64 (c : Int)) = w4) := ⟨_, rfl⟩
  have hT4 : Ta w4 t (.slice ao L cap) (sp : Int) (c : Int) (c : Int) := by rw [← HW4.out]; exact hT3.code _
  have hF4 : Fr [t] w3 w4 := by rw [← HW4.out]; exact Fr.set _ _ _ (by simp)
  have HF4 : Hid (Fr [t] w w4) := (((hF1.then hF2).mono (T := [t]) (by simp)).then hF3).then hF4
  have HT4 : Hid (Ta w4 t (.slice ao L cap) (sp : Int) (c : Int) (c : Int)) := hT4
  obtain ⟨y0, y1, y2, y3, y4⟩ := hT2.cs
  have z0 := hT2.f 0
  have z1 := hT2.f 1
  have z2 := hT2.f 2
  have z3 := hT2.f 3
  have q0 := hB2.c0
  have q1 := hB2.c1
  have q2 := hB2.c2
  have q3 := hB2.c3
  go_upto_region 4 with fail
  rw [HW2.out]
  rw [← hBq]
  clear x0 x1 x2 x3 x4 HW2 hBq
  go_upto_region 5 with fail
  rw [HW3.out]
  clear y0 y1 y2 y3 y4 z0 z1 z2 z3 q0 q1 q2 q3 HW3
  have z4 := hT3.f 4
  have q3 := hB3.c3
  obtain ⟨y0, y1, y2, y3, y4⟩ := hT3.cs
  go_upto_region 6 with fail
  rw [HW4.out]
  clear y0 y1 y2 y3 y4 z4 q3 HW4
  obtain ⟨y0, y1, y2, y3, y4⟩ := hT4.cs
  have z4 := hT4.f 4
  clear hT1 hT2 hT3 hT4 hF1 hF2 hF3 hF4 hB2 hB3 htl htB HV HT
  by_cases hc : c = 0
  · subst hc
    have hk := short_pos (xs.drop p) (by rw [HR.out])
    rw [HR.out, List.length_drop] at hk
    simp only at hk
    have hspe : sp = p + k := by rw [HSp.out]; simp [stepAt]
    by_cases hbig : 65536 < v
    · have hbi : (65536 : Int) < (v : Int) := by omega
      have H1 : Hid (dN (xs.drop p) = .error 3) := by
        show dN _ = _
        unfold dN tk
        rw [HR.out]
        simp [refL, hbig]
      clear hk hspe
      go_wp2
      go_ret
      exact Or.inl ⟨3, _, H1.out, rfl, ⟨by decide, _, _, _, HT4.out.code 3⟩, HF4.out.then (Fr.set _ _ _ (by simp))⟩
    · have hbi : ¬ (65536 : Int) < (v : Int) := by omega
      have hrm : (v : Int) % 65537 = (v : Int) := by omega
      have H1 : Hid (dN (xs.drop p) = .ok (v, xs.drop sp)) := by
        show dN _ = _
        rw [hspe]
        unfold dN
        rw [tk_ok HR.out (by simp [refL]; omega), List.drop_drop]
      have HRes : Hid (Yl w4 t ao L cap sp) := ⟨HT4.out, by have := HL.out; omega⟩
      have hv : v ≤ 65536 := by omega
      clear hk hspe
      go_wp2
      go_ret
      exact Or.inr ⟨v, sp, H1.out, rfl, hv, HRes.out, HF4.out⟩
  · have H1 : Hid (dN (xs.drop p) = .error c) := tk_err HR.out hc
    have hci : ¬ (c : Int) = 0 := by omega
    go_wp2
    go_ret
    exact Or.inl ⟨c, _, H1.out, rfl, ⟨hc, _, _, _, HT4.out⟩, HF4.out⟩
/-- A text taken. -/
def YtP (m : Nat) (t : Nat) (ao : Option Addr) (L cap p : Nat) (xs : List Nat) (w : World) (e : Ending) (w' : World) : Prop :=
  (∃ c s, dT m (xs.drop p) = .error c ∧ e = .returned (.string s) ∧ Yd w' t c ∧ Fr [t] w w') ∨ (∃ s p', dT m (xs.drop p) = .ok (s, xs.drop p') ∧ e = .returned (.string s) ∧ Yl w' t ao L cap p' ∧ Fr [t] w w')
set_option maxHeartbeats 4000000 in
set_option maxRecDepth 100000 in
theorem ywtext_any {w : World} {t : Nat} {ao : Option Addr} {L cap p : Nat} {xs : List Nat} (m : Nat) (hm : m ≤ 65536) (h : Yl w t ao L cap p) (hB : Yb w ao L cap xs) : Calls Tryz.prog 101 #[.pointer (some ⟨t, 0, none⟩), .int .i64 (m : Int)] w fun e w' => YtP m t ao L cap p xs w e w' := by
  have hF0 : Hid (t < w.heap.size) := h.ta.lt
  obtain ⟨⟨v, k, c⟩, hr⟩ : ∃ r, r = textF (m : Int) (xs.drop p) := ⟨_, rfl⟩
  obtain ⟨sp, hsp⟩ : ∃ sp, sp = stepAt (k, c) p := ⟨_, rfl⟩
  have hV := xText_live ao L cap p xs (m : Int) (by omega) (by omega) hB.le w hB.rs hB.low hB.len h.le
  rw [← hr] at hV
  simp only at hV
  rw [← hsp] at hV
  have HV : Hid (Calls _ _ _ _ _) := hV
  have HR : Hid (textF (m : Int) (xs.drop p) = (v, k, c)) := hr.symm
  have HSp : Hid (sp = stepAt (k, c) p) := hsp
  have HT : Hid (∀ W, Fr [] w W → Ta W t (.slice ao L cap) (p : Int) 0 0) := fun W hf => h.ta.keep hf (by simp)
  have HL : Hid (p ≤ L ∧ L = xs.length ∧ ∀ x ∈ xs, x < 256) := ⟨h.le, hB.len, hB.low⟩
  obtain ⟨x0, x1, x2, x3, x4⟩ := h.ta.cs
  clear hV hr hsp h hB
  go_enter Tryz.func101, Tryz.ntmps101
  go_wp2_with fail
  refine Calls.mono HV.out ?_
  rintro e w1 ⟨rfl, hF1⟩
  have hT1 := HT.out _ hF1
  obtain ⟨w2, HW2⟩ : ∃ w2, Hid (w1.alloc (.cells #[.bool false, .slice ao L cap, .int .i64 (sp : Int), .int .i64 (c : Int)] 140) = w2) := ⟨_, rfl⟩
  have hF2 : Fr [] w1 w2 := by rw [← HW2.out]; exact Fr.alloc _ _ _
  have hB2 : Bx w2 w1.heap.size false (.slice ao L cap) (sp : Int) (c : Int) := ⟨by rw [← HW2.out]; exact heap_alloc_new w1 _⟩
  have hT2 := hT1.keep hF2 (by simp)
  have htl := hT1.lt
  obtain ⟨B, hBq⟩ : ∃ B, B = w1.heap.size := ⟨_, rfl⟩
  have htB : t ≠ B := by omega
  rw [← hBq] at hB2
  obtain ⟨w3, HW3⟩ : ∃ w3, Hid ((((w2.setCell ⟨t, 0, none⟩ (.bool false)).setCell ⟨t, 1, none⟩ (.slice ao L cap)).setCell ⟨t, 2, none⟩ (.int .i64 (sp : Int))).setCell ⟨t, 3, none⟩ (.int .i64 (c : Int)) = w3) := ⟨_, rfl⟩
  have hF3 : Fr [t] w2 w3 := by rw [← HW3.out]; exact Fr.sets4 _ _ _ _ _ _
  have hT3 : Ta w3 t (.slice ao L cap) (sp : Int) (c : Int) 0 := ⟨by
    rw [← HW3.out, put_row _ (put_row _ (put_row _ (put_row _ hT2.box)))]
    rfl⟩
  have hB3 := hB2.keep hF3 (by simp; omega)
  obtain ⟨w4, HW4⟩ : ∃ w4, Hid (w3.setCell ⟨t, 4, none⟩ (.int .i64 (c : Int)) = w4) := ⟨_, rfl⟩
  have hT4 : Ta w4 t (.slice ao L cap) (sp : Int) (c : Int) (c : Int) := by rw [← HW4.out]; exact hT3.code _
  have hF4 : Fr [t] w3 w4 := by rw [← HW4.out]; exact Fr.set _ _ _ (by simp)
  have HF4 : Hid (Fr [t] w w4) := (((hF1.then hF2).mono (T := [t]) (by simp)).then hF3).then hF4
  have HT4 : Hid (Ta w4 t (.slice ao L cap) (sp : Int) (c : Int) (c : Int)) := hT4
  obtain ⟨y0, y1, y2, y3, y4⟩ := hT2.cs
  have z0 := hT2.f 0
  have z1 := hT2.f 1
  have z2 := hT2.f 2
  have z3 := hT2.f 3
  have q0 := hB2.c0
  have q1 := hB2.c1
  have q2 := hB2.c2
  have q3 := hB2.c3
  go_upto_region 4 with fail
  rw [HW2.out]
  rw [← hBq]
  clear x0 x1 x2 x3 x4 HW2 hBq
  go_upto_region 5 with fail
  rw [HW3.out]
  clear y0 y1 y2 y3 y4 z0 z1 z2 z3 q0 q1 q2 q3 HW3
  have z4 := hT3.f 4
  have q3 := hB3.c3
  obtain ⟨y0, y1, y2, y3, y4⟩ := hT3.cs
  go_upto_region 6 with fail
  rw [HW4.out]
  clear y0 y1 y2 y3 y4 z4 q3 HW4
  obtain ⟨y0, y1, y2, y3, y4⟩ := hT4.cs
  have z4 := hT4.f 4
  clear hT1 hT2 hT3 hT4 hF1 hF2 hF3 hF4 hB2 hB3 htl htB HV HT
  by_cases hc : c = 0
  · subst hc
    have hk := text_pos m (xs.drop p) (by rw [HR.out])
    rw [HR.out, List.length_drop] at hk
    simp only at hk
    have hspe : sp = p + k := by rw [HSp.out]; simp [stepAt]
    have H1 : Hid (dT m (xs.drop p) = .ok (v, xs.drop sp)) := by
      show dT _ _ = _
      rw [hspe]
      unfold dT
      rw [tk_ok HR.out rfl, List.drop_drop]
    have HRes : Hid (Yl w4 t ao L cap sp) := ⟨HT4.out, by have := HL.out; omega⟩
    clear hk hspe
    go_wp2
    go_ret
    exact Or.inr ⟨v, sp, H1.out, rfl, HRes.out, HF4.out⟩
  · have H1 : Hid (dT m (xs.drop p) = .error c) := tk_err HR.out hc
    have hci : ¬ (c : Int) = 0 := by omega
    go_wp2
    go_ret
    exact Or.inl ⟨c, _, H1.out, rfl, ⟨hc, _, _, _, HT4.out⟩, HF4.out⟩
/-- The byte that says 0 or 1 taken. -/
def YfP (t : Nat) (ao : Option Addr) (L cap p : Nat) (xs : List Nat) (w : World) (e : Ending) (w' : World) : Prop :=
  (∃ c z, dF (xs.drop p) = .error c ∧ e = .returned (.bool z) ∧ Yd w' t c ∧ Fr [t] w w') ∨ (∃ d p', dF (xs.drop p) = .ok (d, xs.drop p') ∧ (d = 0 ∨ d = 1) ∧ e = .returned (.bool (decide (d = 1))) ∧ Yl w' t ao L cap p' ∧ Fr [t] w w')
set_option maxHeartbeats 4000000 in
set_option maxRecDepth 100000 in
theorem ywdrop_any {w : World} {t : Nat} {ao : Option Addr} {L cap p : Nat} {xs : List Nat} (h : Yl w t ao L cap p) (hB : Yb w ao L cap xs) : Calls Tryz.prog 102 #[.pointer (some ⟨t, 0, none⟩)] w fun e w' => YfP t ao L cap p xs w e w' := by
  have hF0 : Hid (t < w.heap.size) := h.ta.lt
  obtain ⟨⟨v, k, c⟩, hr⟩ : ∃ r, r = fixF 1 (xs.drop p) := ⟨_, rfl⟩
  obtain ⟨sp, hsp⟩ : ∃ sp, sp = stepAt (k, c) p := ⟨_, rfl⟩
  have hV := xFixed_live ao L cap p xs 1 w hB.rs hB.low hB.len h.le
  rw [← hr] at hV
  simp only at hV
  rw [← hsp] at hV
  have HV : Hid (Calls _ _ _ _ _) := hV
  have HR : Hid (fixF 1 (xs.drop p) = (v, k, c)) := hr.symm
  have HSp : Hid (sp = stepAt (k, c) p) := hsp
  have HT : Hid (∀ W, Fr [] w W → Ta W t (.slice ao L cap) (p : Int) 0 0) := fun W hf => h.ta.keep hf (by simp)
  have HL : Hid (p ≤ L ∧ L = xs.length ∧ ∀ x ∈ xs, x < 256) := ⟨h.le, hB.len, hB.low⟩
  obtain ⟨x0, x1, x2, x3, x4⟩ := h.ta.cs
  clear hV hr hsp h hB
  go_enter Tryz.func102, Tryz.ntmps102
  go_wp2_with fail
  refine Calls.mono HV.out ?_
  rintro e w1 ⟨rfl, hF1⟩
  have hT1 := HT.out _ hF1
  obtain ⟨w2, HW2⟩ : ∃ w2, Hid (w1.alloc (.cells #[.bool false, .slice ao L cap, .int .i64 (sp : Int), .int .i64 (c : Int)] 140) = w2) := ⟨_, rfl⟩
  have hF2 : Fr [] w1 w2 := by rw [← HW2.out]; exact Fr.alloc _ _ _
  have hB2 : Bx w2 w1.heap.size false (.slice ao L cap) (sp : Int) (c : Int) := ⟨by rw [← HW2.out]; exact heap_alloc_new w1 _⟩
  have hT2 := hT1.keep hF2 (by simp)
  have htl := hT1.lt
  obtain ⟨B, hBq⟩ : ∃ B, B = w1.heap.size := ⟨_, rfl⟩
  have htB : t ≠ B := by omega
  rw [← hBq] at hB2
  obtain ⟨w3, HW3⟩ : ∃ w3, Hid ((((w2.setCell ⟨t, 0, none⟩ (.bool false)).setCell ⟨t, 1, none⟩ (.slice ao L cap)).setCell ⟨t, 2, none⟩ (.int .i64 (sp : Int))).setCell ⟨t, 3, none⟩ (.int .i64 (c : Int)) = w3) := ⟨_, rfl⟩
  have hF3 : Fr [t] w2 w3 := by rw [← HW3.out]; exact Fr.sets4 _ _ _ _ _ _
  have hT3 : Ta w3 t (.slice ao L cap) (sp : Int) (c : Int) 0 := ⟨by
    rw [← HW3.out, put_row _ (put_row _ (put_row _ (put_row _ hT2.box)))]
    rfl⟩
  have hB3 := hB2.keep hF3 (by simp; omega)
  obtain ⟨w4, HW4⟩ : ∃ w4, Hid (w3.setCell ⟨t, 4, none⟩ (.int .i64 (c : Int)) = w4) := ⟨_, rfl⟩
  have hT4 : Ta w4 t (.slice ao L cap) (sp : Int) (c : Int) (c : Int) := by rw [← HW4.out]; exact hT3.code _
  have hF4 : Fr [t] w3 w4 := by rw [← HW4.out]; exact Fr.set _ _ _ (by simp)
  have HF4 : Hid (Fr [t] w w4) := (((hF1.then hF2).mono (T := [t]) (by simp)).then hF3).then hF4
  have HT4 : Hid (Ta w4 t (.slice ao L cap) (sp : Int) (c : Int) (c : Int)) := hT4
  obtain ⟨y0, y1, y2, y3, y4⟩ := hT2.cs
  have z0 := hT2.f 0
  have z1 := hT2.f 1
  have z2 := hT2.f 2
  have z3 := hT2.f 3
  have q0 := hB2.c0
  have q1 := hB2.c1
  have q2 := hB2.c2
  have q3 := hB2.c3
  go_upto_region 4 with fail
  rw [HW2.out]
  rw [← hBq]
  clear x0 x1 x2 x3 x4 HW2 hBq
  go_upto_region 5 with fail
  rw [HW3.out]
  clear y0 y1 y2 y3 y4 z0 z1 z2 z3 q0 q1 q2 q3 HW3
  have z4 := hT3.f 4
  have q3 := hB3.c3
  obtain ⟨y0, y1, y2, y3, y4⟩ := hT3.cs
  go_upto_region 6 with fail
  rw [HW4.out]
  clear y0 y1 y2 y3 y4 z4 q3 HW4
  obtain ⟨y0, y1, y2, y3, y4⟩ := hT4.cs
  have z4 := hT4.f 4
  clear hT1 hT2 hT3 hT4 hF1 hF2 hF3 hF4 hB2 hB3 htl htB HV HT
  by_cases hc : c = 0
  · subst hc
    have hk := fix_pos (xs.drop p) (by rw [HR.out])
    rw [HR.out, List.length_drop] at hk
    simp only at hk
    have hspe : sp = p + k := by rw [HSp.out]; simp [stepAt]
    by_cases hbig : 1 < v
    · have hbi : (1 : Int) < (v : Int) := by omega
      have H1 : Hid (dF (xs.drop p) = .error 4) := by
        show dF _ = _
        unfold dF tk
        rw [HR.out]
        have hv2 : ¬ (v = 0 ∨ v = 1) := by omega
        simp [refD, hv2]
      clear hk hspe
      go_wp2
      go_ret
      exact Or.inl ⟨4, _, H1.out, rfl, ⟨by decide, _, _, _, HT4.out.code 4⟩, HF4.out.then (Fr.set _ _ _ (by simp))⟩
    · have hbi : ¬ (1 : Int) < (v : Int) := by omega
      have hv : v = 0 ∨ v = 1 := by omega
      have H1 : Hid (dF (xs.drop p) = .ok (v, xs.drop sp)) := by
        show dF _ = _
        rw [hspe]
        unfold dF
        rw [tk_ok HR.out (by simp [refD]; omega), List.drop_drop]
      have HRes : Hid (Yl w4 t ao L cap sp) := ⟨HT4.out, by have := HL.out; omega⟩
      clear hk hspe
      rcases hv with rfl | rfl
      · go_wp2
        go_ret
        exact Or.inr ⟨0, sp, H1.out, Or.inl rfl, by simp, HRes.out, HF4.out⟩
      · go_wp2
        go_ret
        exact Or.inr ⟨1, sp, H1.out, Or.inr rfl, by simp, HRes.out, HF4.out⟩
  · have H1 : Hid (dF (xs.drop p) = .error c) := tk_err HR.out hc
    have hci : ¬ (c : Int) = 0 := by omega
    go_wp2
    go_ret
    exact Or.inl ⟨c, _, H1.out, rfl, ⟨hc, _, _, _, HT4.out⟩, HF4.out⟩
end Go.Proofs.YtdojhkgnnbdfkaaGreat
/- The document's reading of a checkpoint, as what is left to read; its taker, live or not, by one word. Plain lemmas and contracts. -/
namespace Go.Proofs.YtdojhkgnnbdfkaaGreat
open BigFrame Go.ChangeShapes Go.WideShapes Go.ChangeAt Go.RowKit Go.Lib Go.Maps
set_option linter.unusedVariables false
set_option linter.unusedSimpArgs false

/-- These ahead of what is read then. -/
def preL {α : Type} (a : List α) : Except Nat (List α × List Nat) → Except Nat (List α × List Nat)
  | .error e => .error e
  | .ok (l, s) => .ok (a ++ l, s)
theorem preL_nil {α : Type} (r : Except Nat (List α × List Nat)) : preL [] r = r := by
  cases r with
  | error e => rfl
  | ok p => rfl
theorem preL_step {α : Type} {f : List Nat → Except Nat (α × List Nat)} {k : Nat} {ys zs : List Nat} {x : α} (a : List α) (h : f ys = .ok (x, zs)) : preL a (dR f (k + 1) ys) = preL (a ++ [x]) (dR f k zs) := by
  show preL a (match f ys with | .error e => .error e | .ok (x, r) => match dR f k r with | .error e => .error e | .ok (l, s) => .ok (x :: l, s)) = _
  rw [h]
  simp only
  cases dR f k zs with
  | error e => rfl
  | ok p => simp [preL]
theorem preL_err {α : Type} {f : List Nat → Except Nat (α × List Nat)} {k c : Nat} {ys : List Nat} (a : List α) (h : f ys = .error c) : preL a (dR f (k + 1) ys) = .error c := by
  show preL a (match f ys with | .error e => .error e | .ok (x, r) => match dR f k r with | .error e => .error e | .ok (l, s) => .ok (x :: l, s)) = _
  rw [h]
  rfl
theorem preL_end {α : Type} {f : List Nat → Except Nat (α × List Nat)} {ys : List Nat} (a : List α) : preL a (dR f 0 ys) = .ok (a, ys) := by
  show preL a (.ok ([], ys)) = _
  simp [preL]
/-- Behind the keys. -/
def kK (m : Int) (bs : List Int) : Except Nat (List Kv × List Nat) → Except Nat (Sd × List Nat)
  | .error e => .error e
  | .ok (ps, t) => .ok (⟨m, bs, ps⟩, t)
/-- Behind the numbers beyond. -/
def kB (m : Int) : Except Nat (List Int × List Nat) → Except Nat (Sd × List Nat)
  | .error e => .error e
  | .ok (bs, s) => kK m bs (dL dK s)
/-- Behind a key's versions. -/
def kV (m : Int) (bs : List Int) (ps : List Kv) (key : ByteArray) (j : Nat) : Except Nat (List Vn × List Nat) → Except Nat (Sd × List Nat)
  | .error e => .error e
  | .ok (vs, s) => kK m bs (preL (ps ++ [(key, vs)]) (dR dK j s))
theorem dS_kB {xs ys : List Nat} {m : Nat} (h : dN xs = .ok (m, ys)) : dS xs = kB (m : Int) (dL dI ys) := by
  unfold dS
  rw [dI_ok h]
  simp only
  cases dL dI ys with
  | error e => rfl
  | ok p =>
    obtain ⟨bs, s⟩ := p
    simp only [kB]
    cases dL dK s with
    | error e => rfl
    | ok q => rfl
theorem kK_key {m : Int} {bs : List Int} {ps : List Kv} {j : Nat} {ys zs us : List Nat} {key : ByteArray} {n : Nat} (h : dT 64 ys = .ok (key, zs)) (h2 : dN zs = .ok (n, us)) : kK m bs (preL ps (dR dK (j + 1) ys)) = kV m bs ps key j (dR dX n us) := by
  cases hv : dR dX n us with
  | error e =>
    rw [preL_err ps (dK_l h (by rw [dL_of h2]; exact hv))]
    rfl
  | ok p =>
    obtain ⟨vs, s⟩ := p
    rw [preL_step ps (dK_ok h (by rw [dL_of h2]; exact hv))]
    rfl
/-- The taker, live or not. -/
def St (w : World) (t : Nat) (ao : Option Addr) (L cap : Nat) (lv : Nat → Prop) (de : Nat → Prop) : Prop := (∃ p, Yl w t ao L cap p ∧ lv p) ∨ (∃ c, Yd w t c ∧ de c)
section
variable {w w' : World} {t : Nat} {ao : Option Addr} {L cap : Nat} {xs : List Nat} {lv : Nat → Prop} {de : Nat → Prop}
theorem St.keep {S : List Nat} (h : St w t ao L cap lv de) (hf : Fr S w w') (hn : t ∉ S) : St w' t ao L cap lv de := by
  rcases h with ⟨p, h1, h2⟩ | ⟨c, h1, h2⟩
  · exact Or.inl ⟨p, h1.keep hf hn, h2⟩
  · exact Or.inr ⟨c, h1.keep hf hn, h2⟩
theorem St.imp {lv2 : Nat → Prop} {de2 : Nat → Prop} (h : St w t ao L cap lv de) (h1 : ∀ p, p ≤ L → lv p → lv2 p) (h2 : ∀ c, de c → de2 c) : St w t ao L cap lv2 de2 := by
  rcases h with ⟨p, h3, h4⟩ | ⟨c, h3, h4⟩
  · exact Or.inl ⟨p, h3, h1 p h3.le h4⟩
  · exact Or.inr ⟨c, h3, h2 c h4⟩
theorem St.lt (h : St w t ao L cap lv de) : t < w.heap.size := by
  rcases h with ⟨p, h3, h4⟩ | ⟨c, ⟨_, _, _, _, h3⟩, h4⟩
  · exact h3.ta.lt
  · exact h3.lt
/-- Its code: 0 where it is live. -/
theorem St.code (h : St w t ao L cap lv de) : ∃ c : Nat, w.cell? ⟨t, 4, none⟩ = some (.int .i64 (c : Int)) ∧ ((c = 0 ∧ ∃ p, Yl w t ao L cap p ∧ lv p) ∨ (c ≠ 0 ∧ Yd w t c ∧ de c)) := by
  rcases h with ⟨p, h3, h4⟩ | ⟨c, h3, h4⟩
  · exact ⟨0, h3.ta.cs.2.2.2.2, Or.inl ⟨rfl, p, h3, h4⟩⟩
  · obtain ⟨h0, s, p, c', h5⟩ := h3
    exact ⟨c, h5.cs.2.2.2.2, Or.inr ⟨h0, ⟨h0, s, p, c', h5⟩, h4⟩⟩
theorem number_st (h : St w t ao L cap lv de) (hB : Yb w ao L cap xs) : Calls Tryz.prog 100 #[.pointer (some ⟨t, 0, none⟩)] w fun e w' => ∃ z : Int, e = .returned (.int .i64 z) ∧ Fr [t] w w' ∧ St w' t ao L cap (fun p' => ∃ p n : Nat, lv p ∧ dN (xs.drop p) = .ok (n, xs.drop p') ∧ z = n ∧ n ≤ 65536) (fun c => de c ∨ ∃ p, lv p ∧ dN (xs.drop p) = .error c) := by
  rcases h with ⟨p, h3, h4⟩ | ⟨c, h3, h4⟩
  · refine (ywnumber_any h3 hB).mono ?_
    rintro e w' (⟨c, z, h5, rfl, h6, h7⟩ | ⟨n, p', h5, rfl, h6, h7, h8⟩)
    · exact ⟨z, rfl, h7, Or.inr ⟨c, h6, Or.inr ⟨p, h4, h5⟩⟩⟩
    · exact ⟨n, rfl, h8, Or.inl ⟨p', h7, p, n, h4, h5, rfl, h6⟩⟩
  · refine (ywnumber_dead h3).mono ?_
    rintro e w' ⟨rfl, rfl⟩
    exact ⟨0, rfl, Fr.refl _ _, Or.inr ⟨c, h3, Or.inl h4⟩⟩
theorem text_st (m : Nat) (hm : m ≤ 65536) (h : St w t ao L cap lv de) (hB : Yb w ao L cap xs) : Calls Tryz.prog 101 #[.pointer (some ⟨t, 0, none⟩), .int .i64 (m : Int)] w fun e w' => ∃ s : ByteArray, e = .returned (.string s) ∧ Fr [t] w w' ∧ St w' t ao L cap (fun p' => ∃ p, lv p ∧ dT m (xs.drop p) = .ok (s, xs.drop p')) (fun c => de c ∨ ∃ p, lv p ∧ dT m (xs.drop p) = .error c) := by
  rcases h with ⟨p, h3, h4⟩ | ⟨c, h3, h4⟩
  · refine (ywtext_any m hm h3 hB).mono ?_
    rintro e w' (⟨c, z, h5, rfl, h6, h7⟩ | ⟨n, p', h5, rfl, h7, h8⟩)
    · exact ⟨z, rfl, h7, Or.inr ⟨c, h6, Or.inr ⟨p, h4, h5⟩⟩⟩
    · exact ⟨n, rfl, h8, Or.inl ⟨p', h7, p, h4, h5⟩⟩
  · refine (ywtext_dead (m : Int) h3).mono ?_
    rintro e w' ⟨rfl, rfl⟩
    exact ⟨_, rfl, Fr.refl _ _, Or.inr ⟨c, h3, Or.inl h4⟩⟩
theorem drop_st (h : St w t ao L cap lv de) (hB : Yb w ao L cap xs) : Calls Tryz.prog 102 #[.pointer (some ⟨t, 0, none⟩)] w fun e w' => ∃ b : Bool, e = .returned (.bool b) ∧ Fr [t] w w' ∧ St w' t ao L cap (fun p' => ∃ p d, lv p ∧ dF (xs.drop p) = .ok (d, xs.drop p') ∧ (d = 0 ∨ d = 1) ∧ b = decide (d = 1)) (fun c => de c ∨ ∃ p, lv p ∧ dF (xs.drop p) = .error c) := by
  rcases h with ⟨p, h3, h4⟩ | ⟨c, h3, h4⟩
  · refine (ywdrop_any h3 hB).mono ?_
    rintro e w' (⟨c, z, h5, rfl, h6, h7⟩ | ⟨d, p', h5, h6, rfl, h7, h8⟩)
    · exact ⟨z, rfl, h7, Or.inr ⟨c, h6, Or.inr ⟨p, h4, h5⟩⟩⟩
    · exact ⟨_, rfl, h8, Or.inl ⟨p', h7, p, d, h4, h5, h6, rfl⟩⟩
  · refine (ywdrop_dead h3).mono ?_
    rintro e w' ⟨rfl, rfl⟩
    exact ⟨_, rfl, Fr.refl _ _, Or.inr ⟨c, h3, Or.inl h4⟩⟩
end
end Go.Proofs.YtdojhkgnnbdfkaaGreat

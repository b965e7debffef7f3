/- Contracts and plain lemmas of this claim. -/
import Derived.Test.YtembflnhhfliaaaGreatDoorGp16
import Derived.Test.YtembflnhhfliaaaGreatDoorGp13
import Derived.Test.YtembflnhhfliaaaGreatDoorGp12
import Derived.Test.YtembflnhhfliaaaGreatDoorGp6
import Derived.Laws.ResultCell
import Derived.Deep.RegionLaw
import Derived.Deep.RegionWith
import Derived.Deep.RegionHeld3
import Derived.Deep.CutRange
set_option linter.unusedSimpArgs false
set_option linter.unusedVariables false
set_option maxHeartbeats 4000000
set_option maxRecDepth 100000
namespace Go.Proofs.YtembflnhhfliaaaGreatDoor
open BigFrame Go.ChangeShapes Go.WideShapes Go.ChangeAt Go.RowKit Go.Lib Go.Maps
theorem zaw {w : World} {b j : Nat} {cs : Array Value} {t : TypeId} (x : Value) (h : w.heap[b]? = some (.cells cs t (0, 0))) : (w.setCell ⟨b, j, none⟩ x).heap[b]? = some (.cells (cs.setIfInBounds j x) t (0, 0)) := zae x h
structure Ta (w : World) (t : Nat) (s : Value) (p c d : Int) : Prop where
  box : w.heap[t]? = some (.cells #[.bool false, s, .int .i64 p, .int .i64 c, .int .i64 d] 233 (0, 0))
section
variable {w w' : World} {t : Nat} {s : Value} {p c d : Int}
theorem Ta.cs (h : Ta w t s p c d) : w.cell? ⟨t, 0, none⟩ = some (.bool false) /\ w.cell? ⟨t, 1, none⟩ = some s /\ w.cell? ⟨t, 2, none⟩ = some (.int .i64 p) /\ w.cell? ⟨t, 3, none⟩ = some (.int .i64 c) /\ w.cell? ⟨t, 4, none⟩ = some (.int .i64 d) := by
  refine ⟨?_, ?_, ?_, ?_, ?_⟩ <;> (rw [cell_of_row _ _ _ _ _ _ h.box]; rfl)
theorem Ta.f (h : Ta w t s p c d) (j : Nat) : w.frozen? ⟨t, j, none⟩ = false := by simp [World.frozen?, h.box]
theorem Ta.keep {S : List Nat} (h : Ta w t s p c d) (hf : Fr S w w') (hn : t ∉ S) : Ta w' t s p c d := ⟨hf.keep h.box hn⟩
theorem Ta.lt (h : Ta w t s p c d) : t < w.heap.size := lt_of_block h.box
def zxn (w : World) (t : Nat) (s' : Value) (p' c' d' : Int) : World := ((((w.setCell ⟨t, 0, none⟩ (.bool false)).setCell ⟨t, 1, none⟩ s').setCell ⟨t, 2, none⟩ (.int .i64 p')).setCell ⟨t, 3, none⟩ (.int .i64 c')).setCell ⟨t, 4, none⟩ (.int .i64 d')
theorem Ta.set (h : Ta w t s p c d) (s' : Value) (p' c' d' : Int) : Ta (zxn w t s' p' c' d') t s' p' c' d' := by
  refine ⟨?_⟩
  unfold zxn
  rw [zaw _ (zaw _ (zaw _ (zaw _ (zaw _ h.box))))]
  rfl
theorem Ta.code (h : Ta w t s p c d) (d' : Int) : Ta (w.setCell ⟨t, 4, none⟩ (.int .i64 d')) t s p c d' := by
  refine ⟨?_⟩
  rw [zaw _ h.box]
  rfl
end
def Yd (w : World) (t c : Nat) : Prop := c ≠ 0 /\ ∃ s p c', Ta w t s p c' (c : Int)
structure Yl (w : World) (t : Nat) (ao : Option Addr) (L cap p : Nat) : Prop where
  ta : Ta w t (.slice ao L cap) (p : Int) 0 0
  le : p <= L
theorem Yd.keep {S : List Nat} {w w' : World} {t c : Nat} (h : Yd w t c) (hf : Fr S w w') (hn : t ∉ S) : Yd w' t c := by
  obtain ⟨h0, s, p, c', h1⟩ := h
  exact ⟨h0, s, p, c', h1.keep hf hn⟩
theorem Yl.keep {S : List Nat} {w w' : World} {t : Nat} {ao : Option Addr} {L cap p : Nat} (h : Yl w t ao L cap p) (hf : Fr S w w') (hn : t ∉ S) : Yl w' t ao L cap p := ⟨h.ta.keep hf hn, h.le⟩
structure Yb (w : World) (ao : Option Addr) (L cap : Nat) (xs : List Nat) : Prop where
  rs : Rs w ao xs
  low : ∀ x ∈ xs, x < 256
  len : L = xs.length
  le : L <= cap
theorem zdy {w : World} {t c : Nat} (h : Yd w t c) : Calls Tryz.prog 173 #[.pointer (some ⟨t, 0, none⟩)] w fun e w' => e = .returned (.int .i64 0) /\ w' = w := by
  obtain ⟨hc, s, p, c', h⟩ := h
  obtain ⟨x0, x1, x2, x3, x4⟩ := h.cs
  have hz : ((c : Int) == 0) = false := by simpa using hc
  have hz2 : ¬ (c : Int) = 0 := by omega
  clear h
  go_enter Tryz.func173, Tryz.ntmps173
  go_wp2
  go_ret
  exact ⟨rfl, rfl⟩
theorem zpc {w : World} {t c : Nat} (m : Int) (h : Yd w t c) : Calls Tryz.prog 174 #[.pointer (some ⟨t, 0, none⟩), .int .i64 m] w fun e w' => e = .returned (.string ⟨#[]⟩) /\ w' = w := by
  obtain ⟨hc, s, p, c', h⟩ := h
  obtain ⟨x0, x1, x2, x3, x4⟩ := h.cs
  have hz2 : ¬ (c : Int) = 0 := by omega
  clear h
  go_enter Tryz.func174, Tryz.ntmps174
  go_wp2
  go_ret
  exact ⟨rfl, rfl⟩
theorem zpd {w : World} {t c : Nat} (h : Yd w t c) : Calls Tryz.prog 175 #[.pointer (some ⟨t, 0, none⟩)] w fun e w' => e = .returned (.bool false) /\ w' = w := by
  obtain ⟨hc, s, p, c', h⟩ := h
  obtain ⟨x0, x1, x2, x3, x4⟩ := h.cs
  have hz2 : ¬ (c : Int) = 0 := by omega
  clear h
  go_enter Tryz.func175, Tryz.ntmps175
  go_wp2
  go_ret
  exact ⟨rfl, rfl⟩
def YnP (t : Nat) (ao : Option Addr) (L cap p : Nat) (xs : List Nat) (w : World) (e : Ending) (w' : World) : Prop :=
  (∃ c z, dN (xs.drop p) = .error c /\ e = .returned (.int .i64 z) /\ Yd w' t c /\ Fr [t] w w') \/ (∃ n p', dN (xs.drop p) = .ok (n, xs.drop p') /\ e = .returned (.int .i64 (n : Nat)) /\ n <= 65536 /\ Yl w' t ao L cap p' /\ Fr [t] w w')
theorem zno {w : World} {t : Nat} {ao : Option Addr} {L cap p : Nat} {xs : List Nat} (h : Yl w t ao L cap p) (hB : Yb w ao L cap xs) : Calls Tryz.prog 173 #[.pointer (some ⟨t, 0, none⟩)] w fun e w' => YnP t ao L cap p xs w e w' := by
  have hF0 : Hid (t < w.heap.size) := h.ta.lt
  obtain ⟨⟨v, k, c⟩, hr⟩ : ∃ r, r = zaa 0 0 (xs.drop p) := ⟨_, rfl⟩
  obtain ⟨sp, hsp⟩ : ∃ sp, sp = zah (k, c) p := ⟨_, rfl⟩
  have hV := zlr ao L cap p xs w hB.rs hB.low hB.len h.le
  rw [<- hr] at hV
  simp only at hV
  rw [<- hsp] at hV
  have HV : Hid (Calls _ _ _ _ _) := hV
  have HR : Hid (zaa 0 0 (xs.drop p) = (v, k, c)) := hr.symm
  have HSp : Hid (sp = zah (k, c) p) := hsp
  have HT : Hid (∀ W, Fr [] w W -> Ta W t (.slice ao L cap) (p : Int) 0 0) := fun W hf => h.ta.keep hf (by simp)
  have HL : Hid (p <= L /\ L = xs.length /\ ∀ x ∈ xs, x < 256) := ⟨h.le, hB.len, hB.low⟩
  obtain ⟨x0, x1, x2, x3, x4⟩ := h.ta.cs
  clear hV hr hsp h hB
  go_enter Tryz.func173, Tryz.ntmps173
  go_wp2_with fail
  refine Calls.mono HV.out ?_
  rintro e w1 ⟨rfl, hF1⟩
  have hT1 := HT.out _ hF1
  obtain ⟨w2, HW2⟩ : ∃ w2, Hid (w1.alloc (.cells #[.bool false, .slice ao L cap, .int .i64 (sp : Int), .int .i64 (c : Int)] 200) = w2) := ⟨_, rfl⟩
  have hF2 : Fr [] w1 w2 := by rw [<- HW2.out]; exact Fr.alloc _ _ _
  have hB2 : Bx w2 w1.heap.size false (.slice ao L cap) (sp : Int) (c : Int) := ⟨by rw [<- HW2.out]; exact heap_alloc_new w1 _⟩
  have hT2 := hT1.keep hF2 (by simp)
  have htl := hT1.lt
  obtain ⟨B, hBq⟩ : ∃ B, B = w1.heap.size := ⟨_, rfl⟩
  have htB : t ≠ B := by omega
  rw [<- hBq] at hB2
  obtain ⟨w3, HW3⟩ : ∃ w3, Hid ((((w2.setCell ⟨t, 0, none⟩ (.bool false)).setCell ⟨t, 1, none⟩ (.slice ao L cap)).setCell ⟨t, 2, none⟩ (.int .i64 (sp : Int))).setCell ⟨t, 3, none⟩ (.int .i64 (c : Int)) = w3) := ⟨_, rfl⟩
  have hF3 : Fr [t] w2 w3 := by rw [<- HW3.out]; exact Fr.sets4 _ _ _ _ _ _
  have hT3 : Ta w3 t (.slice ao L cap) (sp : Int) (c : Int) 0 := ⟨by
    rw [<- HW3.out, zaw _ (zaw _ (zaw _ (zaw _ hT2.box)))]
    rfl⟩
  have hB3 := hB2.keep hF3 (by simp; omega)
  obtain ⟨w4, HW4⟩ : ∃ w4, Hid (w3.setCell ⟨t, 4, none⟩ (.int .i64 (c : Int)) = w4) := ⟨_, rfl⟩
  have hT4 : Ta w4 t (.slice ao L cap) (sp : Int) (c : Int) (c : Int) := by rw [<- HW4.out]; exact hT3.code _
  have hF4 : Fr [t] w3 w4 := by rw [<- HW4.out]; exact Fr.set _ _ _ (by simp)
  have HF4 : Hid (Fr [t] w w4) := (((hF1.then hF2).mono (T := [t]) (by simp)).then hF3).then hF4
  have HT4 : Hid (Ta w4 t (.slice ao L cap) (sp : Int) (c : Int) (c : Int)) := hT4
  obtain ⟨y0, y1, y2, y3, y4⟩ := hT2.cs
  have z0 := hT2.f 0
  have z1 := hT2.f 1
  have z2 := hT2.f 2
  have z3 := hT2.f 3
  have q0 := hB2.c0
  have q1 := hB2.c1
  have q2 := hB2.c2
  have q3 := hB2.c3
  go_upto_region 4 with fail
  rw [HW2.out]
  rw [<- hBq]
  clear x0 x1 x2 x3 x4 HW2 hBq
  go_upto_region 5 with fail
  rw [HW3.out]
  clear y0 y1 y2 y3 y4 z0 z1 z2 z3 q0 q1 q2 q3 HW3
  have z4 := hT3.f 4
  have q3 := hB3.c3
  obtain ⟨y0, y1, y2, y3, y4⟩ := hT3.cs
  go_upto_region 6 with fail
  rw [HW4.out]
  clear y0 y1 y2 y3 y4 z4 q3 HW4
  obtain ⟨y0, y1, y2, y3, y4⟩ := hT4.cs
  have z4 := hT4.f 4
  clear hT1 hT2 hT3 hT4 hF1 hF2 hF3 hF4 hB2 hB3 htl htB HV HT
  by_cases hc : c = 0
  · subst hc
    have hk := zlm (xs.drop p) (by rw [HR.out])
    rw [HR.out, List.length_drop] at hk
    simp only at hk
    have hspe : sp = p + k := by rw [HSp.out]; simp [zah]
    by_cases hbig : 65536 < v
    · have hbi : (65536 : Int) < (v : Int) := by omega
      have H1 : Hid (dN (xs.drop p) = .error 3) := by
        show dN _ = _
        unfold dN tk
        rw [HR.out]
        simp [refL, hbig]
      clear hk hspe
      go_wp2
      go_ret
      exact Or.inl ⟨3, _, H1.out, rfl, ⟨by decide, _, _, _, HT4.out.code 3⟩, HF4.out.then (Fr.set _ _ _ (by simp))⟩
    · have hbi : ¬ (65536 : Int) < (v : Int) := by omega
      have hrm : (v : Int) % 65537 = (v : Int) := by omega
      have H1 : Hid (dN (xs.drop p) = .ok (v, xs.drop sp)) := by
        show dN _ = _
        rw [hspe]
        unfold dN
        rw [zrc HR.out (by simp [refL]; omega), List.drop_drop]
      have HRes : Hid (Yl w4 t ao L cap sp) := ⟨HT4.out, by have := HL.out; omega⟩
      have hv : v <= 65536 := by omega
      clear hk hspe
      go_wp2
      go_ret
      exact Or.inr ⟨v, sp, H1.out, rfl, hv, HRes.out, HF4.out⟩
  · have H1 : Hid (dN (xs.drop p) = .error c) := zjo HR.out hc
    have hci : ¬ (c : Int) = 0 := by omega
    go_wp2
    go_ret
    exact Or.inl ⟨c, _, H1.out, rfl, ⟨hc, _, _, _, HT4.out⟩, HF4.out⟩
def YtP (m : Nat) (t : Nat) (ao : Option Addr) (L cap p : Nat) (xs : List Nat) (w : World) (e : Ending) (w' : World) : Prop :=
  (∃ c s, dT m (xs.drop p) = .error c /\ e = .returned (.string s) /\ Yd w' t c /\ Fr [t] w w') \/ (∃ s p', dT m (xs.drop p) = .ok (s, xs.drop p') /\ e = .returned (.string s) /\ Yl w' t ao L cap p' /\ Fr [t] w w')
theorem zrp {w : World} {t : Nat} {ao : Option Addr} {L cap p : Nat} {xs : List Nat} (m : Nat) (hm : m <= 65536) (h : Yl w t ao L cap p) (hB : Yb w ao L cap xs) : Calls Tryz.prog 174 #[.pointer (some ⟨t, 0, none⟩), .int .i64 (m : Int)] w fun e w' => YtP m t ao L cap p xs w e w' := by
  have hF0 : Hid (t < w.heap.size) := h.ta.lt
  obtain ⟨⟨v, k, c⟩, hr⟩ : ∃ r, r = zao (m : Int) (xs.drop p) := ⟨_, rfl⟩
  obtain ⟨sp, hsp⟩ : ∃ sp, sp = zah (k, c) p := ⟨_, rfl⟩
  have hV := zro ao L cap p xs (m : Int) (by omega) (by omega) hB.le w hB.rs hB.low hB.len h.le
  rw [<- hr] at hV
  simp only at hV
  rw [<- hsp] at hV
  have HV : Hid (Calls _ _ _ _ _) := hV
  have HR : Hid (zao (m : Int) (xs.drop p) = (v, k, c)) := hr.symm
  have HSp : Hid (sp = zah (k, c) p) := hsp
  have HT : Hid (∀ W, Fr [] w W -> Ta W t (.slice ao L cap) (p : Int) 0 0) := fun W hf => h.ta.keep hf (by simp)
  have HL : Hid (p <= L /\ L = xs.length /\ ∀ x ∈ xs, x < 256) := ⟨h.le, hB.len, hB.low⟩
  obtain ⟨x0, x1, x2, x3, x4⟩ := h.ta.cs
  clear hV hr hsp h hB
  go_enter Tryz.func174, Tryz.ntmps174
  go_wp2_with fail
  refine Calls.mono HV.out ?_
  rintro e w1 ⟨rfl, hF1⟩
  have hT1 := HT.out _ hF1
  obtain ⟨w2, HW2⟩ : ∃ w2, Hid (w1.alloc (.cells #[.bool false, .slice ao L cap, .int .i64 (sp : Int), .int .i64 (c : Int)] 200) = w2) := ⟨_, rfl⟩
  have hF2 : Fr [] w1 w2 := by rw [<- HW2.out]; exact Fr.alloc _ _ _
  have hB2 : Bx w2 w1.heap.size false (.slice ao L cap) (sp : Int) (c : Int) := ⟨by rw [<- HW2.out]; exact heap_alloc_new w1 _⟩
  have hT2 := hT1.keep hF2 (by simp)
  have htl := hT1.lt
  obtain ⟨B, hBq⟩ : ∃ B, B = w1.heap.size := ⟨_, rfl⟩
  have htB : t ≠ B := by omega
  rw [<- hBq] at hB2
  obtain ⟨w3, HW3⟩ : ∃ w3, Hid ((((w2.setCell ⟨t, 0, none⟩ (.bool false)).setCell ⟨t, 1, none⟩ (.slice ao L cap)).setCell ⟨t, 2, none⟩ (.int .i64 (sp : Int))).setCell ⟨t, 3, none⟩ (.int .i64 (c : Int)) = w3) := ⟨_, rfl⟩
  have hF3 : Fr [t] w2 w3 := by rw [<- HW3.out]; exact Fr.sets4 _ _ _ _ _ _
  have hT3 : Ta w3 t (.slice ao L cap) (sp : Int) (c : Int) 0 := ⟨by
    rw [<- HW3.out, zaw _ (zaw _ (zaw _ (zaw _ hT2.box)))]
    rfl⟩
  have hB3 := hB2.keep hF3 (by simp; omega)
  obtain ⟨w4, HW4⟩ : ∃ w4, Hid (w3.setCell ⟨t, 4, none⟩ (.int .i64 (c : Int)) = w4) := ⟨_, rfl⟩
  have hT4 : Ta w4 t (.slice ao L cap) (sp : Int) (c : Int) (c : Int) := by rw [<- HW4.out]; exact hT3.code _
  have hF4 : Fr [t] w3 w4 := by rw [<- HW4.out]; exact Fr.set _ _ _ (by simp)
  have HF4 : Hid (Fr [t] w w4) := (((hF1.then hF2).mono (T := [t]) (by simp)).then hF3).then hF4
  have HT4 : Hid (Ta w4 t (.slice ao L cap) (sp : Int) (c : Int) (c : Int)) := hT4
  obtain ⟨y0, y1, y2, y3, y4⟩ := hT2.cs
  have z0 := hT2.f 0
  have z1 := hT2.f 1
  have z2 := hT2.f 2
  have z3 := hT2.f 3
  have q0 := hB2.c0
  have q1 := hB2.c1
  have q2 := hB2.c2
  have q3 := hB2.c3
  go_upto_region 4 with fail
  rw [HW2.out]
  rw [<- hBq]
  clear x0 x1 x2 x3 x4 HW2 hBq
  go_upto_region 5 with fail
  rw [HW3.out]
  clear y0 y1 y2 y3 y4 z0 z1 z2 z3 q0 q1 q2 q3 HW3
  have z4 := hT3.f 4
  have q3 := hB3.c3
  obtain ⟨y0, y1, y2, y3, y4⟩ := hT3.cs
  go_upto_region 6 with fail
  rw [HW4.out]
  clear y0 y1 y2 y3 y4 z4 q3 HW4
  obtain ⟨y0, y1, y2, y3, y4⟩ := hT4.cs
  have z4 := hT4.f 4
  clear hT1 hT2 hT3 hT4 hF1 hF2 hF3 hF4 hB2 hB3 htl htB HV HT
  by_cases hc : c = 0
  · subst hc
    have hk := zng m (xs.drop p) (by rw [HR.out])
    rw [HR.out, List.length_drop] at hk
    simp only at hk
    have hspe : sp = p + k := by rw [HSp.out]; simp [zah]
    have H1 : Hid (dT m (xs.drop p) = .ok (v, xs.drop sp)) := by
      show dT _ _ = _
      rw [hspe]
      unfold dT
      rw [zrc HR.out rfl, List.drop_drop]
    have HRes : Hid (Yl w4 t ao L cap sp) := ⟨HT4.out, by have := HL.out; omega⟩
    clear hk hspe
    go_wp2
    go_ret
    exact Or.inr ⟨v, sp, H1.out, rfl, HRes.out, HF4.out⟩
  · have H1 : Hid (dT m (xs.drop p) = .error c) := zjo HR.out hc
    have hci : ¬ (c : Int) = 0 := by omega
    go_wp2
    go_ret
    exact Or.inl ⟨c, _, H1.out, rfl, ⟨hc, _, _, _, HT4.out⟩, HF4.out⟩
def YfP (t : Nat) (ao : Option Addr) (L cap p : Nat) (xs : List Nat) (w : World) (e : Ending) (w' : World) : Prop :=
  (∃ c z, dF (xs.drop p) = .error c /\ e = .returned (.bool z) /\ Yd w' t c /\ Fr [t] w w') \/ (∃ d p', dF (xs.drop p) = .ok (d, xs.drop p') /\ (d = 0 \/ d = 1) /\ e = .returned (.bool (decide (d = 1))) /\ Yl w' t ao L cap p' /\ Fr [t] w w')
theorem zrq {w : World} {t : Nat} {ao : Option Addr} {L cap p : Nat} {xs : List Nat} (h : Yl w t ao L cap p) (hB : Yb w ao L cap xs) : Calls Tryz.prog 175 #[.pointer (some ⟨t, 0, none⟩)] w fun e w' => YfP t ao L cap p xs w e w' := by
  have hF0 : Hid (t < w.heap.size) := h.ta.lt
  obtain ⟨⟨v, k, c⟩, hr⟩ : ∃ r, r = fixF 1 (xs.drop p) := ⟨_, rfl⟩
  obtain ⟨sp, hsp⟩ : ∃ sp, sp = zah (k, c) p := ⟨_, rfl⟩
  have hV := zij ao L cap p xs 1 w hB.rs hB.low hB.len h.le
  rw [<- hr] at hV
  simp only at hV
  rw [<- hsp] at hV
  have HV : Hid (Calls _ _ _ _ _) := hV
  have HR : Hid (fixF 1 (xs.drop p) = (v, k, c)) := hr.symm
  have HSp : Hid (sp = zah (k, c) p) := hsp
  have HT : Hid (∀ W, Fr [] w W -> Ta W t (.slice ao L cap) (p : Int) 0 0) := fun W hf => h.ta.keep hf (by simp)
  have HL : Hid (p <= L /\ L = xs.length /\ ∀ x ∈ xs, x < 256) := ⟨h.le, hB.len, hB.low⟩
  obtain ⟨x0, x1, x2, x3, x4⟩ := h.ta.cs
  clear hV hr hsp h hB
  go_enter Tryz.func175, Tryz.ntmps175
  go_wp2_with fail
  refine Calls.mono HV.out ?_
  rintro e w1 ⟨rfl, hF1⟩
  have hT1 := HT.out _ hF1
  obtain ⟨w2, HW2⟩ : ∃ w2, Hid (w1.alloc (.cells #[.bool false, .slice ao L cap, .int .i64 (sp : Int), .int .i64 (c : Int)] 200) = w2) := ⟨_, rfl⟩
  have hF2 : Fr [] w1 w2 := by rw [<- HW2.out]; exact Fr.alloc _ _ _
  have hB2 : Bx w2 w1.heap.size false (.slice ao L cap) (sp : Int) (c : Int) := ⟨by rw [<- HW2.out]; exact heap_alloc_new w1 _⟩
  have hT2 := hT1.keep hF2 (by simp)
  have htl := hT1.lt
  obtain ⟨B, hBq⟩ : ∃ B, B = w1.heap.size := ⟨_, rfl⟩
  have htB : t ≠ B := by omega
  rw [<- hBq] at hB2
  obtain ⟨w3, HW3⟩ : ∃ w3, Hid ((((w2.setCell ⟨t, 0, none⟩ (.bool false)).setCell ⟨t, 1, none⟩ (.slice ao L cap)).setCell ⟨t, 2, none⟩ (.int .i64 (sp : Int))).setCell ⟨t, 3, none⟩ (.int .i64 (c : Int)) = w3) := ⟨_, rfl⟩
  have hF3 : Fr [t] w2 w3 := by rw [<- HW3.out]; exact Fr.sets4 _ _ _ _ _ _
  have hT3 : Ta w3 t (.slice ao L cap) (sp : Int) (c : Int) 0 := ⟨by
    rw [<- HW3.out, zaw _ (zaw _ (zaw _ (zaw _ hT2.box)))]
    rfl⟩
  have hB3 := hB2.keep hF3 (by simp; omega)
  obtain ⟨w4, HW4⟩ : ∃ w4, Hid (w3.setCell ⟨t, 4, none⟩ (.int .i64 (c : Int)) = w4) := ⟨_, rfl⟩
  have hT4 : Ta w4 t (.slice ao L cap) (sp : Int) (c : Int) (c : Int) := by rw [<- HW4.out]; exact hT3.code _
  have hF4 : Fr [t] w3 w4 := by rw [<- HW4.out]; exact Fr.set _ _ _ (by simp)
  have HF4 : Hid (Fr [t] w w4) := (((hF1.then hF2).mono (T := [t]) (by simp)).then hF3).then hF4
  have HT4 : Hid (Ta w4 t (.slice ao L cap) (sp : Int) (c : Int) (c : Int)) := hT4
  obtain ⟨y0, y1, y2, y3, y4⟩ := hT2.cs
  have z0 := hT2.f 0
  have z1 := hT2.f 1
  have z2 := hT2.f 2
  have z3 := hT2.f 3
  have q0 := hB2.c0
  have q1 := hB2.c1
  have q2 := hB2.c2
  have q3 := hB2.c3
  go_upto_region 4 with fail
  rw [HW2.out]
  rw [<- hBq]
  clear x0 x1 x2 x3 x4 HW2 hBq
  go_upto_region 5 with fail
  rw [HW3.out]
  clear y0 y1 y2 y3 y4 z0 z1 z2 z3 q0 q1 q2 q3 HW3
  have z4 := hT3.f 4
  have q3 := hB3.c3
  obtain ⟨y0, y1, y2, y3, y4⟩ := hT3.cs
  go_upto_region 6 with fail
  rw [HW4.out]
  clear y0 y1 y2 y3 y4 z4 q3 HW4
  obtain ⟨y0, y1, y2, y3, y4⟩ := hT4.cs
  have z4 := hT4.f 4
  clear hT1 hT2 hT3 hT4 hF1 hF2 hF3 hF4 hB2 hB3 htl htB HV HT
  by_cases hc : c = 0
  · subst hc
    have hk := zpx (xs.drop p) (by rw [HR.out])
    rw [HR.out, List.length_drop] at hk
    simp only at hk
    have hspe : sp = p + k := by rw [HSp.out]; simp [zah]
    by_cases hbig : 1 < v
    · have hbi : (1 : Int) < (v : Int) := by omega
      have H1 : Hid (dF (xs.drop p) = .error 4) := by
        show dF _ = _
        unfold dF tk
        rw [HR.out]
        have hv2 : ¬ (v = 0 \/ v = 1) := by omega
        simp [refD, hv2]
      clear hk hspe
      go_wp2
      go_ret
      exact Or.inl ⟨4, _, H1.out, rfl, ⟨by decide, _, _, _, HT4.out.code 4⟩, HF4.out.then (Fr.set _ _ _ (by simp))⟩
    · have hbi : ¬ (1 : Int) < (v : Int) := by omega
      have hv : v = 0 \/ v = 1 := by omega
      have H1 : Hid (dF (xs.drop p) = .ok (v, xs.drop sp)) := by
        show dF _ = _
        rw [hspe]
        unfold dF
        rw [zrc HR.out (by simp [refD]; omega), List.drop_drop]
      have HRes : Hid (Yl w4 t ao L cap sp) := ⟨HT4.out, by have := HL.out; omega⟩
      clear hk hspe
      rcases hv with rfl | rfl
      · go_wp2
        go_ret
        exact Or.inr ⟨0, sp, H1.out, Or.inl rfl, by simp, HRes.out, HF4.out⟩
      · go_wp2
        go_ret
        exact Or.inr ⟨1, sp, H1.out, Or.inr rfl, by simp, HRes.out, HF4.out⟩
  · have H1 : Hid (dF (xs.drop p) = .error c) := zjo HR.out hc
    have hci : ¬ (c : Int) = 0 := by omega
    go_wp2
    go_ret
    exact Or.inl ⟨c, _, H1.out, rfl, ⟨hc, _, _, _, HT4.out⟩, HF4.out⟩
def preL {α : Type} (a : List α) : Except Nat (List α × List Nat) -> Except Nat (List α × List Nat)
  | .error e => .error e
  | .ok (l, s) => .ok (a ++ l, s)
theorem zix {α : Type} (r : Except Nat (List α × List Nat)) : preL [] r = r := by
  cases r with
  | error e => rfl
  | ok p => rfl
theorem zhg {α : Type} {f : List Nat -> Except Nat (α × List Nat)} {k : Nat} {ys zs : List Nat} {x : α} (a : List α) (h : f ys = .ok (x, zs)) : preL a (dR f (k + 1) ys) = preL (a ++ [x]) (dR f k zs) := by
  show preL a (match f ys with | .error e => .error e | .ok (x, r) => match dR f k r with | .error e => .error e | .ok (l, s) => .ok (x :: l, s)) = _
  rw [h]
  simp only
  cases dR f k zs with
  | error e => rfl
  | ok p => simp [preL]
theorem zep {α : Type} {f : List Nat -> Except Nat (α × List Nat)} {k c : Nat} {ys : List Nat} (a : List α) (h : f ys = .error c) : preL a (dR f (k + 1) ys) = .error c := by
  show preL a (match f ys with | .error e => .error e | .ok (x, r) => match dR f k r with | .error e => .error e | .ok (l, s) => .ok (x :: l, s)) = _
  rw [h]
  rfl
theorem ziy {α : Type} {f : List Nat -> Except Nat (α × List Nat)} {ys : List Nat} (a : List α) : preL a (dR f 0 ys) = .ok (a, ys) := by
  show preL a (.ok ([], ys)) = _
  simp [preL]
def kK (m : Int) (bs : List Int) : Except Nat (List Kv × List Nat) -> Except Nat (Sd × List Nat)
  | .error e => .error e
  | .ok (ps, t) => .ok (⟨m, bs, ps⟩, t)
def kB (m : Int) : Except Nat (List Int × List Nat) -> Except Nat (Sd × List Nat)
  | .error e => .error e
  | .ok (bs, s) => kK m bs (dL dK s)
def kV (m : Int) (bs : List Int) (ps : List Kv) (key : ByteArray) (j : Nat) : Except Nat (List Vn × List Nat) -> Except Nat (Sd × List Nat)
  | .error e => .error e
  | .ok (vs, s) => kK m bs (preL (ps ++ [(key, vs)]) (dR dK j s))
theorem zaag {xs ys : List Nat} {m : Nat} (h : dN xs = .ok (m, ys)) : dS xs = kB (m : Int) (dL dI ys) := by
  unfold dS
  rw [zid h]
  simp only
  cases dL dI ys with
  | error e => rfl
  | ok p =>
    obtain ⟨bs, s⟩ := p
    simp only [kB]
    cases dL dK s with
    | error e => rfl
    | ok q => rfl
theorem zzg {m : Int} {bs : List Int} {ps : List Kv} {j : Nat} {ys zs us : List Nat} {key : ByteArray} {n : Nat} (h : dT 64 ys = .ok (key, zs)) (h2 : dN zs = .ok (n, us)) : kK m bs (preL ps (dR dK (j + 1) ys)) = kV m bs ps key j (dR dX n us) := by
  cases hv : dR dX n us with
  | error e =>
    rw [zep ps (dK_l h (by rw [zgp h2]; exact hv))]
    rfl
  | ok p =>
    obtain ⟨vs, s⟩ := p
    rw [zhg ps (zxm h (by rw [zgp h2]; exact hv))]
    rfl
def St (w : World) (t : Nat) (ao : Option Addr) (L cap : Nat) (lv : Nat -> Prop) (de : Nat -> Prop) : Prop := (∃ p, Yl w t ao L cap p /\ lv p) \/ (∃ c, Yd w t c /\ de c)
section
variable {w w' : World} {t : Nat} {ao : Option Addr} {L cap : Nat} {xs : List Nat} {lv : Nat -> Prop} {de : Nat -> Prop}
theorem St.keep {S : List Nat} (h : St w t ao L cap lv de) (hf : Fr S w w') (hn : t ∉ S) : St w' t ao L cap lv de := by
  rcases h with ⟨p, h1, h2⟩ | ⟨c, h1, h2⟩
  · exact Or.inl ⟨p, h1.keep hf hn, h2⟩
  · exact Or.inr ⟨c, h1.keep hf hn, h2⟩
theorem St.imp {lv2 : Nat -> Prop} {de2 : Nat -> Prop} (h : St w t ao L cap lv de) (h1 : ∀ p, p <= L -> lv p -> lv2 p) (h2 : ∀ c, de c -> de2 c) : St w t ao L cap lv2 de2 := by
  rcases h with ⟨p, h3, h4⟩ | ⟨c, h3, h4⟩
  · exact Or.inl ⟨p, h3, h1 p h3.le h4⟩
  · exact Or.inr ⟨c, h3, h2 c h4⟩
theorem St.lt (h : St w t ao L cap lv de) : t < w.heap.size := by
  rcases h with ⟨p, h3, h4⟩ | ⟨c, ⟨_, _, _, _, h3⟩, h4⟩
  · exact h3.ta.lt
  · exact h3.lt
theorem St.code (h : St w t ao L cap lv de) : ∃ c : Nat, w.cell? ⟨t, 4, none⟩ = some (.int .i64 (c : Int)) /\ ((c = 0 /\ ∃ p, Yl w t ao L cap p /\ lv p) \/ (c ≠ 0 /\ Yd w t c /\ de c)) := by
  rcases h with ⟨p, h3, h4⟩ | ⟨c, h3, h4⟩
  · exact ⟨0, h3.ta.cs.2.2.2.2, Or.inl ⟨rfl, p, h3, h4⟩⟩
  · obtain ⟨h0, s, p, c', h5⟩ := h3
    exact ⟨c, h5.cs.2.2.2.2, Or.inr ⟨h0, ⟨h0, s, p, c', h5⟩, h4⟩⟩
theorem zdc (h : St w t ao L cap lv de) (hB : Yb w ao L cap xs) : Calls Tryz.prog 173 #[.pointer (some ⟨t, 0, none⟩)] w fun e w' => ∃ z : Int, e = .returned (.int .i64 z) /\ Fr [t] w w' /\ St w' t ao L cap (fun p' => ∃ p n : Nat, lv p /\ dN (xs.drop p) = .ok (n, xs.drop p') /\ z = n /\ n <= 65536) (fun c => de c \/ ∃ p, lv p /\ dN (xs.drop p) = .error c) := by
  rcases h with ⟨p, h3, h4⟩ | ⟨c, h3, h4⟩
  · refine (zno h3 hB).mono ?_
    rintro e w' (⟨c, z, h5, rfl, h6, h7⟩ | ⟨n, p', h5, rfl, h6, h7, h8⟩)
    · exact ⟨z, rfl, h7, Or.inr ⟨c, h6, Or.inr ⟨p, h4, h5⟩⟩⟩
    · exact ⟨n, rfl, h8, Or.inl ⟨p', h7, p, n, h4, h5, rfl, h6⟩⟩
  · refine (zdy h3).mono ?_
    rintro e w' ⟨rfl, rfl⟩
    exact ⟨0, rfl, Fr.refl _ _, Or.inr ⟨c, h3, Or.inl h4⟩⟩
theorem zpz (m : Nat) (hm : m <= 65536) (h : St w t ao L cap lv de) (hB : Yb w ao L cap xs) : Calls Tryz.prog 174 #[.pointer (some ⟨t, 0, none⟩), .int .i64 (m : Int)] w fun e w' => ∃ s : ByteArray, e = .returned (.string s) /\ Fr [t] w w' /\ St w' t ao L cap (fun p' => ∃ p, lv p /\ dT m (xs.drop p) = .ok (s, xs.drop p')) (fun c => de c \/ ∃ p, lv p /\ dT m (xs.drop p) = .error c) := by
  rcases h with ⟨p, h3, h4⟩ | ⟨c, h3, h4⟩
  · refine (zrp m hm h3 hB).mono ?_
    rintro e w' (⟨c, z, h5, rfl, h6, h7⟩ | ⟨n, p', h5, rfl, h7, h8⟩)
    · exact ⟨z, rfl, h7, Or.inr ⟨c, h6, Or.inr ⟨p, h4, h5⟩⟩⟩
    · exact ⟨n, rfl, h8, Or.inl ⟨p', h7, p, h4, h5⟩⟩
  · refine (zpc (m : Int) h3).mono ?_
    rintro e w' ⟨rfl, rfl⟩
    exact ⟨_, rfl, Fr.refl _ _, Or.inr ⟨c, h3, Or.inl h4⟩⟩
theorem zyg (h : St w t ao L cap lv de) (hB : Yb w ao L cap xs) : Calls Tryz.prog 175 #[.pointer (some ⟨t, 0, none⟩)] w fun e w' => ∃ b : Bool, e = .returned (.bool b) /\ Fr [t] w w' /\ St w' t ao L cap (fun p' => ∃ p d, lv p /\ dF (xs.drop p) = .ok (d, xs.drop p') /\ (d = 0 \/ d = 1) /\ b = decide (d = 1)) (fun c => de c \/ ∃ p, lv p /\ dF (xs.drop p) = .error c) := by
  rcases h with ⟨p, h3, h4⟩ | ⟨c, h3, h4⟩
  · refine (zrq h3 hB).mono ?_
    rintro e w' (⟨c, z, h5, rfl, h6, h7⟩ | ⟨d, p', h5, h6, rfl, h7, h8⟩)
    · exact ⟨z, rfl, h7, Or.inr ⟨c, h6, Or.inr ⟨p, h4, h5⟩⟩⟩
    · exact ⟨_, rfl, h8, Or.inl ⟨p', h7, p, d, h4, h5, h6, rfl⟩⟩
  · refine (zpd h3).mono ?_
    rintro e w' ⟨rfl, rfl⟩
    exact ⟨_, rfl, Fr.refl _ _, Or.inr ⟨c, h3, Or.inl h4⟩⟩
end
def spV : Vn := ⟨7777, ⟨#[]⟩, false⟩
theorem Tryz.infoVnW : (Tryz.prog.info? 136).map (fun i => (i.zero, i.size, i.bytes)) = some (some (.agg #[.int .i64 0, .string ⟨#[]⟩, .bool false]), 3, 32) := by kernel_rfl
theorem Tryz.undVnsW : Tryz.prog.underlying 132 = some (.slice 136) := by kernel_rfl
theorem zua {w : World} {g n : Nat} {xs : List Value} (h : w.ownsRow 0 136 3 (.slice (some ⟨g, 0, none⟩) n n) n xs) : w.heap[g]? = some (.cells xs.toArray 136 (0, 0)) := by
  have hl := h.1
  rcases h.2 with ⟨hh, _⟩ | ⟨g', cap', cur, hh, _, hg, _, _, hcs, ht⟩
  · cases hh
  · cases hh
    rw [hg]
    congr 2
    rw [<- Array.toList_inj]
    simp only
    rw [<- ht, List.take_of_length_le (by simp [hcs])]
theorem zrr (ao : Option Addr) (L cap : Nat) (ws : List Vn) (w : World) (h : VRs w ao ws) (hLe : L = ws.length) (hL : L < 2^21) :
    Calls Tryz.prog 149 #[.slice ao L cap] w fun e w' => ∃ b, e = .returned (.slice (some ⟨b, 0, none⟩) L (L + 1)) /\ w.heap.size <= b /\ w'.heap[b]? = some (.cells (vnsC (ws ++ [spV])).toArray 136 (0, 0)) /\ Fr [] w w' := by
  obtain ⟨i0, hi, hz0, hz1, hz2⟩ := info_parts Tryz.infoVnW
  have HL : Hid (L = ws.length) := hLe
  clear hLe
  go_enter Tryz.func149, Tryz.ntmps149
  go_wp2_with (at_make; refine wpList_make_own _ rfl (.const (.int .i64 0)) (.tmp 7) 132 rfl 0 136 i0 _ 3 Tryz.undVnsW hi hz0 hz1 .i64 .i64 ((L : Int) + 1) (L + 1) rfl rfl ?bC ?b2 ?b3 ?b4 ?_)
  case bC => simp
  case b2 => rw [hz2]; omega
  case b3 => unfold maxLen; omega
  case b4 => exact Nat.zero_le _
  intro w1 hown hgrow
  obtain ⟨g, hg⟩ : ∃ g, g = w.heap.size := ⟨_, rfl⟩
  have hgw : w.heap.size <= g := by omega
  rw [<- hg] at hown ⊢
  have h01 : Fr [] w w1 := Fr.grown (S := []) hgrow (by simp)
  clear hgrow hg
  go_wp2_with fail
  go_loopw [3, 4] (fun vv ii wr => ∃ i : Nat, vv = .slice (some ⟨g, 0, none⟩) i (L + 1) /\ ii = .int .i64 i /\ i <= L /\ wr.ownsRow 0 136 3 (.slice (some ⟨g, 0, none⟩) i (L + 1)) i (vnsC (ws.take i)) /\ Fr [] w wr) (fun _ ii _ => L - (RowKit.intOf ii).toNat)
  case atStart => exact ⟨0, rfl, rfl, Nat.zero_le _, hown, h01⟩
  case round =>
    obtain ⟨i, rfl, rfl, hiL, hO, hF⟩ := hrel
    have hsz := (hO.lt g rfl).2
    by_cases hil : i < L
    · have hi' : i < ws.length := by rw [<- HL.out]; exact hil
      obtain ⟨b, off, e, _, hc⟩ := (h.keep hF).lies (by omega)
      subst e
      obtain ⟨d0, d1, d2⟩ := hc i hi'
      obtain ⟨x, hx⟩ : ∃ x, x = ws.getD i Vn.zero := ⟨_, rfl⟩
      rw [<- hx] at d0 d1 d2
      have HE : Hid (vnsC (ws.take (i + 1)) = vnsC (ws.take i) ++ [.int .i64 x.num, .string x.val, .bool x.drop]) := by
        show _ = _
        rw [zcf ws i hi', zcs, <- hx]; rfl
      clear hc hx
      obtain ⟨key, val, drop⟩ := x
      simp only at d0 d1 d2 HE
      go_wp2_with (at_builtin; refine wpList_append_fits _ rfl (.tmp 15) (.tmp 20) 132 rfl 0 136 i0 3 Tryz.undVnsW hi hz1 g i (L + 1) _ rfl (hO.alloc _) ⟨wr.heap.size, 0, none⟩ 1 1 [.int .i64 key, .string val, .bool drop] rfl rfl ?c1 ?c2 ?c3 ?_)
      case c1 => intro j u hj; match j, hj with | 0, hj => simp at hj; subst hj; simp [Addr.add] | 1, hj => simp at hj; subst hj; simp [Addr.add] | 2, hj => simp at hj; subst hj; simp [Addr.add]
      case c2 => intro u hu; simp at hu; rcases hu with rfl | rfl | rfl <;> rfl
      case c3 => omega
      intro w2 hO2 hg2
      rw [<- HE.out] at hO2
      have hF2 : Fr [] w w2 := (hF.then (Fr.alloc [] wr _)).on (Fr.grown (S := [g]) hg2 (by intro k hk _; cases hk; simp)) (by intro y hy; simp at hy; omega)
      clear hO hg2 hF d0 d1 d2
      go_wp2
      go_roundw
      case rel => exact ⟨i + 1, rfl, by simp, by omega, hO2, hF2⟩
      case measure => simp [RowKit.intOf]; omega
    · have hiL' : L <= i := by omega
      obtain rfl : i = L := by omega
      have HE : Hid (vnsC (ws ++ [spV]) = vnsC (ws.take i) ++ [.int .i64 7777, .string ⟨#[]⟩, .bool false]) := by
        show _ = _
        rw [List.take_of_length_le (by rw [<- HL.out]; omega), zcs]; rfl
      go_wp2_with (at_builtin; refine wpList_append_fits _ rfl (.tmp 22) (.tmp 24) 132 rfl 0 136 i0 3 Tryz.undVnsW hi hz1 g i (i + 1) _ rfl (hO.alloc _) ⟨wr.heap.size, 0, none⟩ 1 1 [.int .i64 7777, .string ⟨#[]⟩, .bool false] rfl rfl ?c1 ?c2 ?c3 ?_)
      case c1 => intro j u hj; match j, hj with | 0, hj => simp at hj; subst hj; simp [Addr.add] | 1, hj => simp at hj; subst hj; simp [Addr.add] | 2, hj => simp at hj; subst hj; simp [Addr.add]
      case c2 => intro u hu; simp at hu; rcases hu with rfl | rfl | rfl <;> rfl
      case c3 => omega
      intro w2 hO2 hg2
      rw [<- HE.out] at hO2
      have hF2 : Fr [] w w2 := (hF.then (Fr.alloc [] wr _)).on (Fr.grown (S := [g]) hg2 (by intro k hk _; cases hk; simp)) (by intro y hy; simp at hy; omega)
      have HRow : Hid (w2.heap[g]? = some (.cells (vnsC (ws ++ [spV])).toArray 136 (0, 0))) := zua hO2
      clear hO hg2 hF hO2
      go_wp2
      go_ret
      exact ⟨g, rfl, hgw, HRow.out, hF2⟩
theorem zrs (t : Nat) (ao : Option Addr) (L cap : Nat) (ws : List Vn) (w : World) (h : VRs w ao ws) (hLe : L = ws.length) (hL : L < 2^21) (hrow : w.heap[t]? = some (.cells (vnsC (ws ++ [spV])).toArray 136 (0, 0))) :
    Calls Tryz.prog 162 #[.slice (some ⟨t, 0, none⟩) L (L + 1), .slice ao L cap] w fun e w' => e = .returned (.bool true) /\ Fr [] w w' := by
  have HL : Hid (L = ws.length) := hLe
  clear hLe
  have hct : ∀ j, j < L -> VAt w t (j * 3) (ws.getD j Vn.zero) := by
    intro j hj
    have key : ∀ c, c < 3 -> w.cell? ⟨t, j * 3 + c, none⟩ = (vnC (ws.getD j Vn.zero))[c]? := by
      intro c hc
      rw [cell_of_row _ _ _ _ _ _ hrow]
      have := zgm (ws ++ [spV]) j c (by rw [List.length_append, <- HL.out]; simp; omega) hc
      have e : (ws ++ [spV]).getD j Vn.zero = ws.getD j Vn.zero := by simp [List.getD, List.getElem?_append_left (show j < ws.length by rw [<- HL.out]; exact hj)]
      rw [e] at this
      simpa using this
    exact ⟨key 0 (by omega), key 1 (by omega), key 2 (by omega)⟩
  have hsp : VAt w t (L * 3) spV := by
    have key : ∀ c, c < 3 -> w.cell? ⟨t, L * 3 + c, none⟩ = (vnC spV)[c]? := by
      intro c hc
      rw [cell_of_row _ _ _ _ _ _ hrow]
      have := zgm (ws ++ [spV]) L c (by rw [List.length_append, <- HL.out]; simp) hc
      have e : (ws ++ [spV]).getD L Vn.zero = spV := by simp [List.getD, HL.out]
      rw [e] at this
      simpa using this
    exact ⟨key 0 (by omega), key 1 (by omega), key 2 (by omega)⟩
  have hne : ((L : Int) != L) = false := by simp
  have hgd := Tryz.guardVn
  clear hrow
  go_enter Tryz.func162, Tryz.ntmps162
  go_wp2_with fail
  go_loopw [5] (fun ii wr => ∃ (i q : Nat), ii = .int .i64 i /\ i <= L /\ Hid (wr = w.drewN q)) (fun ii _ => L - (RowKit.intOf ii).toNat)
  case atStart => exact ⟨0, 0, rfl, Nat.zero_le _, rfl⟩
  case round =>
    obtain ⟨i, q, rfl, hiL, HQ⟩ := hrel
    have hce : ∀ a, wr.cell? a = w.cell? a := fun a => by rw [HQ.out]; rfl
    by_cases hi : i < L
    · have hi' : i < ws.length := by rw [<- HL.out]; exact hi
      obtain ⟨b, off, e, _, hc⟩ := h.lies (by omega)
      subst e
      obtain ⟨c0, c1, c2⟩ := hct i hi
      obtain ⟨d0, d1, d2⟩ := hc i hi'
      obtain ⟨x, hxx⟩ : ∃ x, x = ws.getD i Vn.zero := ⟨_, rfl⟩
      rw [<- hxx, <- hce] at c0 c1 c2 d0 d1 d2
      clear hxx hct hc hsp hce
      have hq : ∀ w', (Op.equalIn 10000 136 (.agg #[.int .i64 x.num, .string x.val, .bool x.drop]) (.agg #[.int .i64 x.num, .string x.val, .bool x.drop])).run Tryz.prog w' = .ok true w' := fun w' => by rw [zmk w' x x, (zdu x x).2 rfl]
      go_wp2_with fail
      go_quiet (fail)
      go_wp2
      go_roundw
      case rel => exact ⟨i + 1, q + nq, by simp, by omega, by show _ = _; rw [HQ.out]; simp⟩
      case measure => simp [RowKit.intOf]; omega
    · have hiL' : L <= i := by omega
      obtain ⟨c0, c1, c2⟩ := hsp
      rw [<- hce] at c0 c1 c2
      have hFq : Fr [] w wr := by rw [HQ.out]; exact Fr.drewN _ _ _
      clear hct hce
      have hq : ∀ w', (Op.equalIn 10000 136 (.agg #[.int .i64 7777, .string ⟨#[]⟩, .bool false]) (.agg #[.int .i64 7777, .string ⟨#[]⟩, .bool false])).run Tryz.prog w' = .ok true w' := fun w' => by
        have := zmk w' spV spV
        rw [(zdu spV spV).2 rfl] at this
        exact this
      simp only [spV] at c0 c1 c2
      go_wp2
      go_ret
      exact ⟨by simp, hFq.then (Fr.alloc [] _ _)⟩
end Go.Proofs.YtembflnhhfliaaaGreatDoor

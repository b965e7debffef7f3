/- Contracts and plain lemmas of this claim. -/
import Derived.Test.YtembflnhhfliaaaGreatDoorGp8
set_option linter.unusedSimpArgs false
set_option linter.unusedVariables false
set_option maxHeartbeats 4000000
set_option maxRecDepth 100000
namespace Go.Proofs.YtembflnhhfliaaaGreatDoor
open Go.ChangeShapes Go.WideShapes Go.ChangeAt Go.RowKit Go.Lib Go.Maps
theorem ziw {α : Type} (f : List Nat -> α × Nat × Nat) (ref : α -> Nat) (z : α) (xs : List Nat) (hs : (f xs).2.2 = 0 -> 0 < (f xs).2.1 /\ (f xs).2.1 <= xs.length) :
    (∃ c, c ≠ 0 /\ tk f ref xs = .error c /\ rdBy f z xs 0 = (z, xs, c)) \/
    (∃ v ys, tk f ref xs = .error (ref v) /\ ref v ≠ 0 /\ v = (f xs).1 /\ ys.length < xs.length /\ rdBy f z xs 0 = (v, ys, 0)) \/
    (∃ v ys, tk f ref xs = .ok (v, ys) /\ ref v = 0 /\ v = (f xs).1 /\ ys.length < xs.length /\ rdBy f z xs 0 = (v, ys, 0)) := by
  by_cases h : (f xs).2.2 = 0
  · have h1 := hs h
    have hl : (xs.drop (f xs).2.1).length < xs.length := by rw [List.length_drop]; omega
    have hr : rdBy f z xs 0 = ((f xs).1, xs.drop (f xs).2.1, 0) := by simp [rdBy, h]
    by_cases h2 : ref (f xs).1 = 0
    · exact Or.inr (Or.inr ⟨(f xs).1, xs.drop (f xs).2.1, by simp [tk, h, h2], h2, rfl, hl, hr⟩)
    · exact Or.inr (Or.inl ⟨(f xs).1, xs.drop (f xs).2.1, by simp [tk, h, h2], h2, rfl, hl, hr⟩)
  · exact Or.inl ⟨(f xs).2.2, h, by simp [tk, h], by simp [rdBy, h]⟩
theorem zlm (xs : List Nat) (h : (zaa 0 0 xs).2.2 = 0) : 0 < (zaa 0 0 xs).2.1 /\ (zaa 0 0 xs).2.1 <= xs.length := by
  have := zbs xs 0 0 h
  omega
theorem zng (m : Nat) (xs : List Nat) (h : (zao (m : Int) xs).2.2 = 0) : 0 < (zao (m : Int) xs).2.1 /\ (zao (m : Int) xs).2.1 <= xs.length := by
  refine ⟨?_, (zji _ xs h).2⟩
  unfold zao at h ⊢
  rw [if_neg (by omega)] at h ⊢
  split at h
  · rename_i h2; exact absurd h h2
  · rename_i h2
    rw [if_neg h2]
    split at h
    · simp at h
    · rename_i h3
      rw [if_neg h3]
      split at h
      · simp at h
      · rename_i h4
        rw [if_neg h4]
        have := zbs xs 0 0 (by simpa using h2)
        simp only
        omega
theorem zpx (xs : List Nat) (h : (fixF 1 xs).2.2 = 0) : 0 < (fixF 1 xs).2.1 /\ (fixF 1 xs).2.1 <= xs.length := by
  cases xs with
  | nil => rw [zne] at h; simp at h
  | cons x r => rw [zpw]; simp
def Dn (fn : Nat) (args : Array Value) (w : World) (v : Value) (g r : Nat) (ys : List Nat) (er : Nat) : Prop :=
  Calls Tryz.prog fn args w fun e w' => e = .returned v /\ ∃ ao' cap', Rd w' g r ys er ao' cap' /\ Fr [g] w w'
theorem Dn.calls {fn : Nat} {args : Array Value} {w : World} {v : Value} {g r : Nat} {ys : List Nat} {er : Nat} (h : Dn fn args w v g r ys er) :
    Calls Tryz.prog fn args w fun e w' => e = .returned v /\ ∃ ao' cap', Rd w' g r ys er ao' cap' /\ Fr [g] w w' := h
theorem zfg (er n : Nat) (h : er ≠ 0) : zbb er n = er := by simp [zbb, h]
structure TB (w : World) (t g c : Nat) : Prop where
  box : w.heap[t]? = some (.cells #[.pointer (some ⟨g, 0, none⟩), .int .i64 (c : Int)] 226 (0, 0))
theorem TB.lt {w : World} {t g c : Nat} (h : TB w t g c) : t < w.heap.size := lt_of_block h.box
theorem TB.c0 {w : World} {t g c : Nat} (h : TB w t g c) : w.cell? ⟨t, 0, none⟩ = some (.pointer (some ⟨g, 0, none⟩)) := by simp [World.cell?, h.box]
theorem TB.c1 {w : World} {t g c : Nat} (h : TB w t g c) : w.cell? ⟨t, 1, none⟩ = some (.int .i64 (c : Int)) := by simp [World.cell?, h.box]
theorem TB.f1 {w : World} {t g c : Nat} (h : TB w t g c) : w.frozen? ⟨t, 1, none⟩ = false := by simp [World.frozen?, h.box]
theorem TB.keep {S : List Nat} {w w' : World} {t g c : Nat} (h : TB w t g c) (hf : Fr S w w') (hn : t ∉ S) : TB w' t g c := ⟨hf.keep h.box hn⟩
theorem TB.set {w : World} {t g c : Nat} (h : TB w t g c) (d : Nat) : TB (w.setCell ⟨t, 1, none⟩ (.int .i64 (d : Int))) t g d := ⟨zel h.box⟩
structure Tl (w : World) (t g r : Nat) (ys : List Nat) : Prop where
  tb : TB w t g 0
  rd : ∃ ao cap, Rd w g r ys 0 ao cap
theorem Tl.tg {w : World} {t g r : Nat} {ys : List Nat} (h : Tl w t g r ys) : t ≠ g := by
  rintro rfl
  obtain ⟨ao, cap, hr⟩ := h.rd
  have := h.tb.box
  rw [hr.box] at this
  simp at this
theorem Tl.keep {S : List Nat} {w w' : World} {t g r : Nat} {ys : List Nat} (h : Tl w t g r ys) (hf : Fr S w w') (ht : t ∉ S) (hg : g ∉ S) (hr : r ∉ S) : Tl w' t g r ys := by
  obtain ⟨ao, cap, hR⟩ := h.rd
  exact ⟨h.tb.keep hf ht, ao, cap, hR.keep hf hg hr⟩
theorem Tl.keep0 {w w' : World} {t g r : Nat} {ys : List Nat} (h : Tl w t g r ys) (hf : Fr [] w w') : Tl w' t g r ys := h.keep hf (by simp) (by simp) (by simp)
structure Td (w : World) (t g c : Nat) : Prop where
  tb : TB w t g c
  bad : c ≠ 0
theorem Td.keep0 {w w' : World} {t g c : Nat} (h : Td w t g c) (hf : Fr [] w w') : Td w' t g c := ⟨h.tb.keep hf (by simp), h.bad⟩
theorem zjr (fv : Value) (t g c : Nat) (w : World) (h : Td w t g c) : Calls Tryz.prog 188 #[.pointer (some ⟨t, 0, none⟩), fv] w fun e w' => e = .returned (.int .u64 0) /\ w = w' := by
  have c1 := h.tb.c1
  have hcb : ((c : Int) != 0) = true := by rw [bne_iff_ne]; have := h.bad; omega
  go_enter Tryz.func188, Tryz.ntmps188
  go_wp2
  go_ret
  exact ⟨rfl, rfl⟩
theorem zrd (fv : Value) (t g c : Nat) (w : World) (h : Td w t g c) : Calls Tryz.prog 205 #[.pointer (some ⟨t, 0, none⟩), fv] w fun e w' => e = .returned (.string ⟨#[]⟩) /\ w = w' := by
  have c1 := h.tb.c1
  have hcb : ((c : Int) != 0) = true := by rw [bne_iff_ne]; have := h.bad; omega
  go_enter Tryz.func205, Tryz.ntmps205
  go_wp2
  go_ret
  exact ⟨rfl, rfl⟩
-- LIVE
theorem zou (p : Value) (t g r c : Nat) (xs : List Nat) (w : World) (h : Tl w t g r xs) (hc : c ≠ 0) (hD : Dn 189 #[p] w (.int .u64 0) g r xs c) :
    Calls Tryz.prog 188 #[.pointer (some ⟨t, 0, none⟩), .func (Fn.func 189) #[p] #[]] w fun e w' => e = .returned (.int .u64 0) /\ Td w' t g c /\ Fr [t, g] w w' := by
  have HE : Hid (zbb c xs.length = c) := zfg _ _ hc
  have htg := h.tg
  have c0 := h.tb.c0
  have c1 := h.tb.c1
  have HT : Hid (TB w t g 0) := h.tb
  have HC : Hid (c ≠ 0) := hc
  obtain ⟨ao, cap, hR⟩ := h.rd
  obtain ⟨L, hL⟩ : ∃ L, L = xs.length := ⟨_, rfl⟩
  have HL : Hid (L = xs.length) := hL
  have hl1 := zbx g r xs 0 ao cap w hR
  rw [<- hL] at hl1
  clear hL hc h hR
  go_enter Tryz.func188, Tryz.ntmps188
  go_wp2_with fail
  refine hl1.mono ?_
  rintro e w1 ⟨rfl, rfl⟩
  go_wp2_with fail
  refine hD.calls.mono ?_
  rintro e w1 ⟨rfl, ao1, cap1, hR1, hF1⟩
  have hl2 := zbx g r xs c ao1 cap1 w1 hR1
  have hl3 := zhw g r xs c ao1 cap1 w1 hR1
  rw [<- HL.out] at hl2
  rw [HE.out] at hl3
  have hT1 : TB w1 t g 0 := HT.out.keep hF1 (by simpa using htg)
  have HF : Hid (Fr [t, g] w w1) := hF1.mono (by simp)
  have d0 := hT1.c0
  have d1 := hT1.c1
  have df := hT1.f1
  have HT1 : Hid (TB w1 t g 0) := hT1
  clear hF1 hD hR1 hT1 c0 c1
  go_wp2_with fail
  refine hl2.mono ?_
  rintro e w2 ⟨rfl, rfl⟩
  go_wp2_with fail
  refine hl3.mono ?_
  rintro e w2 ⟨rfl, rfl⟩
  go_wp2
  go_ret
  exact ⟨rfl, ⟨HT1.out.set c, HC.out⟩, HF.out.then (Fr.set _ _ _ (by simp))⟩
theorem zjs (p : Value) (t g r : Nat) (v : Nat) (xs ys : List Nat) (w : World) (h : Tl w t g r xs) (hlt : ys.length < xs.length) (hD : Dn 189 #[p] w (.int .u64 (v : Int)) g r ys 0) :
    Calls Tryz.prog 188 #[.pointer (some ⟨t, 0, none⟩), .func (Fn.func 189) #[p] #[]] w fun e w' => e = .returned (.int .u64 (v : Int)) /\ Tl w' t g r ys /\ Fr [t, g] w w' := by
  have htg := h.tg
  have c0 := h.tb.c0
  have c1 := h.tb.c1
  have HT : Hid (TB w t g 0) := h.tb
  obtain ⟨ao, cap, hR⟩ := h.rd
  obtain ⟨L, hL⟩ : ∃ L, L = xs.length := ⟨_, rfl⟩
  obtain ⟨M, hM⟩ : ∃ M, M = ys.length := ⟨_, rfl⟩
  have hlb : ((M : Int) == L) = false := by rw [beq_eq_false_iff_ne]; omega
  have HM : Hid (M = ys.length) := hM
  have hl1 := zbx g r xs 0 ao cap w hR
  rw [<- hL] at hl1
  clear hL hM hlt h hR
  go_enter Tryz.func188, Tryz.ntmps188
  go_wp2_with fail
  refine hl1.mono ?_
  rintro e w1 ⟨rfl, rfl⟩
  go_wp2_with fail
  refine hD.calls.mono ?_
  rintro e w1 ⟨rfl, ao1, cap1, hR1, hF1⟩
  have hl2 := zbx g r ys 0 ao1 cap1 w1 hR1
  rw [<- HM.out] at hl2
  have hT1 : TB w1 t g 0 := HT.out.keep hF1 (by simpa using htg)
  have HF : Hid (Fr [t, g] w w1) := hF1.mono (by simp)
  have d0 := hT1.c0
  have d1 := hT1.c1
  have HT1 : Hid (Tl w1 t g r ys) := ⟨hT1, ao1, cap1, hR1⟩
  clear hF1 hD hR1 hT1 c0 c1
  go_wp2_with fail
  refine hl2.mono ?_
  rintro e w2 ⟨rfl, rfl⟩
  go_wp2
  go_ret
  exact ⟨rfl, HT1.out, HF.out⟩
theorem zov (p : Value) (t g r c : Nat) (xs : List Nat) (w : World) (h : Tl w t g r xs) (hc : c ≠ 0) (hD : Dn 208 #[p] w (.int .u64 0) g r xs c) :
    Calls Tryz.prog 188 #[.pointer (some ⟨t, 0, none⟩), .func (Fn.func 208) #[] #[p]] w fun e w' => e = .returned (.int .u64 0) /\ Td w' t g c /\ Fr [t, g] w w' := by
  have HE : Hid (zbb c xs.length = c) := zfg _ _ hc
  have htg := h.tg
  have c0 := h.tb.c0
  have c1 := h.tb.c1
  have HT : Hid (TB w t g 0) := h.tb
  have HC : Hid (c ≠ 0) := hc
  obtain ⟨ao, cap, hR⟩ := h.rd
  obtain ⟨L, hL⟩ : ∃ L, L = xs.length := ⟨_, rfl⟩
  have HL : Hid (L = xs.length) := hL
  have hl1 := zbx g r xs 0 ao cap w hR
  rw [<- hL] at hl1
  clear hL hc h hR
  go_enter Tryz.func188, Tryz.ntmps188
  go_wp2_with fail
  refine hl1.mono ?_
  rintro e w1 ⟨rfl, rfl⟩
  go_wp2_with fail
  refine hD.calls.mono ?_
  rintro e w1 ⟨rfl, ao1, cap1, hR1, hF1⟩
  have hl2 := zbx g r xs c ao1 cap1 w1 hR1
  have hl3 := zhw g r xs c ao1 cap1 w1 hR1
  rw [<- HL.out] at hl2
  rw [HE.out] at hl3
  have hT1 : TB w1 t g 0 := HT.out.keep hF1 (by simpa using htg)
  have HF : Hid (Fr [t, g] w w1) := hF1.mono (by simp)
  have d0 := hT1.c0
  have d1 := hT1.c1
  have df := hT1.f1
  have HT1 : Hid (TB w1 t g 0) := hT1
  clear hF1 hD hR1 hT1 c0 c1
  go_wp2_with fail
  refine hl2.mono ?_
  rintro e w2 ⟨rfl, rfl⟩
  go_wp2_with fail
  refine hl3.mono ?_
  rintro e w2 ⟨rfl, rfl⟩
  go_wp2
  go_ret
  exact ⟨rfl, ⟨HT1.out.set c, HC.out⟩, HF.out.then (Fr.set _ _ _ (by simp))⟩
theorem zjt (p : Value) (t g r : Nat) (v : Nat) (xs ys : List Nat) (w : World) (h : Tl w t g r xs) (hlt : ys.length < xs.length) (hD : Dn 208 #[p] w (.int .u64 (v : Int)) g r ys 0) :
    Calls Tryz.prog 188 #[.pointer (some ⟨t, 0, none⟩), .func (Fn.func 208) #[] #[p]] w fun e w' => e = .returned (.int .u64 (v : Int)) /\ Tl w' t g r ys /\ Fr [t, g] w w' := by
  have htg := h.tg
  have c0 := h.tb.c0
  have c1 := h.tb.c1
  have HT : Hid (TB w t g 0) := h.tb
  obtain ⟨ao, cap, hR⟩ := h.rd
  obtain ⟨L, hL⟩ : ∃ L, L = xs.length := ⟨_, rfl⟩
  obtain ⟨M, hM⟩ : ∃ M, M = ys.length := ⟨_, rfl⟩
  have hlb : ((M : Int) == L) = false := by rw [beq_eq_false_iff_ne]; omega
  have HM : Hid (M = ys.length) := hM
  have hl1 := zbx g r xs 0 ao cap w hR
  rw [<- hL] at hl1
  clear hL hM hlt h hR
  go_enter Tryz.func188, Tryz.ntmps188
  go_wp2_with fail
  refine hl1.mono ?_
  rintro e w1 ⟨rfl, rfl⟩
  go_wp2_with fail
  refine hD.calls.mono ?_
  rintro e w1 ⟨rfl, ao1, cap1, hR1, hF1⟩
  have hl2 := zbx g r ys 0 ao1 cap1 w1 hR1
  rw [<- HM.out] at hl2
  have hT1 : TB w1 t g 0 := HT.out.keep hF1 (by simpa using htg)
  have HF : Hid (Fr [t, g] w w1) := hF1.mono (by simp)
  have d0 := hT1.c0
  have d1 := hT1.c1
  have HT1 : Hid (Tl w1 t g r ys) := ⟨hT1, ao1, cap1, hR1⟩
  clear hF1 hD hR1 hT1 c0 c1
  go_wp2_with fail
  refine hl2.mono ?_
  rintro e w2 ⟨rfl, rfl⟩
  go_wp2
  go_ret
  exact ⟨rfl, HT1.out, HF.out⟩
theorem zow (p q : Value) (t g r c : Nat) (xs : List Nat) (w : World) (h : Tl w t g r xs) (hc : c ≠ 0) (hD : Dn 206 #[p, q] w (.string ⟨#[]⟩) g r xs c) :
    Calls Tryz.prog 205 #[.pointer (some ⟨t, 0, none⟩), .func (Fn.func 206) #[] #[p, q]] w fun e w' => e = .returned (.string ⟨#[]⟩) /\ Td w' t g c /\ Fr [t, g] w w' := by
  have HE : Hid (zbb c xs.length = c) := zfg _ _ hc
  have htg := h.tg
  have c0 := h.tb.c0
  have c1 := h.tb.c1
  have HT : Hid (TB w t g 0) := h.tb
  have HC : Hid (c ≠ 0) := hc
  obtain ⟨ao, cap, hR⟩ := h.rd
  obtain ⟨L, hL⟩ : ∃ L, L = xs.length := ⟨_, rfl⟩
  have HL : Hid (L = xs.length) := hL
  have hl1 := zbx g r xs 0 ao cap w hR
  rw [<- hL] at hl1
  clear hL hc h hR
  go_enter Tryz.func205, Tryz.ntmps205
  go_wp2_with fail
  refine hl1.mono ?_
  rintro e w1 ⟨rfl, rfl⟩
  go_wp2_with fail
  refine hD.calls.mono ?_
  rintro e w1 ⟨rfl, ao1, cap1, hR1, hF1⟩
  have hl2 := zbx g r xs c ao1 cap1 w1 hR1
  have hl3 := zhw g r xs c ao1 cap1 w1 hR1
  rw [<- HL.out] at hl2
  rw [HE.out] at hl3
  have hT1 : TB w1 t g 0 := HT.out.keep hF1 (by simpa using htg)
  have HF : Hid (Fr [t, g] w w1) := hF1.mono (by simp)
  have d0 := hT1.c0
  have d1 := hT1.c1
  have df := hT1.f1
  have HT1 : Hid (TB w1 t g 0) := hT1
  clear hF1 hD hR1 hT1 c0 c1
  go_wp2_with fail
  refine hl2.mono ?_
  rintro e w2 ⟨rfl, rfl⟩
  go_wp2_with fail
  refine hl3.mono ?_
  rintro e w2 ⟨rfl, rfl⟩
  go_wp2
  go_ret
  exact ⟨rfl, ⟨HT1.out.set c, HC.out⟩, HF.out.then (Fr.set _ _ _ (by simp))⟩
theorem zre (p q : Value) (t g r : Nat) (v : ByteArray) (xs ys : List Nat) (w : World) (h : Tl w t g r xs) (hlt : ys.length < xs.length) (hD : Dn 206 #[p, q] w (.string v) g r ys 0) :
    Calls Tryz.prog 205 #[.pointer (some ⟨t, 0, none⟩), .func (Fn.func 206) #[] #[p, q]] w fun e w' => e = .returned (.string v) /\ Tl w' t g r ys /\ Fr [t, g] w w' := by
  have htg := h.tg
  have c0 := h.tb.c0
  have c1 := h.tb.c1
  have HT : Hid (TB w t g 0) := h.tb
  obtain ⟨ao, cap, hR⟩ := h.rd
  obtain ⟨L, hL⟩ : ∃ L, L = xs.length := ⟨_, rfl⟩
  obtain ⟨M, hM⟩ : ∃ M, M = ys.length := ⟨_, rfl⟩
  have hlb : ((M : Int) == L) = false := by rw [beq_eq_false_iff_ne]; omega
  have HM : Hid (M = ys.length) := hM
  have hl1 := zbx g r xs 0 ao cap w hR
  rw [<- hL] at hl1
  clear hL hM hlt h hR
  go_enter Tryz.func205, Tryz.ntmps205
  go_wp2_with fail
  refine hl1.mono ?_
  rintro e w1 ⟨rfl, rfl⟩
  go_wp2_with fail
  refine hD.calls.mono ?_
  rintro e w1 ⟨rfl, ao1, cap1, hR1, hF1⟩
  have hl2 := zbx g r ys 0 ao1 cap1 w1 hR1
  rw [<- HM.out] at hl2
  have hT1 : TB w1 t g 0 := HT.out.keep hF1 (by simpa using htg)
  have HF : Hid (Fr [t, g] w w1) := hF1.mono (by simp)
  have d0 := hT1.c0
  have d1 := hT1.c1
  have HT1 : Hid (Tl w1 t g r ys) := ⟨hT1, ao1, cap1, hR1⟩
  clear hF1 hD hR1 hT1 c0 c1
  go_wp2_with fail
  refine hl2.mono ?_
  rintro e w2 ⟨rfl, rfl⟩
  go_wp2
  go_ret
  exact ⟨rfl, HT1.out, HF.out⟩
theorem Rd.low {w : World} {g r : Nat} {xs : List Nat} {er : Nat} {ao : Option Addr} {cap : Nat} (h : Rd w g r xs er ao cap) : ∀ x ∈ xs, x < 256 := h.sl.low
theorem zfh (t g c : Nat) (w : World) (h : Td w t g c) : Calls Tryz.prog 166 #[.pointer (some ⟨t, 0, none⟩)] w fun e w' => e = .returned (.int .i64 0) /\ w = w' := by
  have c0 := h.tb.c0
  have HD : Hid (Calls _ _ _ _ _) := zjr (.func (Fn.func 189) #[.pointer (some ⟨g, 0, none⟩)] #[]) t g c w h
  clear h
  go_enter Tryz.func166, Tryz.ntmps166
  go_wp2_with fail
  refine Calls.mono HD.out ?_
  rintro e w1 ⟨rfl, rfl⟩
  go_wp2
  go_ret
  exact ⟨rfl, rfl⟩
theorem zcm (t g r : Nat) (xs : List Nat) (w : World) (h : Tl w t g r xs) : Calls Tryz.prog 166 #[.pointer (some ⟨t, 0, none⟩)] w fun e w' =>
    (∃ c, dN xs = .error c /\ e = .returned (.int .i64 0) /\ Td w' t g c /\ Fr [t, g] w w') \/ (∃ n ys, dN xs = .ok (n, ys) /\ e = .returned (.int .i64 (n : Int)) /\ Tl w' t g r ys /\ Fr [t, g] w w') := by
  have c0 := h.tb.c0
  obtain ⟨ao, cap, hR⟩ := h.rd
  have hV := zvn g r xs 0 ao cap w hR
  have hlow := hR.low
  clear hR
  rcases ziw (zaa 0 0) refL 0 xs (zlm xs) with ⟨c, hc, h1, hr⟩ | ⟨v, ys, h1, hv, -, hlt, hr⟩ | ⟨v, ys, h1, hv, -, hlt, hr⟩
  · rw [hr] at hV
    have HD : Hid (Calls _ _ _ _ _) := zou (.pointer (some ⟨g, 0, none⟩)) t g r c xs w h hc hV
    have H1 : Hid (dN xs = .error c) := h1
    clear hV hlow h hr h1 hc
    go_enter Tryz.func166, Tryz.ntmps166
    go_wp2_with fail
    refine Calls.mono HD.out ?_
    rintro e w1 ⟨rfl, hT, hF⟩
    go_wp2
    go_ret
    exact Or.inl ⟨c, H1.out, rfl, hT, hF⟩
  · rw [hr] at hV
    have hbig : 65536 < v := by
      unfold refL at hv
      split at hv
      · assumption
      · exact absurd rfl hv
    have hbi : (65536 : Int) < (v : Int) := by omega
    have HD : Hid (Calls _ _ _ _ _) := zjs (.pointer (some ⟨g, 0, none⟩)) t g r v xs ys w h hlt hV
    have H1 : Hid (dN xs = .error 3) := by
      show dN xs = _
      unfold dN
      rw [h1]
      simp [refL, hbig]
    clear hV hlow h hr h1 hv hlt hbig
    go_enter Tryz.func166, Tryz.ntmps166
    go_wp2_with fail
    refine Calls.mono HD.out ?_
    rintro e w1 ⟨rfl, hT, hF⟩
    have df := hT.tb.f1
    have d1 := hT.tb.c1
    have HTB : Hid (TB w1 t g 0) := hT.tb
    have HF : Hid (Fr [t, g] w w1) := hF
    clear hT hF HD
    go_wp2
    go_ret
    exact Or.inl ⟨3, H1.out, rfl, ⟨HTB.out.set 3, by decide⟩, HF.out.then (Fr.set _ _ _ (by simp))⟩
  · rw [hr] at hV
    have hsm : v <= 65536 := by
      unfold refL at hv
      split at hv
      · exact absurd hv (by decide)
      · omega
    have hsi : (v : Int) <= 65536 := by omega
    have HD : Hid (Calls _ _ _ _ _) := zjs (.pointer (some ⟨g, 0, none⟩)) t g r v xs ys w h hlt hV
    have H1 : Hid (dN xs = .ok (v, ys)) := h1
    clear hV hlow h hr h1 hv hlt
    go_enter Tryz.func166, Tryz.ntmps166
    go_wp2_with fail
    refine Calls.mono HD.out ?_
    rintro e w1 ⟨rfl, hT, hF⟩
    have HR : Hid (Tl w1 t g r ys /\ Fr [t, g] w w1) := ⟨hT, hF⟩
    clear hT hF HD
    go_wp2
    go_ret
    exact Or.inr ⟨v, ys, H1.out, rfl, HR.out⟩
theorem zto (t g r b1 b2 m : Nat) (xs : List Nat) (w : World) (h : Tl w t g r xs) (hb1 : w.cell? ⟨b1, 0, none⟩ = some (.pointer (some ⟨t, 0, none⟩))) (hb2 : w.cell? ⟨b2, 0, none⟩ = some (.int .i64 (m : Int))) (h1g : b1 ≠ g) (h2g : b2 ≠ g) (hl1 : b1 < w.heap.size) (hl2 : b2 < w.heap.size) (hm : m <= 4096) :
    Dn 206 #[.pointer (some ⟨b1, 0, none⟩), .pointer (some ⟨b2, 0, none⟩)] w (.string (rdBy (zao (m : Int)) ⟨#[]⟩ xs 0).1) g r (rdBy (zao (m : Int)) ⟨#[]⟩ xs 0).2.1 (rdBy (zao (m : Int)) ⟨#[]⟩ xs 0).2.2 := by
  show Calls _ _ _ _ _
  have c0 := h.tb.c0
  have htg := h.tg
  have htl := h.tb.lt
  have HC : Hid (∀ W, Fr [] w W -> Calls Tryz.prog 207 #[.pointer (some ⟨g, 0, none⟩), .int .i64 (m : Int)] W fun e w' => e = .returned (.string (rdBy (zao (m : Int)) ⟨#[]⟩ xs 0).1) /\ (w'.cell? ⟨b1, 0, none⟩ = some (.pointer (some ⟨t, 0, none⟩)) /\ w'.cell? ⟨b2, 0, none⟩ = some (.int .i64 (m : Int)) /\ w'.cell? ⟨t, 0, none⟩ = some (.pointer (some ⟨g, 0, none⟩))) /\ Hid ((∃ ao' cap', Rd w' g r (rdBy (zao (m : Int)) ⟨#[]⟩ xs 0).2.1 (rdBy (zao (m : Int)) ⟨#[]⟩ xs 0).2.2 ao' cap') /\ Fr [g] w w')) := by
    intro W hW
    obtain ⟨ao, cap, hR⟩ := (h.keep0 hW).rd
    refine (ztc g r xs 0 ao cap m W hR (by omega) (by omega)).mono ?_
    rintro e w' ⟨rfl, ao', cap', hR', hF'⟩
    have hFF : Fr [g] w w' := (hW.mono (by simp)).then hF'
    exact ⟨rfl, ⟨zbq hFF hb1 hl1 (by simpa using h1g), zbq hFF hb2 hl2 (by simpa using h2g), zbq hFF c0 htl (by simpa using htg)⟩, ⟨ao', cap', hR'⟩, hFF⟩
  obtain ⟨R, hR⟩ : ∃ R, R = rdBy (zao (m : Int)) ⟨#[]⟩ xs 0 := ⟨_, rfl⟩
  rw [<- hR] at HC ⊢
  clear hR h
  go_enter Tryz.func206, Tryz.ntmps206
  go_wp2_with fail
  go_region_held3 (fun W => W.cell? ⟨b1, 0, none⟩ = some (.pointer (some ⟨t, 0, none⟩)) /\ W.cell? ⟨b2, 0, none⟩ = some (.int .i64 (m : Int)) /\ W.cell? ⟨t, 0, none⟩ = some (.pointer (some ⟨g, 0, none⟩))) (go_keep)
    (first | (go_at_call 207; with_reducible refine (HC.out _ (Fr.drew _ _)).mono ?_; rintro e w5 ⟨rfl, ⟨g0, g1, g2⟩, HR5⟩))
  go_wp2
  go_ret
  obtain ⟨⟨ao', cap', h1⟩, h2⟩ := HR5.out
  exact ⟨rfl, ao', cap', h1, h2⟩
theorem ztp (t g r b1 : Nat) (xs : List Nat) (w : World) (h : Tl w t g r xs) (hb1 : w.cell? ⟨b1, 0, none⟩ = some (.pointer (some ⟨t, 0, none⟩))) :
    Dn 208 #[.pointer (some ⟨b1, 0, none⟩)] w (.int .u64 ((rdBy (fixF 1) 0 xs 0).1 : Nat)) g r (rdBy (fixF 1) 0 xs 0).2.1 (rdBy (fixF 1) 0 xs 0).2.2 := by
  show Calls _ _ _ _ _
  have c0 := h.tb.c0
  obtain ⟨ao, cap, hR⟩ := h.rd
  have HC : Hid (Calls _ _ _ _ _) := zqs g r xs 0 ao cap 1 w hR
  obtain ⟨R, hRR⟩ : ∃ R, R = rdBy (fixF 1) 0 xs 0 := ⟨_, rfl⟩
  rw [<- hRR] at HC ⊢
  clear hRR h hR
  go_enter Tryz.func208, Tryz.ntmps208
  go_wp2_with fail
  refine Calls.mono HC.out ?_
  rintro e w1 ⟨rfl, h1⟩
  go_wp2
  go_ret
  exact ⟨rfl, h1⟩
theorem zju (t g c m : Nat) (w : World) (h : Td w t g c) (hm : m <= 4096) : Calls Tryz.prog 190 #[.pointer (some ⟨t, 0, none⟩), .int .i64 (m : Int)] w fun e w' => e = .returned (.string ⟨#[]⟩) /\ Fr [] w w' := by
  have HD : Hid (∀ W fv, Fr [] w W -> Calls Tryz.prog 205 #[.pointer (some ⟨t, 0, none⟩), fv] W fun e w' => e = .returned (.string ⟨#[]⟩) /\ Fr [] w w') := fun W fv hf => (zrd fv t g c W (h.keep0 hf)).mono (by rintro e w' ⟨rfl, rfl⟩; exact ⟨rfl, hf⟩)
  clear h
  go_enter Tryz.func190, Tryz.ntmps190
  go_wp2_with fail
  refine (HD.out _ _ ((Fr.alloc [] _ _).then (Fr.alloc [] _ _))).mono ?_
  rintro e w1 ⟨rfl, hF⟩
  go_wp2
  go_ret
  exact ⟨rfl, hF⟩
theorem zln (t g r m : Nat) (xs : List Nat) (w : World) (h : Tl w t g r xs) (hm : m <= 4096) : Calls Tryz.prog 190 #[.pointer (some ⟨t, 0, none⟩), .int .i64 (m : Int)] w fun e w' =>
    (∃ c, dT m xs = .error c /\ e = .returned (.string ⟨#[]⟩) /\ Td w' t g c /\ Fr [t, g] w w') \/ (∃ s ys, dT m xs = .ok (s, ys) /\ e = .returned (.string s) /\ Tl w' t g r ys /\ Fr [t, g] w w') := by
  have htl := h.tb.lt
  have hgl : g < w.heap.size := by obtain ⟨ao, cap, hR⟩ := h.rd; exact hR.lt
  obtain ⟨w2, HW2⟩ : ∃ w2, Hid ((w.alloc (.cells #[.pointer (some ⟨t, 0, none⟩)] 222)).alloc (.cells #[.int .i64 (m : Int)] 3) = w2) := ⟨_, rfl⟩
  have hF2 : Fr [] w w2 := by rw [<- HW2.out]; exact (Fr.alloc [] _ _).then (Fr.alloc [] _ _)
  have e1 : (w.alloc (.cells #[.pointer (some ⟨t, 0, none⟩)] 222)).heap.size = w.heap.size + 1 := by simp
  have hb1 : w2.cell? ⟨w.heap.size, 0, none⟩ = some (.pointer (some ⟨t, 0, none⟩)) := by
    rw [<- HW2.out]
    exact zbq (Fr.alloc [] _ _) (cell_of_row _ _ _ _ _ _ (heap_alloc_new w _)) (by simp) (by simp)
  have hb2 : w2.cell? ⟨w.heap.size + 1, 0, none⟩ = some (.int .i64 (m : Int)) := by
    rw [<- HW2.out, <- e1]
    exact cell_of_row _ _ _ _ _ _ (heap_alloc_new _ _)
  have hs2 : w2.heap.size = w.heap.size + 2 := by rw [<- HW2.out]; simp
  have hT2 := h.keep0 hF2
  have hD := zto t g r w.heap.size (w.heap.size + 1) m xs w2 hT2 hb1 hb2 (by omega) (by omega) (by omega) (by omega) hm
  have HF2 : Hid (Fr [t, g] w w2) := hF2.mono (by simp)
  rcases ziw (zao (m : Int)) refV ⟨#[]⟩ xs (zng m xs) with ⟨c, hc, h1, hr⟩ | ⟨v, ys, h1, hv, -, hlt, hr⟩ | ⟨v, ys, h1, hv, -, hlt, hr⟩
  · rw [hr] at hD
    have HD : Hid (Calls _ _ _ _ _) := zow _ _ t g r c xs w2 hT2 hc hD
    have H1 : Hid (dT m xs = .error c) := h1
    clear h hT2 hD hr h1 hc hb1 hb2 hs2 e1 hF2 htl hgl
    go_enter Tryz.func190, Tryz.ntmps190
    go_wp2_with fail
    rw [HW2.out]
    refine Calls.mono HD.out ?_
    rintro e w3 ⟨rfl, hT, hF⟩
    go_wp2
    go_ret
    exact Or.inl ⟨c, H1.out, rfl, hT, HF2.out.then hF⟩
  · exact absurd rfl hv
  · rw [hr] at hD
    have HD : Hid (Calls _ _ _ _ _) := zre _ _ t g r v xs ys w2 hT2 hlt hD
    have H1 : Hid (dT m xs = .ok (v, ys)) := h1
    clear h hT2 hD hr h1 hb1 hb2 hs2 e1 hF2 htl hgl hv hlt
    go_enter Tryz.func190, Tryz.ntmps190
    go_wp2_with fail
    rw [HW2.out]
    refine Calls.mono HD.out ?_
    rintro e w3 ⟨rfl, hT, hF⟩
    go_wp2
    go_ret
    exact Or.inr ⟨v, ys, H1.out, rfl, hT, HF2.out.then hF⟩
theorem ztq (t g c : Nat) (w : World) (h : Td w t g c) : Calls Tryz.prog 192 #[.pointer (some ⟨t, 0, none⟩)] w fun e w' => e = .returned (.bool false) /\ Fr [] w w' := by
  have HD : Hid (∀ W fv, Fr [] w W -> Calls Tryz.prog 188 #[.pointer (some ⟨t, 0, none⟩), fv] W fun e w' => e = .returned (.int .u64 0) /\ Fr [] w w') := fun W fv hf => (zjr fv t g c W (h.keep0 hf)).mono (by rintro e w' ⟨rfl, rfl⟩; exact ⟨rfl, hf⟩)
  clear h
  go_enter Tryz.func192, Tryz.ntmps192
  go_wp2_with fail
  refine (HD.out _ _ (Fr.alloc [] _ _)).mono ?_
  rintro e w1 ⟨rfl, hF⟩
  go_wp2
  go_ret
  exact ⟨rfl, hF⟩
theorem zwb (t g r : Nat) (xs : List Nat) (w : World) (h : Tl w t g r xs) : Calls Tryz.prog 192 #[.pointer (some ⟨t, 0, none⟩)] w fun e w' =>
    (∃ c, dF xs = .error c /\ e = .returned (.bool false) /\ Td w' t g c /\ Fr [t, g] w w') \/ (∃ d ys, dF xs = .ok (d, ys) /\ e = .returned (.bool (decide (d = 1))) /\ Tl w' t g r ys /\ Fr [t, g] w w') := by
  have htl := h.tb.lt
  have hgl : g < w.heap.size := by obtain ⟨ao, cap, hR⟩ := h.rd; exact hR.lt
  obtain ⟨w2, HW2⟩ : ∃ w2, Hid (w.alloc (.cells #[.pointer (some ⟨t, 0, none⟩)] 222) = w2) := ⟨_, rfl⟩
  have hF2 : Fr [] w w2 := by rw [<- HW2.out]; exact Fr.alloc [] _ _
  have hb1 : w2.cell? ⟨w.heap.size, 0, none⟩ = some (.pointer (some ⟨t, 0, none⟩)) := by
    rw [<- HW2.out]
    exact cell_of_row _ _ _ _ _ _ (heap_alloc_new w _)
  have hs2 : w.heap.size < w2.heap.size := by rw [<- HW2.out]; simp
  have hT2 := h.keep0 hF2
  have hD := ztp t g r w.heap.size xs w2 hT2 hb1
  have HF2 : Hid (Fr [t, g] w w2) := hF2.mono (by simp)
  have HB : Hid (∀ W, Fr [t, g] w2 W -> W.cell? ⟨w.heap.size, 0, none⟩ = some (.pointer (some ⟨t, 0, none⟩))) := fun W hf => zbq hf hb1 hs2 (by simp; omega)
  rcases ziw (fixF 1) refD 0 xs (zpx xs) with ⟨c, hc, h1, hr⟩ | ⟨v, ys, h1, hv, -, hlt, hr⟩ | ⟨v, ys, h1, hv, -, hlt, hr⟩
  · rw [hr] at hD
    have HD : Hid (Calls _ _ _ _ _) := zov _ t g r c xs w2 hT2 hc hD
    have H1 : Hid (dF xs = .error c) := h1
    clear h hT2 hD hr h1 hc hb1 hs2 hF2 htl hgl
    go_enter Tryz.func192, Tryz.ntmps192
    go_wp2_with fail
    rw [HW2.out]
    refine Calls.mono HD.out ?_
    rintro e w3 ⟨rfl, hT, hF⟩
    have HR : Hid (Td w3 t g c /\ Fr [t, g] w w3) := ⟨hT, HF2.out.then hF⟩
    clear hT hF HD
    go_wp2
    go_ret
    exact Or.inl ⟨c, H1.out, rfl, HR.out⟩
  · rw [hr] at hD
    have HD : Hid (Calls _ _ _ _ _) := zjt _ t g r v xs ys w2 hT2 hlt hD
    have hv2 : ¬ (v = 0 \/ v = 1) := by
      intro hh
      unfold refD at hv
      rw [if_pos hh] at hv
      exact hv rfl
    have H1 : Hid (dF xs = .error 4) := by
      show dF xs = _
      unfold dF
      rw [h1]
      simp only [refD, if_neg hv2]
    have q0 : ((v : Int) != 0) = true := by rw [bne_iff_ne]; omega
    have q1 : ((v : Int) != 1) = true := by rw [bne_iff_ne]; omega
    have q2 : ((v : Int) == 1) = false := by rw [beq_eq_false_iff_ne]; omega
    clear h hT2 hD hr h1 hb1 hs2 hF2 htl hgl hv hlt hv2
    go_enter Tryz.func192, Tryz.ntmps192
    go_wp2_with fail
    rw [HW2.out]
    refine Calls.mono HD.out ?_
    rintro e w3 ⟨rfl, hT, hF⟩
    have cb := HB.out _ hF
    have d1 := hT.tb.c1
    have df := hT.tb.f1
    have HTB : Hid (TB w3 t g 0) := hT.tb
    have HR : Hid (Fr [t, g] w w3) := HF2.out.then hF
    clear hT hF HD
    go_wp2
    go_ret
    exact Or.inl ⟨4, H1.out, rfl, ⟨HTB.out.set 4, by decide⟩, HR.out.then (Fr.set _ _ _ (by simp))⟩
  · rw [hr] at hD
    have HD : Hid (Calls _ _ _ _ _) := zjt _ t g r v xs ys w2 hT2 hlt hD
    have H1 : Hid (dF xs = .ok (v, ys)) := h1
    have hv2 : v = 0 \/ v = 1 := by
      unfold refD at hv
      split at hv
      · assumption
      · exact absurd hv (by decide)
    clear h hT2 hD hr h1 hb1 hs2 hF2 htl hgl hv hlt
    rcases hv2 with rfl | rfl
    · go_enter Tryz.func192, Tryz.ntmps192
      go_wp2_with fail
      rw [HW2.out]
      refine Calls.mono HD.out ?_
      rintro e w3 ⟨rfl, hT, hF⟩
      have HR : Hid (Tl w3 t g r ys /\ Fr [t, g] w w3) := ⟨hT, HF2.out.then hF⟩
      clear hT hF HD
      go_wp2
      go_ret
      exact Or.inr ⟨0, ys, H1.out, rfl, HR.out⟩
    · go_enter Tryz.func192, Tryz.ntmps192
      go_wp2_with fail
      rw [HW2.out]
      refine Calls.mono HD.out ?_
      rintro e w3 ⟨rfl, hT, hF⟩
      have HR : Hid (Tl w3 t g r ys /\ Fr [t, g] w w3) := ⟨hT, HF2.out.then hF⟩
      clear hT hF HD
      go_wp2
      go_ret
      exact Or.inr ⟨1, ys, H1.out, rfl, HR.out⟩
end Go.Proofs.YtembflnhhfliaaaGreatDoor

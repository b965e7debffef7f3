/- Texts of this claim laid together, one behind the other: contracts and plain lemmas; conditions as each names them. -/
import Derived.Test.YtaaghcimfcjehaaGreatDoorGp14
/- What a store to a part of a story makes of it: a row, a number, a lane's number, the gate, the table, the maps. Conditions as each names them. -/
namespace Go.Proofs.YtaaghcimfcjehaaGreatDoor
open Go.ChangeShapes Go.WideShapes Go.ChangeAt Go.RowKit Go.Lib Go.Maps
set_option linter.unusedVariables false
set_option linter.unusedSimpArgs false

/-- Another row in the place of one. -/
def Zs.put (Z : Zs) (i : Nat) (q : Sq) : Zs := { Z with q := upd Z.q i q }
def Sy.put (s : Sy) (i : Nat) (ys : List Int) : Sy := { s with R := upd s.R i ys }
/-- It lies where the old one did, or is new. -/
def Nwr (w : World) (o n : Sq) : Prop := qb n.lo = qb o.lo ∨ ∃ k, qb n.lo = some k ∧ w.heap.size ≤ k
/-- The same, beside an older world: it lies where the old one did, or in a block that is none of the story's, made since. -/
def Nwb (wb : World) (Z : Zs) (o n : Sq) : Prop := qb n.lo = qb o.lo ∨ ∀ k, qb n.lo = some k → k ∉ Z.own ∧ wb.heap.size ≤ k
section
variable {w w' wb : World} {Z : Zs} {c : Cf} {s : Sy} {k : Nat}
theorem Nwr.b {o n : Sq} (hm : Nwr w o n) (h : SyM w Z c s k) : Nwb w Z o n := by
  rcases hm with hm | ⟨x, h1, h2⟩
  · exact Or.inl hm
  · exact Or.inr fun y hy => by
      rw [h1] at hy
      cases hy
      exact ⟨fun h3 => by have := h.lt _ h3; omega, h2⟩
theorem Apa.six_ne (h : Apa Z) : Z.sb ≠ Z.g ∧ Z.sb ≠ Z.lb ∧ Z.sb ≠ Z.qq ∧ Z.sb ≠ Z.ob ∧ Z.sb ≠ Z.cb ∧ Z.g ≠ Z.lb ∧ Z.g ≠ Z.qq ∧ Z.g ≠ Z.ob ∧ Z.g ≠ Z.cb ∧ Z.lb ≠ Z.qq ∧ Z.lb ≠ Z.ob ∧ Z.lb ≠ Z.cb ∧ Z.qq ≠ Z.ob ∧ Z.qq ≠ Z.cb ∧ Z.ob ≠ Z.cb := by
  have h1 := h.nd
  simp only [Zs.six, List.nodup_cons, List.mem_cons, List.not_mem_nil, or_false, not_or, List.nodup_nil, and_true, not_false_eq_true] at h1
  obtain ⟨⟨a1, a2, a3, a4, a5⟩, ⟨b1, b2, b3, b4⟩, ⟨c1, c2, c3⟩, ⟨d1, d2⟩, e1⟩ := h1
  exact ⟨a1, a2, a3, a4, a5, b1, b2, b3, b4, c1, c2, c3, d1, d2, e1⟩
theorem Apa.put (h : SyM w Z c s k) {i : Nat} (hi : i < 34) {q : Sq} (hm : Nwb wb Z (Z.q i) q) : Apa (Z.put i q) := by
  have ha := h.apa
  refine ⟨ha.nd, ha.nB, fun j b hb => ?_, fun a b x hab hx hy => ?_, fun j hj => ?_⟩
  · by_cases e : j = i
    · subst e
      rw [show (Z.put j q).q j = q from upd_same _ _ _] at hb
      rcases hm with hm | hm
      · exact ha.nR j b (by rw [← hm]; exact hb)
      · have ho := (hm b hb).1
        exact ⟨fun h1 => ho (Zs.mem_own.2 (Or.inl h1)), fun h1 => ho (Zs.mem_own.2 (Or.inr (Or.inl h1)))⟩
    · rw [show (Z.put i q).q j = Z.q j from upd_other _ _ e] at hb
      exact ha.nR j b hb
  · have hnew : ∀ j, j ≠ i → ∀ y, qb q.lo = some y → qb (Z.q j).lo ≠ some y := by
      intro j hj y hy e
      rcases hm with hm | hm
      · rw [hm] at hy
        exact ha.rr j i y hj e hy
      · have ho := (hm y hy).1
        by_cases hj34 : j < 34
        · exact ho (Zs.mem_own.2 (Or.inr (Or.inr (Zs.mem_rows hj34 e))))
        · rw [ha.far j (by omega)] at e; cases e
    by_cases ea : a = i
    · subst ea
      rw [show (Z.put a q).q a = q from upd_same _ _ _] at hx
      rw [show (Z.put a q).q b = Z.q b from upd_other _ _ (Ne.symm hab)] at hy
      exact hnew b (Ne.symm hab) x hx hy
    · rw [show (Z.put i q).q a = Z.q a from upd_other _ _ ea] at hx
      by_cases eb : b = i
      · subst eb
        rw [show (Z.put b q).q b = q from upd_same _ _ _] at hy
        exact hnew a ea x hy hx
      · rw [show (Z.put i q).q b = Z.q b from upd_other _ _ eb] at hy
        exact ha.rr a b x hab hx hy
  · rw [show (Z.put i q).q j = Z.q j from upd_other _ _ (by omega)]
    exact ha.far j hj
theorem Zs.put_own {i : Nat} {q : Sq} (hi : i < 34) (hm : Nwb wb Z (Z.q i) q) : ∀ x ∈ (Z.put i q).own, x ∈ Z.own ∨ wb.heap.size ≤ x := by
  intro x hx
  rcases Zs.mem_own.1 hx with h1 | h1 | h1
  · exact Or.inl (Zs.mem_own.2 (Or.inl h1))
  · exact Or.inl (Zs.mem_own.2 (Or.inr (Or.inl h1)))
  · obtain ⟨j, hj, h2⟩ := Zs.rows_mem h1
    by_cases e : j = i
    · subst e
      rw [show (Z.put j q).q j = q from upd_same _ _ _] at h2
      rcases hm with hm | hm
      · exact Or.inl (Zs.mem_own.2 (Or.inr (Or.inr (Zs.mem_rows hj (by rw [← hm]; exact h2)))))
      · exact Or.inr (hm x h2).2
    · rw [show (Z.put i q).q j = Z.q j from upd_other _ _ e] at h2
      exact Or.inl (Zs.mem_own.2 (Or.inr (Or.inr (Zs.mem_rows hj h2))))
/-- Only the block b of the story's six and the row i's may differ. -/
theorem SyM.part (h : SyM w Z c s k) {i b : Nat} (hi : i < 34) (hb : b = Z.sb ∨ b = Z.lb ∨ b = Z.qq) {q : Sq} {ys : List Int} (hF : Fr (b :: (qb (Z.q i).lo).toList) w w') (hq : QR w' q.lo q.n q.c ys) (hm : Nwb wb Z (Z.q i) q) :
    (∀ j, QR w' ((Z.put i q).q j).lo ((Z.put i q).q j).n ((Z.put i q).q j).c ((s.put i ys).R j)) ∧ GG w' Z.g s.ma s.bx ∧ Tl w' Z.tb Z.B (65 * k) s.L s.en ∧ (∃ F, MapG kOut w' Z.ob k F ∧ ∀ n, s.F n = (F n).getD 0) ∧ (∃ G, MapG kCal w' Z.cb k G ∧ ∀ n, s.G n = (G n).getD 0) ∧ Fr Z.own w w' ∧ (∀ x ∈ (Z.put i q).own, x ∈ Z.own ∨ wb.heap.size ≤ x) := by
  have ha := h.apa
  obtain ⟨n1, n2, n3, n4, n5, n6, n7, n8, n9, n10, n11, n12, n13, n14, n15⟩ := ha.six_ne
  have hrow : ∀ x, x ∈ (qb (Z.q i).lo).toList → x ∉ Z.six ∧ x ∉ Z.B := fun x hx => ha.nR i x (Option.mem_toList.1 hx)
  have hbB : b ∉ Z.B := by
    rcases hb with rfl | rfl | rfl <;> exact ha.nB _ (by simp [Zs.six])
  have hout : ∀ y, y ∈ Z.six → y ≠ b → y ∉ b :: (qb (Z.q i).lo).toList := by
    intro y hy hne hh
    rcases List.mem_cons.1 hh with e | e
    · exact hne e
    · exact (hrow y e).1 hy
  obtain ⟨F, f1, f2⟩ := h.outs
  obtain ⟨G, g1, g2⟩ := h.call
  refine ⟨fun j => ?_, h.gate.keep hF (hout _ (by simp [Zs.six]) ?_), h.deps.keep hF (fun x hx hh => ?_), ⟨F, f1.keep hF (hout _ (by simp [Zs.six]) ?_), f2⟩, ⟨G, g1.keep hF (hout _ (by simp [Zs.six]) ?_), g2⟩, hF.mono (fun x hx _ => ?_), Zs.put_own hi hm⟩
  · by_cases e : j = i
    · subst e
      rw [show (Z.put j q).q j = q from upd_same _ _ _, show (s.put j ys).R j = ys from upd_same _ _ _]
      exact hq
    · rw [show (Z.put i q).q j = Z.q j from upd_other _ _ e, show (s.put i ys).R j = s.R j from upd_other _ _ e]
      refine (h.rows j).keep hF (fun x hx hh => ?_)
      rcases List.mem_cons.1 hh with e2 | e2
      · rcases hb with hb | hb | hb <;> exact (ha.nR j x hx).1 (by simp [Zs.six, e2, hb])
      · exact ha.rr j i x e hx (Option.mem_toList.1 e2)
  · rcases hb with rfl | rfl | rfl
    · exact Ne.symm n1
    · exact n6
    · exact n7
  · rcases List.mem_cons.1 hh with e | e
    · exact hbB (e ▸ hx)
    · exact (hrow x e).2 hx
  · rcases hb with rfl | rfl | rfl
    · exact Ne.symm n4
    · exact Ne.symm n11
    · exact Ne.symm n13
  · rcases hb with rfl | rfl | rfl
    · exact Ne.symm n5
    · exact Ne.symm n12
    · exact Ne.symm n14
  · rcases List.mem_cons.1 hx with e | e
    · refine Zs.mem_own.2 (Or.inl ?_)
      rw [e]
      rcases hb with rfl | rfl | rfl <;> simp [Zs.six]
    · exact Zs.mem_own.2 (Or.inr (Or.inr (Zs.mem_rows hi (Option.mem_toList.1 e))))
/-- The line. -/
theorem SyM.row0 (h : SyM w Z c s k) {w1 : World} (q : Sq) (ys : List Int) (hF : Fr (qb (Z.q 0).lo).toList w w1) (hq : QR w1 q.lo q.n q.c ys) (hm : Nwr w (Z.q 0) q) :
    SyM (w1.setCell ⟨Z.sb, 9, none⟩ q.v) (Z.put 0 q) c (s.put 0 ys) k ∧ Mv w Z (w1.setCell ⟨Z.sb, 9, none⟩ q.v) (Z.put 0 q) := by
  have ha := h.apa
  obtain ⟨n1, n2, n3, n4, n5, n6, n7, n8, n9, n10, n11, n12, n13, n14, n15⟩ := ha.six_ne
  have hsl : Z.sb < w.heap.size := lt_of_block h.box
  have hnr : ∀ x, x ∈ Z.six → x ∉ (qb (Z.q 0).lo).toList := fun x hx hh => (ha.nR 0 x (Option.mem_toList.1 hh)).1 hx
  have hnq : ∀ x, x ∈ Z.six → qb q.lo ≠ some x := by
    intro x hx e
    rcases hm with hm | ⟨k', hm, hk⟩
    · exact (ha.nR 0 x (by rw [← hm]; exact e)).1 hx
    · rw [hm] at e; cases e
      have := h.lt _ (Zs.mem_own.2 (Or.inl hx)); omega
  have hF2 : Fr (Z.sb :: (qb (Z.q 0).lo).toList) w (w1.setCell ⟨Z.sb, 9, none⟩ q.v) := (hF.mono (fun x hx _ => by simp [hx])).then (Fr.set _ _ _ (by simp))
  have hq2 : QR (w1.setCell ⟨Z.sb, 9, none⟩ q.v) q.lo q.n q.c ys := hq.keep (Fr.set (S := [Z.sb]) w1 _ _ (by simp)) (fun b hb hh => hnq Z.sb (by simp [Zs.six]) (by simp at hh; rw [hb, hh]))
  obtain ⟨r1, r2, r3, r4, r5, r6, r7⟩ := h.part (by omega) (Or.inl rfl) hF2 hq2 (hm.b h)
  obtain ⟨cl, l1, l2, l3⟩ := h.lanes
  obtain ⟨cq, q1, q2, q3⟩ := h.ques
  refine ⟨⟨?_, ⟨cl, hF2.keep l1 ?_, l2, fun i hi => ?_⟩, ⟨cq, hF2.keep q1 ?_, q2, fun j hj => ?_⟩, r1, r2, r3, r4, r5, Apa.put h (by omega) (hm.b h), h.may⟩, ⟨r6, r7, rfl, rfl, rfl, rfl⟩⟩
  · show (w1.setCell _ q.v).heap[Z.sb]? = _
    rw [qrow_setCell _ (hF.keep h.box (hnr _ (by simp [Zs.six])))]
    simp [syC, Zs.put, Sy.put, upd]
  · simp only [List.mem_cons, not_or]
    exact ⟨Ne.symm n2, hnr Z.lb (by simp [Zs.six])⟩
  · rw [show (Z.put 0 q).q (2 + i) = Z.q (2 + i) from upd_other _ _ (by omega)]
    exact l3 i hi
  · simp only [List.mem_cons, not_or]
    exact ⟨Ne.symm n3, hnr Z.qq (by simp [Zs.six])⟩
  · rw [show (Z.put 0 q).q (18 + j) = Z.q (18 + j) from upd_other _ _ (by omega)]
    exact q3 j hj
/-- Those passed. -/
theorem SyM.row1 (h : SyM w Z c s k) {w1 : World} (q : Sq) (ys : List Int) (hF : Fr (qb (Z.q 1).lo).toList w w1) (hq : QR w1 q.lo q.n q.c ys) (hm : Nwr w (Z.q 1) q) :
    SyM (w1.setCell ⟨Z.sb, 10, none⟩ q.v) (Z.put 1 q) c (s.put 1 ys) k ∧ Mv w Z (w1.setCell ⟨Z.sb, 10, none⟩ q.v) (Z.put 1 q) := by
  have ha := h.apa
  obtain ⟨n1, n2, n3, n4, n5, n6, n7, n8, n9, n10, n11, n12, n13, n14, n15⟩ := ha.six_ne
  have hnr : ∀ x, x ∈ Z.six → x ∉ (qb (Z.q 1).lo).toList := fun x hx hh => (ha.nR 1 x (Option.mem_toList.1 hh)).1 hx
  have hnq : ∀ x, x ∈ Z.six → qb q.lo ≠ some x := by
    intro x hx e
    rcases hm with hm | ⟨k', hm, hk⟩
    · exact (ha.nR 1 x (by rw [← hm]; exact e)).1 hx
    · rw [hm] at e; cases e
      have := h.lt _ (Zs.mem_own.2 (Or.inl hx)); omega
  have hF2 : Fr (Z.sb :: (qb (Z.q 1).lo).toList) w (w1.setCell ⟨Z.sb, 10, none⟩ q.v) := (hF.mono (fun x hx _ => by simp [hx])).then (Fr.set _ _ _ (by simp))
  have hq2 : QR (w1.setCell ⟨Z.sb, 10, none⟩ q.v) q.lo q.n q.c ys := hq.keep (Fr.set (S := [Z.sb]) w1 _ _ (by simp)) (fun b hb hh => hnq Z.sb (by simp [Zs.six]) (by simp at hh; rw [hb, hh]))
  obtain ⟨r1, r2, r3, r4, r5, r6, r7⟩ := h.part (by omega) (Or.inl rfl) hF2 hq2 (hm.b h)
  obtain ⟨cl, l1, l2, l3⟩ := h.lanes
  obtain ⟨cq, q1, q2, q3⟩ := h.ques
  refine ⟨⟨?_, ⟨cl, hF2.keep l1 ?_, l2, fun i hi => ?_⟩, ⟨cq, hF2.keep q1 ?_, q2, fun j hj => ?_⟩, r1, r2, r3, r4, r5, Apa.put h (by omega) (hm.b h), h.may⟩, ⟨r6, r7, rfl, rfl, rfl, rfl⟩⟩
  · show (w1.setCell _ q.v).heap[Z.sb]? = _
    rw [qrow_setCell _ (hF.keep h.box (hnr _ (by simp [Zs.six])))]
    simp [syC, Zs.put, Sy.put, upd]
  · simp only [List.mem_cons, not_or]
    exact ⟨Ne.symm n2, hnr Z.lb (by simp [Zs.six])⟩
  · rw [show (Z.put 1 q).q (2 + i) = Z.q (2 + i) from upd_other _ _ (by omega)]
    exact l3 i hi
  · simp only [List.mem_cons, not_or]
    exact ⟨Ne.symm n3, hnr Z.qq (by simp [Zs.six])⟩
  · rw [show (Z.put 1 q).q (18 + j) = Z.q (18 + j) from upd_other _ _ (by omega)]
    exact q3 j hj
/-- What a lane has left. -/
theorem SyM.rowL (h : SyM w Z c s k) {i : Nat} (hi : i < c.l.toNat) {w1 : World} (q : Sq) (ys : List Int) (hF : Fr (qb (Z.q (2 + i)).lo).toList w w1) (hq : QR w1 q.lo q.n q.c ys) (hm : Nwb wb Z (Z.q (2 + i)) q) :
    SyM (w1.setCell ⟨Z.lb, 2 * i + 1, none⟩ q.v) (Z.put (2 + i) q) c (s.put (2 + i) ys) k ∧ Fr Z.own w (w1.setCell ⟨Z.lb, 2 * i + 1, none⟩ q.v) ∧ (∀ x ∈ (Z.put (2 + i) q).own, x ∈ Z.own ∨ wb.heap.size ≤ x) := by
  have ha := h.apa
  have hc := h.may.1
  have hi16 : i < 16 := by omega
  obtain ⟨n1, n2, n3, n4, n5, n6, n7, n8, n9, n10, n11, n12, n13, n14, n15⟩ := ha.six_ne
  have hnr : ∀ x, x ∈ Z.six → x ∉ (qb (Z.q (2 + i)).lo).toList := fun x hx hh => (ha.nR (2 + i) x (Option.mem_toList.1 hh)).1 hx
  have hnq : ∀ x, x ∈ Z.six → qb q.lo ≠ some x := by
    intro x hx e
    rcases hm with hm | hm
    · exact (ha.nR (2 + i) x (by rw [← hm]; exact e)).1 hx
    · exact (hm x e).1 (Zs.mem_own.2 (Or.inl hx))
  have hF2 : Fr (Z.lb :: (qb (Z.q (2 + i)).lo).toList) w (w1.setCell ⟨Z.lb, 2 * i + 1, none⟩ q.v) := (hF.mono (fun x hx _ => by simp [hx])).then (Fr.set _ _ _ (by simp))
  have hq2 : QR (w1.setCell ⟨Z.lb, 2 * i + 1, none⟩ q.v) q.lo q.n q.c ys := hq.keep (Fr.set (S := [Z.lb]) w1 _ _ (by simp)) (fun b hb hh => hnq Z.lb (by simp [Zs.six]) (by simp at hh; rw [hb, hh]))
  obtain ⟨r1, r2, r3, r4, r5, r6, r7⟩ := h.part (by omega) (Or.inr (Or.inl rfl)) hF2 hq2 hm
  obtain ⟨cl, l1, l2, l3⟩ := h.lanes
  obtain ⟨cq, q1, q2, q3⟩ := h.ques
  refine ⟨⟨?_, ⟨_, qrow_setCell _ (hF.keep l1 (hnr _ (by simp [Zs.six]))), by simpa using l2, fun j hj => ?_⟩, ⟨cq, hF2.keep q1 ?_, q2, fun j hj => ?_⟩, r1, r2, r3, r4, r5, Apa.put h (by omega) hm, h.may⟩, r6, r7⟩
  · show (w1.setCell _ q.v).heap[Z.sb]? = _
    rw [hF2.keep h.box (by simp only [List.mem_cons, not_or]; exact ⟨n2, hnr Z.sb (by simp [Zs.six])⟩)]
    congr 3
    simp only [syC, Zs.put, Sy.put]
    rw [upd_other _ _ (by omega), upd_other _ _ (by omega)]
  · obtain ⟨j1, j2⟩ := l3 j hj
    refine ⟨by rw [Array.getElem?_setIfInBounds_ne (by omega)]; exact j1, ?_⟩
    by_cases e : j = i
    · subst e
      rw [Array.getElem?_setIfInBounds_self_of_lt (by omega), show (Z.put (2 + j) q).q (2 + j) = q from upd_same _ _ _]
    · rw [Array.getElem?_setIfInBounds_ne (by omega), show (Z.put (2 + i) q).q (2 + j) = Z.q (2 + j) from upd_other _ _ (by omega)]
      exact j2
  · simp only [List.mem_cons, not_or]
    exact ⟨Ne.symm n10, hnr Z.qq (by simp [Zs.six])⟩
  · rw [show (Z.put (2 + i) q).q (18 + j) = Z.q (18 + j) from upd_other _ _ (by omega)]
    exact q3 j hj
/-- A queue. -/
theorem SyM.rowQ (h : SyM w Z c s k) {i : Nat} (hi : i < c.s.toNat) {w1 : World} (q : Sq) (ys : List Int) (hF : Fr (qb (Z.q (18 + i)).lo).toList w w1) (hq : QR w1 q.lo q.n q.c ys) (hm : Nwr w (Z.q (18 + i)) q) :
    SyM (w1.setCell ⟨Z.qq, i, none⟩ q.v) (Z.put (18 + i) q) c (s.put (18 + i) ys) k ∧ Mv w Z (w1.setCell ⟨Z.qq, i, none⟩ q.v) (Z.put (18 + i) q) := by
  have ha := h.apa
  have hc := h.may.2.1
  have hl := h.may.1
  have hi16 : i < 16 := by omega
  obtain ⟨n1, n2, n3, n4, n5, n6, n7, n8, n9, n10, n11, n12, n13, n14, n15⟩ := ha.six_ne
  have hnr : ∀ x, x ∈ Z.six → x ∉ (qb (Z.q (18 + i)).lo).toList := fun x hx hh => (ha.nR (18 + i) x (Option.mem_toList.1 hh)).1 hx
  have hnq : ∀ x, x ∈ Z.six → qb q.lo ≠ some x := by
    intro x hx e
    rcases hm with hm | ⟨k', hm, hk⟩
    · exact (ha.nR (18 + i) x (by rw [← hm]; exact e)).1 hx
    · rw [hm] at e; cases e
      have := h.lt _ (Zs.mem_own.2 (Or.inl hx)); omega
  have hF2 : Fr (Z.qq :: (qb (Z.q (18 + i)).lo).toList) w (w1.setCell ⟨Z.qq, i, none⟩ q.v) := (hF.mono (fun x hx _ => by simp [hx])).then (Fr.set _ _ _ (by simp))
  have hq2 : QR (w1.setCell ⟨Z.qq, i, none⟩ q.v) q.lo q.n q.c ys := hq.keep (Fr.set (S := [Z.qq]) w1 _ _ (by simp)) (fun b hb hh => hnq Z.qq (by simp [Zs.six]) (by simp at hh; rw [hb, hh]))
  obtain ⟨r1, r2, r3, r4, r5, r6, r7⟩ := h.part (by omega) (Or.inr (Or.inr rfl)) hF2 hq2 (hm.b h)
  obtain ⟨cl, l1, l2, l3⟩ := h.lanes
  obtain ⟨cq, q1, q2, q3⟩ := h.ques
  refine ⟨⟨?_, ⟨cl, hF2.keep l1 ?_, l2, fun j hj => ?_⟩, ⟨_, qrow_setCell _ (hF.keep q1 (hnr _ (by simp [Zs.six]))), by simpa using q2, fun j hj => ?_⟩, r1, r2, r3, r4, r5, Apa.put h (by omega) (hm.b h), h.may⟩, ⟨r6, r7, rfl, rfl, rfl, rfl⟩⟩
  · show (w1.setCell _ q.v).heap[Z.sb]? = _
    rw [hF2.keep h.box (by simp only [List.mem_cons, not_or]; exact ⟨n3, hnr Z.sb (by simp [Zs.six])⟩)]
    congr 3
    simp only [syC, Zs.put, Sy.put]
    rw [upd_other _ _ (by omega), upd_other _ _ (by omega)]
  · simp only [List.mem_cons, not_or]
    exact ⟨n10, hnr Z.lb (by simp [Zs.six])⟩
  · rw [show (Z.put (18 + i) q).q (2 + j) = Z.q (2 + j) from upd_other _ _ (by omega)]
    exact l3 j hj
  · by_cases e : j = i
    · subst e
      rw [Array.getElem?_setIfInBounds_self_of_lt (by omega), show (Z.put (18 + j) q).q (18 + j) = q from upd_same _ _ _]
    · rw [Array.getElem?_setIfInBounds_ne (by omega), show (Z.put (18 + i) q).q (18 + j) = Z.q (18 + j) from upd_other _ _ (by omega)]
      exact q3 j hj
/-- Another number was read; held or not. -/
theorem SyM.setRead (h : SyM w Z c s k) (n : Int) : SyM (w.setCell ⟨Z.sb, 7, none⟩ (.int .i64 n)) Z c { s with read := n } k ∧ Mv w Z (w.setCell ⟨Z.sb, 7, none⟩ (.int .i64 n)) Z := by
  have ha := h.apa
  obtain ⟨n1, n2, n3, n4, n5, n6, n7, n8, n9, n10, n11, n12, n13, n14, n15⟩ := ha.six_ne
  have hF : Fr [Z.sb] w (w.setCell ⟨Z.sb, 7, none⟩ (.int .i64 n)) := Fr.set _ _ _ (by simp)
  obtain ⟨cl, l1, l2, l3⟩ := h.lanes
  obtain ⟨cq, q1, q2, q3⟩ := h.ques
  obtain ⟨F, f1, f2⟩ := h.outs
  obtain ⟨G, g1, g2⟩ := h.call
  refine ⟨⟨?_, ⟨cl, hF.keep l1 (by simp [Ne.symm n2]), l2, l3⟩, ⟨cq, hF.keep q1 (by simp [Ne.symm n3]), q2, q3⟩, fun i => (h.rows i).keep hF (fun b hb hh => ?_), h.gate.keep hF (by simp [Ne.symm n1]), h.deps.keep hF (fun x hx hh => ?_), ⟨F, f1.keep hF (by simp [Ne.symm n4]), f2⟩, ⟨G, g1.keep hF (by simp [Ne.symm n5]), g2⟩, ha, h.may⟩, Mv.of (hF.mono (fun x hx _ => Zs.mem_own.2 (Or.inl (by simp at hx; simp [Zs.six, hx]))))⟩
  · rw [qrow_setCell _ h.box]; simp [syC]
  · simp at hh; exact (ha.nR i b hb).1 (by simp [Zs.six, hh])
  · simp at hh; exact ha.nB Z.sb (by simp [Zs.six]) (hh ▸ hx)
theorem SyM.setHolds (h : SyM w Z c s k) (b : Bool) : SyM (w.setCell ⟨Z.sb, 8, none⟩ (.bool b)) Z c { s with holds := b } k ∧ Mv w Z (w.setCell ⟨Z.sb, 8, none⟩ (.bool b)) Z := by
  have ha := h.apa
  obtain ⟨n1, n2, n3, n4, n5, n6, n7, n8, n9, n10, n11, n12, n13, n14, n15⟩ := ha.six_ne
  have hF : Fr [Z.sb] w (w.setCell ⟨Z.sb, 8, none⟩ (.bool b)) := Fr.set _ _ _ (by simp)
  obtain ⟨cl, l1, l2, l3⟩ := h.lanes
  obtain ⟨cq, q1, q2, q3⟩ := h.ques
  obtain ⟨F, f1, f2⟩ := h.outs
  obtain ⟨G, g1, g2⟩ := h.call
  refine ⟨⟨?_, ⟨cl, hF.keep l1 (by simp [Ne.symm n2]), l2, l3⟩, ⟨cq, hF.keep q1 (by simp [Ne.symm n3]), q2, q3⟩, fun i => (h.rows i).keep hF (fun b hb hh => ?_), h.gate.keep hF (by simp [Ne.symm n1]), h.deps.keep hF (fun x hx hh => ?_), ⟨F, f1.keep hF (by simp [Ne.symm n4]), f2⟩, ⟨G, g1.keep hF (by simp [Ne.symm n5]), g2⟩, ha, h.may⟩, Mv.of (hF.mono (fun x hx _ => Zs.mem_own.2 (Or.inl (by simp at hx; simp [Zs.six, hx]))))⟩
  · rw [qrow_setCell _ h.box]; simp [syC]
  · simp at hh; exact (ha.nR i b hb).1 (by simp [Zs.six, hh])
  · simp at hh; exact ha.nB Z.sb (by simp [Zs.six]) (hh ▸ hx)
/-- A lane holds another one. -/
theorem SyM.setNum (h : SyM w Z c s k) {i : Nat} (hi : i < c.l.toNat) (n : Int) : SyM (w.setCell ⟨Z.lb, 2 * i, none⟩ (.int .i64 n)) Z c { s with num := upd s.num i n } k ∧ Mv w Z (w.setCell ⟨Z.lb, 2 * i, none⟩ (.int .i64 n)) Z := by
  have ha := h.apa
  obtain ⟨n1, n2, n3, n4, n5, n6, n7, n8, n9, n10, n11, n12, n13, n14, n15⟩ := ha.six_ne
  have hF : Fr [Z.lb] w (w.setCell ⟨Z.lb, 2 * i, none⟩ (.int .i64 n)) := Fr.set _ _ _ (by simp)
  obtain ⟨cl, l1, l2, l3⟩ := h.lanes
  obtain ⟨cq, q1, q2, q3⟩ := h.ques
  obtain ⟨F, f1, f2⟩ := h.outs
  obtain ⟨G, g1, g2⟩ := h.call
  refine ⟨⟨hF.keep h.box (by simp [n2]), ⟨_, qrow_setCell _ l1, by simpa using l2, fun j hj => ?_⟩, ⟨cq, hF.keep q1 (by simp [Ne.symm n10]), q2, q3⟩, fun i => (h.rows i).keep hF (fun b hb hh => ?_), h.gate.keep hF (by simp [n6]), h.deps.keep hF (fun x hx hh => ?_), ⟨F, f1.keep hF (by simp [Ne.symm n11]), f2⟩, ⟨G, g1.keep hF (by simp [Ne.symm n12]), g2⟩, ha, h.may⟩, Mv.of (hF.mono (fun x hx _ => Zs.mem_own.2 (Or.inl (by simp at hx; simp [Zs.six, hx]))))⟩
  · obtain ⟨j1, j2⟩ := l3 j hj
    refine ⟨?_, by rw [Array.getElem?_setIfInBounds_ne (by omega)]; exact j2⟩
    show _ = some (Value.int .i64 (upd s.num i n j))
    by_cases e : j = i
    · subst e
      rw [Array.getElem?_setIfInBounds_self_of_lt (by omega), upd_same]
    · rw [Array.getElem?_setIfInBounds_ne (by omega), upd_other _ _ e]
      exact j1
  · simp at hh; exact (ha.nR i b hb).1 (by simp [Zs.six, hh])
  · simp at hh; exact ha.nB Z.lb (by simp [Zs.six]) (hh ▸ hx)
/-- The gate went on. -/
theorem SyM.setGate (h : SyM w Z c s k) {m : Int} {xs : List Int} (hF : Fr [Z.g] w w') (hg : GG w' Z.g m xs) : SyM w' Z c { s with ma := m, bx := xs } k ∧ Mv w Z w' Z := by
  have ha := h.apa
  obtain ⟨n1, n2, n3, n4, n5, n6, n7, n8, n9, n10, n11, n12, n13, n14, n15⟩ := ha.six_ne
  obtain ⟨cl, l1, l2, l3⟩ := h.lanes
  obtain ⟨cq, q1, q2, q3⟩ := h.ques
  obtain ⟨F, f1, f2⟩ := h.outs
  obtain ⟨G, g1, g2⟩ := h.call
  refine ⟨⟨hF.keep h.box (by simp [n1]), ⟨cl, hF.keep l1 (by simp [Ne.symm n6]), l2, l3⟩, ⟨cq, hF.keep q1 (by simp [Ne.symm n7]), q2, q3⟩, fun i => (h.rows i).keep hF (fun b hb hh => ?_), hg, h.deps.keep hF (fun x hx hh => ?_), ⟨F, f1.keep hF (by simp [Ne.symm n8]), f2⟩, ⟨G, g1.keep hF (by simp [Ne.symm n9]), g2⟩, ha, h.may⟩, Mv.of (hF.mono (fun x hx _ => Zs.mem_own.2 (Or.inl (by simp at hx; simp [Zs.six, hx]))))⟩
  · simp at hh; exact (ha.nR i b hb).1 (by simp [Zs.six, hh])
  · simp at hh; exact ha.nB Z.g (by simp [Zs.six]) (hh ▸ hx)
/-- The table went on. -/
theorem SyM.setDeps (h : SyM w Z c s k) {B' : List Nat} {L : Lg} {en : Int → Prop} {k' : Nat} (hk : k ≤ k') (hF : Fr Z.B w w') (hg : Tl w' Z.tb B' (65 * k') L en) (hB : ∀ x ∈ B', x ∈ Z.B ∨ w.heap.size ≤ x) : SyM w' { Z with B := B' } c { s with L := L, en := en } k' ∧ Mv w Z w' { Z with B := B' } := by
  have ha := h.apa
  have hlt := h.lt
  obtain ⟨cl, l1, l2, l3⟩ := h.lanes
  obtain ⟨cq, q1, q2, q3⟩ := h.ques
  obtain ⟨F, f1, f2⟩ := h.outs
  obtain ⟨G, g1, g2⟩ := h.call
  have h6 : ∀ x ∈ Z.six, x ∉ Z.B := ha.nB
  refine ⟨⟨hF.keep h.box (h6 _ (by simp [Zs.six])), ⟨cl, hF.keep l1 (h6 _ (by simp [Zs.six])), l2, l3⟩, ⟨cq, hF.keep q1 (h6 _ (by simp [Zs.six])), q2, q3⟩, fun i => (h.rows i).keep hF (fun b hb => (ha.nR i b hb).2), h.gate.keep hF (h6 _ (by simp [Zs.six])), hg, ⟨F, (f1.keep hF (h6 _ (by simp [Zs.six]))).mono hk, f2⟩, ⟨G, (g1.keep hF (h6 _ (by simp [Zs.six]))).mono hk, g2⟩, ⟨ha.nd, fun x hx hh => ?_, fun i b hb => ⟨(ha.nR i b hb).1, fun hh => ?_⟩, ha.rr, ha.far⟩, h.may⟩, ⟨hF.mono (fun x hx _ => Zs.mem_own.2 (Or.inr (Or.inl hx))), fun x hx => ?_, rfl, rfl, rfl, rfl⟩⟩
  · rcases hB x hh with e | e
    · exact h6 x hx e
    · have := hlt x (Zs.mem_own.2 (Or.inl hx)); omega
  · rcases hB b hh with e | e
    · exact (ha.nR i b hb).2 e
    · have := (h.rows i).lt hb; omega
  · rcases Zs.mem_own.1 hx with e | e | e
    · exact Or.inl (Zs.mem_own.2 (Or.inl e))
    · rcases hB x e with e2 | e2
      · exact Or.inl (Zs.mem_own.2 (Or.inr (Or.inl e2)))
      · exact Or.inr e2
    · exact Or.inl (Zs.mem_own.2 (Or.inr (Or.inr e)))
/-- One has more requests in queues, or fewer. -/
theorem SyM.setOut (h : SyM w Z c s k) (n x : Int) (hn : i64 n) (hk : k < 4611686018427387904) :
    ∃ w', (Instr.mapUpdate 111 (.map (some Z.ob)) (.int .i64 n) (.int .i64 x)).run Tryz.prog w = .ok () w' ∧ SyM w' Z c { s with F := updI s.F n x } (k + 1) ∧ Mv w Z w' Z := by
  have ha := h.apa
  obtain ⟨n1, n2, n3, n4, n5, n6, n7, n8, n9, n10, n11, n12, n13, n14, n15⟩ := ha.six_ne
  obtain ⟨cl, l1, l2, l3⟩ := h.lanes
  obtain ⟨cq, q1, q2, q3⟩ := h.ques
  obtain ⟨F, f1, f2⟩ := h.outs
  obtain ⟨G, g1, g2⟩ := h.call
  obtain ⟨w', hr, hM, hF⟩ := f1.store n x hn (by unfold maxLen; omega)
  refine ⟨w', hr, ⟨hF.keep h.box (by simp [n4]), ⟨cl, hF.keep l1 (by simp [n11]), l2, l3⟩, ⟨cq, hF.keep q1 (by simp [n13]), q2, q3⟩, fun i => (h.rows i).keep hF (fun b hb hh => ?_), h.gate.keep hF (by simp [n8]), (h.deps.keep hF (fun x hx hh => ?_)).mono (by omega), ⟨_, hM, fun m => ?_⟩, ⟨G, (g1.keep hF (by simp [Ne.symm n15])).mono (by omega), g2⟩, ha, h.may⟩, Mv.of (hF.mono (fun x hx _ => Zs.mem_own.2 (Or.inl (by simp at hx; simp [Zs.six, hx]))))⟩
  · simp at hh; exact (ha.nR i b hb).1 (by simp [Zs.six, hh])
  · simp at hh; exact ha.nB Z.ob (by simp [Zs.six]) (hh ▸ hx)
  · show updI s.F n x m = _
    by_cases e : m = n
    · subst e; rw [updI_same, updF_same]; rfl
    · rw [updI_other _ _ e, updF_other _ _ e]; exact f2 m
theorem SyM.lookOut (h : SyM w Z c s k) (n : Int) (hn : i64 n) : (Instr.lookup 111 (.map (some Z.ob)) (.int .i64 n) false).run Tryz.prog w = .ok (.int .i64 (s.F n)) w := by
  obtain ⟨F, f1, f2⟩ := h.outs
  rw [f2]
  exact f1.look n hn
/-- A call is at another stage. -/
theorem SyM.setCal (h : SyM w Z c s k) (n x : Int) (hn : i64 n) (hk : k < 4611686018427387904) :
    ∃ w', (Instr.mapUpdate 112 (.map (some Z.cb)) (.int .i64 n) (.int .u8 x)).run Tryz.prog w = .ok () w' ∧ SyM w' Z c { s with G := updI s.G n x } (k + 1) ∧ Mv w Z w' Z := by
  have ha := h.apa
  obtain ⟨n1, n2, n3, n4, n5, n6, n7, n8, n9, n10, n11, n12, n13, n14, n15⟩ := ha.six_ne
  obtain ⟨cl, l1, l2, l3⟩ := h.lanes
  obtain ⟨cq, q1, q2, q3⟩ := h.ques
  obtain ⟨F, f1, f2⟩ := h.outs
  obtain ⟨G, g1, g2⟩ := h.call
  obtain ⟨w', hr, hM, hF⟩ := g1.store n x hn (by unfold maxLen; omega)
  refine ⟨w', hr, ⟨hF.keep h.box (by simp [n5]), ⟨cl, hF.keep l1 (by simp [n12]), l2, l3⟩, ⟨cq, hF.keep q1 (by simp [n14]), q2, q3⟩, fun i => (h.rows i).keep hF (fun b hb hh => ?_), h.gate.keep hF (by simp [n9]), (h.deps.keep hF (fun x hx hh => ?_)).mono (by omega), ⟨F, (f1.keep hF (by simp [n15])).mono (by omega), f2⟩, ⟨_, hM, fun m => ?_⟩, ha, h.may⟩, Mv.of (hF.mono (fun x hx _ => Zs.mem_own.2 (Or.inl (by simp at hx; simp [Zs.six, hx]))))⟩
  · simp at hh; exact (ha.nR i b hb).1 (by simp [Zs.six, hh])
  · simp at hh; exact ha.nB Z.cb (by simp [Zs.six]) (hh ▸ hx)
  · show updI s.G n x m = _
    by_cases e : m = n
    · subst e; rw [updI_same, updF_same]; rfl
    · rw [updI_other _ _ e, updF_other _ _ e]; exact g2 m
theorem SyM.lookCal (h : SyM w Z c s k) (n : Int) (hn : i64 n) : (Instr.lookup 112 (.map (some Z.cb)) (.int .i64 n) false).run Tryz.prog w = .ok (.int .u8 (s.G n)) w := by
  obtain ⟨G, g1, g2⟩ := h.call
  rw [g2]
  exact g1.look n hn
end
end Go.Proofs.YtaaghcimfcjehaaGreatDoor

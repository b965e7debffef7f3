/- The dispatcher dispatches: the feed lets go of what it holds, and that lies among those that were dispatched. Conditions as each names them. -/
import Derived.Test.YtakbodlicfmkjaaGreatKy20
namespace Go.Proofs.YtakbodlicfmkjaaGreat
open Go.ChangeShapes Go.WideShapes Go.ChangeAt Go.RowKit Go.Lib Go.Maps
set_option linter.unusedVariables false
set_option linter.unusedSimpArgs false
section
variable {w0 w w' : World} {c : Cf} {T : List Tx} {Z : Lay} {s : Ms}
/-- One more row. -/
def kbU (kb : Int → Nat) (n : Int) (B : Nat) : Int → Nat := fun m => if m = n then B else kb m
theorem kbU_same (kb : Int → Nat) (n : Int) (B : Nat) : kbU kb n B n = B := if_pos rfl
theorem kbU_other (kb : Int → Nat) {n m : Int} (B : Nat) (h : m ≠ n) : kbU kb n B m = kb m := if_neg h
theorem wtF_kb (T : List Tx) (kb : Int → Nat) (wt : Int → Prop) {n : Int} (B : Nat) (h : ¬ wt n) : wtF T (kbU kb n B) wt = wtF T kb wt := by
  funext m
  unfold wtF
  by_cases hm : wt m
  · rw [if_pos hm, if_pos hm, kbU_other kb B (fun e => h (by rw [← e]; exact hm))]
  · rw [if_neg hm, if_neg hm]
theorem txR_kb (T : List Tx) (kb : Int → Nat) {l : List Int} {n : Int} (B : Nat) (h : n ∉ l) : l.map (txR T (kbU kb n B)) = l.map (txR T kb) :=
  List.map_congr_left fun m hm => by unfold txR; rw [kbU_other kb B (fun e => h (by rw [← e]; exact hm))]
/-- Where what is held lies. -/
theorem MaM.heldB (h : MaM w0 w c T Z s) (hv : s.hv = true) (hrd : s.rd = s.d + 1) : ∃ B, Z.hw = .slice (some ⟨B, 0, none⟩) (wsAt T s.rd).length (wsAt T s.rd).length := by
  have hfe := h.fe
  have hm := hfe.m
  have hmay := h.may
  obtain ⟨h1, B, ehw, hrow, hB0⟩ := hm.held (show (⟨s.rd, s.fd, c.w.toNat, s.hv, false⟩ : F.Fe).hv = true from hv)
  have ews : wsAt T (s.rd : Int) = (Z.y.ts.getD (s.rd - 1) Tm.zero).ws := by
    unfold wsAt
    rw [← h.log, show ((s.rd : Int) - 1).toNat = s.rd - 1 by omega, txs_getD]
    rfl
  have eL : (Z.y.ts.getD (s.rd - 1) Tm.zero).L = (wsAt T (s.rd : Int)).length := by
    rw [ews]
    have hlt : s.rd - 1 < Z.y.ts.length := by have a1 : s.rd ≤ s.fd := hm.rf; have a2 : s.fd ≤ Z.y.ts.length := hm.fl; omega
    have hmem : Z.y.ts.getD (s.rd - 1) Tm.zero ∈ Z.y.ts := by
      have : Z.y.ts.getD (s.rd - 1) Tm.zero = Z.y.ts[s.rd - 1] := by simp [List.getD, hlt]
      rw [this]
      exact List.getElem_mem hlt
    obtain ⟨k, e1, e2, e3, e4, e5, e6⟩ := hm.src.each _ hmem
    exact e3
  exact ⟨B, by rw [ehw, eL]⟩
/-- What is held is let go. -/
theorem MaM.disF (h : MaM w0 w c T Z s) (hnr : Z.nr = s.d) (hv : s.hv = true) (hrd : s.rd = s.d + 1) (hw : ¬ s.wt (s.rd : Int)) (hl : (s.rd : Int) ∉ s.line) (hnear : (s.rd : Int) ≤ s.ma + c.w) :
    Calls Tryz.prog 256 #[.pointer (some ⟨Z.z.fb, 0, none⟩), .int .i64 s.ma] w fun e w' => ∃ B, Z.hw = .slice (some ⟨B, 0, none⟩) (wsAt T s.rd).length (wsAt T s.rd).length ∧ e = .returned (.tuple #[.agg #[.int .i64 (s.rd : Int), .slice (some ⟨B, 0, none⟩) (wsAt T s.rd).length (wsAt T s.rd).length], .int .i64 0]) ∧ w'.heap[B]? = some (.cells (wtsC (wsAt T s.rd)).toArray 56 (0, 0)) ∧ Dn w0 c T w Z s w' { Z with hw := .slice none 0 0, kb := kbU Z.kb s.rd B, nr := Z.nr + 1 } { s with hv := false } ∧ Fr [Z.z.fb] w w' ∧ ∀ b, w.heap.size ≤ b → MaM.off w0 w' c T { Z with hw := .slice none 0 0, kb := kbU Z.kb s.rd B, nr := Z.nr + 1 } { s with hv := false } b := by
  have hfe := h.fe
  have hm := hfe.m
  have hmay := h.may
  obtain ⟨h1, B, ehw, hrow, hB0⟩ := hm.held (show (⟨s.rd, s.fd, c.w.toNat, s.hv, false⟩ : F.Fe).hv = true from hv)
  have ews : wsAt T (s.rd : Int) = (Z.y.ts.getD (s.rd - 1) Tm.zero).ws := by
    unfold wsAt
    rw [← h.log, show ((s.rd : Int) - 1).toNat = s.rd - 1 by omega, txs_getD]
    rfl
  have eL : (Z.y.ts.getD (s.rd - 1) Tm.zero).L = (wsAt T (s.rd : Int)).length := by
    rw [ews]
    have hlt : s.rd - 1 < Z.y.ts.length := by have a1 : s.rd ≤ s.fd := hm.rf; have a2 : s.fd ≤ Z.y.ts.length := hm.fl; omega
    have hmem : Z.y.ts.getD (s.rd - 1) Tm.zero ∈ Z.y.ts := by
      have : Z.y.ts.getD (s.rd - 1) Tm.zero = Z.y.ts[s.rd - 1] := by simp [List.getD, hlt]
      rw [this]
      exact List.getElem_mem hlt
    obtain ⟨k, e1, e2, e3, e4, e5, e6⟩ := hm.src.each _ hmem
    exact e3
  have hB : B < w.heap.size := lt_of_block hrow
  have dc : (⟨s.rd, s.fd, c.w.toNat, s.hv, false⟩ : F.Fe).disC [] s.ma = 0 := by
    have := hmay.2.2.1
    simp [F.Fe.disC, F.Fe.near, hv]
    omega
  refine (F.fDis_any hm s.ma).mono ?_
  rintro e w' ⟨rfl, k1, k2⟩
  have dv : F.disV ⟨s.rd, s.fd, c.w.toNat, s.hv, false⟩ [] s.ma Z.hw = .agg #[.int .i64 (s.rd : Int), .slice (some ⟨B, 0, none⟩) (wsAt T s.rd).length (wsAt T s.rd).length] := by
    unfold F.disV
    rw [if_pos dc, ehw]
    rw [eL]
  have ds : (⟨s.rd, s.fd, c.w.toNat, s.hv, false⟩ : F.Fe).disS [] s.ma = ⟨s.rd, s.fd, c.w.toNat, false, false⟩ := by
    unfold F.Fe.disS
    rw [if_pos dc]
  have dh : F.disH ⟨s.rd, s.fd, c.w.toNat, s.hv, false⟩ [] s.ma Z.hw = .slice none 0 0 := by
    unfold F.disH
    rw [if_pos dc]
  rw [ds, dh] at k1
  have hBf : B ∉ [Z.z.fb] := by
    intro hx
    rw [List.mem_singleton] at hx
    rw [hx] at hrow
    have := hm.box
    rw [hrow] at this
    simp only [Option.some.injEq, Obj.cells.injEq] at this
    exact absurd this.2.1 (by decide)
  have hrow' := k2.keep hrow hBf
  rw [← ews] at hrow hrow'
  have ownB : (feP w0 c Z.z.fb Z.y Z.v Z.hw s.rd s.fd s.hv).O w B := Or.inr (Or.inr (by rw [ehw]; rfl))
  have hBB : Z.y.B0 ≤ B := hfe.hB B (by rw [ehw]; rfl)
  have feO : ∀ b, fdOwn w0 Z.y Z.v (.slice none 0 0) b → fdOwn w0 Z.y Z.v Z.hw b ∧ b ≠ B := fun b hb => by
    rcases hb with e | e | e
    · exact ⟨Or.inl e, by omega⟩
    · refine ⟨Or.inr (Or.inl e), fun x => ?_⟩
      subst x
      obtain ⟨_, cur, k3⟩ := owns_cells hm.src.row e
      rw [hrow] at k3
      simp only [Option.some.injEq, Obj.cells.injEq] at k3
      exact absurd k3.2.1 (by decide)
    · cases e
  have reO : ∀ b, (∃ n : Int, 1 ≤ n ∧ n ≤ ((Z.nr + 1 : Nat) : Int) ∧ b = kbU Z.kb s.rd B n) → b = B ∨ (∃ n : Int, 1 ≤ n ∧ n ≤ (Z.nr : Int) ∧ b = Z.kb n) := by
    rintro b ⟨n, a1, a2, rfl⟩
    by_cases e : n = (s.rd : Int)
    · rw [e, kbU_same]; exact Or.inl rfl
    · rw [kbU_other _ _ e]
      exact Or.inr ⟨n, a1, by omega, rfl⟩
  have fe0 : ∀ b, fdOwn w0 Z.y Z.v Z.hw b → (mP w0 c T Z s .fe).O w b := fun b hb => hb
  have re0 : ∀ b, (∃ n : Int, 1 ≤ n ∧ n ≤ (Z.nr : Int) ∧ b = Z.kb n) → (mP w0 c T Z s .re).O w b := fun b hb => hb
  have hst := h.m.step (P' := mP w0 c T { Z with hw := .slice none 0 0, kb := kbU Z.kb s.rd B, nr := Z.nr + 1 } { s with hv := false }) (fun i => i = .fe ∨ i = .re) k2 (fun b hb _ => ⟨.fe, Or.inl rfl, ?_⟩) (fun i hi => ?_) (fun i hi => ?_) (fun i hi => ?_) (fun i hi b hb => ?_) (fun i j b hi hj hbi hbj => ?_)
  · have hoff : ∀ b, w.heap.size ≤ b → MaM.off w0 w' c T { Z with hw := .slice none 0 0, kb := kbU Z.kb s.rd B, nr := Z.nr + 1 } { s with hv := false } b := fun b hb i hi => by
      have hsub : ∃ j, (mP w0 c T Z s j).O w b := by
        by_cases hA : i = .fe ∨ i = .re
        · rcases hA with rfl | rfl
          · exact ⟨.fe, (feO b hi).1⟩
          · rcases reO b hi with e | e
            · exact ⟨.fe, by rw [e]; exact ownB⟩
            · exact ⟨.re, e⟩
        · have hP : mP w0 c T { Z with hw := .slice none 0 0, kb := kbU Z.kb s.rd B, nr := Z.nr + 1 } { s with hv := false } i = mP w0 c T Z s i := by
            cases i with
            | fe => exact absurd (Or.inl rfl) hA
            | re => exact absurd (Or.inr rfl) hA
            | wa => simp only [mP, waP]; rw [wtF_kb T Z.kb s.wt B hw]
            | li => simp only [mP, liP]; rw [txR_kb T Z.kb B hl]
            | _ => rfl
          rw [hP] at hi
          refine ⟨i, ((h.m.ok i).keep [Z.z.fb] w w' (h.m.m i) h.m.fr k2 (fun x hx hxl => ?_)).2 b hi⟩
          rw [List.mem_singleton.1 hx]
          refine ⟨hm.fn, fun hO => hA (Or.inl ?_)⟩
          exact h.m.ap i .fe _ hO (fe0 _ (Or.inl ⟨hm.fn, hfe.f0⟩))
      obtain ⟨j, hj⟩ := hsub
      have := ((h.m.ok j).lt w b (h.m.m j) hj).2
      omega
    exact ⟨B, by rw [ehw, eL], by rw [dv, dc]; rfl, hrow', ⟨⟨hst.1, h.log, Nat.le_succ_of_le h.rows, h.few⟩, hst.2, rfl, rfl⟩, k2, hoff⟩
  · rw [List.mem_singleton.1 hb]
    exact fe0 _ (Or.inl ⟨hm.fn, hfe.f0⟩)
  · cases i with
    | fe => exact absurd (Or.inl rfl) hi
    | re => exact absurd (Or.inr rfl) hi
    | wa => simp only [mP, waP]; rw [wtF_kb T Z.kb s.wt B hw]
    | li => simp only [mP, liP]; rw [txR_kb T Z.kb B hl]
    | _ => rfl
  · exact mP_ok _ _ _ _ _ i
  · rcases hi with rfl | rfl
    · exact ⟨k1, hfe.f0, hfe.g0, hfe.l0, hfe.m0, hfe.t0, Nat.le_trans hfe.b0 k2.size, fun k hk => (by cases hk), fun k hk => (by cases hk)⟩
    · intro n a1 a2
      by_cases e : n = (s.rd : Int)
      · subst e
        show w'.heap[kbU Z.kb s.rd B s.rd]? = _ ∧ w0.heap.size ≤ kbU Z.kb s.rd B s.rd
        rw [kbU_same]
        exact ⟨hrow', hB0⟩
      · show w'.heap[kbU Z.kb s.rd B n]? = _ ∧ w0.heap.size ≤ kbU Z.kb s.rd B n
        rw [kbU_other _ _ e]
        have a3 : n ≤ (Z.nr : Int) := by have : n ≤ ((Z.nr + 1 : Nat) : Int) := a2; omega
        obtain ⟨b1, b2⟩ := h.re n a1 a3
        refine ⟨k2.keep b1 (fun hx => ?_), b2⟩
        rw [List.mem_singleton] at hx
        have hbox := hm.box
        rw [← hx, b1] at hbox
        simp only [Option.some.injEq, Obj.cells.injEq] at hbox
        exact absurd hbox.2.1 (by decide)
  · rcases hi with rfl | rfl
    · exact Or.inl ⟨.fe, Or.inl rfl, (feO b hb).1⟩
    · rcases reO b hb with e | e
      · exact Or.inl ⟨.fe, Or.inl rfl, by rw [e]; exact ownB⟩
      · exact Or.inl ⟨.re, Or.inr rfl, e⟩
  · have key : ∀ b, (mP w0 c T { Z with hw := .slice none 0 0, kb := kbU Z.kb s.rd B, nr := Z.nr + 1 } { s with hv := false } .fe).O w' b → (mP w0 c T { Z with hw := .slice none 0 0, kb := kbU Z.kb s.rd B, nr := Z.nr + 1 } { s with hv := false } .re).O w' b → False := fun b x1 x2 => by
      obtain ⟨x3, x4⟩ := feO b x1
      rcases reO b x2 with e | e
      · exact x4 e
      · have := h.m.ap .fe .re b (fe0 b x3) (re0 b e)
        cases this
    rcases hi with rfl | rfl <;> rcases hj with rfl | rfl
    · rfl
    · exact (key b hbi hbj).elim
    · exact (key b hbj hbi).elim
    · rfl
end
end Go.Proofs.YtakbodlicfmkjaaGreat

/- Rows of keys cut and laid behind one another. Conditions as each names them. -/
import Derived.Test.YtkplammapbiebaaGreatDoorKo9
namespace Go.Proofs.YtkplammapbiebaaGreatDoor
open BigFrame Go.ChangeShapes Go.WideShapes Go.ChangeAt Go.RowKit Go.Lib Go.Maps
set_option linter.unusedVariables false
set_option linter.unusedSimpArgs false

theorem HRs.cells {w : World} {ao : Option Addr} {hs : List Hd} (h : HRs w ao hs) {j : Nat} {u : Value} (hu : (hdsC hs)[j]? = some u) : ∃ b off, ao = some ⟨b, off, none⟩ ∧ w.cell? ⟨b, off + j, none⟩ = some u := by
  have hj : j < hs.length * 2 := by
    rw [← hdsC_length]
    rcases Nat.lt_or_ge j (hdsC hs).length with h1 | h1
    · exact h1
    · rw [List.getElem?_eq_none h1] at hu; cases hu
  have hq : j / 2 < hs.length := by omega
  obtain ⟨b, off, e, _, hc⟩ := h.lies (by omega)
  obtain ⟨c0, c1⟩ := hc _ hq
  obtain ⟨g0, g1⟩ := hdsC_get hs _ hq
  refine ⟨b, off, e, ?_⟩
  by_cases he : j % 2 = 0
  · have ej : j = j / 2 * 2 := by omega
    rw [ej] at hu ⊢
    rw [g0] at hu
    cases hu
    exact c0
  · have ej : j = j / 2 * 2 + 1 := by omega
    rw [ej] at hu ⊢
    rw [g1] at hu
    cases hu
    exact c1
theorem hdsC_one (hs : List Hd) : ∀ u ∈ hdsC hs, u.oneCell' = true := by
  intro u hu
  obtain ⟨x, _, hx⟩ := List.mem_flatMap.1 hu
  exact hdC_one x u hx
/-- Many keys more. -/
theorem wpList_appMany (w0 w : World) {ops : Array Oper} {rest : List Oper} {o : Oper} {a : Act} {Q : Exit → Act → World → Prop} (hgd : o.guard = none) (s x : Operand)
    (ho : o.op = .call { callee := .builtin .append, args := #[s, x], argTypes := #[22, 22] })
    (so : Option Addr) (N c : Nat) (hs : List Hd) (hsv : a.eval s = .slice so N c) (hK : HRo w0 w so N c hs) (xo : Option Addr) (M xc : Nat) (gs : List Hd) (hx : a.eval x = .slice xo M xc) (hX : HRs w xo gs) (hT : ∀ y ∈ gs, HTy w y) (hM : M = gs.length) (hN : N + M < 1099511627776) (h0 : w0.heap.size ≤ w.heap.size)
    (h : ∀ so' c' w', HRo w0 w' so' (N + M) c' (hs ++ gs) → Fr (Value.slice so N c).ownBlock.toList w w' → wpList Tryz.prog ops Q rest (a.put o.dst (.slice so' (N + M) c')) w') : wpList Tryz.prog ops Q (o :: rest) a w := by
  obtain ⟨i0, hi, hz0, hz1, hz2⟩ := infoHd_parts
  have hmx : 2199023255552 ≤ maxLen := by unfold maxLen; omega
  by_cases hM0 : M = 0
  · have hgs : gs = [] := List.eq_nil_of_length_eq_zero (by omega)
    subst hgs
    subst hM0
    have hh := h so c w (by simpa using hK) (Fr.refl _ _)
    rw [Nat.add_zero] at hh
    refine wpList_plain hgd fun K hKK => ?_
    have hl : ∀ (x : Addr), (loadCells x 0).run Tryz.prog w = .ok #[] w := fun x => by simpa using run_loadCells_list (P := Tryz.prog) w x [] (by simp)
    have hcap : N ≤ c ∧ (so = none → N = 0 ∧ c = 0) := by
      rcases hK.row.2 with ⟨e, hn⟩ | ⟨g, cap, cur, e, _, _, hc, _⟩
      · cases e; exact ⟨Nat.le_refl _, fun _ => ⟨rfl, rfl⟩⟩
      · cases e; exact ⟨hc, fun e => by cases e⟩
    have hrun : (Builtin.append_ #[22, 22] o.type #[.slice so N c, .slice xo 0 xc]).run Tryz.prog w = .ok (.slice so N c) w := by
      cases so with
      | none =>
        obtain ⟨rfl, rfl⟩ := hcap.2 rfl
        cases xo <;> simp [Builtin.append_, run_underlying Tryz.undHds, sizeOf, typeInfo, hi, Builtin.lenOf, Builtin.firstCells, hl, storeCells]
      | some b =>
        cases xo <;> simp [Builtin.append_, run_underlying Tryz.undHds, sizeOf, typeInfo, hi, Builtin.lenOf, Builtin.firstCells, hl, storeCells, hcap.1]
    unfold Oper.wp
    simp [execOp, ho, resolve, invoke, builtin, hsv, hx, hrun, Result.andThen]
    exact hKK _ _ hh
  · obtain ⟨b, off, e, _, _⟩ := hX.lies (by omega)
    subst e
    refine wpList_append_own w hgd s x 22 ho w0.heap.size 71 i0 _ 2 40 Tryz.undHds hi hz0 hz1 hz2 rfl (by decide) (.slice so N c) N (hdsC hs) hsv hK.row ⟨b, off, none⟩ M xc (hdsC gs) hx (by rw [hdsC_length, hM]) (fun j u hu => ?_) (hdsC_one gs) (by omega) (by omega) h0 ?_
    · obtain ⟨b', off', e, hc⟩ := hX.cells hu
      cases e
      rw [Addr.add_lit]
      exact hc
    · intro v' w' hown' hg' _
      obtain ⟨bo, cap', rfl⟩ : ∃ bo cap', v' = .slice bo (N + M) cap' := by
        rcases hown'.2 with ⟨_, h1⟩ | ⟨g, cap, _, rfl, _⟩
        · omega
        · exact ⟨_, cap, rfl⟩
      have hcat : hdsC hs ++ hdsC gs = hdsC (hs ++ gs) := by simp [hdsC]
      rw [hcat] at hown'
      have hF : Fr (Value.slice so N c).ownBlock.toList w w' := Fr.grown (S := (Value.slice so N c).ownBlock.toList) hg' (fun y hy _ => Option.mem_toList.2 hy)
      have hall : ∀ y ∈ hs ++ gs, HEach w y ∧ HTy w y := fun y hy => by
        rcases List.mem_append.1 hy with h1 | h1
        · exact ⟨hK.each y h1, hK.ty y h1⟩
        · exact ⟨hX.each y h1, hT y h1⟩
      have hap : ∀ y ∈ hs ++ gs, ∀ j, VB y j → j ∉ (Value.slice so N c).ownBlock.toList := fun y hy j hj hm => by
        obtain ⟨c1, e1⟩ := (hall y hy).2 j hj
        obtain ⟨_, c2, e2⟩ := owns_cells hK.row (Option.mem_toList.1 hm)
        rw [e1] at e2
        simp only [Option.some.injEq, Obj.cells.injEq] at e2
        exact absurd e2.2.1 (by decide)
      exact h bo cap' w' ⟨by rw [hK.len, hM]; simp, hown', fun y hy => (hall y hy).1.keepS hF (hap y hy), fun y hy => (hall y hy).2.keepS hF (hap y hy)⟩ hF
theorem Tryz.undHdsE : Tryz.prog.underlying 22 = some (.slice (Tryz.prog.elem 22)) := by kernel_rfl
theorem Tryz.elemHds : Tryz.prog.elem 22 = 71 := by kernel_rfl
theorem Tryz.sizeOfHd (w : World) : (Go.sizeOf 71).run Tryz.prog w = .ok 2 w := by kernel_rfl
def fromH (ro : Option Addr) (rc K : Nat) : Option Addr := if rc = K then ro else ro.map (·.add (K * 2))
theorem slH_h (ro : Option Addr) (N rc i : Nat) (h1 : i ≤ rc) (w : World) : (Instr.sliceAt 22 (.slice ro N rc) none (some (.int .i64 (i : Int))) none).run Tryz.prog w = .ok (.slice ro i rc) w := by
  rw [run_sliceAt_slice w 22 _ _ _ _ Tryz.undHdsE, run_slice_h w 22 _ _ _ Tryz.undHdsE .i64 (i : Int) (by omega) (by omega), Tryz.elemHds, Tryz.sizeOfHd]
  cases ro <;> simp [Result.andThen, sliced, Addr.add]
theorem slH_l (ro : Option Addr) (N rc K : Nat) (h1 : K ≤ N) (w : World) : (Instr.sliceAt 22 (.slice ro N rc) (some (.int .i64 (K : Int))) none none).run Tryz.prog w = .ok (.slice (fromH ro rc K) (N - K) (rc - K)) w := by
  rw [run_sliceAt_slice w 22 _ _ _ _ Tryz.undHdsE, run_slice_l w 22 _ _ _ Tryz.undHdsE .i64 (K : Int) (by omega) (by omega), Tryz.elemHds, Tryz.sizeOfHd]
  simp [Result.andThen, sliced, fromH]
theorem HRs.take {w : World} {ao : Option Addr} {hs : List Hd} (h : HRs w ao hs) (i : Nat) : HRs w ao (hs.take i) := by
  refine ⟨fun h0 => ?_, Nat.le_trans (by simp; omega) h.few, fun x hx => h.each x (List.mem_of_mem_take hx)⟩
  rw [List.length_take] at h0
  obtain ⟨b, off, e, hb, hc⟩ := h.lies (by omega)
  refine ⟨b, off, e, hb, fun j hj => ?_⟩
  rw [List.length_take] at hj
  have e2 : (hs.take i).getD j Hd.zero = hs.getD j Hd.zero := by simp [List.getD, List.getElem?_take, show j < i by omega]
  rw [e2]
  exact hc j (by omega)
theorem HRs.from {w : World} {ao : Option Addr} {hs : List Hd} (h : HRs w ao hs) (rc i : Nat) (hi : i ≤ hs.length) (hrc : hs.length ≤ rc) : HRs w (fromH ao rc i) (hs.drop i) := by
  refine ⟨fun h0 => ?_, Nat.le_trans (by simp) h.few, fun x hx => h.each x (List.mem_of_mem_drop hx)⟩
  rw [List.length_drop] at h0
  obtain ⟨b, off, rfl, hb, hc⟩ := h.lies (by omega)
  refine ⟨b, off + i * 2, ?_, hb, fun j hj => ?_⟩
  · unfold fromH
    rw [if_neg (by omega)]
    simp [Addr.add_lit]
  · rw [List.length_drop] at hj
    have e2 : (hs.drop i).getD j Hd.zero = hs.getD (i + j) Hd.zero := by simp [List.getD]
    rw [e2]
    have h1 := hc (i + j) (by omega)
    rw [show off + i * 2 + j * 2 = off + (i + j) * 2 by omega]
    exact h1
end Go.Proofs.YtkplammapbiebaaGreatDoor

/- A row of numbers of one's own, one more. Conditions as each names them. -/
import Derived.Test.YtakbodlicfmkjaaGreatHd9
namespace Go.Proofs.YtakbodlicfmkjaaGreat.O
open Go.ChangeShapes Go.WideShapes Go.ChangeAt Go.RowKit Go.Lib Go.Maps
set_option linter.unusedVariables false
set_option linter.unusedSimpArgs false

/-- Numbers as cells. -/
def ints (ns : List Int) : List Value := ns.map fun n => Value.int .i64 n
theorem IRs.of_own {w : World} {base : Nat} {ro : Option Addr} {N rc : Nat} {ns : List Int} (h : w.ownsRow base 3 1 (.slice ro N rc) N (ints ns)) (hN : N = ns.length) (hl : ns.length ≤ 17592186044416) : IRs w ro ns := by
  refine ⟨fun h0 => ?_, hl⟩
  rcases h.2 with ⟨_, h1⟩ | ⟨g, cap, cur, hv, _, hg, _, _, _, ht⟩
  · omega
  · cases hv
    refine ⟨g, 0, rfl, lt_of_block hg, fun i hi => ?_⟩
    have hx : (ints ns)[i]? = some (.int .i64 (ns.getD i 0)) := by simp [ints, List.getD, hi]
    rw [cell_of_row _ _ _ _ _ _ hg, Nat.zero_add, ← Array.getElem?_toList, ← hx, ← ht, List.getElem?_take_of_lt (by omega)]
theorem Tryz.undInts : Tryz.prog.underlying 25 = some (.slice 3) := by kernel_rfl
theorem Tryz.infoIntF : (Tryz.prog.info? 3).map (fun i => (i.zero, i.size, i.bytes)) = some (some (.int .i64 0), 1, 8) := by kernel_rfl
theorem infoInt_parts : ∃ i, Tryz.prog.info? 3 = some i ∧ i.zero = some (.int .i64 0) ∧ i.size = 1 ∧ i.bytes = 8 := by
  have h := Tryz.infoIntF
  cases hi : Tryz.prog.info? 3 with
  | none => rw [hi] at h; cases h
  | some i =>
    rw [hi] at h
    simp only [Option.map_some, Option.some.injEq, Prod.mk.injEq] at h
    exact ⟨i, rfl, h.1, h.2.1, h.2.2⟩
structure IOut (w w' : World) (ro : Option Addr) (N rc : Nat) (ns : List Int) : Prop where
  len : N = ns.length
  row : w'.ownsRow w.heap.size 3 1 (.slice ro N rc) N (ints ns)
theorem wpList_appI (w0 w : World) {ops : Array Oper} {rest : List Oper} {o : Oper} {a : Act} {Q : Exit → Act → World → Prop} (hgd : o.guard = none) (s x : Operand)
    (ho : o.op = .call { callee := .builtin .append, args := #[s, x], argTypes := #[25, 25] })
    (so : Option Addr) (N c : Nat) (ss : List Int) (hs : a.eval s = .slice so N c) (hK : IOut w0 w so N c ss) (hN : N < 3518437208883) (h0 : w0.heap.size ≤ w.heap.size) (n : Int) (hx : a.eval x = .slice (some ⟨w.heap.size, 0, none⟩) 1 1)
    (h : ∀ so' c' w', IOut w0 w' so' (N + 1) c' (ss ++ [n]) → Fr (Value.slice so N c).ownBlock.toList w w' → wpList Tryz.prog ops Q rest (a.put o.dst (.slice so' (N + 1) c')) w') : wpList Tryz.prog ops Q (o :: rest) a (w.alloc (.cells #[.int .i64 n] 3)) := by
  obtain ⟨i0, hi, hz0, hz1, hz2⟩ := infoInt_parts
  have hmx : 3518437208884 ≤ maxLen := by unfold maxLen; omega
  refine wpList_append_own (w.alloc (.cells #[.int .i64 n] 3)) hgd s x 25 ho w0.heap.size 3 i0 _ 1 8 Tryz.undInts hi hz0 hz1 hz2 rfl (by decide) (.slice so N c) N (ints ss) hs (owns_keepB hK.row (Fr.alloc [] w _) (by simp)) ⟨w.heap.size, 0, none⟩ 1 1 [.int .i64 n] hx rfl ?_ (by intro u hu; simp at hu; subst hu; rfl) (by omega) (by omega) (by simp; omega) ?_
  · intro j u hu
    have hr := heap_alloc_new w (.cells #[.int .i64 n] 3)
    rw [Addr.add_lit, cell_of_row _ _ _ _ _ _ hr, Nat.zero_add]
    simpa using hu
  · intro v' w' hown' hg' _
    obtain ⟨bo, cap', rfl⟩ : ∃ bo cap', v' = .slice bo (N + 1) cap' := by
      rcases hown'.2 with ⟨_, h1⟩ | ⟨g, cap, _, rfl, _⟩
      · omega
      · exact ⟨_, cap, rfl⟩
    have hst : ints (ss ++ [n]) = ints ss ++ [.int .i64 n] := by simp [ints]
    rw [← hst] at hown'
    refine h bo cap' w' ⟨by rw [hK.len]; simp, hown'⟩ ?_
    exact ((Fr.alloc [] w _).mono (by simp)).then (Fr.grown (S := (Value.slice so N c).ownBlock.toList) hg' (fun y hy _ => Option.mem_toList.2 hy))
theorem okP_each {p : Pt} (h : okP p) : PEach p := ⟨by have := h.1.2; omega, by have := h.2.2.2.1; simp only [Pt.v] at this; omega, by have := h.2.1; simp only [Pt.v] at this; omega, by have := h.2.2.1; simp only [Pt.v] at this; omega⟩
end Go.Proofs.YtakbodlicfmkjaaGreat.O

/- The document's Split. Conditions: its arguments lie as they came in. -/
import Derived.Test.YtldghdbfhikcoaaGreatDoorSg18
import Derived.Test.YtldghdbfhikcoaaGreatDoorKn9
import Derived.Test.YtldghdbfhikcoaaGreatDoorYc18
namespace Go.Proofs.YtldghdbfhikcoaaGreatDoor
open BigFrame Go.ChangeShapes Go.WideShapes Go.ChangeAt Go.RowKit Go.Lib Go.Maps
set_option linter.unusedVariables false
set_option linter.unusedSimpArgs false

/-- One key with its versions more in a row of our own; its versions lie elsewhere. -/
theorem wpList_appHq (w0 w : World) {ops : Array Oper} {rest : List Oper} {o : Oper} {a : Act} {Q : Exit → Act → World → Prop} (hgd : o.guard = none) (s x : Operand)
    (ho : o.op = .call { callee := .builtin .append, args := #[s, x], argTypes := #[23, 23] })
    (so : Option Addr) (N c : Nat) (hs : List Hd) (hsv : a.eval s = .slice so N c) (hK : w.ownsRow w0.heap.size 73 2 (.slice so N c) N (hdsC hs)) (hN : N < 3518437208883) (h0 : w0.heap.size ≤ w.heap.size) (p : Hd) (hx : a.eval x = .slice (some ⟨w.heap.size, 0, none⟩) 1 1)
    (h : ∀ so' c' w', w'.ownsRow w0.heap.size 73 2 (.slice so' (N + 1) c') (N + 1) (hdsC (hs ++ [p])) → Fr (Value.slice so N c).ownBlock.toList w w' → wpList Tryz.prog ops Q rest (a.put o.dst (.slice so' (N + 1) c')) w') : wpList Tryz.prog ops Q (o :: rest) a (w.alloc (.cells #[.string p.key, .slice p.vo p.L p.cap] 73)) := by
  obtain ⟨i0, hi, hz0, hz1, hz2⟩ := infoHd_parts
  have hmx : 3518437208884 ≤ maxLen := by unfold maxLen; omega
  refine wpList_append_own (w.alloc (.cells #[.string p.key, .slice p.vo p.L p.cap] 73)) hgd s x 23 ho w0.heap.size 73 i0 _ 2 40 Tryz.undHds hi hz0 hz1 hz2 rfl (by decide) (.slice so N c) N (hdsC hs) hsv (owns_keepB hK (Fr.alloc [] w _) (by simp)) ⟨w.heap.size, 0, none⟩ 1 1 (hdC p) hx rfl ?_ (hdC_one p) (by omega) (by omega) (by simp; omega) ?_
  · intro j u hu
    have hr := heap_alloc_new w (.cells #[.string p.key, .slice p.vo p.L p.cap] 73)
    rw [Addr.add_lit, cell_of_row _ _ _ _ _ _ hr, Nat.zero_add]
    simpa [hdC] using hu
  · intro v' w' hown' hg' _
    obtain ⟨bo, cap', rfl⟩ : ∃ bo cap', v' = .slice bo (N + 1) cap' := by
      rcases hown'.2 with ⟨_, h1⟩ | ⟨g, cap, _, rfl, _⟩
      · omega
      · exact ⟨_, cap, rfl⟩
    rw [← hdsC_snoc] at hown'
    exact h bo cap' w' hown' (((Fr.alloc [] w _).mono (by simp)).then (Fr.grown (S := (Value.slice so N c).ownBlock.toList) hg' (fun y hy _ => Option.mem_toList.2 hy)))
/-- One list more. -/
theorem wpList_appLr (w0 w : World) {ops : Array Oper} {rest : List Oper} {o : Oper} {a : Act} {Q : Exit → Act → World → Prop} (hgd : o.guard = none) (s x : Operand)
    (ho : o.op = .call { callee := .builtin .append, args := #[s, x], argTypes := #[59, 59] })
    (so : Option Addr) (N c : Nat) (rs : List Lr) (hsv : a.eval s = .slice so N c) (hK : w.ownsRow w0.heap.size 23 1 (.slice so N c) N (rs.map Lr.v)) (hN : N < 100000) (h0 : w0.heap.size ≤ w.heap.size) (p : Lr) (hx : a.eval x = .slice (some ⟨w.heap.size, 0, none⟩) 1 1)
    (h : ∀ so' c' w', w'.ownsRow w0.heap.size 23 1 (.slice so' (N + 1) c') (N + 1) ((rs ++ [p]).map Lr.v) → Fr (Value.slice so N c).ownBlock.toList w w' → wpList Tryz.prog ops Q rest (a.put o.dst (.slice so' (N + 1) c')) w') : wpList Tryz.prog ops Q (o :: rest) a (w.alloc (.cells #[.slice p.ro p.N p.rc] 23)) := by
  obtain ⟨i0, hi, hz0, hz1, hz2⟩ := infoHds_parts
  have hmx : 3518437208884 ≤ maxLen := by unfold maxLen; omega
  refine wpList_append_own (w.alloc (.cells #[.slice p.ro p.N p.rc] 23)) hgd s x 59 ho w0.heap.size 23 i0 _ 1 24 Tryz.undHdss hi hz0 hz1 hz2 rfl (by decide) (.slice so N c) N (rs.map Lr.v) hsv (owns_keepB hK (Fr.alloc [] w _) (by simp)) ⟨w.heap.size, 0, none⟩ 1 1 [p.v] hx rfl ?_ (by intro u hu; simp at hu; subst hu; rfl) (by omega) (by omega) (by simp; omega) ?_
  · intro j u hu
    have hr := heap_alloc_new w (.cells #[.slice p.ro p.N p.rc] 23)
    rw [Addr.add_lit, cell_of_row _ _ _ _ _ _ hr, Nat.zero_add]
    simpa [Lr.v] using hu
  · intro v' w' hown' hg' _
    obtain ⟨bo, cap', rfl⟩ : ∃ bo cap', v' = .slice bo (N + 1) cap' := by
      rcases hown'.2 with ⟨_, h1⟩ | ⟨g, cap, _, rfl, _⟩
      · omega
      · exact ⟨_, cap, rfl⟩
    have e : rs.map Lr.v ++ [p.v] = (rs ++ [p]).map Lr.v := by simp
    rw [e] at hown'
    exact h bo cap' w' hown' (((Fr.alloc [] w _).mono (by simp)).then (Fr.grown (S := (Value.slice so N c).ownBlock.toList) hg' (fun y hy _ => Option.mem_toList.2 hy)))
/-- The keys of one home, as they came in. -/
def livH (s n : Int) (hs : List Hd) : List Hd := hs.filter (fun h => decide (homeOf s h = n))
theorem livH_kv (s n : Int) (hs : List Hd) : (livH s n hs).map Hd.kv = livK s n hs := rfl
theorem livH_in {s n : Int} {hs : List Hd} {i : Nat} (hi : i < hs.length) (h : homeOf s (hs.getD i Hd.zero) = n) : livH s n (hs.take (i + 1)) = livH s n (hs.take i) ++ [hs.getD i Hd.zero] := by
  unfold livH
  rw [htake_snoc hs i hi, List.filter_append]
  congr 1
  generalize hs.getD i Hd.zero = y at h ⊢
  simp [List.filter_cons, h]
theorem livH_out {s n : Int} {hs : List Hd} {i : Nat} (hi : i < hs.length) (h : homeOf s (hs.getD i Hd.zero) ≠ n) : livH s n (hs.take (i + 1)) = livH s n (hs.take i) := by
  unfold livH
  rw [htake_snoc hs i hi, List.filter_append]
  generalize hs.getD i Hd.zero = y at h ⊢
  simp [List.filter_cons, h]
end Go.Proofs.YtldghdbfhikcoaaGreatDoor

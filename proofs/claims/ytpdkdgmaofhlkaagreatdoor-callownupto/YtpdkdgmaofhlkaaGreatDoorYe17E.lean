/- The document's way to lay one of entries into its place. Conditions as each names them. -/
import Derived.Test.YtpdkdgmaofhlkaaGreatDoorTg17E
import Derived.Test.YtpdkdgmaofhlkaaGreatDoorMj17
namespace Go.Proofs.YtpdkdgmaofhlkaaGreatDoor
open Go.ChangeShapes Go.WideShapes Go.ChangeAt Go.RowKit Go.Lib Go.Sort
set_option linter.unusedVariables false
set_option linter.unusedSimpArgs false
/-- One more, behind a row of one's own. -/
theorem wpList_oneE (w0 w : World) {ops : Array Oper} {rest : List Oper} {o : Oper} {a : Act} {Q : Exit → Act → World → Prop} (hgd : o.guard = none) (s x : Operand)
    (ho : o.op = .call { callee := .builtin .append, args := #[s, x], argTypes := #[50, 50] })
    (so : Option Addr) (N c : Nat) (hs : List Ey) (hsv : a.eval s = .slice so N c) (hK : w.ownsRow w0.heap.size 102 2 (.slice so N c) N (eysC hs)) (hN : N < 1099511627776) (h0 : w0.heap.size ≤ w.heap.size) (p : Ey) (hx : a.eval x = .slice (some ⟨w.heap.size, 0, none⟩) 1 1)
    (h : ∀ so' c' w', w'.ownsRow w0.heap.size 102 2 (.slice so' (N + 1) c') (N + 1) (eysC (hs ++ [p])) → Fr (Value.slice so N c).ownBlock.toList w w' → wpList Tryz.prog ops Q rest (a.put o.dst (.slice so' (N + 1) c')) w') : wpList Tryz.prog ops Q (o :: rest) a (w.alloc (.cells #[.string p.key, .string p.val] 102)) := by
  obtain ⟨i0, hi, hz0, hz1, hz2⟩ := infoKE_parts
  have hmx : 1099511627777 ≤ maxLen := by unfold maxLen; omega
  refine wpList_append_own (w.alloc (.cells #[.string p.key, .string p.val] 102)) hgd s x 50 ho w0.heap.size 102 i0 _ 2 32 Tryz.undKE hi hz0 hz1 hz2 rfl (by decide) (.slice so N c) N (eysC hs) hsv (owns_keepB hK (Fr.alloc [] w _) (by simp)) ⟨w.heap.size, 0, none⟩ 1 1 (eyC p) hx rfl ?_ (oneE p) (by omega) (by omega) (by simp; omega) ?_
  · intro j u hu
    have hr := heap_alloc_new w (.cells #[.string p.key, .string p.val] 102)
    rw [Addr.add_lit, cell_of_row _ _ _ _ _ _ hr, Nat.zero_add]
    simpa [eyC] using hu
  · intro v' w' hown' hg' _
    obtain ⟨bo, cap', rfl⟩ : ∃ bo cap', v' = .slice bo (N + 1) cap' := by
      rcases hown'.2 with ⟨_, h1⟩ | ⟨g, cap, _, rfl, _⟩
      · omega
      · exact ⟨_, cap, rfl⟩
    refine h bo cap' w' ?_ (((Fr.alloc [] w _).mono (by intro y hy _; simp at hy)).then (Fr.grown hg' (fun y hy _ => Option.mem_toList.2 hy)))
    rw [eysC_append]
    have : eysC [p] = eyC p := by simp [eysC]
    rw [this]
    exact hown'
/-- What the loop keeps. -/
structure InsIE (W0 wr : World) (bo : Option Addr) (n bc : Nat) (x : Ey) (ls os : List Ey) (d : Bool) (i : Nat) : Prop where
  len : n = os.length
  own : wr.ownsRow W0.heap.size 102 2 (.slice bo n bc) n (eysC os)
  ins : InsP (ltB Ey.key) x ls os d i
  fr : Fr [] W0 wr
theorem InsIE.keep {W0 wr w2 : World} {bo : Option Addr} {n bc : Nat} {x : Ey} {ls os : List Ey} {d : Bool} {i : Nat} (h : InsIE W0 wr bo n bc x ls os d i) (hf : Fr [] wr w2) : InsIE W0 w2 bo n bc x ls os d i := ⟨h.len, owns_keepB h.own hf (by simp), h.ins, h.fr.then hf⟩
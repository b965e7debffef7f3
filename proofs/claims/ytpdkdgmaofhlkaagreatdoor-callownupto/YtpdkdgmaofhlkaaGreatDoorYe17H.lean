/- The document's way to lay one of keys with their versions into its place. Conditions as each names them. -/
import Derived.Test.YtpdkdgmaofhlkaaGreatDoorTg17H
import Derived.Test.YtpdkdgmaofhlkaaGreatDoorMj17
namespace Go.Proofs.YtpdkdgmaofhlkaaGreatDoor
open Go.ChangeShapes Go.WideShapes Go.ChangeAt Go.RowKit Go.Lib Go.Sort
set_option linter.unusedVariables false
set_option linter.unusedSimpArgs false
/-- One more, behind a row of one's own. -/
theorem wpList_oneH (w0 w : World) {ops : Array Oper} {rest : List Oper} {o : Oper} {a : Act} {Q : Exit → Act → World → Prop} (hgd : o.guard = none) (s x : Operand)
    (ho : o.op = .call { callee := .builtin .append, args := #[s, x], argTypes := #[51, 51] })
    (so : Option Addr) (N c : Nat) (hs : List Hd) (hsv : a.eval s = .slice so N c) (hK : w.ownsRow w0.heap.size 97 2 (.slice so N c) N (hdsC hs)) (hN : N < 1099511627776) (h0 : w0.heap.size ≤ w.heap.size) (p : Hd) (hx : a.eval x = .slice (some ⟨w.heap.size, 0, none⟩) 1 1)
    (h : ∀ so' c' w', w'.ownsRow w0.heap.size 97 2 (.slice so' (N + 1) c') (N + 1) (hdsC (hs ++ [p])) → Fr (Value.slice so N c).ownBlock.toList w w' → wpList Tryz.prog ops Q rest (a.put o.dst (.slice so' (N + 1) c')) w') : wpList Tryz.prog ops Q (o :: rest) a (w.alloc (.cells #[.string p.key, .slice p.vo p.L p.cap] 97)) := by
  obtain ⟨i0, hi, hz0, hz1, hz2⟩ := infoKH_parts
  have hmx : 1099511627777 ≤ maxLen := by unfold maxLen; omega
  refine wpList_append_own (w.alloc (.cells #[.string p.key, .slice p.vo p.L p.cap] 97)) hgd s x 51 ho w0.heap.size 97 i0 _ 2 40 Tryz.undKH hi hz0 hz1 hz2 rfl (by decide) (.slice so N c) N (hdsC hs) hsv (owns_keepB hK (Fr.alloc [] w _) (by simp)) ⟨w.heap.size, 0, none⟩ 1 1 (hdC p) hx rfl ?_ (oneH p) (by omega) (by omega) (by simp; omega) ?_
  · intro j u hu
    have hr := heap_alloc_new w (.cells #[.string p.key, .slice p.vo p.L p.cap] 97)
    rw [Addr.add_lit, cell_of_row _ _ _ _ _ _ hr, Nat.zero_add]
    simpa [hdC] using hu
  · intro v' w' hown' hg' _
    obtain ⟨bo, cap', rfl⟩ : ∃ bo cap', v' = .slice bo (N + 1) cap' := by
      rcases hown'.2 with ⟨_, h1⟩ | ⟨g, cap, _, rfl, _⟩
      · omega
      · exact ⟨_, cap, rfl⟩
    refine h bo cap' w' ?_ (((Fr.alloc [] w _).mono (by intro y hy _; simp at hy)).then (Fr.grown hg' (fun y hy _ => Option.mem_toList.2 hy)))
    rw [hdsC_append]
    have : hdsC [p] = hdC p := by simp [hdsC]
    rw [this]
    exact hown'
/-- What the loop keeps. -/
structure InsIH (W0 wr : World) (bo : Option Addr) (n bc : Nat) (x : Hd) (ls os : List Hd) (d : Bool) (i : Nat) : Prop where
  len : n = os.length
  own : wr.ownsRow W0.heap.size 97 2 (.slice bo n bc) n (hdsC os)
  ins : InsP (ltB Hd.key) x ls os d i
  fr : Fr [] W0 wr
theorem InsIH.keep {W0 wr w2 : World} {bo : Option Addr} {n bc : Nat} {x : Hd} {ls os : List Hd} {d : Bool} {i : Nat} (h : InsIH W0 wr bo n bc x ls os d i) (hf : Fr [] wr w2) : InsIH W0 w2 bo n bc x ls os d i := ⟨h.len, owns_keepB h.own hf (by simp), h.ins, h.fr.then hf⟩
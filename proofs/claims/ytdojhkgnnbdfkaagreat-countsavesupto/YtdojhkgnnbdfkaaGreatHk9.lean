/- Keys with their versions in rows of their own, one more behind. Conditions as each names them. -/
import Derived.Test.YtdojhkgnnbdfkaaGreatSv18
namespace Go.Proofs.YtdojhkgnnbdfkaaGreat
open Go.ChangeShapes Go.WideShapes Go.ChangeAt Go.RowKit Go.Lib Go.Maps
set_option linter.unusedVariables false
set_option linter.unusedSimpArgs false

def hdC (h : Hd) : List Value := [.string h.key, .slice h.vo h.L h.cap]
def hdsC (hs : List Hd) : List Value := hs.flatMap hdC
theorem hdsC_length (hs : List Hd) : (hdsC hs).length = hs.length * 2 := by
  induction hs with
  | nil => rfl
  | cons p ps ih => simp [hdsC, hdC] at *; omega
theorem hdsC_snoc (hs : List Hd) (x : Hd) : hdsC (hs ++ [x]) = hdsC hs ++ hdC x := by simp [hdsC]
theorem hdsC_get (hs : List Hd) (i : Nat) (h : i < hs.length) : (hdsC hs)[i * 2]? = some (.string (hs.getD i Hd.zero).key) ∧ (hdsC hs)[i * 2 + 1]? = some (.slice (hs.getD i Hd.zero).vo (hs.getD i Hd.zero).L (hs.getD i Hd.zero).cap) := by
  induction hs generalizing i with
  | nil => simp at h
  | cons p ps ih =>
    cases i with
    | zero => simp [hdsC, hdC]
    | succ i =>
      have := ih i (by simpa using h)
      have e1 : (hdsC (p :: ps))[(i + 1) * 2]? = (hdsC ps)[i * 2]? := by
        rw [show (i + 1) * 2 = i * 2 + 2 by omega]
        simp [hdsC, hdC]
      have e2 : (hdsC (p :: ps))[(i + 1) * 2 + 1]? = (hdsC ps)[i * 2 + 1]? := by
        rw [show (i + 1) * 2 + 1 = i * 2 + 1 + 2 by omega]
        simp [hdsC, hdC]
      rw [e1, e2]
      simpa using this
theorem hdC_one (h : Hd) : ∀ u ∈ hdC h, u.oneCell' = true := by
  intro u hu
  simp only [hdC, List.mem_cons, List.not_mem_nil, or_false] at hu
  rcases hu with rfl | rfl <;> rfl
/-- Two rows share no block. -/
def Apa (a b : Option Addr) : Prop := ∀ p q, a = some p → b = some q → p.block ≠ q.block
/-- Keys with their versions, handed out: a row of its own, each key's versions in a row of their own, made since w. -/
structure HOut (w w' : World) (ro : Option Addr) (N rc : Nat) (hs : List Hd) : Prop where
  len : N = hs.length
  row : w'.ownsRow w.heap.size 58 2 (.slice ro N rc) N (hdsC hs)
  each : ∀ h ∈ hs, VOut w w' h.vo h.L h.cap h.vs
  apart : hs.Pairwise fun a b => Apa a.vo b.vo
theorem HOut.keep {w w1 w2 : World} {ro : Option Addr} {N rc : Nat} {hs : List Hd} (h : HOut w w1 ro N rc hs) (hf : Fr [] w1 w2) : HOut w w2 ro N rc hs := ⟨h.len, owns_keepB h.row hf (by simp), fun x hx => (h.each x hx).keepS hf (by simp), h.apart⟩
theorem VOut.block {w w' : World} {ro : Option Addr} {N rc : Nat} {vs : List Vn} (h : VOut w w' ro N rc vs) (p : Addr) (hp : ro = some p) : w.heap.size ≤ p.block ∧ p.block < w'.heap.size := by
  obtain ⟨rf, _, ho⟩ := h.own
  have e : (Value.slice ro N rf).ownBlock = some p.block := by rw [hp]; rfl
  obtain ⟨h1, cur, h2⟩ := owns_cells ho e
  exact ⟨h1, lt_of_block h2⟩
theorem HOut.newApart {w wr w2 : World} {ro : Option Addr} {N rc : Nat} {hs : List Hd} {vo : Option Addr} {L c : Nat} {vs : List Vn} (h : HOut w wr ro N rc hs) (hV : VOut wr w2 vo L c vs) : ∀ x ∈ hs, Apa x.vo vo := by
  intro x hx p q hp hq e
  have h1 := (h.each x hx).block p hp
  have h2 := hV.block q hq
  omega
theorem HOut.rs {w w' : World} {ro : Option Addr} {N rc : Nat} {hs : List Hd} (h : HOut w w' ro N rc hs) (hl : LoOk hs) (hN : N ≤ 3518437208882) : HRs w' ro hs := by
  refine ⟨fun h0 => ?_, by rw [← h.len]; exact hN, fun x hx => ?_⟩
  · rcases h.row.2 with ⟨_, h1⟩ | ⟨g, cap, cur, hv, _, hg, _, _, _, ht⟩
    · have := h.len; omega
    · cases hv
      refine ⟨g, 0, rfl, lt_of_block hg, fun i hi => ?_⟩
      obtain ⟨e1, e2⟩ := hdsC_get hs i hi
      have hN2 := h.len
      constructor
      · rw [cell_of_row _ _ _ _ _ _ hg, Nat.zero_add, ← Array.getElem?_toList, ← e1, ← ht, List.getElem?_take_of_lt (by omega)]
      · rw [cell_of_row _ _ _ _ _ _ hg, Nat.zero_add, ← Array.getElem?_toList, ← e2, ← ht, List.getElem?_take_of_lt (by omega)]
  · have hV := h.each x hx
    have ho := hl.2 x hx
    exact ⟨by have := ho.1.2; omega, hV.len, hV.cap, hV.each ho.2.2⟩
theorem Tryz.undHds : Tryz.prog.underlying 25 = some (.slice 58) := by kernel_rfl
theorem Tryz.infoHd : (Tryz.prog.info? 58).map (fun i => (i.zero, i.size, i.bytes)) = some (some (.agg #[.string ⟨#[]⟩, .slice none 0 0]), 2, 40) := by kernel_rfl
theorem infoHd_parts : ∃ i, Tryz.prog.info? 58 = some i ∧ i.zero = some (.agg #[.string ⟨#[]⟩, .slice none 0 0]) ∧ i.size = 2 ∧ i.bytes = 40 := by
  have h := Tryz.infoHd
  cases hi : Tryz.prog.info? 58 with
  | none => rw [hi] at h; cases h
  | some i =>
    rw [hi] at h
    simp only [Option.map_some, Option.some.injEq, Prod.mk.injEq] at h
    exact ⟨i, rfl, h.1, h.2.1, h.2.2⟩
/-- One key with its versions more. -/
theorem wpList_appH (w0 w : World) {ops : Array Oper} {rest : List Oper} {o : Oper} {a : Act} {Q : Exit → Act → World → Prop} (hgd : o.guard = none) (s x : Operand)
    (ho : o.op = .call { callee := .builtin .append, args := #[s, x], argTypes := #[25, 25] })
    (so : Option Addr) (N c : Nat) (hs : List Hd) (hsv : a.eval s = .slice so N c) (hK : HOut w0 w so N c hs) (hN : N < 3518437208883) (h0 : w0.heap.size ≤ w.heap.size) (p : Hd) (hV : VOut w0 w p.vo p.L p.cap p.vs) (hAp : ∀ x ∈ hs, Apa x.vo p.vo) (hx : a.eval x = .slice (some ⟨w.heap.size, 0, none⟩) 1 1)
    (h : ∀ so' c' w', HOut w0 w' so' (N + 1) c' (hs ++ [p]) → Fr (Value.slice so N c).ownBlock.toList w w' → wpList Tryz.prog ops Q rest (a.put o.dst (.slice so' (N + 1) c')) w') : wpList Tryz.prog ops Q (o :: rest) a (w.alloc (.cells #[.string p.key, .slice p.vo p.L p.cap] 58)) := by
  obtain ⟨i0, hi, hz0, hz1, hz2⟩ := infoHd_parts
  have hmx : 3518437208884 ≤ maxLen := by unfold maxLen; omega
  refine wpList_append_own (w.alloc (.cells #[.string p.key, .slice p.vo p.L p.cap] 58)) hgd s x 25 ho w0.heap.size 58 i0 _ 2 40 Tryz.undHds hi hz0 hz1 hz2 rfl (by decide) (.slice so N c) N (hdsC hs) hsv (owns_keepB hK.row (Fr.alloc [] w _) (by simp)) ⟨w.heap.size, 0, none⟩ 1 1 (hdC p) hx rfl ?_ (hdC_one p) (by omega) (by omega) (by simp; omega) ?_
  · intro j u hu
    have hr := heap_alloc_new w (.cells #[.string p.key, .slice p.vo p.L p.cap] 58)
    rw [Addr.add_lit, cell_of_row _ _ _ _ _ _ hr, Nat.zero_add]
    simpa [hdC] using hu
  · intro v' w' hown' hg' _
    obtain ⟨bo, cap', rfl⟩ : ∃ bo cap', v' = .slice bo (N + 1) cap' := by
      rcases hown'.2 with ⟨_, h1⟩ | ⟨g, cap, _, rfl, _⟩
      · omega
      · exact ⟨_, cap, rfl⟩
    rw [← hdsC_snoc] at hown'
    have hF : Fr (Value.slice so N c).ownBlock.toList w w' := ((Fr.alloc [] w _).mono (by simp)).then (Fr.grown (S := (Value.slice so N c).ownBlock.toList) hg' (fun y hy _ => Option.mem_toList.2 hy))
    refine h bo cap' w' ⟨by rw [hK.len]; simp, hown', fun y hy => ?_, by rw [List.pairwise_append]; exact ⟨hK.apart, List.pairwise_singleton _ _, fun a ha b hb => by simp at hb; subst hb; exact hAp a ha⟩⟩ hF
    have hVy : VOut w0 w y.vo y.L y.cap y.vs := by
      rcases List.mem_append.1 hy with h1 | h1
      · exact hK.each y h1
      · simp at h1; subst h1; exact hV
    refine hVy.keepS hF fun j hj hm => ?_
    obtain ⟨_, c1, e1⟩ := hVy.blk j hj
    obtain ⟨_, c2, e2⟩ := owns_cells hK.row (Option.mem_toList.1 hm)
    rw [e1] at e2
    simp only [Option.some.injEq, Obj.cells.injEq] at e2
    exact absurd e2.2.1 (by decide)
end Go.Proofs.YtdojhkgnnbdfkaaGreat

/- Texts of this claim laid together, one behind the other: contracts and plain lemmas; conditions as each names them. -/
import Derived.Test.YtdojhkgnnbdfkaaGreatGp1
import Derived.Maps.OwnOps
import Derived.Maps.AppendAt
import Derived.Test.YtdojhkgnnbdfkaaGreatGp12
import Derived.Test.YtdojhkgnnbdfkaaGreatGp13
/- Rows of numbers of one's own: reading, one more behind, as a step of a walk. Conditions as each names them. -/
namespace Go.Proofs.YtdojhkgnnbdfkaaGreat
open Go.ChangeShapes Go.WideShapes Go.ChangeAt Go.RowKit Go.Lib Go.Maps
set_option linter.unusedVariables false
set_option linter.unusedSimpArgs false

/-- Numbers as cells. -/
def ints (ns : List Int) : List Value := ns.map (Value.int .i64)
theorem ints_length (ns : List Int) : (ints ns).length = ns.length := by simp [ints]
theorem owns_keepI {S : List Nat} {w w' : World} {base : Nat} {e : TypeId} {size : Nat} {v : Value} {n : Nat} {xs : List Value} (h : w.ownsRow base e size v n xs) (hf : Fr S w w') (hn : ∀ k, v.ownBlock = some k → k ∉ S) : w'.ownsRow base e size v n xs := by
  refine ⟨h.1, ?_⟩
  rcases h.2 with hh | ⟨g, cap, cur, rfl, hb, hgg, rest⟩
  · exact .inl hh
  · exact .inr ⟨g, cap, cur, rfl, hb, hf.keep hgg (hn g rfl), rest⟩
/-- A row of numbers of one's own; its block is not below base. -/
structure IOw (base : Nat) (w : World) (o : Option Addr) (n c : Nat) (xs : List Int) : Prop where
  len : n = xs.length
  row : w.ownsRow base 3 1 (.slice o n c) n (ints xs)
section
variable {base : Nat} {w w' : World} {o : Option Addr} {n c : Nat} {xs : List Int}
theorem IOw.nil (base : Nat) (w : World) : IOw base w none 0 0 [] := ⟨rfl, rfl, .inl ⟨rfl, rfl⟩⟩
theorem IOw.keepS {S : List Nat} (h : IOw base w o n c xs) (hf : Fr S w w') (hn : ∀ k, (Value.slice o n c).ownBlock = some k → k ∉ S) : IOw base w' o n c xs := ⟨h.len, owns_keepI h.row hf hn⟩
theorem IOw.keep (h : IOw base w o n c xs) (hf : Fr [] w w') : IOw base w' o n c xs := h.keepS hf (by simp)
theorem IOw.blk (h : IOw base w o n c xs) {k : Nat} (hk : (Value.slice o n c).ownBlock = some k) : base ≤ k ∧ ∃ cur, w.heap[k]? = some (.cells cur 3 (0, 0)) := by
  rcases h.row.2 with ⟨hh, _⟩ | ⟨g, cap, cur, hh, hb, hgg, _⟩
  · rw [hh] at hk; simp [Value.ownBlock] at hk
  · rw [hh] at hk
    simp [Value.ownBlock] at hk
    subst hk
    exact ⟨hb, cur, hgg⟩
theorem IOw.low {b' : Nat} (h : IOw base w o n c xs) (hb : b' ≤ base) : IOw b' w o n c xs := by
  refine ⟨h.len, h.row.1, ?_⟩
  rcases h.row.2 with hh | ⟨g, cap, cur, hh, hb', rest⟩
  · exact .inl hh
  · exact .inr ⟨g, cap, cur, hh, Nat.le_trans hb hb', rest⟩
theorem IOw.cap (h : IOw base w o n c xs) : n ≤ c := by
  rcases h.row.2 with ⟨hh, h0⟩ | ⟨g, cap, cur, hh, hb', hg, hc, _⟩
  · omega
  · cases hh; exact hc
theorem IOw.at (h : IOw base w o n c xs) (i : Nat) (hi : i < xs.length) : ∃ g, o = some ⟨g, 0, none⟩ ∧ base ≤ g ∧ w.cell? ⟨g, i, none⟩ = some (.int .i64 (xs.getD i 0)) := by
  rcases h.row.2 with ⟨_, h0⟩ | ⟨g, cap, cur, hv, hb, hg, _, _, _, ht⟩
  · have := h.len; omega
  · cases hv
    refine ⟨g, rfl, hb, ?_⟩
    have hN := h.len
    rw [cell_of_row _ _ _ _ _ _ hg, ← Array.getElem?_toList]
    have h1 : (cur.toList.take (n * 1))[i]? = (ints xs)[i]? := by rw [ht]
    rw [List.getElem?_take_of_lt (by omega)] at h1
    rw [h1]
    simp [ints, List.getD, hi]
/-- Its cells, all. -/
theorem IOw.cells (h : IOw base w o n c xs) (h0 : 0 < n) : ∃ g, o = some ⟨g, 0, none⟩ ∧ base ≤ g ∧ g < w.heap.size ∧ ∀ i, i < n → w.cell? ⟨g, i, none⟩ = some (.int .i64 (xs.getD i 0)) := by
  obtain ⟨g, hg, hb, _⟩ := h.at 0 (by rw [← h.len]; exact h0)
  obtain ⟨_, cur, hc⟩ := h.blk (k := g) (by rw [hg]; rfl)
  refine ⟨g, hg, hb, lt_of_block hc, fun i hi => ?_⟩
  obtain ⟨g', hg', _, h2⟩ := h.at i (by rw [← h.len]; exact hi)
  rw [hg] at hg'
  cases hg'
  exact h2
end
theorem cell_new1 (w : World) (v : Value) (t : TypeId) : (w.alloc (.cells #[v] t)).cell? ⟨w.heap.size, 0, none⟩ = some v := by
  rw [cell_of_row _ _ _ _ _ _ (heap_alloc_new w (.cells #[v] t))]; rfl
theorem cell_new2 (w : World) (o : Obj) (v : Value) (t : TypeId) : ((w.alloc o).alloc (.cells #[v] t)).cell? ⟨w.heap.size + 1, 0, none⟩ = some v := by
  have h := cell_new1 (w.alloc o) v t
  rw [show (w.alloc o).heap.size = w.heap.size + 1 from by simp] at h
  exact h
theorem IOw.on {base : Nat} {w0 w W W' : World} {o : Option Addr} {n c : Nat} {xs : List Int} (h : IOw base w o n c xs) (hb : w0.heap.size ≤ base) (h0 : Fr [] w0 w) (h1 : Fr [] w W) (h2 : Fr (Value.slice o n c).ownBlock.toList W W') : Fr [] w0 W' :=
  (h0.then h1).on h2 (fun x hx => Nat.le_trans hb (h.blk (Option.mem_toList.1 hx)).1)
theorem Tryz.undIs11 : Tryz.prog.underlying 24 = some (.slice 3) := by kernel_rfl
theorem Tryz.infoI11 : (Tryz.prog.info? 3).map (fun i => (i.zero, i.size, i.bytes)) = some (some (.int .i64 0), 1, 8) := by kernel_rfl
theorem infoI_parts : ∃ i, Tryz.prog.info? 3 = some i ∧ i.zero = some (.int .i64 0) ∧ i.size = 1 ∧ i.bytes = 8 := by
  have h := Tryz.infoI11
  cases hi : Tryz.prog.info? 3 with
  | none => rw [hi] at h; cases h
  | some i =>
    rw [hi] at h
    simp only [Option.map_some, Option.some.injEq, Prod.mk.injEq] at h
    exact ⟨i, rfl, h.1, h.2.1, h.2.2⟩
/-- One more behind a row of one's own; and where it lies then. -/
theorem run_appI (base : Nat) (w : World) (ty : TypeId) (o : Option Addr) (n c : Nat) (xs : List Int) (hO : IOw base w o n c xs) (ad : Addr) (cc : Nat) (x : Int) (hx : w.cell? ad = some (.int .i64 x)) (hn : n < 1099511627776) (hb : base ≤ w.heap.size) :
    ∃ o' c' w', (Builtin.append_ #[24, 24] ty #[.slice o n c, .slice (some ad) 1 cc]).run Tryz.prog w = .ok (.slice o' (n + 1) c') w' ∧ IOw base w' o' (n + 1) c' (xs ++ [x]) ∧ Fr (Value.slice o n c).ownBlock.toList w w' ∧ (∀ g, (Value.slice o' (n + 1) c').ownBlock = some g → (Value.slice o n c).ownBlock = some g ∨ w.heap.size ≤ g) := by
  obtain ⟨i0, hi, hz0, hz1, hz2⟩ := infoI_parts
  have hmx : 2199023255552 ≤ maxLen := by unfold maxLen; omega
  have hnews : ∀ j u, ([Value.int .i64 x] : List Value)[j]? = some u → w.cell? (ad.add j) = some u := by
    intro j u hu
    match j, hu with
    | 0, hu => rw [show ad.add 0 = ad from by cases ad; simp [Addr.add], hx]; exact hu
    | (j + 1), hu => simp at hu
  obtain ⟨v', w', hr, h2, h3, h4, h5⟩ := run_append_own_at (P := Tryz.prog) w base 24 ty 3 i0 _ 1 8 Tryz.undIs11 hi hz0 hz1 hz2 rfl (by decide) (.slice o n c) n (ints xs) hO.row ad 1 cc [.int .i64 x] rfl hnews (by intro u hu; simp at hu; subst hu; rfl) (by omega) (by omega) hb
  obtain ⟨o', c', rfl⟩ : ∃ o' c', v' = .slice o' (n + 1) c' := by
    rcases h2.2 with ⟨_, h1⟩ | ⟨g, cap, _, rfl, _⟩
    · omega
    · exact ⟨_, cap, rfl⟩
  have hst : ints (xs ++ [x]) = ints xs ++ [.int .i64 x] := by simp [ints]
  refine ⟨o', c', w', hr, ⟨by rw [hO.len]; simp, by rw [hst]; exact h2⟩, Fr.grown h3 (fun y hy _ => Option.mem_toList.2 hy), fun g hg => ?_⟩
  rcases h5 with h5 | h5
  · rw [h5] at hg; exact Or.inl hg
  · rw [h5] at hg
    simp only [Option.some.injEq] at hg
    exact Or.inr (by omega)
theorem wpList_appI (base : Nat) (w : World) {ops : Array Oper} {rest : List Oper} {op : Oper} {a : Act} {Q : Exit → Act → World → Prop} (hgd : op.guard = none) (s x : Operand)
    (ho : op.op = .call { callee := .builtin .append, args := #[s, x], argTypes := #[24, 24] })
    (o : Option Addr) (n c : Nat) (xs : List Int) (hs : a.eval s = .slice o n c) (hO : IOw base w o n c xs) (ad : Addr) (cc : Nat) (y : Int) (hx : a.eval x = .slice (some ad) 1 cc) (hy : w.cell? ad = some (.int .i64 y)) (hn : n < 1099511627776) (hb : base ≤ w.heap.size)
    (h : ∀ o' c' w', IOw base w' o' (n + 1) c' (xs ++ [y]) → Fr (Value.slice o n c).ownBlock.toList w w' → (∀ g, (Value.slice o' (n + 1) c').ownBlock = some g → (Value.slice o n c).ownBlock = some g ∨ w.heap.size ≤ g) → wpList Tryz.prog ops Q rest (a.put op.dst (.slice o' (n + 1) c')) w') : wpList Tryz.prog ops Q (op :: rest) a w := by
  refine wpList_plain hgd fun K hK => ?_
  obtain ⟨o', c', w', hr, h2, h3, h4⟩ := run_appI base w op.type o n c xs hO ad cc y hy hn hb
  unfold Oper.wp execOp
  simp only [ho, resolve, invoke, builtin, Sem.run_bind, Sem.run_pure, Result.andThen_ok, List.map_toArray, List.map_cons, List.map_nil, hs, hx, hr]
  exact hK _ _ (h o' c' w' h2 h3 h4)
/-- The same as one step of a region that draws its order. -/
theorem step_appI (base : Nat) (w : World) {ops : Array Oper} {op : Oper} {a : Act} {K : Act → World → Prop} {Q : Exit → Act → World → Prop} {E : Prop} (hg : op.guard = none) (s x : Operand)
    (ho : op.op = .call { callee := .builtin .append, args := #[s, x], argTypes := #[24, 24] })
    (o : Option Addr) (n c : Nat) (xs : List Int) (hs : a.eval s = .slice o n c) (hO : IOw base w o n c xs) (ad : Addr) (cc : Nat) (y : Int) (hx : a.eval x = .slice (some ad) 1 cc) (hy : w.cell? ad = some (.int .i64 y)) (hn : n < 1099511627776) (hb : base ≤ w.heap.size)
    (h : ∀ o' c' w', IOw base w' o' (n + 1) c' (xs ++ [y]) → Fr (Value.slice o n c).ownBlock.toList w w' → (∀ g, (Value.slice o' (n + 1) c').ownBlock = some g → (Value.slice o n c).ownBlock = some g ∨ w.heap.size ≤ g) → K (a.put op.dst (.slice o' (n + 1) c')) w') :
    if Region.wanted op (yielded ops a.tmps) = true then Oper.wp Tryz.prog op a w K Q else E := by
  have hw : Region.wanted op (yielded ops a.tmps) = true := by simp [Region.wanted, hg]
  rw [if_pos hw]
  obtain ⟨o', c', w', hr, h2, h3, h4⟩ := run_appI base w op.type o n c xs hO ad cc y hy hn hb
  unfold Oper.wp execOp
  simp only [ho, resolve, invoke, builtin, Sem.run_bind, Sem.run_pure, Result.andThen_ok, List.map_toArray, List.map_cons, List.map_nil, hs, hx, hr]
  exact h o' c' w' h2 h3 h4
end Go.Proofs.YtdojhkgnnbdfkaaGreat
/- Keys with their versions in rows of their own, one more behind. Conditions as each names them. -/
namespace Go.Proofs.YtdojhkgnnbdfkaaGreat
open Go.ChangeShapes Go.WideShapes Go.ChangeAt Go.RowKit Go.Lib Go.Maps
set_option linter.unusedVariables false
set_option linter.unusedSimpArgs false

def hdC (h : Hd) : List Value := [.string h.key, .slice h.vo h.L h.cap]
def hdsC (hs : List Hd) : List Value := hs.flatMap hdC
theorem hdsC_length (hs : List Hd) : (hdsC hs).length = hs.length * 2 := by
  induction hs with
  | nil => rfl
  | cons p ps ih => simp [hdsC, hdC] at *; omega
theorem hdsC_snoc (hs : List Hd) (x : Hd) : hdsC (hs ++ [x]) = hdsC hs ++ hdC x := by simp [hdsC]
theorem hdsC_get (hs : List Hd) (i : Nat) (h : i < hs.length) : (hdsC hs)[i * 2]? = some (.string (hs.getD i Hd.zero).key) ∧ (hdsC hs)[i * 2 + 1]? = some (.slice (hs.getD i Hd.zero).vo (hs.getD i Hd.zero).L (hs.getD i Hd.zero).cap) := by
  induction hs generalizing i with
  | nil => simp at h
  | cons p ps ih =>
    cases i with
    | zero => simp [hdsC, hdC]
    | succ i =>
      have := ih i (by simpa using h)
      have e1 : (hdsC (p :: ps))[(i + 1) * 2]? = (hdsC ps)[i * 2]? := by
        rw [show (i + 1) * 2 = i * 2 + 2 by omega]
        simp [hdsC, hdC]
      have e2 : (hdsC (p :: ps))[(i + 1) * 2 + 1]? = (hdsC ps)[i * 2 + 1]? := by
        rw [show (i + 1) * 2 + 1 = i * 2 + 1 + 2 by omega]
        simp [hdsC, hdC]
      rw [e1, e2]
      simpa using this
theorem hdC_one (h : Hd) : ∀ u ∈ hdC h, u.oneCell' = true := by
  intro u hu
  simp only [hdC, List.mem_cons, List.not_mem_nil, or_false] at hu
  rcases hu with rfl | rfl <;> rfl
/-- Two rows share no block. -/
def Apa (a b : Option Addr) : Prop := ∀ p q, a = some p → b = some q → p.block ≠ q.block
/-- Keys with their versions, handed out: a row of its own, each key's versions in a row of their own, made since w. -/
structure HOut (w w' : World) (ro : Option Addr) (N rc : Nat) (hs : List Hd) : Prop where
  len : N = hs.length
  row : w'.ownsRow w.heap.size 58 2 (.slice ro N rc) N (hdsC hs)
  each : ∀ h ∈ hs, VOut w w' h.vo h.L h.cap h.vs
  apart : hs.Pairwise fun a b => Apa a.vo b.vo
theorem HOut.keep {w w1 w2 : World} {ro : Option Addr} {N rc : Nat} {hs : List Hd} (h : HOut w w1 ro N rc hs) (hf : Fr [] w1 w2) : HOut w w2 ro N rc hs := ⟨h.len, owns_keepB h.row hf (by simp), fun x hx => (h.each x hx).keepS hf (by simp), h.apart⟩
theorem VOut.block {w w' : World} {ro : Option Addr} {N rc : Nat} {vs : List Vn} (h : VOut w w' ro N rc vs) (p : Addr) (hp : ro = some p) : w.heap.size ≤ p.block ∧ p.block < w'.heap.size := by
  obtain ⟨rf, _, ho⟩ := h.own
  have e : (Value.slice ro N rf).ownBlock = some p.block := by rw [hp]; rfl
  obtain ⟨h1, cur, h2⟩ := owns_cells ho e
  exact ⟨h1, lt_of_block h2⟩
theorem HOut.newApart {w wr w2 : World} {ro : Option Addr} {N rc : Nat} {hs : List Hd} {vo : Option Addr} {L c : Nat} {vs : List Vn} (h : HOut w wr ro N rc hs) (hV : VOut wr w2 vo L c vs) : ∀ x ∈ hs, Apa x.vo vo := by
  intro x hx p q hp hq e
  have h1 := (h.each x hx).block p hp
  have h2 := hV.block q hq
  omega
theorem HOut.rs {w w' : World} {ro : Option Addr} {N rc : Nat} {hs : List Hd} (h : HOut w w' ro N rc hs) (hl : LoOk hs) (hN : N ≤ 3518437208882) : HRs w' ro hs := by
  refine ⟨fun h0 => ?_, by rw [← h.len]; exact hN, fun x hx => ?_⟩
  · rcases h.row.2 with ⟨_, h1⟩ | ⟨g, cap, cur, hv, _, hg, _, _, _, ht⟩
    · have := h.len; omega
    · cases hv
      refine ⟨g, 0, rfl, lt_of_block hg, fun i hi => ?_⟩
      obtain ⟨e1, e2⟩ := hdsC_get hs i hi
      have hN2 := h.len
      constructor
      · rw [cell_of_row _ _ _ _ _ _ hg, Nat.zero_add, ← Array.getElem?_toList, ← e1, ← ht, List.getElem?_take_of_lt (by omega)]
      · rw [cell_of_row _ _ _ _ _ _ hg, Nat.zero_add, ← Array.getElem?_toList, ← e2, ← ht, List.getElem?_take_of_lt (by omega)]
  · have hV := h.each x hx
    have ho := hl.2 x hx
    exact ⟨by have := ho.1.2; omega, hV.len, hV.cap, hV.each ho.2.2⟩
theorem Tryz.undHds : Tryz.prog.underlying 25 = some (.slice 58) := by kernel_rfl
theorem Tryz.infoHd : (Tryz.prog.info? 58).map (fun i => (i.zero, i.size, i.bytes)) = some (some (.agg #[.string ⟨#[]⟩, .slice none 0 0]), 2, 40) := by kernel_rfl
theorem infoHd_parts : ∃ i, Tryz.prog.info? 58 = some i ∧ i.zero = some (.agg #[.string ⟨#[]⟩, .slice none 0 0]) ∧ i.size = 2 ∧ i.bytes = 40 := by
  have h := Tryz.infoHd
  cases hi : Tryz.prog.info? 58 with
  | none => rw [hi] at h; cases h
  | some i =>
    rw [hi] at h
    simp only [Option.map_some, Option.some.injEq, Prod.mk.injEq] at h
    exact ⟨i, rfl, h.1, h.2.1, h.2.2⟩
/-- One key with its versions more. -/
theorem wpList_appH (w0 w : World) {ops : Array Oper} {rest : List Oper} {o : Oper} {a : Act} {Q : Exit → Act → World → Prop} (hgd : o.guard = none) (s x : Operand)
    (ho : o.op = .call { callee := .builtin .append, args := #[s, x], argTypes := #[25, 25] })
    (so : Option Addr) (N c : Nat) (hs : List Hd) (hsv : a.eval s = .slice so N c) (hK : HOut w0 w so N c hs) (hN : N < 3518437208883) (h0 : w0.heap.size ≤ w.heap.size) (p : Hd) (hV : VOut w0 w p.vo p.L p.cap p.vs) (hAp : ∀ x ∈ hs, Apa x.vo p.vo) (hx : a.eval x = .slice (some ⟨w.heap.size, 0, none⟩) 1 1)
    (h : ∀ so' c' w', HOut w0 w' so' (N + 1) c' (hs ++ [p]) → Fr (Value.slice so N c).ownBlock.toList w w' → wpList Tryz.prog ops Q rest (a.put o.dst (.slice so' (N + 1) c')) w') : wpList Tryz.prog ops Q (o :: rest) a (w.alloc (.cells #[.string p.key, .slice p.vo p.L p.cap] 58)) := by
  obtain ⟨i0, hi, hz0, hz1, hz2⟩ := infoHd_parts
  have hmx : 3518437208884 ≤ maxLen := by unfold maxLen; omega
  refine wpList_append_own (w.alloc (.cells #[.string p.key, .slice p.vo p.L p.cap] 58)) hgd s x 25 ho w0.heap.size 58 i0 _ 2 40 Tryz.undHds hi hz0 hz1 hz2 rfl (by decide) (.slice so N c) N (hdsC hs) hsv (owns_keepB hK.row (Fr.alloc [] w _) (by simp)) ⟨w.heap.size, 0, none⟩ 1 1 (hdC p) hx rfl ?_ (hdC_one p) (by omega) (by omega) (by simp; omega) ?_
  · intro j u hu
    have hr := heap_alloc_new w (.cells #[.string p.key, .slice p.vo p.L p.cap] 58)
    rw [Addr.add_lit, cell_of_row _ _ _ _ _ _ hr, Nat.zero_add]
    simpa [hdC] using hu
  · intro v' w' hown' hg' _
    obtain ⟨bo, cap', rfl⟩ : ∃ bo cap', v' = .slice bo (N + 1) cap' := by
      rcases hown'.2 with ⟨_, h1⟩ | ⟨g, cap, _, rfl, _⟩
      · omega
      · exact ⟨_, cap, rfl⟩
    rw [← hdsC_snoc] at hown'
    have hF : Fr (Value.slice so N c).ownBlock.toList w w' := ((Fr.alloc [] w _).mono (by simp)).then (Fr.grown (S := (Value.slice so N c).ownBlock.toList) hg' (fun y hy _ => Option.mem_toList.2 hy))
    refine h bo cap' w' ⟨by rw [hK.len]; simp, hown', fun y hy => ?_, by rw [List.pairwise_append]; exact ⟨hK.apart, List.pairwise_singleton _ _, fun a ha b hb => by simp at hb; subst hb; exact hAp a ha⟩⟩ hF
    have hVy : VOut w0 w y.vo y.L y.cap y.vs := by
      rcases List.mem_append.1 hy with h1 | h1
      · exact hK.each y h1
      · simp at h1; subst h1; exact hV
    refine hVy.keepS hF fun j hj hm => ?_
    obtain ⟨_, c1, e1⟩ := hVy.blk j hj
    obtain ⟨_, c2, e2⟩ := owns_cells hK.row (Option.mem_toList.1 hm)
    rw [e1] at e2
    simp only [Option.some.injEq, Obj.cells.injEq] at e2
    exact absurd e2.2.1 (by decide)
end Go.Proofs.YtdojhkgnnbdfkaaGreat
/- Lists that the taker takes: of versions, of numbers. Conditions as each names them. -/
namespace Go.Proofs.YtdojhkgnnbdfkaaGreat
open Go.ChangeShapes Go.WideShapes Go.ChangeAt Go.RowKit Go.Lib Go.Maps
set_option linter.unusedVariables false
set_option linter.unusedSimpArgs false

def gl {α : Type} (l : List α) : Except Nat (List α × List Nat) → Except Nat (List α × List Nat)
  | .error e => .error e
  | .ok (m, r) => .ok (l ++ m, r)
theorem gl_nil {α : Type} (x : Except Nat (List α × List Nat)) : gl [] x = x := by
  cases x with
  | error e => rfl
  | ok p => rfl
theorem gl_ok {α : Type} {f : List Nat → Except Nat (α × List Nat)} {l : List α} {k : Nat} {ys zs : List Nat} {x : α} (h : f ys = .ok (x, zs)) : gl l (dR f (k + 1) ys) = gl (l ++ [x]) (dR f k zs) := by
  rw [dR, h]
  simp only
  cases dR f k zs with
  | error e => rfl
  | ok p => simp [gl]
theorem gl_err {α : Type} {f : List Nat → Except Nat (α × List Nat)} {l : List α} {k c : Nat} {ys : List Nat} (h : f ys = .error c) : gl l (dR f (k + 1) ys) = .error c := by
  rw [dR, h]
  rfl
theorem gl_end {α : Type} (f : List Nat → Except Nat (α × List Nat)) (l : List α) (ys : List Nat) : gl l (dR f 0 ys) = .ok (l, ys) := by simp [dR, gl]
theorem dN_few {xs ys : List Nat} {n : Nat} (h : dN xs = .ok (n, ys)) : n ≤ 65536 := by
  have h3 := (tk_inv h).2.2.1
  unfold refL at h3
  split at h3
  · cases h3
  · omega
theorem dL_of {α : Type} {f : List Nat → Except Nat (α × List Nat)} {xs ys : List Nat} {n : Nat} (h : dN xs = .ok (n, ys)) : dL f xs = dR f n ys := by unfold dL; rw [h]
theorem dL_no {α : Type} {f : List Nat → Except Nat (α × List Nat)} {xs : List Nat} {c : Nat} (h : dN xs = .error c) : dL f xs = .error c := by unfold dL; rw [h]
/-- The taker's blocks hold no other things. -/
theorem Tl.ntype {w : World} {t g r : Nat} {ys : List Nat} (h : Tl w t g r ys) {e : TypeId} (h1 : e ≠ 168) (h2 : e ≠ 178) : ∀ j ∈ [t, g], ∀ cs, w.heap[j]? ≠ some (.cells cs e (0, 0)) := by
  intro j hj cs hc
  obtain ⟨ao, cap, hR⟩ := h.rd
  simp only [List.mem_cons, List.not_mem_nil, or_false] at hj
  rcases hj with rfl | rfl
  · rw [h.tb.box] at hc
    simp only [Option.some.injEq, Obj.cells.injEq] at hc
    exact h1 hc.2.1.symm
  · rw [hR.box] at hc
    simp only [Option.some.injEq, Obj.cells.injEq] at hc
    exact h2 hc.2.1.symm
theorem Tl.noOwn {w : World} {t g r : Nat} {ys : List Nat} (h : Tl w t g r ys) {base : Nat} {e : TypeId} {size : Nat} {v : Value} {n : Nat} {xs : List Value} (ho : w.ownsRow base e size v n xs) (h1 : e ≠ 168) (h2 : e ≠ 178) : ∀ k, v.ownBlock = some k → k ∉ [t, g] := by
  intro k hk hm
  obtain ⟨_, cur, hc⟩ := owns_cells ho hk
  exact h.ntype h1 h2 k hm cur hc
theorem Tl.noOwnR {w : World} {t g r : Nat} {ys : List Nat} (h : Tl w t g r ys) (w0 : World) (hr0 : r < w0.heap.size) {e : TypeId} {size : Nat} {v : Value} {n : Nat} {xs : List Value} (ho : w.ownsRow w0.heap.size e size v n xs) (h1 : e ≠ 168) (h2 : e ≠ 178) : t ∉ v.ownBlock.toList ∧ g ∉ v.ownBlock.toList ∧ r ∉ v.ownBlock.toList := by
  refine ⟨fun hh => ?_, fun hh => ?_, fun hh => ?_⟩
  · exact h.noOwn ho h1 h2 t (Option.mem_toList.1 hh) (by simp)
  · exact h.noOwn ho h1 h2 g (Option.mem_toList.1 hh) (by simp)
  · have := (owns_cells ho (Option.mem_toList.1 hh)).1
    omega
/-- One version more. -/
theorem wpList_appX (w0 w : World) {ops : Array Oper} {rest : List Oper} {o : Oper} {a : Act} {Q : Exit → Act → World → Prop} (hgd : o.guard = none) (s x : Operand)
    (ho : o.op = .call { callee := .builtin .append, args := #[s, x], argTypes := #[56, 56] })
    (so : Option Addr) (N c : Nat) (vs : List Vn) (hsv : a.eval s = .slice so N c) (hK : w.ownsRow w0.heap.size 74 3 (.slice so N c) N (vnsC vs)) (hN : N < 3518437208) (h0 : w0.heap.size ≤ w.heap.size) (p : Vn) (hx : a.eval x = .slice (some ⟨w.heap.size, 0, none⟩) 1 1)
    (h : ∀ so' c' w', w'.ownsRow w0.heap.size 74 3 (.slice so' (N + 1) c') (N + 1) (vnsC (vs ++ [p])) → Fr (Value.slice so N c).ownBlock.toList w w' → wpList Tryz.prog ops Q rest (a.put o.dst (.slice so' (N + 1) c')) w') : wpList Tryz.prog ops Q (o :: rest) a (w.alloc (.cells #[.int .i64 p.num, .string p.val, .bool p.drop] 74)) := by
  obtain ⟨i0, hi, hz0, hz1, hz2⟩ := infoVn_parts
  have hmx : 3518437208884 ≤ maxLen := by unfold maxLen; omega
  refine wpList_append_own (w.alloc (.cells #[.int .i64 p.num, .string p.val, .bool p.drop] 74)) hgd s x 56 ho w0.heap.size 74 i0 _ 3 32 Tryz.undVns' hi hz0 hz1 hz2 rfl (by decide) (.slice so N c) N (vnsC vs) hsv (owns_keepB hK (Fr.alloc [] w _) (by simp)) ⟨w.heap.size, 0, none⟩ 1 1 (vnC p) hx rfl ?_ ?_ (by omega) (by omega) (by simp; omega) ?_
  · intro j u hu
    have hr := heap_alloc_new w (.cells #[.int .i64 p.num, .string p.val, .bool p.drop] 74)
    rw [Addr.add_lit, cell_of_row _ _ _ _ _ _ hr, Nat.zero_add]
    simpa [vnC] using hu
  · intro u hu
    simp only [vnC, List.mem_cons, List.not_mem_nil, or_false] at hu
    rcases hu with rfl | rfl | rfl <;> rfl
  · intro v' w' hown' hg' _
    obtain ⟨bo, cap', rfl⟩ : ∃ bo cap', v' = .slice bo (N + 1) cap' := by
      rcases hown'.2 with ⟨_, h1⟩ | ⟨g, cap, _, rfl, _⟩
      · omega
      · exact ⟨_, cap, rfl⟩
    have e1 : vnsC vs ++ vnC p = vnsC (vs ++ [p]) := by rw [vnsC_append]; simp [vnsC]
    rw [e1] at hown'
    exact h bo cap' w' hown' (((Fr.alloc [] w _).mono (by simp)).then (Fr.grown (S := (Value.slice so N c).ownBlock.toList) hg' (fun y hy _ => Option.mem_toList.2 hy)))
/-- What the loop over versions keeps. -/
structure LvI (w wr : World) (t g r : Nat) (so : Option Addr) (N c : Nat) (vs : List Vn) (ys : List Nat) : Prop where
  tl : Tl wr t g r ys
  len : N = vs.length
  row : wr.ownsRow w.heap.size 74 3 (.slice so N c) N (vnsC vs)
  fr : Fr [t, g] w wr
theorem LvI.app {w wr w2 w3 w4 : World} {t g r : Nat} {so so' : Option Addr} {N c c' : Nat} {vs : List Vn} {ys zs : List Nat} {p : Vn} (h : LvI w wr t g r so N c vs ys) (hr : r < w.heap.size) (hF2 : Fr [t, g] wr w2) (hT2 : Tl w2 t g r zs) (hF3 : Fr [] w2 w3) (hrow : w4.ownsRow w.heap.size 74 3 (.slice so' (N + 1) c') (N + 1) (vnsC (vs ++ [p]))) (hF4 : Fr (Value.slice so N c).ownBlock.toList w3 w4) :
    LvI w w4 t g r so' (N + 1) c' (vs ++ [p]) zs := by
  have hown2 : w2.ownsRow w.heap.size 74 3 (.slice so N c) N (vnsC vs) := owns_keepB h.row hF2 (h.tl.noOwn h.row (by decide) (by decide))
  have hown3 := owns_keepB hown2 hF3 (by simp)
  have hT3 := hT2.keep0 hF3
  obtain ⟨a1, a2, a3⟩ := hT3.noOwnR w hr hown3 (by decide) (by decide)
  exact ⟨hT3.keep hF4 a1 a2 a3, by rw [h.len]; simp, hrow, ((h.fr.then hF2).then (hF3.mono (by simp))).trans hF4 (fun _ x _ => x) (fun x hx hl => by have := (owns_cells hown3 (Option.mem_toList.1 hx)).1; omega)⟩
theorem listV_dead (fv : Value) (t g c : Nat) (w : World) (h : Td w t g c) : Calls Tryz.prog 122 #[.pointer (some ⟨t, 0, none⟩), fv] w fun e w' => e = .returned (.slice none 0 0) ∧ w = w' := by
  have HD : Hid (Calls _ _ _ _ _) := number_dead t g c w h
  clear h
  go_enter Tryz.func122, Tryz.ntmps122
  go_wp2_with fail
  refine Calls.mono HD.out ?_
  rintro e w1 ⟨rfl, rfl⟩
  go_wp2_with fail
  go_loopw [5, 9] (fun ll ii wr => ll = .slice none 0 0 ∧ ii = .int .i64 0 ∧ w = wr) (fun _ ii _ => 0)
  case atStart => exact ⟨rfl, rfl, rfl⟩
  case round =>
    obtain ⟨rfl, rfl, rfl⟩ := hrel
    go_wp2
    go_ret
    exact ⟨rfl, rfl⟩
theorem listI_dead (fv : Value) (t g c : Nat) (w : World) (h : Td w t g c) : Calls Tryz.prog 107 #[.pointer (some ⟨t, 0, none⟩), fv] w fun e w' => e = .returned (.slice none 0 0) ∧ w = w' := by
  have HD : Hid (Calls _ _ _ _ _) := number_dead t g c w h
  clear h
  go_enter Tryz.func107, Tryz.ntmps107
  go_wp2_with fail
  refine Calls.mono HD.out ?_
  rintro e w1 ⟨rfl, rfl⟩
  go_wp2_with fail
  go_loopw [5, 9] (fun ll ii wr => ll = .slice none 0 0 ∧ ii = .int .i64 0 ∧ w = wr) (fun _ ii _ => 0)
  case atStart => exact ⟨rfl, rfl, rfl⟩
  case round =>
    obtain ⟨rfl, rfl, rfl⟩ := hrel
    go_wp2
    go_ret
    exact ⟨rfl, rfl⟩
theorem listH_dead (fv : Value) (t g c : Nat) (w : World) (h : Td w t g c) : Calls Tryz.prog 108 #[.pointer (some ⟨t, 0, none⟩), fv] w fun e w' => e = .returned (.slice none 0 0) ∧ w = w' := by
  have HD : Hid (Calls _ _ _ _ _) := number_dead t g c w h
  clear h
  go_enter Tryz.func108, Tryz.ntmps108
  go_wp2_with fail
  refine Calls.mono HD.out ?_
  rintro e w1 ⟨rfl, rfl⟩
  go_wp2_with fail
  go_loopw [5, 9] (fun ll ii wr => ll = .slice none 0 0 ∧ ii = .int .i64 0 ∧ w = wr) (fun _ ii _ => 0)
  case atStart => exact ⟨rfl, rfl, rfl⟩
  case round =>
    obtain ⟨rfl, rfl, rfl⟩ := hrel
    go_wp2
    go_ret
    exact ⟨rfl, rfl⟩
/-- What a list of versions is taken to. -/
def LvP (t g r : Nat) (xs : List Nat) (w : World) (e : Ending) (w' : World) : Prop :=
  (∃ c, dL dX xs = .error c ∧ e = .returned (.slice none 0 0) ∧ Td w' t g c ∧ Fr [t, g] w w') ∨ (∃ ro N rc vs ys, dL dX xs = .ok (vs, ys) ∧ e = .returned (.slice ro N rc) ∧ VOut w w' ro N rc vs ∧ Tl w' t g r ys ∧ Fr [t, g] w w')
set_option maxHeartbeats 8000000 in
set_option maxRecDepth 100000 in
theorem listV_any (t g r bx : Nat) (xs : List Nat) (w : World) (h : Tl w t g r xs) (hbx : w.cell? ⟨bx, 0, none⟩ = some (.pointer (some ⟨t, 0, none⟩))) (hxt : bx ≠ t) (hxg : bx ≠ g) (hxl : bx < w.heap.size) :
    Calls Tryz.prog 122 #[.pointer (some ⟨t, 0, none⟩), .func (Fn.func 120) #[] #[.pointer (some ⟨bx, 0, none⟩)]] w fun e w' => LvP t g r xs w e w' := by
  have hrl : r < w.heap.size := by obtain ⟨ao, cap, hR⟩ := h.rd; exact hR.sl.blk
  have HX : Hid (∀ W, Fr [t, g] w W → W.cell? ⟨bx, 0, none⟩ = some (.pointer (some ⟨t, 0, none⟩)) ∧ bx < W.heap.size) := fun W hf => ⟨far_cell hf hbx hxl (by simp; exact ⟨hxt, hxg⟩), Nat.lt_of_lt_of_le hxl hf.size⟩
  have HC : Hid (Calls _ _ _ _ _) := number_any t g r xs w h
  have HXt : Hid (bx ≠ t ∧ bx ≠ g ∧ r < w.heap.size) := ⟨hxt, hxg, hrl⟩
  clear h hbx hxt hxg hxl hrl
  go_enter Tryz.func122, Tryz.ntmps122
  go_wp2_with fail
  refine Calls.mono HC.out ?_
  rintro e w1 (⟨c, h1, rfl, hT1, hF1⟩ | ⟨n, zs, h1, rfl, hT1, hF1⟩)
  · have HR : Hid (LvP t g r xs w (.returned (.slice none 0 0)) w1) := Or.inl ⟨c, dL_no h1, rfl, hT1, hF1⟩
    clear h1 hT1 hF1 HC HX HXt
    go_wp2_with fail
    go_loopw [5, 9] (fun ll ii wr => ll = .slice none 0 0 ∧ ii = .int .i64 0 ∧ w1 = wr) (fun _ ii _ => 0)
    case atStart => exact ⟨rfl, rfl, rfl⟩
    case round =>
      obtain ⟨rfl, rfl, rfl⟩ := hrel
      go_wp2
      go_ret
      exact HR.out
  · have hn := dN_few h1
    have HD : Hid (dL dX xs = dR dX n zs) := dL_of h1
    have HI0 : Hid (LvI w w1 t g r none 0 0 [] zs) := ⟨hT1, rfl, ⟨rfl, .inl ⟨rfl, rfl⟩⟩, hF1⟩
    clear h1 hT1 hF1 HC
    go_wp2_with fail
    go_loopw [5, 9] (fun ll ii wr => ∃ (so : Option Addr) (N c : Nat) (vs : List Vn) (ys : List Nat), ll = .slice so N c ∧ ii = .int .i64 N ∧ N ≤ n ∧ Hid (dR dX n zs = gl vs (dR dX (n - N) ys)) ∧ Hid (LvI w wr t g r so N c vs ys)) (fun _ ii _ => n - (RowKit.intOf ii).toNat)
    case atStart => exact ⟨none, 0, 0, [], zs, rfl, rfl, Nat.zero_le _, by show _ = _; rw [gl_nil]; rfl, HI0⟩
    case round =>
      obtain ⟨so, N, c, vs, ys, rfl, rfl, hNn, HG, HI⟩ := hrel
      by_cases hi : N < n
      · obtain ⟨m, hm⟩ : ∃ m, n - N = m + 1 := ⟨n - N - 1, by omega⟩
        have hlt : (N : Int) < n := by omega
        obtain ⟨k1, k2⟩ := HX.out _ HI.out.fr
        have HV : Hid (Calls _ _ _ _ _) := ver_any t g r bx ys wr HI.out.tl k1 HXt.out.1 HXt.out.2.1 k2
        have HM : Hid (n - N = m + 1) := hm
        clear k1 k2 hm
        go_wp2_with fail
        refine Calls.mono HV.out ?_
        rintro e w2 (⟨cc, nn, h2, rfl, hT2, hF2⟩ | ⟨v, us, h2, rfl, hT2, hF2⟩)
        · have HR : Hid (∀ w3, Fr [] w2 w3 → LvP t g r xs w (.returned (.slice none 0 0)) w3) := fun w3 hf => Or.inl ⟨cc, by rw [HD.out, HG.out, HM.out, gl_err h2], rfl, hT2.keep0 hf, (HI.out.fr.then hF2).then (hf.mono (by simp))⟩
          have hcb : ((cc : Int) != 0) = true := by rw [bne_iff_ne]; have := hT2.bad; omega
          have d1 := (hT2.keep0 (Fr.alloc [] w2 (.cells #[.int .i64 nn, .string ⟨#[]⟩, .bool false] 74))).tb.c1
          clear h2 hT2 hF2 HV HI HG HX
          go_wp2
          go_ret
          exact HR.out _ (Fr.alloc [] _ _)
        · obtain ⟨num, val, drop⟩ := v
          have HG2 : Hid (dR dX n zs = gl (vs ++ [⟨num, val, drop⟩]) (dR dX (n - (N + 1)) us)) := by
            show _ = _
            rw [HG.out, HM.out, gl_ok h2]
            have := HM.out
            rw [show n - (N + 1) = m by omega]
          obtain ⟨w3, HW3⟩ : ∃ w3, Hid (w2.alloc (.cells #[.int .i64 num, .string val, .bool drop] 74) = w3) := ⟨_, rfl⟩
          have hF3 : Fr [] w2 w3 := by rw [← HW3.out]; exact Fr.alloc [] w2 _
          have hb3 : w3.heap[w2.heap.size]? = some (.cells #[.int .i64 num, .string val, .bool drop] 74 (0, 0)) := by rw [← HW3.out]; exact heap_alloc_new w2 _
          have x0 : w3.cell? ⟨w2.heap.size, 0, none⟩ = some (.int .i64 num) := by rw [cell_of_row _ _ _ _ _ _ hb3]; rfl
          have x1 : w3.cell? ⟨w2.heap.size, 1, none⟩ = some (.string val) := by rw [cell_of_row _ _ _ _ _ _ hb3]; rfl
          have x2 : w3.cell? ⟨w2.heap.size, 2, none⟩ = some (.bool drop) := by rw [cell_of_row _ _ _ _ _ _ hb3]; rfl
          have d1 := (hT2.keep0 hF3).tb.c1
          have HO3 : Hid (w3.ownsRow w.heap.size 74 3 (.slice so N c) N (vnsC vs)) := owns_keepB (owns_keepB HI.out.row hF2 (HI.out.tl.noOwn HI.out.row (by decide) (by decide))) hF3 (by simp)
          have hsz3 : w.heap.size ≤ w3.heap.size := Nat.le_trans HI.out.fr.size (Nat.le_trans hF2.size hF3.size)
          have HY : Hid (∀ so' c' w4, w4.ownsRow w.heap.size 74 3 (.slice so' (N + 1) c') (N + 1) (vnsC (vs ++ [⟨num, val, drop⟩])) → Fr (Value.slice so N c).ownBlock.toList w3 w4 → LvI w w4 t g r so' (N + 1) c' (vs ++ [⟨num, val, drop⟩]) us) := fun so' c' w4 e1 e2 => HI.out.app HXt.out.2.2 hF2 hT2 hF3 e1 e2
          have hN1 : N < 3518437208 := by omega
          clear h2 hT2 hF2 HV HG HM hb3 HI hF3
          go_upto_region 5 with fail
          rw [HW3.out]
          go_wp2_with (first
            | (at_builtin; refine wpList_appX w w3 rfl _ _ rfl so N c vs rfl HO3.out hN1 hsz3 ⟨num, val, drop⟩ rfl ?_
               intro so' c' w4 e1 e2
               have HR2 : Hid (LvI w w4 t g r so' (N + 1) c' (vs ++ [⟨num, val, drop⟩]) us) := HY.out so' c' w4 e1 e2
               clear e1 e2
               go_frame)
            | fail)
          go_roundw
          case rel => exact ⟨so', N + 1, c', _, us, rfl, by simp, by omega, HG2, HR2⟩
          case measure => simp [RowKit.intOf]; omega
      · have hN2 : n - N = 0 := by omega
        have HR : Hid (LvP t g r xs w (.returned (.slice so N c)) wr) := Or.inr ⟨so, N, c, vs, ys, by rw [HD.out, HG.out, hN2, gl_end], rfl, VOut.of HI.out.row HI.out.len, HI.out.tl, HI.out.fr⟩
        have hlt : ¬ (N : Int) < n := by omega
        clear hN2 HI HG HX
        go_wp2
        go_ret
        exact HR.out
end Go.Proofs.YtdojhkgnnbdfkaaGreat

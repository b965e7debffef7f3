/- One element more behind a row of one's own, whatever its type: as a step of a region, as an operation. Conditions as each names them. -/
import Derived.Test.YtpdkdgmaofhlkaaGreatDoorSd17
import Derived.Maps.AppendAt
namespace Go.Proofs.YtpdkdgmaofhlkaaGreatDoor
open Go.ChangeShapes Go.WideShapes Go.ChangeAt Go.RowKit Go.Lib
set_option linter.unusedVariables false
set_option linter.unusedSimpArgs false
theorem run_own (w : World) (t ty e : TypeId) (i : TypeInfo) (z : Value) (size bytes : Nat) (ht : Tryz.prog.underlying t = some (.slice e)) (hi : Tryz.prog.info? e = some i) (hz : i.zero = some z)
    (hsize : i.size = size) (hby : i.bytes = bytes) (hzs : z.cells.size = size) (hsz : 0 < size) (so : Option Addr) (N c : Nat) (xs : List Value) (hK : w.ownsRow 0 e size (.slice so N c) N xs)
    (ad : Addr) (cc : Nat) (news : List Value) (hl : news.length = size) (hy : ∀ j u, news[j]? = some u → w.cell? (ad.add j) = some u) (h1 : ∀ u ∈ news, u.oneCell' = true) (hN : N < 100000000) (hb : bytes ≤ 200) :
    ∃ so' c' w', (Builtin.append_ #[t, t] ty #[.slice so N c, .slice (some ad) 1 cc]).run Tryz.prog w = .ok (.slice so' (N + 1) c') w' ∧ w'.ownsRow 0 e size (.slice so' (N + 1) c') (N + 1) (xs ++ news) ∧ ((Value.slice so' (N + 1) c').ownBlock = (Value.slice so N c).ownBlock ∨ (Value.slice so' (N + 1) c').ownBlock = some w.heap.size) ∧ Fr (Value.slice so N c).ownBlock.toList w w' := by
  have hmx : 200000000 ≤ maxLen := by unfold maxLen; omega
  have hbb : (N + 1) * bytes ≤ 140737488355328 := by
    have h1 : (N + 1) * bytes ≤ 100000000 * 200 := Nat.mul_le_mul (by omega) hb
    omega
  obtain ⟨v', w', hr, h2, h3, h4, h5⟩ := run_append_own_at (P := Tryz.prog) w 0 t ty e i z size bytes ht hi hz hsize hby hzs hsz (.slice so N c) N xs hK ad 1 cc news (by omega) hy h1 (by omega) hbb (Nat.zero_le _)
  obtain ⟨o', c', rfl⟩ : ∃ o' c', v' = .slice o' (N + 1) c' := by
    rcases h2.2 with ⟨_, h1⟩ | ⟨g, cap, _, rfl, _⟩
    · omega
    · exact ⟨_, cap, rfl⟩
  exact ⟨o', c', w', hr, h2, h5, Fr.grown h3 (fun y hy _ => Option.mem_toList.2 hy)⟩
theorem step_own (w : World) {ops : Array Oper} {op : Oper} {a : Act} {K : Act → World → Prop} {Q : Exit → Act → World → Prop} {E : Prop} (hg : op.guard = none) (s x : Operand) (t e : TypeId)
    (ho : op.op = .call { callee := .builtin .append, args := #[s, x], argTypes := #[t, t] }) (i : TypeInfo) (z : Value) (size bytes : Nat) (ht : Tryz.prog.underlying t = some (.slice e)) (hi : Tryz.prog.info? e = some i) (hz : i.zero = some z)
    (hsize : i.size = size) (hby : i.bytes = bytes) (hzs : z.cells.size = size) (hsz : 0 < size) (so : Option Addr) (N c : Nat) (xs : List Value) (hsv : a.eval s = .slice so N c) (hK : w.ownsRow 0 e size (.slice so N c) N xs)
    (ad : Addr) (cc : Nat) (news : List Value) (hl : news.length = size) (hx : a.eval x = .slice (some ad) 1 cc) (hy : ∀ j u, news[j]? = some u → w.cell? (ad.add j) = some u) (h1 : ∀ u ∈ news, u.oneCell' = true) (hN : N < 100000000) (hb : bytes ≤ 200)
    (h : ∀ so' c' w', w'.ownsRow 0 e size (.slice so' (N + 1) c') (N + 1) (xs ++ news) → ((Value.slice so' (N + 1) c').ownBlock = (Value.slice so N c).ownBlock ∨ (Value.slice so' (N + 1) c').ownBlock = some w.heap.size) → Fr (Value.slice so N c).ownBlock.toList w w' → K (a.put op.dst (.slice so' (N + 1) c')) w') :
    if Region.wanted op (yielded ops a.tmps) = true then Oper.wp Tryz.prog op a w K Q else E := by
  have hw : Region.wanted op (yielded ops a.tmps) = true := by simp [Region.wanted, hg]
  rw [if_pos hw]
  obtain ⟨so', c', w', hr, h2, h3, h4⟩ := run_own w t op.type e i z size bytes ht hi hz hsize hby hzs hsz so N c xs hK ad cc news hl hy h1 hN hb
  unfold Oper.wp execOp
  simp only [ho, resolve, invoke, builtin, Sem.run_bind, Sem.run_pure, Result.andThen_ok, List.map_toArray, List.map_cons, List.map_nil, hsv, hx, hr]
  exact h so' c' w' h2 h3 h4
theorem wpList_own (w : World) {ops : Array Oper} {rest : List Oper} {o : Oper} {a : Act} {Q : Exit → Act → World → Prop} (hgd : o.guard = none) (s x : Operand) (t e : TypeId)
    (ho : o.op = .call { callee := .builtin .append, args := #[s, x], argTypes := #[t, t] }) (i : TypeInfo) (z : Value) (size bytes : Nat) (ht : Tryz.prog.underlying t = some (.slice e)) (hi : Tryz.prog.info? e = some i) (hz : i.zero = some z)
    (hsize : i.size = size) (hby : i.bytes = bytes) (hzs : z.cells.size = size) (hsz : 0 < size) (so : Option Addr) (N c : Nat) (xs : List Value) (hsv : a.eval s = .slice so N c) (hK : w.ownsRow 0 e size (.slice so N c) N xs)
    (ad : Addr) (cc : Nat) (news : List Value) (hl : news.length = size) (hx : a.eval x = .slice (some ad) 1 cc) (hy : ∀ j u, news[j]? = some u → w.cell? (ad.add j) = some u) (h1 : ∀ u ∈ news, u.oneCell' = true) (hN : N < 100000000) (hb : bytes ≤ 200)
    (h : ∀ so' c' w', w'.ownsRow 0 e size (.slice so' (N + 1) c') (N + 1) (xs ++ news) → ((Value.slice so' (N + 1) c').ownBlock = (Value.slice so N c).ownBlock ∨ (Value.slice so' (N + 1) c').ownBlock = some w.heap.size) → Fr (Value.slice so N c).ownBlock.toList w w' → wpList Tryz.prog ops Q rest (a.put o.dst (.slice so' (N + 1) c')) w') : wpList Tryz.prog ops Q (o :: rest) a w := by
  refine wpList_plain hgd fun K hK' => ?_
  obtain ⟨so', c', w', hr, h2, h3, h4⟩ := run_own w t o.type e i z size bytes ht hi hz hsize hby hzs hsz so N c xs hK ad cc news hl hy h1 hN hb
  unfold Oper.wp execOp
  simp only [ho, resolve, invoke, builtin, Sem.run_bind, Sem.run_pure, Result.andThen_ok, List.map_toArray, List.map_cons, List.map_nil, hsv, hx, hr]
  exact hK' _ _ (h so' c' w' h2 h3 h4)
theorem info_of {t : TypeId} {z : Value} {s b : Nat} (h : (Tryz.prog.info? t).map (fun i => (i.zero, i.size, i.bytes)) = some (some z, s, b)) : ∃ i, Tryz.prog.info? t = some i ∧ i.zero = some z ∧ i.size = s ∧ i.bytes = b := by
  cases hi : Tryz.prog.info? t with
  | none => rw [hi] at h; cases h
  | some i =>
    rw [hi] at h
    simp only [Option.map_some, Option.some.injEq, Prod.mk.injEq] at h
    exact ⟨i, rfl, h.1, h.2.1, h.2.2⟩
end Go.Proofs.YtpdkdgmaofhlkaaGreatDoor

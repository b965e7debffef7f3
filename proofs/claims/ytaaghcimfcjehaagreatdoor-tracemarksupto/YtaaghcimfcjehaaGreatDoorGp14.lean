/- Texts of this claim laid together, one behind the other: contracts and plain lemmas; conditions as each names them. -/
import Derived.Test.YtaaghcimfcjehaaGreatDoorGp13
/- The story in memory: its struct, its lanes, its queues, its rows of numbers, its maps, its gate and its table, all apart; what a store to a part makes of it. Conditions as each names them. -/
namespace Go.Proofs.YtaaghcimfcjehaaGreatDoor
open Go.ChangeShapes Go.WideShapes Go.ChangeAt Go.RowKit Go.Lib Go.Maps
set_option linter.unusedVariables false
set_option linter.unusedSimpArgs false

theorem Tryz.undOutM : Tryz.prog.underlying 111 = some (.map 3 3) := by kernel_rfl
theorem Tryz.undCalM : Tryz.prog.underlying 112 = some (.map 3 242) := by kernel_rfl
/-- How many requests each has in queues. -/
def kOut : Kn Tryz.prog Int Int where
  k := 3
  t := 111
  e := 3
  kv := .int .i64
  kl := .int .i64
  ok := i64
  ev := .int .i64
  ed := fun a => .lit (.int .i64 a)
  R := intElem
  z0 := 0
  und := Tryz.undOutM
  keyed := int_keyed Tryz.undI11
  key := fun x hx => keyOf_int_mk Tryz.undI11 hx.wf
  kvinj := fun x y h => by cases h; rfl
  em := fun a => rfl
  inv := fun v y h => by
    unfold intElem at h
    split at h
    · cases h; exact ⟨_, rfl, rfl⟩
    · cases h
  edinj := fun a b h => by cases h; rfl
  zero := fun w => by kernel_rfl
def u8Elem (v : Value) : Option (DataW Unit × List MemPlace) :=
  match v with
  | .int .u8 a => some (.lit (.int .u8 a), [])
  | _ => none
/-- The stage of each call. -/
def kCal : Kn Tryz.prog Int Int where
  k := 3
  t := 112
  e := 242
  kv := .int .i64
  kl := .int .i64
  ok := i64
  ev := .int .u8
  ed := fun a => .lit (.int .u8 a)
  R := u8Elem
  z0 := 0
  und := Tryz.undCalM
  keyed := int_keyed Tryz.undI11
  key := fun x hx => keyOf_int_mk Tryz.undI11 hx.wf
  kvinj := fun x y h => by cases h; rfl
  em := fun a => rfl
  inv := fun v y h => by
    unfold u8Elem at h
    split at h
    · cases h; exact ⟨_, rfl, rfl⟩
    · cases h
  edinj := fun a b h => by cases h; rfl
  zero := fun w => by kernel_rfl
/-- A slice of numbers: where, how many, its room. -/
structure Sq where
  lo : Option Addr
  n : Nat
  c : Nat
def Sq.v (q : Sq) : Value := .slice q.lo q.n q.c
def Sq.no : Sq := ⟨none, 0, 0⟩
/-- Where a story lies. -/
structure Zs where
  sb : Nat
  g : Nat
  tb : Nat
  lb : Nat
  qq : Nat
  ob : Nat
  cb : Nat
  B : List Nat
  q : Nat → Sq
  logo : Option Addr
  M : Nat
  mc : Nat
/-- The blocks of its rows. -/
def Zs.rows (Z : Zs) : List Nat := (List.range 34).filterMap fun i => qb (Z.q i).lo
def Zs.six (Z : Zs) : List Nat := [Z.sb, Z.g, Z.lb, Z.qq, Z.ob, Z.cb]
/-- All its blocks. -/
def Zs.own (Z : Zs) : List Nat := Z.six ++ (Z.B ++ Z.rows)
theorem Zs.mem_rows {Z : Zs} {i b : Nat} (hi : i < 34) (h : qb (Z.q i).lo = some b) : b ∈ Z.rows := List.mem_filterMap.2 ⟨i, List.mem_range.2 hi, h⟩
theorem Zs.rows_mem {Z : Zs} {b : Nat} (h : b ∈ Z.rows) : ∃ i, i < 34 ∧ qb (Z.q i).lo = some b := by
  obtain ⟨i, h1, h2⟩ := List.mem_filterMap.1 h
  exact ⟨i, List.mem_range.1 h1, h2⟩
theorem Zs.mem_own {Z : Zs} {b : Nat} : b ∈ Z.own ↔ b ∈ Z.six ∨ b ∈ Z.B ∨ b ∈ Z.rows := by simp [Zs.own]
/-- The cells of its struct. -/
def syC (c : Cf) (Z : Zs) (read : Int) (holds : Bool) : List Value :=
  [.int .i64 c.l, .int .i64 c.s, .int .i64 c.w, .int .i64 c.q, .slice Z.logo Z.M Z.mc, .pointer (some ⟨Z.g, 0, none⟩), .pointer (some ⟨Z.tb, 0, none⟩), .int .i64 read, .bool holds, (Z.q 0).v, (Z.q 1).v, .slice (some ⟨Z.lb, 0, none⟩) c.l.toNat c.l.toNat, .slice (some ⟨Z.qq, 0, none⟩) c.s.toNat c.s.toNat, .map (some Z.ob), .map (some Z.cb)]
/-- Its parts lie apart. -/
structure Apa (Z : Zs) : Prop where
  nd : Z.six.Nodup
  nB : ∀ x ∈ Z.six, x ∉ Z.B
  nR : ∀ i b, qb (Z.q i).lo = some b → b ∉ Z.six ∧ b ∉ Z.B
  rr : ∀ i j b, i ≠ j → qb (Z.q i).lo = some b → qb (Z.q j).lo ≠ some b
  far : ∀ i, 34 ≤ i → Z.q i = Sq.no
/-- A story in memory. -/
structure SyM (w : World) (Z : Zs) (c : Cf) (s : Sy) (k : Nat) : Prop where
  box : w.heap[Z.sb]? = some (.cells (syC c Z s.read s.holds).toArray 114 (0, 0))
  lanes : ∃ cur, w.heap[Z.lb]? = some (.cells cur 237 (0, 0)) ∧ cur.size = 2 * c.l.toNat ∧ ∀ i, i < c.l.toNat → cur[2 * i]? = some (.int .i64 (s.num i)) ∧ cur[2 * i + 1]? = some (Z.q (2 + i)).v
  ques : ∃ cur, w.heap[Z.qq]? = some (.cells cur 25 (0, 0)) ∧ cur.size = c.s.toNat ∧ ∀ j, j < c.s.toNat → cur[j]? = some (Z.q (18 + j)).v
  rows : ∀ i, QR w (Z.q i).lo (Z.q i).n (Z.q i).c (s.R i)
  gate : GG w Z.g s.ma s.bx
  deps : Tl w Z.tb Z.B (65 * k) s.L s.en
  outs : ∃ F, MapG kOut w Z.ob k F ∧ ∀ n, s.F n = (F n).getD 0
  call : ∃ G, MapG kCal w Z.cb k G ∧ ∀ n, s.G n = (G n).getD 0
  apa : Apa Z
  may : c.may
section
variable {w w' : World} {Z : Zs} {c : Cf} {s : Sy} {k : Nat}
theorem SyM.mono {k' : Nat} (h : SyM w Z c s k) (hk : k ≤ k') : SyM w Z c s k' := by
  obtain ⟨F, h1, h2⟩ := h.outs
  obtain ⟨G, h3, h4⟩ := h.call
  exact { h with deps := h.deps.mono (by omega), outs := ⟨F, h1.mono hk, h2⟩, call := ⟨G, h3.mono hk, h4⟩ }
theorem SyM.keep {S : List Nat} (h : SyM w Z c s k) (hf : Fr S w w') (hS : ∀ x ∈ Z.own, x ∉ S) : SyM w' Z c s k := by
  have h6 : ∀ x ∈ Z.six, x ∉ S := fun x hx => hS x (Zs.mem_own.2 (Or.inl hx))
  have hB : ∀ x ∈ Z.B, x ∉ S := fun x hx => hS x (Zs.mem_own.2 (Or.inr (Or.inl hx)))
  obtain ⟨cl, l1, l2, l3⟩ := h.lanes
  obtain ⟨cq, q1, q2, q3⟩ := h.ques
  obtain ⟨F, f1, f2⟩ := h.outs
  obtain ⟨G, g1, g2⟩ := h.call
  refine ⟨hf.keep h.box (h6 _ (by simp [Zs.six])), ⟨cl, hf.keep l1 (h6 _ (by simp [Zs.six])), l2, l3⟩, ⟨cq, hf.keep q1 (h6 _ (by simp [Zs.six])), q2, q3⟩, fun i => (h.rows i).keep hf (fun b hb => ?_), h.gate.keep hf (h6 _ (by simp [Zs.six])), h.deps.keep hf hB, ⟨F, f1.keep hf (h6 _ (by simp [Zs.six])), f2⟩, ⟨G, g1.keep hf (h6 _ (by simp [Zs.six])), g2⟩, h.apa, h.may⟩
  by_cases hi : i < 34
  · exact hS b (Zs.mem_own.2 (Or.inr (Or.inr (Zs.mem_rows hi hb))))
  · rw [h.apa.far i (by omega)] at hb; cases hb
theorem SyM.quiet (h : SyM w Z c s k) (hf : Fr [] w w') : SyM w' Z c s k := h.keep hf (by simp)
theorem SyM.lt (h : SyM w Z c s k) : ∀ x ∈ Z.own, x < w.heap.size := by
  intro x hx
  rcases Zs.mem_own.1 hx with hx | hx | hx
  · obtain ⟨cl, l1, _⟩ := h.lanes
    obtain ⟨cq, q1, _⟩ := h.ques
    obtain ⟨F, f1, _⟩ := h.outs
    obtain ⟨G, g1, _⟩ := h.call
    simp only [Zs.six, List.mem_cons, List.not_mem_nil, or_false] at hx
    rcases hx with rfl | rfl | rfl | rfl | rfl | rfl
    · exact lt_of_block h.box
    · exact h.gate.lt
    · exact lt_of_block l1
    · exact lt_of_block q1
    · exact f1.lt
    · exact g1.lt
  · exact h.deps.mine x hx
  · obtain ⟨i, _, hi⟩ := Zs.rows_mem hx
    exact (h.rows i).lt hi
/-- A cell of its struct. -/
theorem SyM.cell (h : SyM w Z c s k) {j : Nat} {v : Value} (hv : (syC c Z s.read s.holds)[j]? = some v) : w.cell? ⟨Z.sb, j, none⟩ = some v := by
  rw [cell_of_row _ _ _ _ _ _ h.box, List.getElem?_toArray]
  exact hv
theorem SyM.fz (h : SyM w Z c s k) (j : Nat) : w.frozen? ⟨Z.sb, j, none⟩ = false := by simp [World.frozen?, h.box]
end
/-- What was done to a story: only its own blocks differ; what it owns then it owned, or is new. -/
structure Mv (w : World) (Z : Zs) (w' : World) (Z' : Zs) : Prop where
  fr : Fr Z.own w w'
  sub : ∀ x ∈ Z'.own, x ∈ Z.own ∨ w.heap.size ≤ x
  at_ : Z'.sb = Z.sb
  log : Z'.logo = Z.logo ∧ Z'.M = Z.M ∧ Z'.mc = Z.mc
theorem Mv.refl (w : World) (Z : Zs) : Mv w Z w Z := ⟨Fr.refl _ _, fun x hx => Or.inl hx, rfl, rfl, rfl, rfl⟩
theorem Mv.of {w w' : World} {Z : Zs} (h : Fr Z.own w w') : Mv w Z w' Z := ⟨h, fun x hx => Or.inl hx, rfl, rfl, rfl, rfl⟩
theorem Mv.quiet {w w' : World} {Z : Zs} (h : Fr [] w w') : Mv w Z w' Z := Mv.of (h.mono (by simp))
theorem Mv.trans {w w' w'' : World} {Z Z' Z'' : Zs} (h : Mv w Z w' Z') (k : Mv w' Z' w'' Z'') : Mv w Z w'' Z'' := by
  refine ⟨h.fr.trans k.fr (fun x hx _ => hx) (fun x hx hlt => ?_), fun x hx => ?_, k.at_.trans h.at_, k.log.1.trans h.log.1, k.log.2.1.trans h.log.2.1, k.log.2.2.trans h.log.2.2⟩
  · rcases h.sub x hx with h1 | h1
    · exact h1
    · omega
  · rcases k.sub x hx with h1 | h1
    · exact h.sub x h1
    · exact Or.inr (Nat.le_trans h.fr.size h1)
theorem Mv.qu {w w' w'' : World} {Z Z' : Zs} (h : Mv w Z w' Z') (k : Fr [] w' w'') : Mv w Z w'' Z' := h.trans (Mv.quiet k)
/-- What it does not own stays. -/
theorem Mv.keep {w w' : World} {Z Z' : Zs} (h : Mv w Z w' Z') {S : List Nat} (hS : ∀ x ∈ S, x ∉ Z.own ∧ x < w.heap.size) : ∀ x ∈ S, x ∉ Z'.own ∧ x < w'.heap.size := by
  intro x hx
  obtain ⟨h1, h2⟩ := hS x hx
  refine ⟨fun h3 => ?_, Nat.lt_of_lt_of_le h2 h.fr.size⟩
  rcases h.sub x h3 with h4 | h4
  · exact h1 h4
  · omega
/-- A story beside the log that it goes by: all its blocks were made since the world wS, in which the log lay. -/
structure Cx (wS w : World) (Z : Zs) (ts : List Tm) : Prop where
  fr : Fr [] wS w
  base : ∀ x ∈ Z.own, wS.heap.size ≤ x
  log : TRs wS Z.logo ts
  len : Z.M = ts.length
theorem Cx.trs {wS w : World} {Z : Zs} {ts : List Tm} (h : Cx wS w Z ts) : TRs w Z.logo ts := h.log.keep h.fr
theorem Cx.next {wS w w' : World} {Z Z' : Zs} {ts : List Tm} (h : Cx wS w Z ts) (hM : Mv w Z w' Z') : Cx wS w' Z' ts :=
  ⟨h.fr.on hM.fr h.base, fun x hx => by
    rcases hM.sub x hx with h1 | h1
    · exact h.base x h1
    · exact Nat.le_trans h.fr.size h1, by rw [hM.log.1]; exact h.log, by rw [hM.log.2.1]; exact h.len⟩
theorem Cx.quiet {wS w w' : World} {Z : Zs} {ts : List Tm} (h : Cx wS w Z ts) (hf : Fr [] w w') : Cx wS w' Z ts := h.next (Mv.quiet hf)
end Go.Proofs.YtaaghcimfcjehaaGreatDoor

/- One region of Read's loop body, which draws its order: a transaction is put behind the list, and the place is kept. In a round's frame. Conditions as it names them. -/
import Derived.Test.YtaefninikmaiiaaGreatDoorIt6
import Derived.Great.Frames
namespace Go.Proofs.YtaefninikmaiiaaGreatDoor
open Go.ChangeShapes Go.WideShapes Go.ChangeAt Go.RowKit Go.Lib
set_option linter.unusedVariables false

def o80 : Oper := { dst := some 21, op := Op.load 22 (Operand.tmp 2), type := 22, pos := "read.go:32", after := #[], guard := none }
def o81 : Oper := { dst := some 22, op := Op.fieldAddr 100 (Operand.tmp 6) 0, type := 0, pos := "read.go:32", after := #[], guard := none }
def o82 : Oper := { dst := some 23, op := Op.load 63 (Operand.tmp 22), type := 63, pos := "read.go:32", after := #[{ on := 1, ground := Ground.data }], guard := none }
def o83 : Oper := { dst := some 24, op := Op.buildSlice 22 1 #[(0, Operand.tmp 23)], type := 22, pos := "read.go:32", after := #[{ on := 2, ground := Ground.data }], guard := none }
def o84 : Oper := { dst := some 25, op := Op.call { callee := Callee.builtin Builtin.append, args := #[Operand.tmp 21, Operand.tmp 24], argTypes := #[22, 22] }, type := 22, pos := "read.go:32", after := #[{ on := 0, ground := Ground.data }, { on := 3, ground := Ground.data }], guard := none }
def o85 : Oper := { dst := some 26, op := Op.fieldAddr 100 (Operand.tmp 6) 1, type := 0, pos := "read.go:32", after := #[{ on := 7, ground := Ground.gcOnly Departure.lateStores }], guard := none }
def o86 : Oper := { dst := some 27, op := Op.load 3 (Operand.tmp 26), type := 3, pos := "read.go:32", after := #[{ on := 5, ground := Ground.data }, { on := 7, ground := Ground.gcOnly Departure.lateStores }], guard := none }
def o87 : Oper := { dst := none, op := Op.store 22 (Operand.tmp 2) (Operand.tmp 25), type := 0, pos := "read.go:32", after := #[{ on := 4, ground := Ground.data }, { on := 4, ground := Ground.chain }, { on := 0, ground := Ground.phase }, { on := 1, ground := Ground.phase }, { on := 2, ground := Ground.phase }, { on := 3, ground := Ground.phase }, { on := 4, ground := Ground.phase }, { on := 5, ground := Ground.textOnly Departure.lateStores }, { on := 6, ground := Ground.textOnly Departure.lateStores }], guard := none }
def o88 : Oper := { dst := none, op := Op.store 3 (Operand.tmp 3) (Operand.tmp 27), type := 0, pos := "read.go:32", after := #[{ on := 6, ground := Ground.data }, { on := 7, ground := Ground.chain }, { on := 0, ground := Ground.phase }, { on := 1, ground := Ground.phase }, { on := 2, ground := Ground.phase }, { on := 3, ground := Ground.phase }, { on := 4, ground := Ground.phase }, { on := 5, ground := Ground.phase }, { on := 6, ground := Ground.phase }, { on := 7, ground := Ground.phase }], guard := none }
def ops8 : Array Oper := #[o80, o81, o82, o83, o84, o85, o86, o87, o88]

theorem opV {l n : Nat} {P : Program} {ops : Array Oper} {Q : Exit → Act → World → Prop} {i : Nat} {o : Oper} {v : Value} {w w' : World} {a : Act} {K : Act → World → Prop} (hi : ops[i]? = some o) (hg : o.guard = none) (hd : ∀ c, o.op ≠ .defer c)
    (hr : (execOp a.eval o).run P w = .ok (.value v) w') (hK : K (a.put o.dst v) w') : wpOpIn (Fence.wide.inRound l) n P ops Q i K a w := by
  unfold wpOpIn
  rw [hi]
  simp only
  rw [if_pos (by simp [Region.wanted, hg])]
  unfold Oper.wpIn
  refine ⟨fun _ _ => trivial, ?_⟩
  rw [Oper.semAt_plain _ _ _ hd, hr]
  exact hK
theorem opS {l n : Nat} {P : Program} {ops : Array Oper} {Q : Exit → Act → World → Prop} {i : Nat} {o : Oper} {w w' : World} {a : Act} {K : Act → World → Prop} (hi : ops[i]? = some o) (hg : o.guard = none) (hd : ∀ c, o.op ≠ .defer c)
    (hr : (execOp a.eval o).run P w = .ok .skip w') (hK : K (a.put o.dst undef) w') : wpOpIn (Fence.wide.inRound l) n P ops Q i K a w := by
  unfold wpOpIn
  rw [hi]
  simp only
  rw [if_pos (by simp [Region.wanted, hg])]
  unfold Oper.wpIn
  refine ⟨fun _ _ => trivial, ?_⟩
  rw [Oper.semAt_plain _ _ _ hd, hr]
  exact hK
theorem rdy (l0 l1 l2 l3 l4 l5 l6 l7 l8 : Bool) (i : Nat) : i ∈ Region.ready .any ops8 #[l0, l1, l2, l3, l4, l5, l6, l7, l8] ↔
    (i = 0 ∧ l0 = false) ∨ (i = 1 ∧ l1 = false) ∨ (i = 2 ∧ l2 = false ∧ l1 = true) ∨ (i = 3 ∧ l3 = false ∧ l2 = true) ∨ (i = 4 ∧ l4 = false ∧ l0 = true ∧ l3 = true) ∨ (i = 5 ∧ l5 = false) ∨ (i = 6 ∧ l6 = false ∧ l5 = true) ∨
    (i = 7 ∧ l7 = false ∧ l0 = true ∧ l1 = true ∧ l2 = true ∧ l3 = true ∧ l4 = true) ∨ (i = 8 ∧ l8 = false ∧ l0 = true ∧ l1 = true ∧ l2 = true ∧ l3 = true ∧ l4 = true ∧ l5 = true ∧ l6 = true ∧ l7 = true) := by
  unfold Region.ready
  rw [List.mem_filter, List.mem_range]
  constructor
  · rintro ⟨hi, hc⟩
    have hi9 : i < 9 := hi
    match i, hi9 with
    | 0, _ => simp [ops8, o80, o81, o82, o83, o84, o85, o86, o87, o88, Region.binds] at hc; simp [hc]
    | 1, _ => simp [ops8, o80, o81, o82, o83, o84, o85, o86, o87, o88, Region.binds] at hc; simp [hc]
    | 2, _ => simp [ops8, o80, o81, o82, o83, o84, o85, o86, o87, o88, Region.binds] at hc; simp [hc]
    | 3, _ => simp [ops8, o80, o81, o82, o83, o84, o85, o86, o87, o88, Region.binds] at hc; simp [hc]
    | 4, _ => simp [ops8, o80, o81, o82, o83, o84, o85, o86, o87, o88, Region.binds] at hc; simp [hc]
    | 5, _ => simp [ops8, o80, o81, o82, o83, o84, o85, o86, o87, o88, Region.binds] at hc; simp [hc]
    | 6, _ => simp [ops8, o80, o81, o82, o83, o84, o85, o86, o87, o88, Region.binds] at hc; simp [hc]
    | 7, _ => simp [ops8, o80, o81, o82, o83, o84, o85, o86, o87, o88, Region.binds] at hc; simp [hc]
    | 8, _ => simp [ops8, o80, o81, o82, o83, o84, o85, o86, o87, o88, Region.binds] at hc; simp [hc]
  · rintro (⟨rfl, h⟩ | ⟨rfl, h⟩ | ⟨rfl, h⟩ | ⟨rfl, h⟩ | ⟨rfl, h⟩ | ⟨rfl, h⟩ | ⟨rfl, h⟩ | ⟨rfl, h⟩ | ⟨rfl, h⟩) <;> simp [ops8, o80, o81, o82, o83, o84, o85, o86, o87, o88, Region.binds, h]
/-- Behind the append. -/
structure App (Wb : World) (v : Value) (N : Nat) (xs news : List Value) (w : World) (u : Value) : Prop where
  own : w.ownsRow 0 63 2 u (N + 1) (xs ++ news)
  grown : Wb.grownBy w v.ownBlock
  moved : Moved Wb.heap.size v u
  shape : ∃ g cap, u = .slice (some ⟨g, 0, none⟩) (N + 1) cap
/-- How far the region's own changes are. -/
def Stg (bl bg : Nat) (Wd Wb : World) (v : Value) (N : Nat) (xs news : List Value) (en : Nat) (l3 l4 l7 l8 : Bool) (u : Value) (w : World) : Prop :=
  (l3 = false ∧ l4 = false ∧ l7 = false ∧ l8 = false ∧ w = Wd) ∨ (l3 = true ∧ l4 = false ∧ l7 = false ∧ l8 = false ∧ w = Wb) ∨ (l3 = true ∧ l4 = true ∧ l7 = false ∧ l8 = false ∧ App Wb v N xs news w u) ∨
  (l3 = true ∧ l4 = true ∧ l7 = true ∧ l8 = false ∧ ∃ w', App Wb v N xs news w' u ∧ w = w'.setCell ⟨bl, 0, none⟩ u) ∨
  (l8 = true ∧ ∃ w', App Wb v N xs news w' u ∧ w = (w'.setCell ⟨bl, 0, none⟩ u).setCell ⟨bg, 0, none⟩ (.int .i64 (en : Int)))
structure Iv (bl bg b6 : Nat) (Wd Wb : World) (v : Value) (N : Nat) (xs news : List Value) (n : Int) (ao : Option Addr) (C en : Nat) (l0 l1 l2 l3 l4 l5 l6 l7 l8 : Bool) (a : Act) (w : World) : Prop where
  sz : a.tmps.size = 31
  s2 : a.eval (.tmp 2) = .pointer (some ⟨bl, 0, none⟩)
  s3 : a.eval (.tmp 3) = .pointer (some ⟨bg, 0, none⟩)
  s6 : a.eval (.tmp 6) = .pointer (some ⟨b6, 0, none⟩)
  t21 : l0 = true → a.eval (.tmp 21) = v
  t22 : l1 = true → a.eval (.tmp 22) = .pointer (some ⟨b6, 0, none⟩)
  t23 : l2 = true → a.eval (.tmp 23) = .agg #[.int .i64 n, .slice ao C C]
  t24 : l3 = true → a.eval (.tmp 24) = .slice (some ⟨Wd.heap.size, 0, none⟩) 1 1
  t26 : l5 = true → a.eval (.tmp 26) = .pointer (some ⟨b6, 2, none⟩)
  t27 : l6 = true → a.eval (.tmp 27) = .int .i64 (en : Int)
  st : Stg bl bg Wd Wb v N xs news en l3 l4 l7 l8 (a.eval (.tmp 25)) w
  d4 : l4 = true → l0 = true
  d3 : l3 = true → l2 = true
  d8 : l8 = true → l3 = true ∧ l4 = true ∧ l6 = true ∧ l7 = true
theorem put_ne {a : Act} {d j : Nat} {v : Value} (h : d ≠ j) : (a.put (some d) v).eval (.tmp j) = a.eval (.tmp j) := Act.eval_put_ne a d j v h
theorem put_sz {a : Act} {d : Nat} {v : Value} : (a.put (some d) v).tmps.size = a.tmps.size := by simp [Act.put]
/-- What the region leans on. -/
structure Rg (bl bg b6 : Nat) (W : World) (v gv : Value) (N : Nat) (xs : List Value) (n : Int) (ao : Option Addr) (C en : Nat) : Prop where
  hl : Bv W bl 22 v
  hg : Bv W bg 3 gv
  row : W.ownsRow 0 63 2 v N xs
  f0 : W.cell? ⟨b6, 0, none⟩ = some (.int .i64 n)
  f1 : W.cell? ⟨b6, 1, none⟩ = some (.slice ao C C)
  f2 : W.cell? ⟨b6, 2, none⟩ = some (.int .i64 (en : Int))
  lt6 : b6 < W.heap.size
  ne1 : bl ≠ bg
  ne2 : bl ≠ b6
  ne3 : bg ≠ b6
  o1 : v.ownBlock ≠ some bl
  o2 : v.ownBlock ≠ some bg
  o3 : v.ownBlock ≠ some b6
  few : N ≤ 2199023255552
theorem Tryz.infoT : (Tryz.prog.info? 63).map (fun i => (i.zero, i.size, i.bytes)) = some (some (.agg #[.int .i64 0, .slice none 0 0]), 2, 32) := by kernel_rfl
theorem Tryz.undTs : Tryz.prog.underlying 22 = some (.slice 63) := by kernel_rfl
section
variable {bl bg b6 : Nat} {W : World} {v gv : Value} {N : Nat} {xs : List Value} {n : Int} {ao : Option Addr} {C en : Nat}
def wb (W : World) (n : Int) (ao : Option Addr) (C : Nat) : World := W.drew.alloc (.cells #[.int .i64 n, .slice ao C C] 63)
def nw (n : Int) (ao : Option Addr) (C : Nat) : List Value := [.int .i64 n, .slice ao C C]
theorem Rg.app_block (h : Rg bl bg b6 W v gv N xs n ao C en) {w : World} {u : Value} (hA : App (wb W n ao C) v N xs (nw n ao C) w u) {k : Nat} (hk : k < W.heap.size) (hn : v.ownBlock ≠ some k) : w.heap[k]? = W.heap[k]? := by
  have h1 := hA.grown.block k (by simp [wb]; omega) (fun e => hn e.symm)
  refine h1.trans ?_
  exact Below.heap_alloc _ _ _ hk
theorem Rg.stg_en (h : Rg bl bg b6 W v gv N xs n ao C en) {l3 l4 l7 : Bool} {u : Value} {w : World} (hs : Stg bl bg W.drew (wb W n ao C) v N xs (nw n ao C) en l3 l4 l7 false u w) : w.cell? ⟨b6, 2, none⟩ = some (.int .i64 (en : Int)) := by
  rcases hs with ⟨_, _, _, _, rfl⟩ | ⟨_, _, _, _, rfl⟩ | ⟨_, _, _, _, hA⟩ | ⟨_, _, _, _, w', hA, rfl⟩ | ⟨h8, _⟩
  · exact h.f2
  · exact (World.cell?_of_block (Below.heap_alloc _ _ _ h.lt6)).trans h.f2
  · exact (World.cell?_of_block (h.app_block hA h.lt6 h.o3)).trans h.f2
  · exact (World.cell?_of_block ((Below.heap_setCell _ _ _ _ (fun e => h.ne2 e.symm)).trans (h.app_block hA h.lt6 h.o3))).trans h.f2
  · cases h8
end
section
variable (ρ : Operand → Value) (w : World) {bl bg b6 : Nat} {v gv : Value} {n : Int} {ao : Option Addr} {C en : Nat}
theorem run80 (h2 : ρ (.tmp 2) = .pointer (some ⟨bl, 0, none⟩)) (hc : w.cell? ⟨bl, 0, none⟩ = some v) : (execOp ρ o80).run Tryz.prog w = .ok (.value v) w := by
  unfold o80
  go_simp
theorem run81 (h6 : ρ (.tmp 6) = .pointer (some ⟨b6, 0, none⟩)) : (execOp ρ o81).run Tryz.prog w = .ok (.value (.pointer (some ⟨b6, 0, none⟩))) w := by
  unfold o81
  go_simp
theorem run82 (h22 : ρ (.tmp 22) = .pointer (some ⟨b6, 0, none⟩)) (c0 : w.cell? ⟨b6, 0, none⟩ = some (.int .i64 n)) (c1 : w.cell? ⟨b6, 1, none⟩ = some (.slice ao C C)) : (execOp ρ o82).run Tryz.prog w = .ok (.value (.agg #[.int .i64 n, .slice ao C C])) w := by
  unfold o82
  go_simp
theorem run83 (h23 : ρ (.tmp 23) = .agg #[.int .i64 n, .slice ao C C]) : (execOp ρ o83).run Tryz.prog w.drew = .ok (.value (.slice (some ⟨w.drew.heap.size, 0, none⟩) 1 1)) (wb w n ao C) := by
  unfold o83 wb
  go_simp
theorem run85 (h6 : ρ (.tmp 6) = .pointer (some ⟨b6, 0, none⟩)) : (execOp ρ o85).run Tryz.prog w = .ok (.value (.pointer (some ⟨b6, 2, none⟩))) w := by
  unfold o85
  go_simp
theorem run86 (h26 : ρ (.tmp 26) = .pointer (some ⟨b6, 2, none⟩)) (c2 : w.cell? ⟨b6, 2, none⟩ = some (.int .i64 (en : Int))) : (execOp ρ o86).run Tryz.prog w = .ok (.value (.int .i64 (en : Int))) w := by
  unfold o86
  go_simp
theorem run87 {g N cap : Nat} (h2 : ρ (.tmp 2) = .pointer (some ⟨bl, 0, none⟩)) (h25 : ρ (.tmp 25) = .slice (some ⟨g, 0, none⟩) N cap) (c0 : w.cell? ⟨bl, 0, none⟩ = some v) (c1 : w.frozen? ⟨bl, 0, none⟩ = false) : (execOp ρ o87).run Tryz.prog w = .ok .skip (w.setCell ⟨bl, 0, none⟩ (.slice (some ⟨g, 0, none⟩) N cap)) := by
  unfold o87
  go_simp
theorem run88 (h3 : ρ (.tmp 3) = .pointer (some ⟨bg, 0, none⟩)) (h27 : ρ (.tmp 27) = .int .i64 (en : Int)) (c0 : w.cell? ⟨bg, 0, none⟩ = some gv) (c1 : w.frozen? ⟨bg, 0, none⟩ = false) : (execOp ρ o88).run Tryz.prog w = .ok .skip (w.setCell ⟨bg, 0, none⟩ (.int .i64 (en : Int))) := by
  unfold o88
  go_simp
end
set_option maxHeartbeats 4000000 in
set_option maxRecDepth 100000 in
theorem walk8 (l m bl bg b6 : Nat) (W : World) (v gv : Value) (N : Nat) (xs : List Value) (n : Int) (ao : Option Addr) (C en : Nat) (h : Rg bl bg b6 W v gv N xs n ao C en) (Qw : World → Prop)
    (hQ : ∀ w' u, App (wb W n ao C) v N xs (nw n ao C) w' u → Qw ((w'.setCell ⟨bl, 0, none⟩ u).setCell ⟨bg, 0, none⟩ (.int .i64 (en : Int)))) :
    ∀ (fuel : Nat) (l0 l1 l2 l3 l4 l5 l6 l7 l8 : Bool) (a : Act) (w : World), Iv bl bg b6 W.drew (wb W n ao C) v N xs (nw n ao C) n ao C en l0 l1 l2 l3 l4 l5 l6 l7 l8 a w →
      (!l0).toNat + (!l1).toNat + (!l2).toNat + (!l3).toNat + (!l4).toNat + (!l5).toNat + (!l6).toNat + (!l7).toNat + (!l8).toNat ≤ fuel →
      wpAnyIn (Fence.wide.inRound l) m Tryz.prog .any ops8 (fun e _ w' => e = .normal ∧ Qw w') fuel #[l0, l1, l2, l3, l4, l5, l6, l7, l8] a w := by
  intro fuel
  induction fuel with
  | zero =>
    intro l0 l1 l2 l3 l4 l5 l6 l7 l8 a w hI hc
    have e8 : l8 = true := by cases l8 <;> simp at hc ⊢
    have e0 : l0 = true := by cases l0 <;> simp at hc ⊢
    have e1 : l1 = true := by cases l1 <;> simp at hc ⊢
    have e2 : l2 = true := by cases l2 <;> simp at hc ⊢
    have e3 : l3 = true := by cases l3 <;> simp at hc ⊢
    have e4 : l4 = true := by cases l4 <;> simp at hc ⊢
    have e5 : l5 = true := by cases l5 <;> simp at hc ⊢
    have e6 : l6 = true := by cases l6 <;> simp at hc ⊢
    have e7 : l7 = true := by cases l7 <;> simp at hc ⊢
    subst e0 e1 e2 e3 e4 e5 e6 e7 e8
    refine ⟨?_, rfl, ?_⟩
    · refine List.eq_nil_iff_forall_not_mem.2 (fun i hi => ?_)
      rw [rdy] at hi
      simp at hi
    · rcases hI.st with ⟨_, _, _, h8, _⟩ | ⟨_, _, _, h8, _⟩ | ⟨_, _, _, h8, _⟩ | ⟨_, _, _, h8, _⟩ | ⟨_, w', hA, rfl⟩
      · cases h8
      · cases h8
      · cases h8
      · cases h8
      · exact hQ _ _ hA
  | succ fuel ih =>
    intro l0 l1 l2 l3 l4 l5 l6 l7 l8 a w hI hc
    refine ⟨fun hr => ?_, fun i hi => ?_⟩
    · have hn : ∀ i, i ∉ Region.ready .any ops8 #[l0, l1, l2, l3, l4, l5, l6, l7, l8] := fun i => by rw [hr]; simp
      have e0 : l0 = true := by have := hn 0; rw [rdy] at this; simpa using this
      have e1 : l1 = true := by have := hn 1; rw [rdy] at this; simpa using this
      subst e0 e1
      have e2 : l2 = true := by have := hn 2; rw [rdy] at this; simpa using this
      subst e2
      have e3 : l3 = true := by have := hn 3; rw [rdy] at this; simpa using this
      subst e3
      have e4 : l4 = true := by have := hn 4; rw [rdy] at this; simpa using this
      have e5 : l5 = true := by have := hn 5; rw [rdy] at this; simpa using this
      subst e4 e5
      have e6 : l6 = true := by have := hn 6; rw [rdy] at this; simpa using this
      have e7 : l7 = true := by have := hn 7; rw [rdy] at this; simpa using this
      subst e6 e7
      have e8 : l8 = true := by have := hn 8; rw [rdy] at this; simpa using this
      subst e8
      refine ⟨rfl, ?_⟩
      rcases hI.st with ⟨_, _, _, h8, _⟩ | ⟨_, _, _, h8, _⟩ | ⟨_, _, _, h8, _⟩ | ⟨_, _, _, h8, _⟩ | ⟨_, w', hA, rfl⟩
      · cases h8
      · cases h8
      · cases h8
      · cases h8
      · exact hQ _ _ hA
    · rw [rdy] at hi
      obtain ⟨sz, s2, s3, s6, t21, t22, t23, t24, t26, t27, st, d4, d3, d8⟩ := hI
      rcases hi with ⟨rfl, rfl⟩ | ⟨rfl, rfl⟩ | ⟨rfl, rfl, rfl⟩ | ⟨rfl, rfl, rfl⟩ | ⟨rfl, rfl, rfl, rfl⟩ | ⟨rfl, rfl⟩ | ⟨rfl, rfl, rfl⟩ | ⟨rfl, rfl, rfl, rfl, rfl, rfl, rfl⟩ | ⟨rfl, rfl, rfl, rfl, rfl, rfl, rfl, rfl, rfl, rfl⟩
      · -- the list's box
        have e4 : l4 = false := by cases l4 with | false => rfl | true => cases d4 rfl
        have e8 : l8 = false := by cases l8 with | false => rfl | true => (have := (d8 rfl).2.1; rw [e4] at this; cases this)
        subst e4 e8
        have hcell : w.cell? ⟨bl, 0, none⟩ = some v := by
          rcases st with ⟨_, _, _, _, rfl⟩ | ⟨_, _, _, _, rfl⟩ | ⟨_, h4, _⟩ | ⟨_, h4, _⟩ | ⟨h8, _⟩
          · exact h.hl.c
          · exact (World.cell?_of_block (Below.heap_alloc _ _ _ h.hl.lt)).trans h.hl.c
          · cases h4
          · cases h4
          · cases h8
        refine opV (o := o80) (v := v) (w' := w) rfl rfl (by intro c hh; cases hh) (run80 _ _ s2 hcell) ?_
        show wpAnyIn _ _ _ _ _ _ fuel #[true, l1, l2, l3, false, l5, l6, l7, false] (a.put (some 21) (v)) (w)
        exact ih true l1 l2 l3 false l5 l6 l7 false _ _ ⟨(by rw [put_sz]; exact sz), (by rw [put_ne (by decide)]; exact s2), (by rw [put_ne (by decide)]; exact s3), (by rw [put_ne (by decide)]; exact s6), fun _ => Act.eval_put_same _ _ _ (by omega), fun x => (by rw [put_ne (by decide)]; exact t22 x), fun x => (by rw [put_ne (by decide)]; exact t23 x), fun x => (by rw [put_ne (by decide)]; exact t24 x), fun x => (by rw [put_ne (by decide)]; exact t26 x), fun x => (by rw [put_ne (by decide)]; exact t27 x), (by rw [put_ne (by decide)]; exact st), fun x => (by cases x), d3, fun x => (by cases x)⟩ (by simp at hc ⊢; omega)
      · -- the field's place
        refine opV (o := o81) (v := .pointer (some ⟨b6, 0, none⟩)) (w' := w) rfl rfl (by intro c hh; cases hh) (run81 _ _ s6) ?_
        show wpAnyIn _ _ _ _ _ _ fuel #[l0, true, l2, l3, l4, l5, l6, l7, l8] (a.put (some 22) (.pointer (some ⟨b6, 0, none⟩))) (w)
        exact ih l0 true l2 l3 l4 l5 l6 l7 l8 _ _ ⟨(by rw [put_sz]; exact sz), (by rw [put_ne (by decide)]; exact s2), (by rw [put_ne (by decide)]; exact s3), (by rw [put_ne (by decide)]; exact s6), fun x => (by rw [put_ne (by decide)]; exact t21 x), fun _ => Act.eval_put_same _ _ _ (by omega), fun x => (by rw [put_ne (by decide)]; exact t23 x), fun x => (by rw [put_ne (by decide)]; exact t24 x), fun x => (by rw [put_ne (by decide)]; exact t26 x), fun x => (by rw [put_ne (by decide)]; exact t27 x), (by rw [put_ne (by decide)]; exact st), d4, d3, d8⟩ (by simp at hc ⊢; omega)
      · -- the transaction
        have e3 : l3 = false := by cases l3 with | false => rfl | true => cases d3 rfl
        have e8 : l8 = false := by cases l8 with | false => rfl | true => (have := (d8 rfl).1; rw [e3] at this; cases this)
        subst e3 e8
        have hw : w = W.drew := by
          rcases st with ⟨_, _, _, _, rfl⟩ | ⟨h3, _⟩ | ⟨h3, _⟩ | ⟨h3, _⟩ | ⟨h8, _⟩
          · rfl
          · cases h3
          · cases h3
          · cases h3
          · cases h8
        have c0 : w.cell? ⟨b6, 0, none⟩ = some (.int .i64 n) := by rw [hw]; exact h.f0
        have c1 : w.cell? ⟨b6, 1, none⟩ = some (.slice ao C C) := by rw [hw]; exact h.f1
        have q22 := t22 rfl
        clear hw
        refine opV (o := o82) (v := .agg #[.int .i64 n, .slice ao C C]) (w' := w) rfl rfl (by intro c hh; cases hh) (run82 _ _ q22 c0 c1) ?_
        show wpAnyIn _ _ _ _ _ _ fuel #[l0, true, true, false, l4, l5, l6, l7, false] (a.put (some 23) (.agg #[.int .i64 n, .slice ao C C])) (w)
        exact ih l0 true true false l4 l5 l6 l7 false _ _ ⟨(by rw [put_sz]; exact sz), (by rw [put_ne (by decide)]; exact s2), (by rw [put_ne (by decide)]; exact s3), (by rw [put_ne (by decide)]; exact s6), fun x => (by rw [put_ne (by decide)]; exact t21 x), fun x => (by rw [put_ne (by decide)]; exact t22 x), fun _ => Act.eval_put_same _ _ _ (by omega), fun x => (by rw [put_ne (by decide)]; exact t24 x), fun x => (by rw [put_ne (by decide)]; exact t26 x), fun x => (by rw [put_ne (by decide)]; exact t27 x), (by rw [put_ne (by decide)]; exact st), d4, fun x => (by cases x), fun x => (by cases x)⟩ (by simp at hc ⊢; omega)
      · -- the slice of one
        have e8 : l8 = false := by cases l8 with | false => rfl | true => (have := (d8 rfl).1; cases this)
        subst e8
        have hw : l4 = false ∧ l7 = false ∧ w = W.drew := by
          rcases st with ⟨_, h4, h7, _, rfl⟩ | ⟨h3, _⟩ | ⟨h3, _⟩ | ⟨h3, _⟩ | ⟨h8, _⟩
          · exact ⟨h4, h7, rfl⟩
          · cases h3
          · cases h3
          · cases h3
          · cases h8
        obtain ⟨rfl, rfl, rfl⟩ := hw
        have q23 := t23 rfl
        refine opV (o := o83) (v := .slice (some ⟨W.drew.heap.size, 0, none⟩) 1 1) (w' := wb W n ao C) rfl rfl (by intro c hh; cases hh) (run83 _ _ q23) ?_
        show wpAnyIn _ _ _ _ _ _ fuel #[l0, l1, true, true, false, l5, l6, false, false] (a.put (some 24) (.slice (some ⟨W.drew.heap.size, 0, none⟩) 1 1)) (wb W n ao C)
        exact ih l0 l1 true true false l5 l6 false false _ _ ⟨(by rw [put_sz]; exact sz), (by rw [put_ne (by decide)]; exact s2), (by rw [put_ne (by decide)]; exact s3), (by rw [put_ne (by decide)]; exact s6), fun x => (by rw [put_ne (by decide)]; exact t21 x), fun x => (by rw [put_ne (by decide)]; exact t22 x), fun x => (by rw [put_ne (by decide)]; exact t23 x), fun _ => Act.eval_put_same _ _ _ (by omega), fun x => (by rw [put_ne (by decide)]; exact t26 x), fun x => (by rw [put_ne (by decide)]; exact t27 x), Or.inr (Or.inl ⟨rfl, rfl, rfl, rfl, rfl⟩), fun x => (by cases x), fun _ => rfl, fun x => (by cases x)⟩ (by simp at hc ⊢; omega)
      · -- the append
        have e8 : l8 = false := by cases l8 with | false => rfl | true => (have := (d8 rfl).2.1; cases this)
        subst e8
        have hw : l7 = false ∧ w = wb W n ao C := by
          rcases st with ⟨h3, _⟩ | ⟨_, _, h7, _, rfl⟩ | ⟨_, h4, _⟩ | ⟨_, h4, _⟩ | ⟨h8, _⟩
          · cases h3
          · exact ⟨h7, rfl⟩
          · cases h4
          · cases h4
          · cases h8
        obtain ⟨rfl, rfl⟩ := hw
        have q21 := t21 rfl
        have q24 := t24 rfl
        obtain ⟨i0, hi, hz0, hz1, hz2⟩ := info_parts Tryz.infoT
        have hFb : Fr [] W (wb W n ao C) := (Fr.drew [] W).then (Fr.alloc _ _ _)
        have hown : (wb W n ao C).ownsRow 0 63 2 v N xs := owns_keep h.row hFb (by simp)
        have hfew := h.few
        have hcs : ∀ j u, (nw n ao C)[j]? = some u → (wb W n ao C).cell? ((⟨W.drew.heap.size, 0, none⟩ : Addr).add j) = some u := by
          intro j u hj
          have hb : (wb W n ao C).heap[W.drew.heap.size]? = some (.cells #[.int .i64 n, .slice ao C C] 63 (0, 0)) := heap_alloc_new _ _
          rw [show (⟨W.drew.heap.size, 0, none⟩ : Addr).add j = ⟨W.drew.heap.size, 0 + j, none⟩ from by rw [Addr.add_lit], cell_of_row _ _ _ _ _ _ hb, Nat.zero_add]
          simpa [nw] using hj
        obtain ⟨u, w', hrun, g1, g2, _⟩ := run_append_own (P := Tryz.prog) (wb W n ao C) 0 22 22 63 i0 _ 2 32 Tryz.undTs hi hz0 hz1 hz2 rfl (by decide) v N xs hown ⟨W.drew.heap.size, 0, none⟩ 1 1 (nw n ao C) rfl hcs (by simp [nw, Value.oneCell']) (by unfold maxLen; omega) (by omega) (Nat.zero_le _)
        have hmv := moved_app (P := Tryz.prog) (wb W n ao C) 22 22 63 i0 _ 2 32 Tryz.undTs hi hz0 hz1 hz2 v N xs hown ⟨W.drew.heap.size, 0, none⟩ 1 1 (nw n ao C) (by decide) rfl hcs (by simp [nw, Value.oneCell']) (by unfold maxLen; omega) (by omega) u w' hrun
        have hsh : ∃ g cap, u = .slice (some ⟨g, 0, none⟩) (N + 1) cap := by
          rcases g1.2 with ⟨_, hh⟩ | ⟨g, cap', _, hh, _⟩
          · omega
          · exact ⟨g, cap', hh⟩
        have hA : App (wb W n ao C) v N xs (nw n ao C) w' u := ⟨g1, g2, hmv, hsh⟩
        refine opV (o := o84) (v := u) (w' := w') rfl rfl (by intro c hh; cases hh) (by unfold o84 execOp; simp only [resolve, invoke, builtin, Sem.run_bind, Sem.run_pure, Result.andThen_ok, List.map_toArray, List.map_cons, List.map_nil, q21, q24, hrun]) ?_
        show wpAnyIn _ _ _ _ _ _ fuel #[true, l1, l2, true, true, l5, l6, false, false] (a.put (some 25) (u)) (w')
        exact ih true l1 l2 true true l5 l6 false false _ _ ⟨(by rw [put_sz]; exact sz), (by rw [put_ne (by decide)]; exact s2), (by rw [put_ne (by decide)]; exact s3), (by rw [put_ne (by decide)]; exact s6), fun x => (by rw [put_ne (by decide)]; exact t21 x), fun x => (by rw [put_ne (by decide)]; exact t22 x), fun x => (by rw [put_ne (by decide)]; exact t23 x), fun x => (by rw [put_ne (by decide)]; exact t24 x), fun x => (by rw [put_ne (by decide)]; exact t26 x), fun x => (by rw [put_ne (by decide)]; exact t27 x), Or.inr (Or.inr (Or.inl ⟨rfl, rfl, rfl, rfl, by rw [Act.eval_put_same _ _ _ (by omega)]; exact hA⟩)), fun _ => rfl, d3, fun x => (by cases x)⟩ (by simp at hc ⊢; omega)
      · -- the place's field
        refine opV (o := o85) (v := .pointer (some ⟨b6, 2, none⟩)) (w' := w) rfl rfl (by intro c hh; cases hh) (run85 _ _ s6) ?_
        show wpAnyIn _ _ _ _ _ _ fuel #[l0, l1, l2, l3, l4, true, l6, l7, l8] (a.put (some 26) (.pointer (some ⟨b6, 2, none⟩))) (w)
        exact ih l0 l1 l2 l3 l4 true l6 l7 l8 _ _ ⟨(by rw [put_sz]; exact sz), (by rw [put_ne (by decide)]; exact s2), (by rw [put_ne (by decide)]; exact s3), (by rw [put_ne (by decide)]; exact s6), fun x => (by rw [put_ne (by decide)]; exact t21 x), fun x => (by rw [put_ne (by decide)]; exact t22 x), fun x => (by rw [put_ne (by decide)]; exact t23 x), fun x => (by rw [put_ne (by decide)]; exact t24 x), fun _ => Act.eval_put_same _ _ _ (by omega), fun x => (by rw [put_ne (by decide)]; exact t27 x), (by rw [put_ne (by decide)]; exact st), d4, d3, d8⟩ (by simp at hc ⊢; omega)
      · -- the place
        have e8 : l8 = false := by cases l8 with | false => rfl | true => (have := (d8 rfl).2.2.1; cases this)
        subst e8
        have c2 := h.stg_en st
        have q26 := t26 rfl
        refine opV (o := o86) (v := .int .i64 (en : Int)) (w' := w) rfl rfl (by intro c hh; cases hh) (run86 _ _ q26 c2) ?_
        show wpAnyIn _ _ _ _ _ _ fuel #[l0, l1, l2, l3, l4, true, true, l7, false] (a.put (some 27) (.int .i64 (en : Int))) (w)
        exact ih l0 l1 l2 l3 l4 true true l7 false _ _ ⟨(by rw [put_sz]; exact sz), (by rw [put_ne (by decide)]; exact s2), (by rw [put_ne (by decide)]; exact s3), (by rw [put_ne (by decide)]; exact s6), fun x => (by rw [put_ne (by decide)]; exact t21 x), fun x => (by rw [put_ne (by decide)]; exact t22 x), fun x => (by rw [put_ne (by decide)]; exact t23 x), fun x => (by rw [put_ne (by decide)]; exact t24 x), fun x => (by rw [put_ne (by decide)]; exact t26 x), fun _ => Act.eval_put_same _ _ _ (by omega), (by rw [put_ne (by decide)]; exact st), d4, d3, fun x => (by cases x)⟩ (by simp at hc ⊢; omega)
      · -- the list is kept
        have e8 : l8 = false := by cases l8 with | false => rfl | true => (have := (d8 rfl).2.2.2; cases this)
        subst e8
        have hA : App (wb W n ao C) v N xs (nw n ao C) w (a.eval (.tmp 25)) := by
          rcases st with ⟨h3, _⟩ | ⟨_, h4, _⟩ | ⟨_, _, _, _, hA⟩ | ⟨_, _, h7, _⟩ | ⟨h8, _⟩
          · cases h3
          · cases h4
          · exact hA
          · cases h7
          · cases h8
        obtain ⟨g, cap, hu⟩ := hA.shape
        have hbox := h.app_block hA h.hl.lt h.o1
        have c0 : w.cell? ⟨bl, 0, none⟩ = some v := (World.cell?_of_block hbox).trans h.hl.c
        have c1 : w.frozen? ⟨bl, 0, none⟩ = false := (World.frozen?_of_block hbox).trans h.hl.f
        obtain ⟨u, hue⟩ : ∃ u, u = a.eval (.tmp 25) := ⟨_, rfl⟩
        rw [← hue] at hA hu st
        have q25 := hue.symm
        rw [hu] at q25
        refine opS (o := o87) (w' := w.setCell ⟨bl, 0, none⟩ u) rfl rfl (by intro c hh; cases hh) (by rw [hu]; exact run87 _ _ s2 q25 c0 c1) ?_
        show wpAnyIn _ _ _ _ _ _ fuel #[true, true, true, true, true, l5, l6, true, false] a (w.setCell ⟨bl, 0, none⟩ u)
        exact ih true true true true true l5 l6 true false _ _ ⟨sz, s2, s3, s6, t21, t22, t23, t24, t26, t27, Or.inr (Or.inr (Or.inr (Or.inl ⟨rfl, rfl, rfl, rfl, w, by rw [← hue]; exact hA, by rw [← hue]⟩))), d4, d3, fun x => (by cases x)⟩ (by simp at hc ⊢; omega)
      · -- the place is kept
        have q27 := t27 rfl
        obtain ⟨w', hA, rfl⟩ : ∃ w', App (wb W n ao C) v N xs (nw n ao C) w' (a.eval (.tmp 25)) ∧ w = w'.setCell ⟨bl, 0, none⟩ (a.eval (.tmp 25)) := by
          rcases st with ⟨h3, _⟩ | ⟨_, h4, _⟩ | ⟨_, _, h7, _⟩ | ⟨_, _, _, _, hh⟩ | ⟨h8, _⟩
          · cases h3
          · cases h4
          · cases h7
          · exact hh
          · cases h8
        have hbox := h.app_block hA h.hg.lt h.o2
        have hb2 : (w'.setCell ⟨bl, 0, none⟩ (a.eval (.tmp 25))).heap[bg]? = W.heap[bg]? := (Below.heap_setCell _ _ _ _ (fun e => h.ne1 e.symm)).trans hbox
        have c0 : (w'.setCell ⟨bl, 0, none⟩ (a.eval (.tmp 25))).cell? ⟨bg, 0, none⟩ = some gv := (World.cell?_of_block hb2).trans h.hg.c
        have c1 : (w'.setCell ⟨bl, 0, none⟩ (a.eval (.tmp 25))).frozen? ⟨bg, 0, none⟩ = false := (World.frozen?_of_block hb2).trans h.hg.f
        obtain ⟨w2, hw2⟩ : ∃ w2, w2 = w'.setCell ⟨bl, 0, none⟩ (a.eval (.tmp 25)) := ⟨_, rfl⟩
        rw [← hw2] at c0 c1 ⊢
        have H2 : Hid (w2 = w'.setCell ⟨bl, 0, none⟩ (a.eval (.tmp 25))) := hw2
        clear hw2 hb2 st
        refine opS (o := o88) (w' := w2.setCell ⟨bg, 0, none⟩ (.int .i64 (en : Int))) rfl rfl (by intro c hh; cases hh) (run88 _ _ s3 q27 c0 c1) ?_
        show wpAnyIn _ _ _ _ _ _ fuel #[true, true, true, true, true, true, true, true, true] a (w2.setCell ⟨bg, 0, none⟩ (.int .i64 (en : Int)))
        exact ih true true true true true true true true true _ _ ⟨sz, s2, s3, s6, t21, t22, t23, t24, t26, t27, Or.inr (Or.inr (Or.inr (Or.inr ⟨rfl, w', hA, by rw [H2.out]⟩))), d4, d3, fun _ => ⟨rfl, rfl, rfl, rfl⟩⟩ (by simp at hc ⊢)
/-- The region, whatever order it draws. -/
theorem region8 (l m bl bg b6 : Nat) (W : World) (v gv : Value) (N : Nat) (xs : List Value) (n : Int) (ao : Option Addr) (C en : Nat) (h : Rg bl bg b6 W v gv N xs n ao C en) (Qw : World → Prop) (a : Act)
    (hQ : ∀ w' u, App (wb W n ao C) v N xs (nw n ao C) w' u → Qw ((w'.setCell ⟨bl, 0, none⟩ u).setCell ⟨bg, 0, none⟩ (.int .i64 (en : Int))))
    (sz : a.tmps.size = 31) (s2 : a.eval (.tmp 2) = .pointer (some ⟨bl, 0, none⟩)) (s3 : a.eval (.tmp 3) = .pointer (some ⟨bg, 0, none⟩)) (s6 : a.eval (.tmp 6) = .pointer (some ⟨b6, 0, none⟩)) :
    (Code.region 8 ops8 true).wpIn (Fence.wide.inRound l) m Tryz.prog (fun e _ w' => e = .normal ∧ Qw w') a W := by
  refine wpIn_region_any (by kernel_rfl) ?_
  exact walk8 l m bl bg b6 W v gv N xs n ao C en h Qw hQ 9 false false false false false false false false false a W.drew
    ⟨sz, s2, s3, s6, fun x => (by cases x), fun x => (by cases x), fun x => (by cases x), fun x => (by cases x), fun x => (by cases x), fun x => (by cases x), Or.inl ⟨rfl, rfl, rfl, rfl, rfl⟩, fun x => (by cases x), fun x => (by cases x), fun x => (by cases x)⟩ (by decide)
end Go.Proofs.YtaefninikmaiiaaGreatDoor

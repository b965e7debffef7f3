/- Texts of this claim laid together, one behind the other: contracts and plain lemmas; conditions as each names them. -/
import Derived.Test.YtaefninikmaiiaaGreatDoorGp6
import Derived.Great.Frames
import Derived.Laws.EntriesVeiled
import Derived.Test.YtaefninikmaiiaaGreatDoorGp2
import Derived.Test.YtaefninikmaiiaaGreatDoorGp4
/- Texts of this claim laid together, one behind the other: contracts and plain lemmas; conditions as each names them. -/
/- One region of Read's loop body, which draws its order: a transaction is put behind the list, and the place is kept. In a round's frame. Conditions as it names them. -/
namespace Go.Proofs.YtaefninikmaiiaaGreatDoor
open Go.ChangeShapes Go.WideShapes Go.ChangeAt Go.RowKit Go.Lib
set_option linter.unusedVariables false

def o80 : Oper := { dst := some 21, op := Op.load 22 (Operand.tmp 2), type := 22, pos := "read.go:32", after := #[], guard := none }
def o81 : Oper := { dst := some 22, op := Op.fieldAddr 100 (Operand.tmp 6) 0, type := 0, pos := "read.go:32", after := #[], guard := none }
def o82 : Oper := { dst := some 23, op := Op.load 63 (Operand.tmp 22), type := 63, pos := "read.go:32", after := #[{ on := 1, ground := Ground.data }], guard := none }
def o83 : Oper := { dst := some 24, op := Op.buildSlice 22 1 #[(0, Operand.tmp 23)], type := 22, pos := "read.go:32", after := #[{ on := 2, ground := Ground.data }], guard := none }
def o84 : Oper := { dst := some 25, op := Op.call { callee := Callee.builtin Builtin.append, args := #[Operand.tmp 21, Operand.tmp 24], argTypes := #[22, 22] }, type := 22, pos := "read.go:32", after := #[{ on := 0, ground := Ground.data }, { on := 3, ground := Ground.data }], guard := none }
def o85 : Oper := { dst := some 26, op := Op.fieldAddr 100 (Operand.tmp 6) 1, type := 0, pos := "read.go:32", after := #[{ on := 7, ground := Ground.gcOnly Departure.lateStores }], guard := none }
def o86 : Oper := { dst := some 27, op := Op.load 3 (Operand.tmp 26), type := 3, pos := "read.go:32", after := #[{ on := 5, ground := Ground.data }, { on := 7, ground := Ground.gcOnly Departure.lateStores }], guard := none }
def o87 : Oper := { dst := none, op := Op.store 22 (Operand.tmp 2) (Operand.tmp 25), type := 0, pos := "read.go:32", after := #[{ on := 4, ground := Ground.data }, { on := 4, ground := Ground.chain }, { on := 0, ground := Ground.phase }, { on := 1, ground := Ground.phase }, { on := 2, ground := Ground.phase }, { on := 3, ground := Ground.phase }, { on := 4, ground := Ground.phase }, { on := 5, ground := Ground.textOnly Departure.lateStores }, { on := 6, ground := Ground.textOnly Departure.lateStores }], guard := none }
def o88 : Oper := { dst := none, op := Op.store 3 (Operand.tmp 3) (Operand.tmp 27), type := 0, pos := "read.go:32", after := #[{ on := 6, ground := Ground.data }, { on := 7, ground := Ground.chain }, { on := 0, ground := Ground.phase }, { on := 1, ground := Ground.phase }, { on := 2, ground := Ground.phase }, { on := 3, ground := Ground.phase }, { on := 4, ground := Ground.phase }, { on := 5, ground := Ground.phase }, { on := 6, ground := Ground.phase }, { on := 7, ground := Ground.phase }], guard := none }
def ops8 : Array Oper := #[o80, o81, o82, o83, o84, o85, o86, o87, o88]

theorem opV {l n : Nat} {P : Program} {ops : Array Oper} {Q : Exit → Act → World → Prop} {i : Nat} {o : Oper} {v : Value} {w w' : World} {a : Act} {K : Act → World → Prop} (hi : ops[i]? = some o) (hg : o.guard = none) (hd : ∀ c, o.op ≠ .defer c)
    (hr : (execOp a.eval o).run P w = .ok (.value v) w') (hK : K (a.put o.dst v) w') : wpOpIn (Fence.wide.inRound l) n P ops Q i K a w := by
  unfold wpOpIn
  rw [hi]
  simp only
  rw [if_pos (by simp [Region.wanted, hg])]
  unfold Oper.wpIn
  refine ⟨fun _ _ => trivial, ?_⟩
  rw [Oper.semAt_plain _ _ _ hd, hr]
  exact hK
theorem opS {l n : Nat} {P : Program} {ops : Array Oper} {Q : Exit → Act → World → Prop} {i : Nat} {o : Oper} {w w' : World} {a : Act} {K : Act → World → Prop} (hi : ops[i]? = some o) (hg : o.guard = none) (hd : ∀ c, o.op ≠ .defer c)
    (hr : (execOp a.eval o).run P w = .ok .skip w') (hK : K (a.put o.dst undef) w') : wpOpIn (Fence.wide.inRound l) n P ops Q i K a w := by
  unfold wpOpIn
  rw [hi]
  simp only
  rw [if_pos (by simp [Region.wanted, hg])]
  unfold Oper.wpIn
  refine ⟨fun _ _ => trivial, ?_⟩
  rw [Oper.semAt_plain _ _ _ hd, hr]
  exact hK
theorem rdy (l0 l1 l2 l3 l4 l5 l6 l7 l8 : Bool) (i : Nat) : i ∈ Region.ready .any ops8 #[l0, l1, l2, l3, l4, l5, l6, l7, l8] ↔
    (i = 0 ∧ l0 = false) ∨ (i = 1 ∧ l1 = false) ∨ (i = 2 ∧ l2 = false ∧ l1 = true) ∨ (i = 3 ∧ l3 = false ∧ l2 = true) ∨ (i = 4 ∧ l4 = false ∧ l0 = true ∧ l3 = true) ∨ (i = 5 ∧ l5 = false) ∨ (i = 6 ∧ l6 = false ∧ l5 = true) ∨
    (i = 7 ∧ l7 = false ∧ l0 = true ∧ l1 = true ∧ l2 = true ∧ l3 = true ∧ l4 = true) ∨ (i = 8 ∧ l8 = false ∧ l0 = true ∧ l1 = true ∧ l2 = true ∧ l3 = true ∧ l4 = true ∧ l5 = true ∧ l6 = true ∧ l7 = true) := by
  unfold Region.ready
  rw [List.mem_filter, List.mem_range]
  constructor
  · rintro ⟨hi, hc⟩
    have hi9 : i < 9 := hi
    match i, hi9 with
    | 0, _ => simp [ops8, o80, o81, o82, o83, o84, o85, o86, o87, o88, Region.binds] at hc; simp [hc]
    | 1, _ => simp [ops8, o80, o81, o82, o83, o84, o85, o86, o87, o88, Region.binds] at hc; simp [hc]
    | 2, _ => simp [ops8, o80, o81, o82, o83, o84, o85, o86, o87, o88, Region.binds] at hc; simp [hc]
    | 3, _ => simp [ops8, o80, o81, o82, o83, o84, o85, o86, o87, o88, Region.binds] at hc; simp [hc]
    | 4, _ => simp [ops8, o80, o81, o82, o83, o84, o85, o86, o87, o88, Region.binds] at hc; simp [hc]
    | 5, _ => simp [ops8, o80, o81, o82, o83, o84, o85, o86, o87, o88, Region.binds] at hc; simp [hc]
    | 6, _ => simp [ops8, o80, o81, o82, o83, o84, o85, o86, o87, o88, Region.binds] at hc; simp [hc]
    | 7, _ => simp [ops8, o80, o81, o82, o83, o84, o85, o86, o87, o88, Region.binds] at hc; simp [hc]
    | 8, _ => simp [ops8, o80, o81, o82, o83, o84, o85, o86, o87, o88, Region.binds] at hc; simp [hc]
  · rintro (⟨rfl, h⟩ | ⟨rfl, h⟩ | ⟨rfl, h⟩ | ⟨rfl, h⟩ | ⟨rfl, h⟩ | ⟨rfl, h⟩ | ⟨rfl, h⟩ | ⟨rfl, h⟩ | ⟨rfl, h⟩) <;> simp [ops8, o80, o81, o82, o83, o84, o85, o86, o87, o88, Region.binds, h]
/-- Behind the append. -/
structure App (Wb : World) (v : Value) (N : Nat) (xs news : List Value) (w : World) (u : Value) : Prop where
  own : w.ownsRow 0 63 2 u (N + 1) (xs ++ news)
  grown : Wb.grownBy w v.ownBlock
  moved : Moved Wb.heap.size v u
  shape : ∃ g cap, u = .slice (some ⟨g, 0, none⟩) (N + 1) cap
/-- How far the region's own changes are. -/
def Stg (bl bg : Nat) (Wd Wb : World) (v : Value) (N : Nat) (xs news : List Value) (en : Nat) (l3 l4 l7 l8 : Bool) (u : Value) (w : World) : Prop :=
  (l3 = false ∧ l4 = false ∧ l7 = false ∧ l8 = false ∧ w = Wd) ∨ (l3 = true ∧ l4 = false ∧ l7 = false ∧ l8 = false ∧ w = Wb) ∨ (l3 = true ∧ l4 = true ∧ l7 = false ∧ l8 = false ∧ App Wb v N xs news w u) ∨
  (l3 = true ∧ l4 = true ∧ l7 = true ∧ l8 = false ∧ ∃ w', App Wb v N xs news w' u ∧ w = w'.setCell ⟨bl, 0, none⟩ u) ∨
  (l8 = true ∧ ∃ w', App Wb v N xs news w' u ∧ w = (w'.setCell ⟨bl, 0, none⟩ u).setCell ⟨bg, 0, none⟩ (.int .i64 (en : Int)))
structure Iv (bl bg b6 : Nat) (Wd Wb : World) (v : Value) (N : Nat) (xs news : List Value) (n : Int) (ao : Option Addr) (C en : Nat) (l0 l1 l2 l3 l4 l5 l6 l7 l8 : Bool) (a : Act) (w : World) : Prop where
  sz : a.tmps.size = 31
  s2 : a.eval (.tmp 2) = .pointer (some ⟨bl, 0, none⟩)
  s3 : a.eval (.tmp 3) = .pointer (some ⟨bg, 0, none⟩)
  s6 : a.eval (.tmp 6) = .pointer (some ⟨b6, 0, none⟩)
  t21 : l0 = true → a.eval (.tmp 21) = v
  t22 : l1 = true → a.eval (.tmp 22) = .pointer (some ⟨b6, 0, none⟩)
  t23 : l2 = true → a.eval (.tmp 23) = .agg #[.int .i64 n, .slice ao C C]
  t24 : l3 = true → a.eval (.tmp 24) = .slice (some ⟨Wd.heap.size, 0, none⟩) 1 1
  t26 : l5 = true → a.eval (.tmp 26) = .pointer (some ⟨b6, 2, none⟩)
  t27 : l6 = true → a.eval (.tmp 27) = .int .i64 (en : Int)
  st : Stg bl bg Wd Wb v N xs news en l3 l4 l7 l8 (a.eval (.tmp 25)) w
  d4 : l4 = true → l0 = true
  d3 : l3 = true → l2 = true
  d8 : l8 = true → l3 = true ∧ l4 = true ∧ l6 = true ∧ l7 = true
theorem put_ne {a : Act} {d j : Nat} {v : Value} (h : d ≠ j) : (a.put (some d) v).eval (.tmp j) = a.eval (.tmp j) := Act.eval_put_ne a d j v h
theorem put_sz {a : Act} {d : Nat} {v : Value} : (a.put (some d) v).tmps.size = a.tmps.size := by simp [Act.put]
/-- What the region leans on. -/
structure Rg (bl bg b6 : Nat) (W : World) (v gv : Value) (N : Nat) (xs : List Value) (n : Int) (ao : Option Addr) (C en : Nat) : Prop where
  hl : Bv W bl 22 v
  hg : Bv W bg 3 gv
  row : W.ownsRow 0 63 2 v N xs
  f0 : W.cell? ⟨b6, 0, none⟩ = some (.int .i64 n)
  f1 : W.cell? ⟨b6, 1, none⟩ = some (.slice ao C C)
  f2 : W.cell? ⟨b6, 2, none⟩ = some (.int .i64 (en : Int))
  lt6 : b6 < W.heap.size
  ne1 : bl ≠ bg
  ne2 : bl ≠ b6
  ne3 : bg ≠ b6
  o1 : v.ownBlock ≠ some bl
  o2 : v.ownBlock ≠ some bg
  o3 : v.ownBlock ≠ some b6
  few : N ≤ 2199023255552
theorem Tryz.infoT : (Tryz.prog.info? 63).map (fun i => (i.zero, i.size, i.bytes)) = some (some (.agg #[.int .i64 0, .slice none 0 0]), 2, 32) := by kernel_rfl
theorem Tryz.undTs : Tryz.prog.underlying 22 = some (.slice 63) := by kernel_rfl
section
variable {bl bg b6 : Nat} {W : World} {v gv : Value} {N : Nat} {xs : List Value} {n : Int} {ao : Option Addr} {C en : Nat}
def wb (W : World) (n : Int) (ao : Option Addr) (C : Nat) : World := W.drew.alloc (.cells #[.int .i64 n, .slice ao C C] 63)
def nw (n : Int) (ao : Option Addr) (C : Nat) : List Value := [.int .i64 n, .slice ao C C]
theorem Rg.app_block (h : Rg bl bg b6 W v gv N xs n ao C en) {w : World} {u : Value} (hA : App (wb W n ao C) v N xs (nw n ao C) w u) {k : Nat} (hk : k < W.heap.size) (hn : v.ownBlock ≠ some k) : w.heap[k]? = W.heap[k]? := by
  have h1 := hA.grown.block k (by simp [wb]; omega) (fun e => hn e.symm)
  refine h1.trans ?_
  exact Below.heap_alloc _ _ _ hk
theorem Rg.stg_en (h : Rg bl bg b6 W v gv N xs n ao C en) {l3 l4 l7 : Bool} {u : Value} {w : World} (hs : Stg bl bg W.drew (wb W n ao C) v N xs (nw n ao C) en l3 l4 l7 false u w) : w.cell? ⟨b6, 2, none⟩ = some (.int .i64 (en : Int)) := by
  rcases hs with ⟨_, _, _, _, rfl⟩ | ⟨_, _, _, _, rfl⟩ | ⟨_, _, _, _, hA⟩ | ⟨_, _, _, _, w', hA, rfl⟩ | ⟨h8, _⟩
  · exact h.f2
  · exact (World.cell?_of_block (Below.heap_alloc _ _ _ h.lt6)).trans h.f2
  · exact (World.cell?_of_block (h.app_block hA h.lt6 h.o3)).trans h.f2
  · exact (World.cell?_of_block ((Below.heap_setCell _ _ _ _ (fun e => h.ne2 e.symm)).trans (h.app_block hA h.lt6 h.o3))).trans h.f2
  · cases h8
end
section
variable (ρ : Operand → Value) (w : World) {bl bg b6 : Nat} {v gv : Value} {n : Int} {ao : Option Addr} {C en : Nat}
theorem run80 (h2 : ρ (.tmp 2) = .pointer (some ⟨bl, 0, none⟩)) (hc : w.cell? ⟨bl, 0, none⟩ = some v) : (execOp ρ o80).run Tryz.prog w = .ok (.value v) w := by
  unfold o80
  go_simp
theorem run81 (h6 : ρ (.tmp 6) = .pointer (some ⟨b6, 0, none⟩)) : (execOp ρ o81).run Tryz.prog w = .ok (.value (.pointer (some ⟨b6, 0, none⟩))) w := by
  unfold o81
  go_simp
theorem run82 (h22 : ρ (.tmp 22) = .pointer (some ⟨b6, 0, none⟩)) (c0 : w.cell? ⟨b6, 0, none⟩ = some (.int .i64 n)) (c1 : w.cell? ⟨b6, 1, none⟩ = some (.slice ao C C)) : (execOp ρ o82).run Tryz.prog w = .ok (.value (.agg #[.int .i64 n, .slice ao C C])) w := by
  unfold o82
  go_simp
theorem run83 (h23 : ρ (.tmp 23) = .agg #[.int .i64 n, .slice ao C C]) : (execOp ρ o83).run Tryz.prog w.drew = .ok (.value (.slice (some ⟨w.drew.heap.size, 0, none⟩) 1 1)) (wb w n ao C) := by
  unfold o83 wb
  go_simp
theorem run85 (h6 : ρ (.tmp 6) = .pointer (some ⟨b6, 0, none⟩)) : (execOp ρ o85).run Tryz.prog w = .ok (.value (.pointer (some ⟨b6, 2, none⟩))) w := by
  unfold o85
  go_simp
theorem run86 (h26 : ρ (.tmp 26) = .pointer (some ⟨b6, 2, none⟩)) (c2 : w.cell? ⟨b6, 2, none⟩ = some (.int .i64 (en : Int))) : (execOp ρ o86).run Tryz.prog w = .ok (.value (.int .i64 (en : Int))) w := by
  unfold o86
  go_simp
theorem run87 {g N cap : Nat} (h2 : ρ (.tmp 2) = .pointer (some ⟨bl, 0, none⟩)) (h25 : ρ (.tmp 25) = .slice (some ⟨g, 0, none⟩) N cap) (c0 : w.cell? ⟨bl, 0, none⟩ = some v) (c1 : w.frozen? ⟨bl, 0, none⟩ = false) : (execOp ρ o87).run Tryz.prog w = .ok .skip (w.setCell ⟨bl, 0, none⟩ (.slice (some ⟨g, 0, none⟩) N cap)) := by
  unfold o87
  go_simp
theorem run88 (h3 : ρ (.tmp 3) = .pointer (some ⟨bg, 0, none⟩)) (h27 : ρ (.tmp 27) = .int .i64 (en : Int)) (c0 : w.cell? ⟨bg, 0, none⟩ = some gv) (c1 : w.frozen? ⟨bg, 0, none⟩ = false) : (execOp ρ o88).run Tryz.prog w = .ok .skip (w.setCell ⟨bg, 0, none⟩ (.int .i64 (en : Int))) := by
  unfold o88
  go_simp
end
set_option maxHeartbeats 4000000 in
set_option maxRecDepth 100000 in
theorem walk8 (l m bl bg b6 : Nat) (W : World) (v gv : Value) (N : Nat) (xs : List Value) (n : Int) (ao : Option Addr) (C en : Nat) (h : Rg bl bg b6 W v gv N xs n ao C en) (Qw : World → Prop)
    (hQ : ∀ w' u, App (wb W n ao C) v N xs (nw n ao C) w' u → Qw ((w'.setCell ⟨bl, 0, none⟩ u).setCell ⟨bg, 0, none⟩ (.int .i64 (en : Int)))) :
    ∀ (fuel : Nat) (l0 l1 l2 l3 l4 l5 l6 l7 l8 : Bool) (a : Act) (w : World), Iv bl bg b6 W.drew (wb W n ao C) v N xs (nw n ao C) n ao C en l0 l1 l2 l3 l4 l5 l6 l7 l8 a w →
      (!l0).toNat + (!l1).toNat + (!l2).toNat + (!l3).toNat + (!l4).toNat + (!l5).toNat + (!l6).toNat + (!l7).toNat + (!l8).toNat ≤ fuel →
      wpAnyIn (Fence.wide.inRound l) m Tryz.prog .any ops8 (fun e _ w' => e = .normal ∧ Qw w') fuel #[l0, l1, l2, l3, l4, l5, l6, l7, l8] a w := by
  intro fuel
  induction fuel with
  | zero =>
    intro l0 l1 l2 l3 l4 l5 l6 l7 l8 a w hI hc
    have e8 : l8 = true := by cases l8 <;> simp at hc ⊢
    have e0 : l0 = true := by cases l0 <;> simp at hc ⊢
    have e1 : l1 = true := by cases l1 <;> simp at hc ⊢
    have e2 : l2 = true := by cases l2 <;> simp at hc ⊢
    have e3 : l3 = true := by cases l3 <;> simp at hc ⊢
    have e4 : l4 = true := by cases l4 <;> simp at hc ⊢
    have e5 : l5 = true := by cases l5 <;> simp at hc ⊢
    have e6 : l6 = true := by cases l6 <;> simp at hc ⊢
    have e7 : l7 = true := by cases l7 <;> simp at hc ⊢
    subst e0 e1 e2 e3 e4 e5 e6 e7 e8
    refine ⟨?_, rfl, ?_⟩
    · refine List.eq_nil_iff_forall_not_mem.2 (fun i hi => ?_)
      rw [rdy] at hi
      simp at hi
    · rcases hI.st with ⟨_, _, _, h8, _⟩ | ⟨_, _, _, h8, _⟩ | ⟨_, _, _, h8, _⟩ | ⟨_, _, _, h8, _⟩ | ⟨_, w', hA, rfl⟩
      · cases h8
      · cases h8
      · cases h8
      · cases h8
      · exact hQ _ _ hA
  | succ fuel ih =>
    intro l0 l1 l2 l3 l4 l5 l6 l7 l8 a w hI hc
    refine ⟨fun hr => ?_, fun i hi => ?_⟩
    · have hn : ∀ i, i ∉ Region.ready .any ops8 #[l0, l1, l2, l3, l4, l5, l6, l7, l8] := fun i => by rw [hr]; simp
      have e0 : l0 = true := by have := hn 0; rw [rdy] at this; simpa using this
      have e1 : l1 = true := by have := hn 1; rw [rdy] at this; simpa using this
      subst e0 e1
      have e2 : l2 = true := by have := hn 2; rw [rdy] at this; simpa using this
      subst e2
      have e3 : l3 = true := by have := hn 3; rw [rdy] at this; simpa using this
      subst e3
      have e4 : l4 = true := by have := hn 4; rw [rdy] at this; simpa using this
      have e5 : l5 = true := by have := hn 5; rw [rdy] at this; simpa using this
      subst e4 e5
      have e6 : l6 = true := by have := hn 6; rw [rdy] at this; simpa using this
      have e7 : l7 = true := by have := hn 7; rw [rdy] at this; simpa using this
      subst e6 e7
      have e8 : l8 = true := by have := hn 8; rw [rdy] at this; simpa using this
      subst e8
      refine ⟨rfl, ?_⟩
      rcases hI.st with ⟨_, _, _, h8, _⟩ | ⟨_, _, _, h8, _⟩ | ⟨_, _, _, h8, _⟩ | ⟨_, _, _, h8, _⟩ | ⟨_, w', hA, rfl⟩
      · cases h8
      · cases h8
      · cases h8
      · cases h8
      · exact hQ _ _ hA
    · rw [rdy] at hi
      obtain ⟨sz, s2, s3, s6, t21, t22, t23, t24, t26, t27, st, d4, d3, d8⟩ := hI
      rcases hi with ⟨rfl, rfl⟩ | ⟨rfl, rfl⟩ | ⟨rfl, rfl, rfl⟩ | ⟨rfl, rfl, rfl⟩ | ⟨rfl, rfl, rfl, rfl⟩ | ⟨rfl, rfl⟩ | ⟨rfl, rfl, rfl⟩ | ⟨rfl, rfl, rfl, rfl, rfl, rfl, rfl⟩ | ⟨rfl, rfl, rfl, rfl, rfl, rfl, rfl, rfl, rfl, rfl⟩
      · -- the list's box
        have e4 : l4 = false := by cases l4 with | false => rfl | true => cases d4 rfl
        have e8 : l8 = false := by cases l8 with | false => rfl | true => (have := (d8 rfl).2.1; rw [e4] at this; cases this)
        subst e4 e8
        have hcell : w.cell? ⟨bl, 0, none⟩ = some v := by
          rcases st with ⟨_, _, _, _, rfl⟩ | ⟨_, _, _, _, rfl⟩ | ⟨_, h4, _⟩ | ⟨_, h4, _⟩ | ⟨h8, _⟩
          · exact h.hl.c
          · exact (World.cell?_of_block (Below.heap_alloc _ _ _ h.hl.lt)).trans h.hl.c
          · cases h4
          · cases h4
          · cases h8
        refine opV (o := o80) (v := v) (w' := w) rfl rfl (by intro c hh; cases hh) (run80 _ _ s2 hcell) ?_
        show wpAnyIn _ _ _ _ _ _ fuel #[true, l1, l2, l3, false, l5, l6, l7, false] (a.put (some 21) (v)) (w)
        exact ih true l1 l2 l3 false l5 l6 l7 false _ _ ⟨(by rw [put_sz]; exact sz), (by rw [put_ne (by decide)]; exact s2), (by rw [put_ne (by decide)]; exact s3), (by rw [put_ne (by decide)]; exact s6), fun _ => Act.eval_put_same _ _ _ (by omega), fun x => (by rw [put_ne (by decide)]; exact t22 x), fun x => (by rw [put_ne (by decide)]; exact t23 x), fun x => (by rw [put_ne (by decide)]; exact t24 x), fun x => (by rw [put_ne (by decide)]; exact t26 x), fun x => (by rw [put_ne (by decide)]; exact t27 x), (by rw [put_ne (by decide)]; exact st), fun x => (by cases x), d3, fun x => (by cases x)⟩ (by simp at hc ⊢; omega)
      · -- the field's place
        refine opV (o := o81) (v := .pointer (some ⟨b6, 0, none⟩)) (w' := w) rfl rfl (by intro c hh; cases hh) (run81 _ _ s6) ?_
        show wpAnyIn _ _ _ _ _ _ fuel #[l0, true, l2, l3, l4, l5, l6, l7, l8] (a.put (some 22) (.pointer (some ⟨b6, 0, none⟩))) (w)
        exact ih l0 true l2 l3 l4 l5 l6 l7 l8 _ _ ⟨(by rw [put_sz]; exact sz), (by rw [put_ne (by decide)]; exact s2), (by rw [put_ne (by decide)]; exact s3), (by rw [put_ne (by decide)]; exact s6), fun x => (by rw [put_ne (by decide)]; exact t21 x), fun _ => Act.eval_put_same _ _ _ (by omega), fun x => (by rw [put_ne (by decide)]; exact t23 x), fun x => (by rw [put_ne (by decide)]; exact t24 x), fun x => (by rw [put_ne (by decide)]; exact t26 x), fun x => (by rw [put_ne (by decide)]; exact t27 x), (by rw [put_ne (by decide)]; exact st), d4, d3, d8⟩ (by simp at hc ⊢; omega)
      · -- the transaction
        have e3 : l3 = false := by cases l3 with | false => rfl | true => cases d3 rfl
        have e8 : l8 = false := by cases l8 with | false => rfl | true => (have := (d8 rfl).1; rw [e3] at this; cases this)
        subst e3 e8
        have hw : w = W.drew := by
          rcases st with ⟨_, _, _, _, rfl⟩ | ⟨h3, _⟩ | ⟨h3, _⟩ | ⟨h3, _⟩ | ⟨h8, _⟩
          · rfl
          · cases h3
          · cases h3
          · cases h3
          · cases h8
        have c0 : w.cell? ⟨b6, 0, none⟩ = some (.int .i64 n) := by rw [hw]; exact h.f0
        have c1 : w.cell? ⟨b6, 1, none⟩ = some (.slice ao C C) := by rw [hw]; exact h.f1
        have q22 := t22 rfl
        clear hw
        refine opV (o := o82) (v := .agg #[.int .i64 n, .slice ao C C]) (w' := w) rfl rfl (by intro c hh; cases hh) (run82 _ _ q22 c0 c1) ?_
        show wpAnyIn _ _ _ _ _ _ fuel #[l0, true, true, false, l4, l5, l6, l7, false] (a.put (some 23) (.agg #[.int .i64 n, .slice ao C C])) (w)
        exact ih l0 true true false l4 l5 l6 l7 false _ _ ⟨(by rw [put_sz]; exact sz), (by rw [put_ne (by decide)]; exact s2), (by rw [put_ne (by decide)]; exact s3), (by rw [put_ne (by decide)]; exact s6), fun x => (by rw [put_ne (by decide)]; exact t21 x), fun x => (by rw [put_ne (by decide)]; exact t22 x), fun _ => Act.eval_put_same _ _ _ (by omega), fun x => (by rw [put_ne (by decide)]; exact t24 x), fun x => (by rw [put_ne (by decide)]; exact t26 x), fun x => (by rw [put_ne (by decide)]; exact t27 x), (by rw [put_ne (by decide)]; exact st), d4, fun x => (by cases x), fun x => (by cases x)⟩ (by simp at hc ⊢; omega)
      · -- the slice of one
        have e8 : l8 = false := by cases l8 with | false => rfl | true => (have := (d8 rfl).1; cases this)
        subst e8
        have hw : l4 = false ∧ l7 = false ∧ w = W.drew := by
          rcases st with ⟨_, h4, h7, _, rfl⟩ | ⟨h3, _⟩ | ⟨h3, _⟩ | ⟨h3, _⟩ | ⟨h8, _⟩
          · exact ⟨h4, h7, rfl⟩
          · cases h3
          · cases h3
          · cases h3
          · cases h8
        obtain ⟨rfl, rfl, rfl⟩ := hw
        have q23 := t23 rfl
        refine opV (o := o83) (v := .slice (some ⟨W.drew.heap.size, 0, none⟩) 1 1) (w' := wb W n ao C) rfl rfl (by intro c hh; cases hh) (run83 _ _ q23) ?_
        show wpAnyIn _ _ _ _ _ _ fuel #[l0, l1, true, true, false, l5, l6, false, false] (a.put (some 24) (.slice (some ⟨W.drew.heap.size, 0, none⟩) 1 1)) (wb W n ao C)
        exact ih l0 l1 true true false l5 l6 false false _ _ ⟨(by rw [put_sz]; exact sz), (by rw [put_ne (by decide)]; exact s2), (by rw [put_ne (by decide)]; exact s3), (by rw [put_ne (by decide)]; exact s6), fun x => (by rw [put_ne (by decide)]; exact t21 x), fun x => (by rw [put_ne (by decide)]; exact t22 x), fun x => (by rw [put_ne (by decide)]; exact t23 x), fun _ => Act.eval_put_same _ _ _ (by omega), fun x => (by rw [put_ne (by decide)]; exact t26 x), fun x => (by rw [put_ne (by decide)]; exact t27 x), Or.inr (Or.inl ⟨rfl, rfl, rfl, rfl, rfl⟩), fun x => (by cases x), fun _ => rfl, fun x => (by cases x)⟩ (by simp at hc ⊢; omega)
      · -- the append
        have e8 : l8 = false := by cases l8 with | false => rfl | true => (have := (d8 rfl).2.1; cases this)
        subst e8
        have hw : l7 = false ∧ w = wb W n ao C := by
          rcases st with ⟨h3, _⟩ | ⟨_, _, h7, _, rfl⟩ | ⟨_, h4, _⟩ | ⟨_, h4, _⟩ | ⟨h8, _⟩
          · cases h3
          · exact ⟨h7, rfl⟩
          · cases h4
          · cases h4
          · cases h8
        obtain ⟨rfl, rfl⟩ := hw
        have q21 := t21 rfl
        have q24 := t24 rfl
        obtain ⟨i0, hi, hz0, hz1, hz2⟩ := info_parts Tryz.infoT
        have hFb : Fr [] W (wb W n ao C) := (Fr.drew [] W).then (Fr.alloc _ _ _)
        have hown : (wb W n ao C).ownsRow 0 63 2 v N xs := owns_keep h.row hFb (by simp)
        have hfew := h.few
        have hcs : ∀ j u, (nw n ao C)[j]? = some u → (wb W n ao C).cell? ((⟨W.drew.heap.size, 0, none⟩ : Addr).add j) = some u := by
          intro j u hj
          have hb : (wb W n ao C).heap[W.drew.heap.size]? = some (.cells #[.int .i64 n, .slice ao C C] 63 (0, 0)) := heap_alloc_new _ _
          rw [show (⟨W.drew.heap.size, 0, none⟩ : Addr).add j = ⟨W.drew.heap.size, 0 + j, none⟩ from by rw [Addr.add_lit], cell_of_row _ _ _ _ _ _ hb, Nat.zero_add]
          simpa [nw] using hj
        obtain ⟨u, w', hrun, g1, g2, _⟩ := run_append_own (P := Tryz.prog) (wb W n ao C) 0 22 22 63 i0 _ 2 32 Tryz.undTs hi hz0 hz1 hz2 rfl (by decide) v N xs hown ⟨W.drew.heap.size, 0, none⟩ 1 1 (nw n ao C) rfl hcs (by simp [nw, Value.oneCell']) (by unfold maxLen; omega) (by omega) (Nat.zero_le _)
        have hmv := moved_app (P := Tryz.prog) (wb W n ao C) 22 22 63 i0 _ 2 32 Tryz.undTs hi hz0 hz1 hz2 v N xs hown ⟨W.drew.heap.size, 0, none⟩ 1 1 (nw n ao C) (by decide) rfl hcs (by simp [nw, Value.oneCell']) (by unfold maxLen; omega) (by omega) u w' hrun
        have hsh : ∃ g cap, u = .slice (some ⟨g, 0, none⟩) (N + 1) cap := by
          rcases g1.2 with ⟨_, hh⟩ | ⟨g, cap', _, hh, _⟩
          · omega
          · exact ⟨g, cap', hh⟩
        have hA : App (wb W n ao C) v N xs (nw n ao C) w' u := ⟨g1, g2, hmv, hsh⟩
        refine opV (o := o84) (v := u) (w' := w') rfl rfl (by intro c hh; cases hh) (by unfold o84 execOp; simp only [resolve, invoke, builtin, Sem.run_bind, Sem.run_pure, Result.andThen_ok, List.map_toArray, List.map_cons, List.map_nil, q21, q24, hrun]) ?_
        show wpAnyIn _ _ _ _ _ _ fuel #[true, l1, l2, true, true, l5, l6, false, false] (a.put (some 25) (u)) (w')
        exact ih true l1 l2 true true l5 l6 false false _ _ ⟨(by rw [put_sz]; exact sz), (by rw [put_ne (by decide)]; exact s2), (by rw [put_ne (by decide)]; exact s3), (by rw [put_ne (by decide)]; exact s6), fun x => (by rw [put_ne (by decide)]; exact t21 x), fun x => (by rw [put_ne (by decide)]; exact t22 x), fun x => (by rw [put_ne (by decide)]; exact t23 x), fun x => (by rw [put_ne (by decide)]; exact t24 x), fun x => (by rw [put_ne (by decide)]; exact t26 x), fun x => (by rw [put_ne (by decide)]; exact t27 x), Or.inr (Or.inr (Or.inl ⟨rfl, rfl, rfl, rfl, by rw [Act.eval_put_same _ _ _ (by omega)]; exact hA⟩)), fun _ => rfl, d3, fun x => (by cases x)⟩ (by simp at hc ⊢; omega)
      · -- the place's field
        refine opV (o := o85) (v := .pointer (some ⟨b6, 2, none⟩)) (w' := w) rfl rfl (by intro c hh; cases hh) (run85 _ _ s6) ?_
        show wpAnyIn _ _ _ _ _ _ fuel #[l0, l1, l2, l3, l4, true, l6, l7, l8] (a.put (some 26) (.pointer (some ⟨b6, 2, none⟩))) (w)
        exact ih l0 l1 l2 l3 l4 true l6 l7 l8 _ _ ⟨(by rw [put_sz]; exact sz), (by rw [put_ne (by decide)]; exact s2), (by rw [put_ne (by decide)]; exact s3), (by rw [put_ne (by decide)]; exact s6), fun x => (by rw [put_ne (by decide)]; exact t21 x), fun x => (by rw [put_ne (by decide)]; exact t22 x), fun x => (by rw [put_ne (by decide)]; exact t23 x), fun x => (by rw [put_ne (by decide)]; exact t24 x), fun _ => Act.eval_put_same _ _ _ (by omega), fun x => (by rw [put_ne (by decide)]; exact t27 x), (by rw [put_ne (by decide)]; exact st), d4, d3, d8⟩ (by simp at hc ⊢; omega)
      · -- the place
        have e8 : l8 = false := by cases l8 with | false => rfl | true => (have := (d8 rfl).2.2.1; cases this)
        subst e8
        have c2 := h.stg_en st
        have q26 := t26 rfl
        refine opV (o := o86) (v := .int .i64 (en : Int)) (w' := w) rfl rfl (by intro c hh; cases hh) (run86 _ _ q26 c2) ?_
        show wpAnyIn _ _ _ _ _ _ fuel #[l0, l1, l2, l3, l4, true, true, l7, false] (a.put (some 27) (.int .i64 (en : Int))) (w)
        exact ih l0 l1 l2 l3 l4 true true l7 false _ _ ⟨(by rw [put_sz]; exact sz), (by rw [put_ne (by decide)]; exact s2), (by rw [put_ne (by decide)]; exact s3), (by rw [put_ne (by decide)]; exact s6), fun x => (by rw [put_ne (by decide)]; exact t21 x), fun x => (by rw [put_ne (by decide)]; exact t22 x), fun x => (by rw [put_ne (by decide)]; exact t23 x), fun x => (by rw [put_ne (by decide)]; exact t24 x), fun x => (by rw [put_ne (by decide)]; exact t26 x), fun _ => Act.eval_put_same _ _ _ (by omega), (by rw [put_ne (by decide)]; exact st), d4, d3, fun x => (by cases x)⟩ (by simp at hc ⊢; omega)
      · -- the list is kept
        have e8 : l8 = false := by cases l8 with | false => rfl | true => (have := (d8 rfl).2.2.2; cases this)
        subst e8
        have hA : App (wb W n ao C) v N xs (nw n ao C) w (a.eval (.tmp 25)) := by
          rcases st with ⟨h3, _⟩ | ⟨_, h4, _⟩ | ⟨_, _, _, _, hA⟩ | ⟨_, _, h7, _⟩ | ⟨h8, _⟩
          · cases h3
          · cases h4
          · exact hA
          · cases h7
          · cases h8
        obtain ⟨g, cap, hu⟩ := hA.shape
        have hbox := h.app_block hA h.hl.lt h.o1
        have c0 : w.cell? ⟨bl, 0, none⟩ = some v := (World.cell?_of_block hbox).trans h.hl.c
        have c1 : w.frozen? ⟨bl, 0, none⟩ = false := (World.frozen?_of_block hbox).trans h.hl.f
        obtain ⟨u, hue⟩ : ∃ u, u = a.eval (.tmp 25) := ⟨_, rfl⟩
        rw [← hue] at hA hu st
        have q25 := hue.symm
        rw [hu] at q25
        refine opS (o := o87) (w' := w.setCell ⟨bl, 0, none⟩ u) rfl rfl (by intro c hh; cases hh) (by rw [hu]; exact run87 _ _ s2 q25 c0 c1) ?_
        show wpAnyIn _ _ _ _ _ _ fuel #[true, true, true, true, true, l5, l6, true, false] a (w.setCell ⟨bl, 0, none⟩ u)
        exact ih true true true true true l5 l6 true false _ _ ⟨sz, s2, s3, s6, t21, t22, t23, t24, t26, t27, Or.inr (Or.inr (Or.inr (Or.inl ⟨rfl, rfl, rfl, rfl, w, by rw [← hue]; exact hA, by rw [← hue]⟩))), d4, d3, fun x => (by cases x)⟩ (by simp at hc ⊢; omega)
      · -- the place is kept
        have q27 := t27 rfl
        obtain ⟨w', hA, rfl⟩ : ∃ w', App (wb W n ao C) v N xs (nw n ao C) w' (a.eval (.tmp 25)) ∧ w = w'.setCell ⟨bl, 0, none⟩ (a.eval (.tmp 25)) := by
          rcases st with ⟨h3, _⟩ | ⟨_, h4, _⟩ | ⟨_, _, h7, _⟩ | ⟨_, _, _, _, hh⟩ | ⟨h8, _⟩
          · cases h3
          · cases h4
          · cases h7
          · exact hh
          · cases h8
        have hbox := h.app_block hA h.hg.lt h.o2
        have hb2 : (w'.setCell ⟨bl, 0, none⟩ (a.eval (.tmp 25))).heap[bg]? = W.heap[bg]? := (Below.heap_setCell _ _ _ _ (fun e => h.ne1 e.symm)).trans hbox
        have c0 : (w'.setCell ⟨bl, 0, none⟩ (a.eval (.tmp 25))).cell? ⟨bg, 0, none⟩ = some gv := (World.cell?_of_block hb2).trans h.hg.c
        have c1 : (w'.setCell ⟨bl, 0, none⟩ (a.eval (.tmp 25))).frozen? ⟨bg, 0, none⟩ = false := (World.frozen?_of_block hb2).trans h.hg.f
        obtain ⟨w2, hw2⟩ : ∃ w2, w2 = w'.setCell ⟨bl, 0, none⟩ (a.eval (.tmp 25)) := ⟨_, rfl⟩
        rw [← hw2] at c0 c1 ⊢
        have H2 : Hid (w2 = w'.setCell ⟨bl, 0, none⟩ (a.eval (.tmp 25))) := hw2
        clear hw2 hb2 st
        refine opS (o := o88) (w' := w2.setCell ⟨bg, 0, none⟩ (.int .i64 (en : Int))) rfl rfl (by intro c hh; cases hh) (run88 _ _ s3 q27 c0 c1) ?_
        show wpAnyIn _ _ _ _ _ _ fuel #[true, true, true, true, true, true, true, true, true] a (w2.setCell ⟨bg, 0, none⟩ (.int .i64 (en : Int)))
        exact ih true true true true true true true true true _ _ ⟨sz, s2, s3, s6, t21, t22, t23, t24, t26, t27, Or.inr (Or.inr (Or.inr (Or.inr ⟨rfl, w', hA, by rw [H2.out]⟩))), d4, d3, fun _ => ⟨rfl, rfl, rfl, rfl⟩⟩ (by simp at hc ⊢)
/-- The region, whatever order it draws. -/
theorem region8 (l m bl bg b6 : Nat) (W : World) (v gv : Value) (N : Nat) (xs : List Value) (n : Int) (ao : Option Addr) (C en : Nat) (h : Rg bl bg b6 W v gv N xs n ao C en) (Qw : World → Prop) (a : Act)
    (hQ : ∀ w' u, App (wb W n ao C) v N xs (nw n ao C) w' u → Qw ((w'.setCell ⟨bl, 0, none⟩ u).setCell ⟨bg, 0, none⟩ (.int .i64 (en : Int))))
    (sz : a.tmps.size = 31) (s2 : a.eval (.tmp 2) = .pointer (some ⟨bl, 0, none⟩)) (s3 : a.eval (.tmp 3) = .pointer (some ⟨bg, 0, none⟩)) (s6 : a.eval (.tmp 6) = .pointer (some ⟨b6, 0, none⟩)) :
    (Code.region 8 ops8 true).wpIn (Fence.wide.inRound l) m Tryz.prog (fun e _ w' => e = .normal ∧ Qw w') a W := by
  refine wpIn_region_any (by kernel_rfl) ?_
  exact walk8 l m bl bg b6 W v gv N xs n ao C en h Qw hQ 9 false false false false false false false false false a W.drew
    ⟨sz, s2, s3, s6, fun x => (by cases x), fun x => (by cases x), fun x => (by cases x), fun x => (by cases x), fun x => (by cases x), fun x => (by cases x), Or.inl ⟨rfl, rfl, rfl, rfl, rfl⟩, fun x => (by cases x), fun x => (by cases x), fun x => (by cases x)⟩ (by decide)
end Go.Proofs.YtaefninikmaiiaaGreatDoor
/- Read: its contract. Conditions as it names them. -/
namespace Go.Proofs.YtaefninikmaiiaaGreatDoor
open Go.ChangeShapes Go.WideShapes Go.ChangeAt Go.RowKit Go.Lib
set_option linter.unusedVariables false
attribute [local go_sem] Oper.semAt_some

/-- A transaction that was told: its writes lie in a block of their own, made since w0. -/
def Tnew (w0 w : World) (t : Tm) : Prop := ∃ k, t.ao = some ⟨k, 0, none⟩ ∧ t.cap = t.L ∧ t.L = t.ws.length ∧ w0.heap.size ≤ k ∧ w.heap[k]? = some (.cells (wtsC t.ws).toArray 124 (0, 0)) ∧ okT t.n t.ws
theorem Tnew.at {w0 w : World} {t : Tm} (h : Tnew w0 w t) : t.at w := by
  obtain ⟨k, e1, e2, e3, _, hr, hok⟩ := h
  refine ⟨by rw [e1]; exact WRs.of_ok hok hr, e3, ?_, ?_⟩
  · have := hok.1; omega
  · have := hok.2.1; omega
theorem Tnew.keepS {S : List Nat} {w0 w w' : World} {t : Tm} (h : Tnew w0 w t) (hf : Fr S w w') (hS : ∀ k, w.heap[k]? = some (.cells (wtsC t.ws).toArray 124 (0, 0)) → k ∉ S) : Tnew w0 w' t := by
  obtain ⟨k, e1, e2, e3, hk, hr, hok⟩ := h
  exact ⟨k, e1, e2, e3, hk, hf.keep hr (hS k hr), hok⟩
/-- The loop's state between two rounds. -/
structure Lp (w0 : World) (bl bg be bn bw lr D : Nat) (rec : Loop) (ec nx : Nat) (s : Nat) (ds : List Tm) (good : Nat) (w : World) (v : Value) : Prop where
  lb : Bv w bl 22 v
  row : w.ownsRow 0 63 2 v ds.length (tmsC ds)
  new : ∀ k, v.ownBlock = some k → s ≤ k
  gb : Bv w bg 3 (.int .i64 (good : Int))
  eb : Bv w be 27 (.int .i64 (ec : Int))
  nb : Bv w bn 3 (.int .i64 (nx : Int))
  sl : lr < s
  wrb : Bv w bw 93 (.func (Fn.func 112) #[] #[.pointer (some ⟨bn, 0, none⟩)])
  lp : w.heap[lr]? = some (.loop rec)
  df : w.heap[D]? = some (.deferred (some []))
  each : ∀ t ∈ ds, Tnew w0 w t
  pw : ds.Pairwise fun a b => a.ao ≠ b.ao
  fr : Fr [] w0 w

theorem records_any (ao : Option Addr) (L cap : Nat) (w : World) : Calls Tryz.prog 86 #[.slice ao L cap] w fun e w' => e = .returned (.func (Fn.func 137) #[] #[.pointer (some ⟨w.heap.size, 0, none⟩)]) ∧ w' = w.alloc (.cells #[.slice ao L cap] 26) := by
  go_enter Tryz.func86, Tryz.ntmps86
  go_wp2
  go_ret
  exact ⟨rfl, rfl⟩
theorem Fr.putObj (w : World) (l : Nat) (o : Obj) : Fr [l] w (w.putObj l o) := ⟨rfl, rfl, rfl, by simp, fun k _ hn => World.putObj_heap_other (by simpa using hn)⟩
/-- The loop's record. -/
def recOf (fn : FuncId) (tmps : Array Value) (ps : Array Tmp) (assign body : Code) (D : Nat) (st : LoopState) (pe : Option Code) : Loop := { state := st, pending := pe, fn, tmps, params := ps, assign, body, defers := D }
/-- The statement 'for x := range g': the record's blocks are laid, the iterator is called. -/
theorem range_of {F : Fence} {n : Nat} {P : Program} {g : Operand} {ps : Array Tmp} {assign body : Code} {Q : Exit → Act → World → Prop} {a : Act} {w : World} (hro : F.round = none) (hF : ∀ f, F.fn f) (hdep : F.depth = none) {gf : Nat} {lb : Array Value} (hg : a.eval g = .func (.func gf) #[] lb) (eg : ∀ args w, (callFunc gf args).run P w = .ok (.enter gf args) w)
    (h : ∀ (fn : FuncId) (RC : LoopState → Option Code → Loop), Hid (RC = recOf fn a.tmps ps assign body w.heap.size) → CallsIn F (n - 1) P gf (#[Value.func (.yield (w.heap.size + 1)) #[] #[]] ++ lb) ((w.alloc (.deferred (some []))).alloc (.loop (RC .ready none)))
      (rangePost F n P (w.heap.size + 1) Q { a with defers := [({ target := .collected w.heap.size, args := #[] } : Deferred)] ++ a.defers })) :
    (Code.rangeFunc g ps assign body).wpIn F n P Q a w := by
  refine wpIn_rangeFunc ?_
  intro fn hfn
  rw [hro]
  obtain ⟨RC, hRC⟩ : ∃ RC, RC = recOf fn a.tmps ps assign body w.heap.size := ⟨_, rfl⟩
  have hc := h fn RC hRC
  obtain ⟨W1, hW1⟩ : ∃ W1, (w.alloc (.deferred (some []))).alloc (.loop (RC .ready none)) = W1 := ⟨_, rfl⟩
  rw [hW1] at hc
  refine ⟨w.heap.size + 1, [{ target := .collected w.heap.size, args := #[] }], W1, { target := .fn (.func gf) lb, args := #[.func (.yield (w.heap.size + 1)) #[] #[]] }, W1, gf,
    #[.func (.yield (w.heap.size + 1)) #[] #[]] ++ lb, W1, ?_, ?_, ?_, ?_, ?_, ?_⟩
  · rw [← hW1, hRC]
    exact run_enterLoop_outer _ _ _ _ _
  · simp only [resolve, hg]
    simp [go_sem]
  · intro f' hf'
    exact hF f'
  · simp [invoke, go_sem, eg]
  · intro hd
    rw [hdep] at hd
    cases hd
  · exact hc
/-- One round. -/
theorem round_of {m l : Nat} {P : Program} {fn : FuncId} {tmps : Array Value} {ps : Array Tmp} {assign body : Code} {D : Nat} {args : Array Value} {RC : LoopState → Option Code → Loop} (hRC : Hid (RC = recOf fn tmps ps assign body D)) (hs : args.size = ps.size) {W : World} (hl : W.heap[l]? = some (.loop (RC .ready none))) {R : Ending → World → Prop}
    (h : assign.wpIn (Fence.wide.inRound l) m P (Exit.then (fun a₁ w₁ => ∃ w₂, (Instr.beginRound l).run P w₁ = .ok () w₂ ∧ body.wpIn (Fence.wide.inRound l) m P (roundPost P l R) a₁ w₂) (fun _ _ _ => False))
      { tmps := (ps.zip args).foldl (fun t (p, v) => t.setIfInBounds p v) tmps, defers := [] } W) : YieldAt Fence.wide m P l args W R :=
  ⟨fn, _, assign, body, by have := hRC.out; subst this; exact run_yield (r := recOf fn tmps ps assign body D .ready none) hl hs, roundIn_of_wpIn trivial h⟩
theorem begin_of {l : Nat} {P : Program} {fn : FuncId} {tmps : Array Value} {ps : Array Tmp} {assign body : Code} {D : Nat} {RC : LoopState → Option Code → Loop} (hRC : Hid (RC = recOf fn tmps ps assign body D)) {W : World} (hl : W.heap[l]? = some (.loop (RC .ready none))) :
    (Instr.beginRound l).run P W = .ok () (W.putObj l (.loop (RC .busy none))) := by
  have := hRC.out
  subst this
  exact run_beginRound hl rfl
theorem end_of {l : Nat} {P : Program} {fn : FuncId} {tmps : Array Value} {ps : Array Tmp} {assign body : Code} {D : Nat} {RC : LoopState → Option Code → Loop} (hRC : Hid (RC = recOf fn tmps ps assign body D)) {W : World} (hl : W.heap[l]? = some (.loop (RC .busy none))) (jump : Option Code) :
    (Instr.endRound l jump).run P W = .ok (.bool jump.isNone) (W.putObj l (.loop (RC (if jump.isNone then .ready else .done) jump))) := by
  have := hRC.out
  subst this
  exact run_endRound jump hl
theorem loop_end_of {l : Nat} {P : Program} {fn : FuncId} {tmps : Array Value} {ps : Array Tmp} {assign body : Code} {D : Nat} {RC : LoopState → Option Code → Loop} (hRC : Hid (RC = recOf fn tmps ps assign body D)) {W : World} {st : LoopState} {pe : Option Code} (hl : W.heap[l]? = some (.loop (RC st pe))) (hb : st ≠ .busy) :
    (Instr.endLoop l).run P W = .ok pe (W.putObj l (.loop (RC .exhausted pe))) := by
  have := hRC.out
  subst this
  exact run_endLoop hl hb
theorem Lp.keepS {S : List Nat} {w0 w w' : World} {bl bg be bn bw lr D : Nat} {rec : Loop} {ec nx s good : Nat} {ds : List Tm} {v : Value} (h : Lp w0 bl bg be bn bw lr D rec ec nx s ds good w v) (hf : Fr S w w')
    (hS : ∀ x ∈ S, w0.heap.size ≤ x ∧ x ≠ bl ∧ x ≠ bg ∧ x ≠ be ∧ x ≠ bn ∧ x ≠ bw ∧ x ≠ lr ∧ x ≠ D ∧ v.ownBlock ≠ some x ∧ ∀ cs f, w.heap[x]? ≠ some (.cells cs 124 f)) : Lp w0 bl bg be bn bw lr D rec ec nx s ds good w' v := by
  refine ⟨h.lb.keep hf (fun hh => (hS _ hh).2.1 rfl), owns_keep h.row hf (fun k hk hh => (hS _ hh).2.2.2.2.2.2.2.2.1 hk), h.new, h.gb.keep hf (fun hh => (hS _ hh).2.2.1 rfl), h.eb.keep hf (fun hh => (hS _ hh).2.2.2.1 rfl), h.nb.keep hf (fun hh => (hS _ hh).2.2.2.2.1 rfl), h.sl, h.wrb.keep hf (fun hh => (hS _ hh).2.2.2.2.2.1 rfl),
    hf.keep h.lp (fun hh => (hS _ hh).2.2.2.2.2.2.1 rfl), hf.keep h.df (fun hh => (hS _ hh).2.2.2.2.2.2.2.1 rfl), fun t ht => (h.each t ht).keepS hf (fun k hk hh => (hS _ hh).2.2.2.2.2.2.2.2.2 _ _ hk), h.pw, h.fr.on hf (fun x hx => (hS x hx).1)⟩
theorem Lp.rowNe {w0 w : World} {bl bg be bn bw lr D : Nat} {rec : Loop} {ec nx s good : Nat} {ds : List Tm} {v : Value} (h : Lp w0 bl bg be bn bw lr D rec ec nx s ds good w v) {g : Nat} (hg : v.ownBlock = some g) : ∃ cur, w.heap[g]? = some (.cells cur 63 (0, 0)) := by
  rcases h.row.2 with ⟨rfl, _⟩ | ⟨g', cap, cur, rfl, _, hgg, _⟩
  · simp [Value.ownBlock] at hg
  · simp [Value.ownBlock] at hg
    subst hg
    exact ⟨cur, hgg⟩
theorem Lp.reader {w0 w w' : World} {bl bg be bn bw lr D : Nat} {rec : Loop} {ec nx s good g : Nat} {ds : List Tm} {v : Value} (h : Lp w0 bl bg be bn bw lr D rec ec nx s ds good w v) (hb : RBox w g) (hg : w0.heap.size ≤ g) (hf : Fr [g] w w') : Lp w0 bl bg be bn bw lr D rec ec nx s ds good w' v := by
  obtain ⟨cs, f, hb⟩ := hb
  refine h.keepS hf (fun x hx => ?_)
  simp only [List.mem_singleton] at hx
  subst hx
  refine ⟨hg, ?_, ?_, ?_, ?_, ?_, ?_, ?_, ?_, ?_⟩
  · rintro rfl; have := hb.symm.trans h.lb.box; simp at this
  · rintro rfl; have := hb.symm.trans h.gb.box; simp at this
  · rintro rfl; have := hb.symm.trans h.eb.box; simp at this
  · rintro rfl; have := hb.symm.trans h.nb.box; simp at this
  · rintro rfl; have := hb.symm.trans h.wrb.box; simp at this
  · rintro rfl; have := hb.symm.trans h.lp; simp at this
  · rintro rfl; have := hb.symm.trans h.df; simp at this
  · intro hv; obtain ⟨cur, hc⟩ := h.rowNe hv; have := hb.symm.trans hc; simp at this
  · intro cs' f' hh; have := hb.symm.trans hh; simp at this

/-- The blocks in their order. -/
structure Ds (w0 : World) (bl bg be bn bw lr D : Nat) : Prop where
  lo : w0.heap.size ≤ bl
  a1 : bl < bg
  a2 : bg < be
  a3 : be < bn
  a4 : bn < bw
  a5 : bw < D
  a6 : D < lr
section
variable {w0 w w' : World} {bl bg be bn bw lr D : Nat} {rec : Loop} {ec nx s good : Nat} {ds : List Tm} {v : Value}
theorem Lp.quiet (h : Lp w0 bl bg be bn bw lr D rec ec nx s ds good w v) (hf : Fr [] w w') : Lp w0 bl bg be bn bw lr D rec ec nx s ds good w' v := h.keepS hf (by simp)
theorem Lp.far (d : Ds w0 bl bg be bn bw lr D) (h : Lp w0 bl bg be bn bw lr D rec ec nx s ds good w v) {x : Nat} (hx : x ≤ lr) : v.ownBlock ≠ some x := by
  intro hv
  have := h.new x hv
  have := h.sl
  omega
theorem Lp.rec_ (d : Ds w0 bl bg be bn bw lr D) (h : Lp w0 bl bg be bn bw lr D rec ec nx s ds good w v) (rec' : Loop) : Lp w0 bl bg be bn bw lr D rec' ec nx s ds good (w.putObj lr (.loop rec')) v := by
  obtain ⟨d0, d1, d2, d3, d4, d5, d6⟩ := d
  have hf := Fr.putObj w lr (.loop rec')
  have hlt : lr < w.heap.size := (Array.getElem?_eq_some_iff.1 h.lp).1
  refine ⟨h.lb.keep hf (by simp; omega), owns_keep h.row hf (fun k hk hh => ?_), h.new, h.gb.keep hf (by simp; omega), h.eb.keep hf (by simp; omega), h.nb.keep hf (by simp; omega), h.sl, h.wrb.keep hf (by simp; omega), World.putObj_heap_same hlt, hf.keep h.df (by simp; omega), fun t ht => (h.each t ht).keepS hf (fun k hk hh => ?_), h.pw, h.fr.on hf (fun x hx => by simp at hx; omega)⟩
  · simp only [List.mem_singleton] at hh; have := h.new k hk; have := h.sl; omega
  · simp only [List.mem_singleton] at hh; subst hh; rw [h.lp] at hk; cases hk
theorem Lp.err (d : Ds w0 bl bg be bn bw lr D) (h : Lp w0 bl bg be bn bw lr D rec ec nx s ds good w v) (c : Nat) : Lp w0 bl bg be bn bw lr D rec c nx s ds good (w.setCell ⟨be, 0, none⟩ (.int .i64 (c : Int))) v := by
  obtain ⟨d0, d1, d2, d3, d4, d5, d6⟩ := d
  have hf : Fr [be] w (w.setCell ⟨be, 0, none⟩ (.int .i64 (c : Int))) := Fr.set _ _ _ (by simp)
  refine ⟨h.lb.keep hf (by simp; omega), owns_keep h.row hf (fun k hk hh => ?_), h.new, h.gb.keep hf (by simp; omega), h.eb.set _, h.nb.keep hf (by simp; omega), h.sl, h.wrb.keep hf (by simp; omega), hf.keep h.lp (by simp; omega), hf.keep h.df (by simp; omega), fun t ht => (h.each t ht).keepS hf (fun k hk hh => ?_), h.pw, h.fr.on hf (fun x hx => by simp at hx; omega)⟩
  · simp only [List.mem_singleton] at hh; have := h.new k hk; have := h.sl; omega
  · simp only [List.mem_singleton] at hh; subst hh; rw [h.eb.box] at hk; simp at hk
theorem Lp.nxt (d : Ds w0 bl bg be bn bw lr D) (h : Lp w0 bl bg be bn bw lr D rec ec nx s ds good w v) {nx' : Nat} (hf : Fr [bn] w w') (hb : Bv w' bn 3 (.int .i64 (nx' : Int))) : Lp w0 bl bg be bn bw lr D rec ec nx' s ds good w' v := by
  obtain ⟨d0, d1, d2, d3, d4, d5, d6⟩ := d
  refine ⟨h.lb.keep hf (by simp; omega), owns_keep h.row hf (fun k hk hh => ?_), h.new, h.gb.keep hf (by simp; omega), h.eb.keep hf (by simp; omega), hb, h.sl, h.wrb.keep hf (by simp; omega), hf.keep h.lp (by simp; omega), hf.keep h.df (by simp; omega), fun t ht => (h.each t ht).keepS hf (fun k hk hh => ?_), h.pw, h.fr.on hf (fun x hx => by simp at hx; omega)⟩
  · simp only [List.mem_singleton] at hh; have := h.new k hk; have := h.sl; omega
  · simp only [List.mem_singleton] at hh; subst hh; rw [h.nb.box] at hk; simp at hk
theorem _root_.Go.Proofs.YtaefninikmaiiaaGreatDoor.App.fr {n : Int} {ao : Option Addr} {C N : Nat} {xs news : List Value} {u : Value} (hA : App (wb w n ao C) v N xs news w' u) : Fr v.ownBlock.toList w w' := by
  have a : Fr v.ownBlock.toList w (wb w n ao C) := (Fr.drew _ w).then (Fr.alloc _ _ _)
  exact a.then (Fr.grown hA.grown (fun x hx _ => by rw [hx]; simp))
theorem Lp.app (d : Ds w0 bl bg be bn bw lr D) (h : Lp w0 bl bg be bn bw lr D rec ec nx s ds good w v) {n : Int} {k C en : Nat} {ws : List Wt} {u : Value} (hA : App (wb w n (some ⟨k, 0, none⟩) C) v ds.length (tmsC ds) (nw n (some ⟨k, 0, none⟩) C) w' u)
    (hs : s ≤ w.heap.size) (hk : w0.heap.size ≤ k) (hC : C = ws.length) (hrow : w.heap[k]? = some (.cells (wtsC ws).toArray 124 (0, 0))) (hok : okT n ws) (hnew : ∀ t ∈ ds, t.ao ≠ some ⟨k, 0, none⟩) :
    Lp w0 bl bg be bn bw lr D rec ec nx s (ds ++ [⟨n, some ⟨k, 0, none⟩, C, C, ws⟩]) en ((w'.setCell ⟨bl, 0, none⟩ u).setCell ⟨bg, 0, none⟩ (.int .i64 (en : Int))) u := by
  obtain ⟨d0, d1, d2, d3, d4, d5, d6⟩ := d
  have hf1 : Fr v.ownBlock.toList w w' := hA.fr
  have hfar : ∀ x, x ∈ v.ownBlock.toList → lr < x := by
    intro x hx
    simp only [Option.mem_toList] at hx
    have := h.new x hx
    have := h.sl
    omega
  have hf2 : Fr [bl] w' (w'.setCell ⟨bl, 0, none⟩ u) := Fr.set _ _ _ (by simp)
  have hf3 : Fr [bg] (w'.setCell ⟨bl, 0, none⟩ u) ((w'.setCell ⟨bl, 0, none⟩ u).setCell ⟨bg, 0, none⟩ (.int .i64 (en : Int))) := Fr.set _ _ _ (by simp)
  have n1 : ∀ {x}, x ≤ lr → x ∉ v.ownBlock.toList := fun hx hh => by have := hfar _ hh; omega
  have hlb := ((h.lb.keep hf1 (n1 (by omega))).set u).keep hf3 (by simp; omega)
  have hgb := ((h.gb.keep hf1 (n1 (by omega))).keep hf2 (by simp; omega)).set (.int .i64 (en : Int))
  have htm : nw n (some ⟨k, 0, none⟩) C = tmC ⟨n, some ⟨k, 0, none⟩, C, C, ws⟩ := rfl
  have hunew : ∀ x, u.ownBlock = some x → s ≤ x := by
    intro x hx
    rcases hA.moved with hm | ⟨y, hy, hle⟩
    · exact h.new x (hm ▸ hx)
    · rw [hy] at hx; cases hx
      have : (wb w n (some ⟨k, 0, none⟩) C).heap.size = w.heap.size + 1 := by simp [wb]
      omega
  have hune : ∀ x, u.ownBlock = some x → x ≠ bl ∧ x ≠ bg := fun x hx => by have := hunew x hx; have := h.sl; omega
  have hfT : Fr (v.ownBlock.toList ++ [bl, bg]) w ((w'.setCell ⟨bl, 0, none⟩ u).setCell ⟨bg, 0, none⟩ (.int .i64 (en : Int))) :=
    ((hf1.mono (fun x hx _ => List.mem_append_left _ hx)).then (hf2.mono (fun x hx _ => by simp at hx; simp [hx]))).then (hf3.mono (fun x hx _ => by simp at hx; simp [hx]))
  have nT : ∀ {x}, x ≤ lr → x ≠ bl → x ≠ bg → x ∉ v.ownBlock.toList ++ [bl, bg] := fun hx h1 h2 hh => by
    rcases List.mem_append.1 hh with h3 | h3
    · exact n1 hx h3
    · simp at h3; omega
  have wT : ∀ {x : Nat} {cs : Array Value} {f : Nat × Nat}, w.heap[x]? = some (.cells cs 124 f) → x ∉ v.ownBlock.toList ++ [bl, bg] := by
    intro x cs f hx hh
    rcases List.mem_append.1 hh with h3 | h3
    · simp only [Option.mem_toList] at h3
      obtain ⟨cur, hc⟩ := h.rowNe h3
      rw [hc] at hx; simp at hx
    · simp only [List.mem_cons, List.not_mem_nil, or_false] at h3
      rcases h3 with rfl | rfl
      · rw [h.lb.box] at hx; simp at hx
      · rw [h.gb.box] at hx; simp at hx
  refine ⟨hlb, ?_, hunew, hgb, h.eb.keep hfT (nT (by omega) (by omega) (by omega)), h.nb.keep hfT (nT (by omega) (by omega) (by omega)), h.sl, h.wrb.keep hfT (nT (by omega) (by omega) (by omega)), hfT.keep h.lp (nT (Nat.le_refl _) (by omega) (by omega)), hfT.keep h.df (nT (by omega) (by omega) (by omega)), ?_, ?_, h.fr.on hfT (fun x hx => ?_)⟩
  · have := owns_keep (owns_keep hA.own hf2 (fun x hx hh => (hune x hx).1 (by simpa using hh))) hf3 (fun x hx hh => (hune x hx).2 (by simpa using hh))
    rw [List.length_append, List.length_singleton, tmsC_append]
    rw [htm] at this
    simpa [tmsC] using this
  · intro t ht
    rcases List.mem_append.1 ht with h3 | h3
    · exact (h.each t h3).keepS hfT (fun x hx => wT hx)
    · simp only [List.mem_singleton] at h3
      subst h3
      exact ⟨k, rfl, rfl, hC, hk, hfT.keep hrow (wT hrow), hok⟩
  · rw [List.pairwise_append]
    exact ⟨h.pw, by simp, fun a ha b hb => by simp only [List.mem_singleton] at hb; subst hb; exact hnew a ha⟩
  · rcases List.mem_append.1 hx with h3 | h3
    · have := hfar x h3; omega
    · simp at h3; omega
end

theorem results_cell3 {fn : Func} {p q r : Tmp} {t u v : TypeId} (h : fn.results = #[.cell p t, .cell q u, .cell r v]) (tmps : Array Value) (P : Program) (w : World) :
    (results fn tmps).run P w =
      ((asAddr (tmps.getD p undef)).run P w).andThen fun a w₁ => ((loadVar t a).run P w₁).andThen fun x w₂ => ((asAddr (tmps.getD q undef)).run P w₂).andThen fun b w₃ => ((loadVar u b).run P w₃).andThen fun y w₄ => ((asAddr (tmps.getD r undef)).run P w₄).andThen fun c w₅ => ((loadVar v c).run P w₅).andThen fun z w₆ => .ok (.tuple #[x, y, z]) w₆ := by
  simp only [results, h]
  simp [Sem.run_bind, Result.andThen]
/-- A store of what is there leaves the world as it is. -/
theorem Bv.same {w : World} {b : Nat} {t : TypeId} {v : Value} (h : Bv w b t v) : w.setCell ⟨b, 0, none⟩ v = w := by
  have hk : (w.setCell ⟨b, 0, none⟩ v).heap = w.heap := by
    apply Array.ext_getElem?
    intro i
    by_cases hi : i = b
    · subst hi
      rw [(h.set v).box, h.box]
    · exact Below.heap_setCell _ _ _ _ (by simpa using hi)
  have he : w.setCell ⟨b, 0, none⟩ v = { w with heap := (w.setCell ⟨b, 0, none⟩ v).heap } := rfl
  rw [he, hk]
/-- What Read hands out: a row of its own, each transaction's writes in a block of their own. -/
structure TOut (w w' : World) (v : Value) (ds : List Tm) : Prop where
  row : w'.ownsRow 0 63 2 v ds.length (tmsC ds)
  new : ∀ k, v.ownBlock = some k → w.heap.size ≤ k
  each : ∀ t ∈ ds, Tnew w w' t
  pw : ds.Pairwise fun a b => a.ao ≠ b.ao
theorem own2_shape {w : World} {e : TypeId} {v : Value} {n : Nat} {xs : List Value} (h : w.ownsRow 0 e 2 v n xs) : ∃ ao cap, v = .slice ao n cap := by
  rcases h.2 with ⟨rfl, h0⟩ | ⟨g, cap, _, rfl, _⟩
  · exact ⟨none, 0, by rw [h0]⟩
  · exact ⟨_, cap, rfl⟩
set_option maxHeartbeats 8000000 in
set_option maxRecDepth 100000 in
theorem lread_any (ao : Option Addr) (L cap c : Nat) (xs vs : List Nat) (ls : List Tx) (w : World) (hA : BArg w ao L cap xs) (hlen : xs.length < 2^40) (hR : Rds 1 xs ls vs c) (N G : Nat) (hN : N = ls.length) (hG : G + vs.length = xs.length) :
    Calls Tryz.prog 19 #[.slice ao L cap] w fun e w' => ∃ ro rc, e = .returned (.tuple #[.slice ro N rc, .int .i64 (G : Int), .int .i64 (c : Int)]) ∧ ∃ ds, txs ds = ls ∧ TOut w w' (.slice ro N rc) ds ∧ Fr [] w w' := by
  have HN : Hid (N = ls.length) := hN
  have HG : Hid (G + vs.length = xs.length) := hG
  clear hN hG
  have HR : Hid (Rds 1 xs ls vs c) := hR
  have HL : Hid (L = xs.length) := hA.len
  clear hR
  refine (callsIn_wide (n := 3)).1 ?_
  refine callsIn_of_wp_marks Tryz.func19 rfl trivial ?_ rfl
  simp only [Tryz.ntmps19, List.size_toArray, List.length_cons, List.length_nil, Nat.reduceAdd, Nat.reduceSub, Array.replicate_succ, Array.replicate_zero, List.push_toArray, List.append_toArray, List.nil_append, List.cons_append]
  gi_wp2_with fail
  refine ⟨trivial, (callsIn_wide.2 (inTurn_any _)).mono ?_⟩
  rintro e w1 ⟨rfl, rfl⟩
  gi_wp2_with fail
  refine ⟨trivial, (callsIn_wide.2 (records_any _ _ _ _)).mono ?_⟩
  rintro e w1 ⟨rfl, hw1⟩
  have hB : Fr [] w w1 ∧ Bv w1 w.heap.size 22 (.slice none 0 0) ∧ Bv w1 (w.heap.size + 1) 3 (.int .i64 0) ∧ Bv w1 (w.heap.size + 1 + 1) 27 (.int .i64 0) ∧ Bv w1 (w.heap.size + 1 + 1 + 1) 3 (.int .i64 1) ∧
      Bv w1 (w.heap.size + 1 + 1 + 1 + 1) 93 (.func (Fn.func 112) #[] #[.pointer (some ⟨w.heap.size + 1 + 1 + 1, 0, none⟩)]) ∧ Bv w1 (w.heap.size + 1 + 1 + 1 + 1 + 1) 26 (.slice ao L cap) ∧ w1.heap.size = w.heap.size + 6 := by
    have k : ∀ (W : World) (o : Obj) {b : Nat} {t : TypeId} {v : Value}, Bv W b t v → Bv (W.alloc o) b t v := fun W o b t v h => h.keep (Fr.alloc [] W o) (by simp)
    have nw : ∀ (W : World) (t : TypeId) (v : Value) (b : Nat), b = W.heap.size → Bv (W.alloc (.cells #[v] t)) b t v := fun W t v b hb => by rw [hb]; exact Bv.new W t v
    rw [hw1]
    refine ⟨?_, ?_, ?_, ?_, ?_, ?_, ?_, ?_⟩
    · exact (Fr.alloc [] _ _).then ((Fr.alloc [] _ _).then ((Fr.alloc [] _ _).then ((Fr.alloc [] _ _).then ((Fr.alloc [] _ _).then (Fr.alloc [] _ _)))))
    · exact k _ _ (k _ _ (k _ _ (k _ _ (k _ _ (nw _ _ _ _ rfl)))))
    · exact k _ _ (k _ _ (k _ _ (k _ _ (nw _ _ _ _ (by simp)))))
    · exact k _ _ (k _ _ (k _ _ (nw _ _ _ _ (by simp))))
    · exact k _ _ (k _ _ (nw _ _ _ _ (by simp)))
    · exact k _ _ (nw _ _ _ _ (by simp))
    · exact nw _ _ _ _ (by simp)
    · simp
  clear hw1
  obtain ⟨hF1, hB0, hB1, hB2, hB3, hB4, hB5, hsz1⟩ := hB
  have HSZ : Hid (w1.heap.size = w.heap.size + 6) := hsz1
  clear hsz1
  gi_wp2_with fail
  obtain ⟨bb, hbb⟩ : ∃ b, b = w.heap.size + 1 + 1 + 1 + 1 + 1 := ⟨_, rfl⟩
  obtain ⟨bw, hbw⟩ : ∃ b, b = w.heap.size + 1 + 1 + 1 + 1 := ⟨_, rfl⟩
  obtain ⟨bn, hbn⟩ : ∃ b, b = w.heap.size + 1 + 1 + 1 := ⟨_, rfl⟩
  obtain ⟨be, hbe⟩ : ∃ b, b = w.heap.size + 1 + 1 := ⟨_, rfl⟩
  obtain ⟨bg, hbg⟩ : ∃ b, b = w.heap.size + 1 := ⟨_, rfl⟩
  obtain ⟨bl, hbl⟩ : ∃ b, b = w.heap.size := ⟨_, rfl⟩
  rw [← hbb] at hB5 ⊢
  rw [← hbw] at hB4 ⊢
  rw [← hbn] at hB3 hB4 ⊢
  rw [← hbe] at hB2 ⊢
  rw [← hbg] at hB1 ⊢
  rw [← hbl] at hB0 ⊢
  have hord : w.heap.size ≤ bl ∧ bl < bg ∧ bg < be ∧ be < bn ∧ bn < bw ∧ bw < bb ∧ bb < w1.heap.size := by have := HSZ.out; omega
  clear hbb hbw hbn hbe hbg hbl HSZ
  refine range_of rfl (fun _ => True.intro) rfl (gf := 137) (lb := #[.pointer (some ⟨bb, 0, none⟩)]) rfl (enters_of Tryz.func137 (by kernel_rfl) rfl) ?_
  intro fn RC HRC
  obtain ⟨D, hD⟩ : ∃ D, D = w1.heap.size := ⟨_, rfl⟩
  obtain ⟨lr, hlr⟩ : ∃ lr, lr = w1.heap.size + 1 := ⟨_, rfl⟩
  have hF2 : Fr [] w1 ((w1.alloc (.deferred (some []))).alloc (.loop (RC .ready none))) := (Fr.alloc [] _ _).then (Fr.alloc [] _ _)
  have hL2 : ((w1.alloc (.deferred (some []))).alloc (.loop (RC .ready none))).heap[w1.heap.size + 1]? = some (.loop (RC .ready none)) := by
    have := World.alloc_heap_new (w1.alloc (.deferred (some []))) (.loop (RC .ready none)); rwa [World.size_alloc] at this
  have hK2 : ((w1.alloc (.deferred (some []))).alloc (.loop (RC .ready none))).heap[w1.heap.size]? = some (.deferred (some [])) :=
    (Below.heap_alloc _ _ _ (by simp)).trans (World.alloc_heap_new w1 _)
  have hs2 : ((w1.alloc (.deferred (some []))).alloc (.loop (RC .ready none))).heap.size = w1.heap.size + 2 := by simp
  obtain ⟨w2, HW2⟩ : ∃ w2, Hid ((w1.alloc (.deferred (some []))).alloc (.loop (RC .ready none)) = w2) := ⟨_, rfl⟩
  rw [HW2.out] at hF2 hL2 hK2 hs2 ⊢
  rw [← hlr] at hL2 ⊢
  rw [← hD] at HRC hK2 ⊢
  have hord2 : bb < D ∧ D < lr ∧ lr < w2.heap.size := by omega
  clear hD hlr hs2 HW2
  have hLp0 : ∀ s, w2.heap.size ≤ s → Lp w bl bg be bn bw lr D (RC .ready none) 0 1 s [] 0 w2 (.slice none 0 0) := fun s hs =>
    ⟨hB0.keep hF2 (by simp), ⟨rfl, .inl ⟨rfl, rfl⟩⟩, fun k hk => by simp [Value.ownBlock] at hk, hB1.keep hF2 (by simp), hB2.keep hF2 (by simp), hB3.keep hF2 (by simp), by omega, hB4.keep hF2 (by simp), hL2, hK2, by simp, .nil, hF1.then hF2⟩
  have hbb2 := hB5.keep hF2 (by simp)
  have hA2 := hA.keep (hF1.then hF2)
  clear hB0 hB1 hB2 hB3 hB4 hB5 hF1 hF2 hL2 hK2
  have hds : Ds w bl bg be bn bw lr D := ⟨by omega, by omega, by omega, by omega, by omega, by omega, by omega⟩
  have hYe : ∀ (s : Nat) (ds : List Tm) (good : Nat) (W : World) (c en : Nat), (∃ v, Lp w bl bg be bn bw lr D (RC .ready none) 0 (ds.length + 1) s ds good W v) → c ≠ 0 → en < 2^41 →
      YieldAt Fence.wide 1 Tryz.prog lr #[.agg #[.int .i64 0, .slice none 0 0, .int .i64 (en : Int), .int .i64 (c : Int)]] W fun e w' => e = .returned (.bool false) ∧ ∃ v, Lp w bl bg be bn bw lr D (RC .done (some (.exit 0))) c (ds.length + 1) s ds good w' v := by
    rintro s ds good W c en ⟨v, hL⟩ hc0 hen
    have hcb : ((c : Int) == 0) = false := by rw [beq_eq_false_iff_ne]; omega
    have hcn : ((c : Int) != 0) = true := by rw [bne_iff_ne]; omega
    clear hc0
    refine round_of HRC rfl hL.lp ?_
    have hFa : Fr [] W (W.alloc (.cells #[.int .i64 0, .slice none 0 0, .int .i64 (en : Int), .int .i64 (c : Int)] 100)) := Fr.alloc _ _ _
    have hrow : (W.alloc (.cells #[.int .i64 0, .slice none 0 0, .int .i64 (en : Int), .int .i64 (c : Int)] 100)).heap[W.heap.size]? = some (.cells #[.int .i64 0, .slice none 0 0, .int .i64 (en : Int), .int .i64 (c : Int)] 100 (0, 0)) := heap_alloc_new W _
    have hLa := hL.quiet hFa
    have hbr := begin_of (P := Tryz.prog) HRC hLa.lp
    have hLb := hLa.rec_ hds (RC .busy none)
    have hlrW : lr < W.heap.size := (Array.getElem?_eq_some_iff.1 hL.lp).1
    have hrowb := (Fr.putObj (W.alloc (.cells #[.int .i64 0, .slice none 0 0, .int .i64 (en : Int), .int .i64 (c : Int)] 100)) lr (.loop (RC .busy none))).keep hrow (by simp; omega)
    obtain ⟨Wb, HWb⟩ : ∃ Wb, Hid ((W.alloc (.cells #[.int .i64 0, .slice none 0 0, .int .i64 (en : Int), .int .i64 (c : Int)] 100)).putObj lr (.loop (RC .busy none)) = Wb) := ⟨_, rfl⟩
    rw [HWb.out] at hbr hLb hrowb
    have f3 : Wb.cell? ⟨W.heap.size, 3, none⟩ = some (.int .i64 (c : Int)) := by rw [cell_of_row _ _ _ _ _ _ hrowb]; rfl
    have x0 := hLb.eb.c
    have x1 := hLb.eb.f
    have hLc := hLb.err hds c
    have hend := end_of (P := Tryz.prog) HRC hLc.lp (some (.exit 0))
    have hLd := hLc.rec_ hds (RC .done (some (.exit 0)))
    have HLd : Hid (Lp w bl bg be bn bw lr D (RC .done (some (.exit 0))) c (ds.length + 1) s ds good _ v) := hLd
    clear hLa hLb hLc hLd hrow hrowb hFa
    gi_wp2_with fail
    exact ⟨_, _, hend, rfl, v, HLd.out⟩
  have hYo : ∀ (s : Nat) (ds : List Tm) (good : Nat) (W : World) (n k C en : Nat) (ws : List Wt), (∃ v, Lp w bl bg be bn bw lr D (RC .ready none) 0 (ds.length + 1) s ds good W v) → w2.heap.size ≤ s → s ≤ W.heap.size → okT (n : Int) ws → n ≠ ds.length + 1 → C = ws.length → w2.heap.size ≤ k → W.heap[k]? = some (.cells (wtsC ws).toArray 124 (0, 0)) → en < 2^41 → ds.length < 2^41 →
      YieldAt Fence.wide 1 Tryz.prog lr #[.agg #[.int .i64 (n : Int), .slice (some ⟨k, 0, none⟩) C C, .int .i64 (en : Int), .int .i64 0]] W fun e w' => e = .returned (.bool false) ∧ ∃ v, Lp w bl bg be bn bw lr D (RC .done (some (.exit 0))) 6 (ds.length + 1) s ds good w' v := by
    rintro s ds good W n k C en ws ⟨v, hL⟩ hs1 hs2 hok hn hC hk hrk hen hdl
    have HOK : Hid (okT (n : Int) ws) := hok
    have HN : Hid (n ≠ ds.length + 1) := hn
    have HC : Hid (C = ws.length) := hC
    have hn16 : n ≤ 65536 := by have := hok.2.1; omega
    clear hok hn hC
    refine round_of HRC rfl hL.lp ?_
    have hFa : Fr [] W (W.alloc (.cells #[.int .i64 (n : Int), .slice (some ⟨k, 0, none⟩) C C, .int .i64 (en : Int), .int .i64 0] 100)) := Fr.alloc _ _ _
    have hrow : (W.alloc (.cells #[.int .i64 (n : Int), .slice (some ⟨k, 0, none⟩) C C, .int .i64 (en : Int), .int .i64 0] 100)).heap[W.heap.size]? = some (.cells #[.int .i64 (n : Int), .slice (some ⟨k, 0, none⟩) C C, .int .i64 (en : Int), .int .i64 0] 100 (0, 0)) := heap_alloc_new W _
    have hLa := hL.quiet hFa
    have hbr := begin_of (P := Tryz.prog) HRC hLa.lp
    have hLb := hLa.rec_ hds (RC .busy none)
    have hlrW : lr < W.heap.size := (Array.getElem?_eq_some_iff.1 hL.lp).1
    have hFb := Fr.putObj (W.alloc (.cells #[.int .i64 (n : Int), .slice (some ⟨k, 0, none⟩) C C, .int .i64 (en : Int), .int .i64 0] 100)) lr (.loop (RC .busy none))
    have hrowb := hFb.keep hrow (by simp; omega)
    obtain ⟨Wb, HWb⟩ : ∃ Wb, Hid ((W.alloc (.cells #[.int .i64 (n : Int), .slice (some ⟨k, 0, none⟩) C C, .int .i64 (en : Int), .int .i64 0] 100)).putObj lr (.loop (RC .busy none)) = Wb) := ⟨_, rfl⟩
    rw [HWb.out] at hbr hLb hrowb hFb
    obtain ⟨b6, hb6⟩ : ∃ b6, b6 = W.heap.size := ⟨_, rfl⟩
    have HB6 : Hid (b6 = W.heap.size) := hb6
    rw [← hb6] at hrowb
    have f3 : Wb.cell? ⟨W.heap.size, 3, none⟩ = some (.int .i64 0) := by rw [← hb6, cell_of_row _ _ _ _ _ _ hrowb]; rfl
    have x0 := hLb.eb.c
    have x1 := hLb.eb.f
    have hFc : Fr [be] Wb (Wb.setCell ⟨be, 0, none⟩ (.int .i64 0)) := Fr.set _ _ _ (by simp)
    have hLc : Lp w bl bg be bn bw lr D (RC .busy none) 0 (ds.length + 1) s ds good (Wb.setCell ⟨be, 0, none⟩ (.int .i64 0)) v := hLb.err hds 0
    have hb6be : b6 ≠ be := by omega
    have hrowc := hFc.keep hrowb (by simpa using hb6be)
    have f0 : (Wb.setCell ⟨be, 0, none⟩ (.int .i64 0)).cell? ⟨W.heap.size, 0, none⟩ = some (.int .i64 (n : Int)) := by rw [← hb6, cell_of_row _ _ _ _ _ _ hrowc]; rfl
    have f1 : (Wb.setCell ⟨be, 0, none⟩ (.int .i64 0)).cell? ⟨W.heap.size, 1, none⟩ = some (.slice (some ⟨k, 0, none⟩) C C) := by rw [← hb6, cell_of_row _ _ _ _ _ _ hrowc]; rfl
    have x2 := hLc.wrb.c
    have hTm : Tnew w W ⟨(n : Int), some ⟨k, 0, none⟩, C, C, ws⟩ := ⟨k, rfl, rfl, HC.out, by have := hL.fr.size; omega, hrk, HOK.out⟩
    have hWrt : ∀ (S : List Nat) (A B : World), Fr S A B → (∀ x ∈ S, x = lr ∨ x = be ∨ x = bn) → A.heap[k]? = some (.cells (wtsC ws).toArray 124 (0, 0)) → B.heap[k]? = some (.cells (wtsC ws).toArray 124 (0, 0)) := fun S A B hf hS ha => hf.keep ha (fun hh => by have := hS k hh; omega)
    have hrkb := hWrt _ _ _ hFb (by simp) (hFa.keep hrk (by simp))
    have hrkc := hWrt _ _ _ hFc (by simp) hrkb
    have hat : TArg (Wb.setCell ⟨be, 0, none⟩ (.int .i64 0)) (n : Int) (some ⟨k, 0, none⟩) C C ws := Tnew.at (w0 := w) (t := ⟨(n : Int), some ⟨k, 0, none⟩, C, C, ws⟩) ⟨k, rfl, rfl, HC.out, by have := hL.fr.size; omega, hrkc, HOK.out⟩
    clear hLa hrow hrowb hb6
    gi_wp2_with fail
    refine ⟨trivial, (CallsIn.inRound lr (callsIn_wide.2 (turn1_no bn (ds.length + 1) 6 (n : Int) (some ⟨k, 0, none⟩) C C ws _ hLc.nb hat (by omega) (Or.inr ⟨HOK.out, by have := HN.out; omega, rfl⟩)))).mono ?_⟩
    rintro e We ⟨rfl, hFe⟩
    have hLe := hLc.quiet hFe
    have y0 := hLe.eb.c
    have y1 := hLe.eb.f
    have hLf : Lp w bl bg be bn bw lr D (RC .busy none) 6 (ds.length + 1) s ds good (We.setCell ⟨be, 0, none⟩ (.int .i64 6)) v := hLe.err hds 6
    have hend := end_of (P := Tryz.prog) HRC hLf.lp (some (.exit 0))
    have hLd := hLf.rec_ hds (RC .done (some (.exit 0)))
    have HLd : Hid (Lp w bl bg be bn bw lr D (RC .done (some (.exit 0))) 6 (ds.length + 1) s ds good _ v) := hLd
    clear hLb hLc hLe hLf hLd hFa hFe hat hrkc hrkb hTm hWrt f0 f1 x2 x0 x1 f3 hrowc hFc hFb
    gi_wp2_with fail
    exact ⟨_, _, hend, rfl, v, HLd.out⟩
  have hYg : ∀ (s : Nat) (ds : List Tm) (good : Nat) (W : World) (n k C en : Nat) (ws : List Wt), (∃ v, Lp w bl bg be bn bw lr D (RC .ready none) 0 (ds.length + 1) s ds good W v) → w2.heap.size ≤ s → s ≤ W.heap.size → okT (n : Int) ws → n = ds.length + 1 → C = ws.length → w2.heap.size ≤ k → W.heap[k]? = some (.cells (wtsC ws).toArray 124 (0, 0)) → en < 2^41 → ds.length < 2^41 → (∃ w0, (∃ v, Lp w bl bg be bn bw lr D (RC .ready none) 0 (ds.length + 1) s ds good w0 v) ∧ w0.heap.size ≤ k) →
      YieldAt Fence.wide 1 Tryz.prog lr #[.agg #[.int .i64 (n : Int), .slice (some ⟨k, 0, none⟩) C C, .int .i64 (en : Int), .int .i64 0]] W fun e w' => e = .returned (.bool true) ∧ (∃ v, Lp w bl bg be bn bw lr D (RC .ready none) 0 ((ds ++ [(⟨(n : Int), some ⟨k, 0, none⟩, C, C, ws⟩ : Tm)]).length + 1) s (ds ++ [(⟨(n : Int), some ⟨k, 0, none⟩, C, C, ws⟩ : Tm)]) en w' v) ∧ W.heap.size ≤ w'.heap.size ∧ ∀ k, (w2.heap.size ≤ k ∧ k < s) ∨ k = bb → w'.heap[k]? = W.heap[k]? := by
    rintro s ds good W n k C en ws ⟨v, hL⟩ hs1 hs2 hok hn hC hk hrk hen hdl hnw
    have hnew : ∀ t ∈ ds, t.ao ≠ some ⟨k, 0, none⟩ := by
      obtain ⟨w9, ⟨v9, hL9⟩, hk9⟩ := hnw
      intro t ht he
      obtain ⟨k', e1, _, _, _, hr', _⟩ := hL9.each t ht
      rw [e1] at he
      cases he
      have := lt_of_block hr'
      omega
    clear hnw
    have HOK : Hid (okT (n : Int) ws) := hok
    have HN : Hid (n = ds.length + 1) := hn
    have HC : Hid (C = ws.length) := hC
    have hn16 : n ≤ 65536 := by have := hok.2.1; omega
    clear hok hn hC
    refine round_of HRC rfl hL.lp ?_
    have hFa : Fr [] W (W.alloc (.cells #[.int .i64 (n : Int), .slice (some ⟨k, 0, none⟩) C C, .int .i64 (en : Int), .int .i64 0] 100)) := Fr.alloc _ _ _
    have hrow : (W.alloc (.cells #[.int .i64 (n : Int), .slice (some ⟨k, 0, none⟩) C C, .int .i64 (en : Int), .int .i64 0] 100)).heap[W.heap.size]? = some (.cells #[.int .i64 (n : Int), .slice (some ⟨k, 0, none⟩) C C, .int .i64 (en : Int), .int .i64 0] 100 (0, 0)) := heap_alloc_new W _
    have hLa := hL.quiet hFa
    have hbr := begin_of (P := Tryz.prog) HRC hLa.lp
    have hLb := hLa.rec_ hds (RC .busy none)
    have hlrW : lr < W.heap.size := (Array.getElem?_eq_some_iff.1 hL.lp).1
    have hFb := Fr.putObj (W.alloc (.cells #[.int .i64 (n : Int), .slice (some ⟨k, 0, none⟩) C C, .int .i64 (en : Int), .int .i64 0] 100)) lr (.loop (RC .busy none))
    have hrowb := hFb.keep hrow (by simp; omega)
    obtain ⟨Wb, HWb⟩ : ∃ Wb, Hid ((W.alloc (.cells #[.int .i64 (n : Int), .slice (some ⟨k, 0, none⟩) C C, .int .i64 (en : Int), .int .i64 0] 100)).putObj lr (.loop (RC .busy none)) = Wb) := ⟨_, rfl⟩
    rw [HWb.out] at hbr hLb hrowb hFb
    obtain ⟨b6, hb6⟩ : ∃ b6, b6 = W.heap.size := ⟨_, rfl⟩
    have HB6 : Hid (b6 = W.heap.size) := hb6
    rw [← hb6] at hrowb
    have f3 : Wb.cell? ⟨W.heap.size, 3, none⟩ = some (.int .i64 0) := by rw [← hb6, cell_of_row _ _ _ _ _ _ hrowb]; rfl
    have x0 := hLb.eb.c
    have x1 := hLb.eb.f
    have hFc : Fr [be] Wb (Wb.setCell ⟨be, 0, none⟩ (.int .i64 0)) := Fr.set _ _ _ (by simp)
    have hLc : Lp w bl bg be bn bw lr D (RC .busy none) 0 (ds.length + 1) s ds good (Wb.setCell ⟨be, 0, none⟩ (.int .i64 0)) v := hLb.err hds 0
    have hb6be : b6 ≠ be := by omega
    have hrowc := hFc.keep hrowb (by simpa using hb6be)
    have f0 : (Wb.setCell ⟨be, 0, none⟩ (.int .i64 0)).cell? ⟨W.heap.size, 0, none⟩ = some (.int .i64 (n : Int)) := by rw [← hb6, cell_of_row _ _ _ _ _ _ hrowc]; rfl
    have f1 : (Wb.setCell ⟨be, 0, none⟩ (.int .i64 0)).cell? ⟨W.heap.size, 1, none⟩ = some (.slice (some ⟨k, 0, none⟩) C C) := by rw [← hb6, cell_of_row _ _ _ _ _ _ hrowc]; rfl
    have x2 := hLc.wrb.c
    have hTm : Tnew w W ⟨(n : Int), some ⟨k, 0, none⟩, C, C, ws⟩ := ⟨k, rfl, rfl, HC.out, by have := hL.fr.size; omega, hrk, HOK.out⟩
    have hWrt : ∀ (S : List Nat) (A B : World), Fr S A B → (∀ x ∈ S, x = lr ∨ x = be ∨ x = bn) → A.heap[k]? = some (.cells (wtsC ws).toArray 124 (0, 0)) → B.heap[k]? = some (.cells (wtsC ws).toArray 124 (0, 0)) := fun S A B hf hS ha => hf.keep ha (fun hh => by have := hS k hh; omega)
    have hrkb := hWrt _ _ _ hFb (by simp) (hFa.keep hrk (by simp))
    have hrkc := hWrt _ _ _ hFc (by simp) hrkb
    have hat : TArg (Wb.setCell ⟨be, 0, none⟩ (.int .i64 0)) (n : Int) (some ⟨k, 0, none⟩) C C ws := Tnew.at (w0 := w) (t := ⟨(n : Int), some ⟨k, 0, none⟩, C, C, ws⟩) ⟨k, rfl, rfl, HC.out, by have := hL.fr.size; omega, hrkc, HOK.out⟩
    clear hLa hrow hrowb hb6
    gi_wp2_with fail
    refine ⟨trivial, (CallsIn.inRound lr (callsIn_wide.2 (turn1_ok bn (ds.length + 1) (n : Int) (some ⟨k, 0, none⟩) C C ws _ hLc.nb hat (by omega) HOK.out (by rw [HN.out])))).mono ?_⟩
    rintro e We ⟨rfl, hbe, hFe⟩
    have hLe := hLc.nxt hds hFe hbe
    have y0 := hLe.eb.c
    have y1 := hLe.eb.f
    have hFf : Fr [be] We (We.setCell ⟨be, 0, none⟩ (.int .i64 0)) := Fr.set _ _ _ (by simp)
    have hLf : Lp w bl bg be bn bw lr D (RC .busy none) 0 (ds.length + 1 + 1) s ds good (We.setCell ⟨be, 0, none⟩ (.int .i64 0)) v := hLe.err hds 0
    have hrowe := hFe.keep hrowc (by have := HB6.out; simp; omega)
    have hrowf := hFf.keep hrowe (by simpa using hb6be)
    have hrke := hWrt _ _ _ hFe (by simp) hrkc
    have hrkf := hWrt _ _ _ hFf (by simp) hrke
    have hsf : s ≤ (We.setCell ⟨be, 0, none⟩ (.int .i64 0)).heap.size := by have := hFa.size; have := hFb.size; have := hFc.size; have := hFe.size; have := hFf.size; omega
    have hT : Fr ([lr, be, bn, bl, bg] ++ v.ownBlock.toList) W (We.setCell ⟨be, 0, none⟩ (.int .i64 0)) :=
      ((((hFa.mono (by simp)).then (hFb.mono (fun x hx _ => by simp at hx; simp [hx]))).then (hFc.mono (fun x hx _ => by simp at hx; simp [hx]))).then (hFe.mono (fun x hx _ => by simp at hx; simp [hx]))).then (hFf.mono (fun x hx _ => by simp at hx; simp [hx]))
    clear hLb hLc hLe hFa hFe hFf hat hrkc hrkb hrke hTm hWrt f0 f1 x2 x0 x1 f3 hrowc hrowe hFc hFb hbe
    gi_wp2_with fail
    obtain ⟨Wf, HWf⟩ : ∃ Wf, Hid (We.setCell ⟨be, 0, none⟩ (.int .i64 0) = Wf) := ⟨_, rfl⟩
    rw [HWf.out] at hLf hrowf hrkf hsf hT ⊢
    have hRg : Rg bl bg b6 Wf v (.int .i64 (good : Int)) ds.length (tmsC ds) (n : Int) (some ⟨k, 0, none⟩) C en :=
      ⟨hLf.lb, hLf.gb, hLf.row, by rw [cell_of_row _ _ _ _ _ _ hrowf]; rfl, by rw [cell_of_row _ _ _ _ _ _ hrowf]; rfl, by rw [cell_of_row _ _ _ _ _ _ hrowf]; rfl, lt_of_block hrowf, by omega, by have := HB6.out; omega, by have := HB6.out; omega, hLf.far hds (by omega), hLf.far hds (by omega), fun hv => by obtain ⟨cur, hcu⟩ := hLf.rowNe hv; rw [hcu] at hrowf; simp at hrowf, by omega⟩
    rw [← HB6.out]
    refine wpIn_mono (region8 lr 1 bl bg b6 Wf v (.int .i64 (good : Int)) ds.length (tmsC ds) (n : Int) (some ⟨k, 0, none⟩) C en hRg (fun W9 => ∃ v' w', (Instr.endRound lr none).run Tryz.prog W9 = .ok v' w' ∧ (Ending.returned v' = .returned (.bool true) ∧ (∃ v, Lp w bl bg be bn bw lr D (RC .ready none) 0 (ds.length + 1 + 1) s (ds ++ [(⟨(n : Int), some ⟨k, 0, none⟩, C, C, ws⟩ : Tm)]) en w' v) ∧ W.heap.size ≤ w'.heap.size ∧ ∀ k, (w2.heap.size ≤ k ∧ k < s) ∨ k = bb → w'.heap[k]? = W.heap[k]?)) _ ?_ rfl rfl rfl rfl) ?_
    · intro w' u hA
      have hLg := hLf.app (en := en) hds hA hsf (by have := hL.fr.size; omega) HC.out hrkf HOK.out hnew
      have hend := end_of (P := Tryz.prog) HRC hLg.lp none
      refine ⟨_, _, hend, rfl, ⟨u, ?_⟩, ?_, ?_⟩
      · have := hLg.rec_ hds (RC .ready none)
        exact this
      · have := hT.size
        have := hA.fr.size
        simp
        omega
      · intro j hj
        have hT2 : Fr ([lr, be, bn, bl, bg] ++ v.ownBlock.toList) W (((w'.setCell ⟨bl, 0, none⟩ u).setCell ⟨bg, 0, none⟩ (.int .i64 (en : Int))).putObj lr (.loop (RC .ready none))) :=
          (((hT.then (hA.fr.mono (fun x hx _ => List.mem_append_right _ hx))).then (Fr.set w' ⟨bl, 0, none⟩ u (by simp))).then (Fr.set _ ⟨bg, 0, none⟩ (.int .i64 (en : Int)) (by simp))).then ((Fr.putObj _ lr _).mono (fun x hx _ => by simp at hx; simp [hx]))
        refine hT2.block j (by omega) (fun hh => ?_)
        rcases List.mem_append.1 hh with h3 | h3
        · simp at h3; omega
        · simp only [Option.mem_toList] at h3
          have := hL.new j h3
          have := hL.sl
          omega
    · rintro e a9 W9 ⟨rfl, hq⟩
      have HQ : Hid (∃ v' w', _) := hq
      clear hq
      gi_wp2_with fail
      exact HQ.out
  refine (rec1_in 1 lr bb ao L cap xs vs ls c w2 (fun s ds good W => ∃ v, Lp w bl bg be bn bw lr D (RC .ready none) 0 (ds.length + 1) s ds good W v) (fun s ds good c W => ∃ v, Lp w bl bg be bn bw lr D (RC .done (some (.exit 0))) c (ds.length + 1) s ds good W v)
    hbb2 hA2 hlen HR.out (fun s hs => ⟨_, hLp0 s hs⟩) (fun s ds good W W' ⟨v, hL⟩ hf => ⟨v, hL.quiet hf⟩) (fun s ds good W W' g ⟨v, hL⟩ hb hg hf => ⟨v, hL.reader hb (by omega) hf⟩) hYg hYo hYe).mono ?_
  rintro e W3 ⟨⟨v0, rfl⟩, s, ds, good, htx, hgood, hend⟩
  have HT : Hid (txs ds = ls ∧ good + vs.length = xs.length) := ⟨htx, hgood⟩
  clear htx hgood hYg hYo hYe hLp0 hbb2 hA2
  obtain ⟨st, pe, v, hst, hpe, hL⟩ : ∃ st pe v, st ≠ .busy ∧ (pe = none ∨ pe = some (.exit 0)) ∧ Lp w bl bg be bn bw lr D (RC st pe) c (ds.length + 1) s ds good W3 v := by
    rcases hend with ⟨rfl, v, hL⟩ | ⟨_, v, hL⟩
    · exact ⟨.ready, none, v, by simp, Or.inl rfl, hL⟩
    · exact ⟨.done, some (.exit 0), v, by simp, Or.inr rfl, hL⟩
  clear hend
  have hle := loop_end_of (P := Tryz.prog) HRC hL.lp hst
  have hL4 := hL.rec_ hds (RC .exhausted pe)
  obtain ⟨W4, HW4⟩ : ∃ W4, Hid (W3.putObj lr (.loop (RC .exhausted pe)) = W4) := ⟨_, rfl⟩
  rw [HW4.out] at hle hL4
  clear hL
  obtain ⟨ro, rc, rfl⟩ := own2_shape hL4.row
  have hdl : ds.length = N := by rw [HN.out, ← HT.out.1, txs_length]
  have hgl : good = G := by have := HT.out.2; have := HG.out; omega
  subst hgl
  rw [hdl] at hL4
  have hb0 := hL4.lb.c
  have hb1 := hL4.lb.f
  have hg0 := hL4.gb.c
  have hg1 := hL4.gb.f
  have he0 := hL4.eb.c
  have he1 := hL4.eb.f
  have n1 : W4.setCell ⟨bl, 0, none⟩ (.slice ro N rc) = W4 := hL4.lb.same
  have n2 : W4.setCell ⟨bg, 0, none⟩ (.int .i64 (good : Int)) = W4 := hL4.gb.same
  have n3 : W4.setCell ⟨be, 0, none⟩ (.int .i64 (c : Int)) = W4 := hL4.eb.same
  have n4 : W4.drew.setCell ⟨bl, 0, none⟩ (.slice ro N rc) = W4.drew := (hL4.lb.keep (Fr.drew [] W4) (by simp)).same
  have n5 : W4.drew.setCell ⟨bg, 0, none⟩ (.int .i64 (good : Int)) = W4.drew := (hL4.gb.keep (Fr.drew [] W4) (by simp)).same
  have n6 : W4.drew.setCell ⟨be, 0, none⟩ (.int .i64 (c : Int)) = W4.drew := (hL4.eb.keep (Fr.drew [] W4) (by simp)).same
  have HL4 : Hid (Lp w bl bg be bn bw lr D (RC .exhausted pe) c (N + 1) s ds good W4 (.slice ro N rc)) := hL4
  have HDL : Hid (ds.length = N) := hdl
  clear hL4 hdl hst HRC
  refine ⟨pe, W4, hle, ?_⟩
  clear hle
  rcases hpe with rfl | rfl
  · gi_wp2_with fail
    refine wpIn_wide.2 ?_
    go_region_held3 (fun W => W.cell? ⟨bl, 0, none⟩ = some (.slice ro N rc) ∧ W.cell? ⟨bg, 0, none⟩ = some (.int .i64 (good : Int)) ∧ W.cell? ⟨be, 0, none⟩ = some (.int .i64 (c : Int))) (go_keep) (fail)
    gi_wp2_with fail
    have hK : W4.drew.heap[D]? = some (.deferred (some [])) := HL4.out.df
    have hF5 : Fr [D] W4 (W4.drew.putObj D (.deferred none)) := (Fr.drew [D] W4).then (Fr.putObj _ D _)
    refine ⟨by simp, .inl ⟨_, _, rfl, run_takeDeferred hK, ?_⟩⟩
    have k0 := (HL4.out.lb.keep hF5 (by simp; omega)).c
    have k1 := (HL4.out.gb.keep hF5 (by simp; omega)).c
    have k2 := (HL4.out.eb.keep hF5 (by simp; omega)).c
    have HO : Hid (TOut w (W4.drew.putObj D (.deferred none)) (.slice ro N rc) ds ∧ Fr [] w (W4.drew.putObj D (.deferred none))) := by
      have hlt : D < W4.heap.size := lt_of_block HL4.out.df
      refine ⟨⟨?_, fun k hk => ?_, fun t ht => (HL4.out.each t ht).keepS hF5 (fun k hk hh => ?_), HL4.out.pw⟩, HL4.out.fr.on hF5 (by intro x hx; simp at hx; omega)⟩
      · exact owns_keep HL4.out.row hF5 (fun k hk hh => by simp at hh; have := HL4.out.new k hk; have := HL4.out.sl; omega)
      · have := HL4.out.new k hk; have := HL4.out.sl; omega
      · simp at hh; subst hh; rw [HL4.out.df] at hk; cases hk
    obtain ⟨W5, HW5⟩ : ∃ W5, Hid (W4.drew.putObj D (.deferred none) = W5) := ⟨_, rfl⟩
    rw [HW5.out] at k0 k1 k2 HO ⊢
    refine ⟨.tuple #[.slice ro N rc, .int .i64 (good : Int), .int .i64 (c : Int)], ?_, ro, rc, rfl, ds, HT.out.1, HO.out⟩
    rw [results_cell3 rfl]
    go_simp
  · gi_wp2_with fail
    refine wpIn_wide.2 ?_
    go_region_held3 (fun W => W.cell? ⟨bl, 0, none⟩ = some (.slice ro N rc) ∧ W.cell? ⟨bg, 0, none⟩ = some (.int .i64 (good : Int)) ∧ W.cell? ⟨be, 0, none⟩ = some (.int .i64 (c : Int))) (go_keep) (fail)
    gi_wp2_with fail
    have hK : W4.drew.heap[D]? = some (.deferred (some [])) := HL4.out.df
    have hF5 : Fr [D] W4 (W4.drew.putObj D (.deferred none)) := (Fr.drew [D] W4).then (Fr.putObj _ D _)
    refine ⟨by simp, .inl ⟨_, _, rfl, run_takeDeferred hK, ?_⟩⟩
    have k0 := (HL4.out.lb.keep hF5 (by simp; omega)).c
    have k1 := (HL4.out.gb.keep hF5 (by simp; omega)).c
    have k2 := (HL4.out.eb.keep hF5 (by simp; omega)).c
    have HO : Hid (TOut w (W4.drew.putObj D (.deferred none)) (.slice ro N rc) ds ∧ Fr [] w (W4.drew.putObj D (.deferred none))) := by
      have hlt : D < W4.heap.size := lt_of_block HL4.out.df
      refine ⟨⟨?_, fun k hk => ?_, fun t ht => (HL4.out.each t ht).keepS hF5 (fun k hk hh => ?_), HL4.out.pw⟩, HL4.out.fr.on hF5 (by intro x hx; simp at hx; omega)⟩
      · exact owns_keep HL4.out.row hF5 (fun k hk hh => by simp at hh; have := HL4.out.new k hk; have := HL4.out.sl; omega)
      · have := HL4.out.new k hk; have := HL4.out.sl; omega
      · simp at hh; subst hh; rw [HL4.out.df] at hk; cases hk
    obtain ⟨W5, HW5⟩ : ∃ W5, Hid (W4.drew.putObj D (.deferred none) = W5) := ⟨_, rfl⟩
    rw [HW5.out] at k0 k1 k2 HO ⊢
    refine ⟨.tuple #[.slice ro N rc, .int .i64 (good : Int), .int .i64 (c : Int)], ?_, ro, rc, rfl, ds, HT.out.1, HO.out⟩
    rw [results_cell3 rfl]
    go_simp
theorem TOut.trs {w w' : World} {ro : Option Addr} {N rc : Nat} {ds : List Tm} (h : TOut w w' (.slice ro N rc) ds) (hl : ds.length ≤ 140737488355328 := by omega) : TRs w' ro ds := by
  refine ⟨fun h0 => ?_, hl, fun t ht => (h.each t ht).at⟩
  rcases h.row.2 with ⟨hv, h1⟩ | ⟨g, cap, cur, hv, _, hgg, hnc, _, hcs, htake⟩
  · omega
  · cases hv
    refine ⟨g, 0, rfl, lt_of_block hgg, fun i hi => ?_⟩
    have hc := h.row.cells (g := g) rfl
    have key : ∀ c, c < 2 → w'.cell? ⟨g, 0 + i * 2 + c, none⟩ = (tmC (ds.getD i Tm.zero))[c]? := by
      intro c hc2
      have h1 := tmsC_get ds i c hi hc2
      have hlt : c < (tmC (ds.getD i Tm.zero)).length := by simp [tmC]; omega
      rw [List.getElem?_eq_getElem hlt] at h1 ⊢
      have := hc (i * 2 + c) _ h1
      rw [Addr.add_lit] at this
      simpa [Nat.add_assoc] using this
    exact ⟨key 0 (by omega), key 1 (by omega)⟩
end Go.Proofs.YtaefninikmaiiaaGreatDoor
/- That the statements' own check of some fixed answers (the function alive) is true. No conditions. -/
namespace Go.Proofs.YtaefninikmaiiaaGreatDoor
open Go.ChangeShapes Go.WideShapes Go.ChangeAt Go.RowKit Go.Lib
set_option linter.unusedVariables false

def aW : List Wt := [⟨⟨#[97]⟩, ⟨#[120]⟩, false⟩]
def aX : List Tx := [⟨1, aW⟩, ⟨2, []⟩]
def aT (S : Nat) : List Tm := [⟨1, some ⟨S, 0, none⟩, 1, 1, aW⟩, ⟨2, none, 0, 0, []⟩]
theorem aT_txs (S : Nat) : txs (aT S) = aX := rfl
def aB : List Nat := [7, 1, 1, 1, 97, 0, 1, 120, 113, 55, 57, 77, 2, 2, 0, 60, 71, 36, 214]
theorem aB_enc : aB = encL aX := by decide +kernel
theorem aX_ok : okL 1 aX := by
  refine ⟨⟨by decide, by decide, by decide, ?_⟩, rfl, ⟨by decide, by decide, by decide, by simp⟩, rfl, trivial⟩
  intro x hx
  simp only [aW, List.mem_cons, List.not_mem_nil, or_false] at hx
  subst hx
  exact ⟨by decide, by decide, by decide, fun h => by simp at h⟩
theorem a0_rds : Rds 1 [0] [] [0] 5 := ⟨rfl, Or.inr (Or.inl ⟨by simp, by rfl⟩)⟩
theorem a2_bad : Bad 1 (txs [⟨2, none, 0, 0, []⟩]) 6 := Or.inr (Or.inl ⟨⟨by decide, by decide, by decide, by simp [Tm.tx]⟩, by decide, rfl⟩)
end Go.Proofs.YtaefninikmaiiaaGreatDoor
/- What the statements' own helpers on transactions answer: TxnsSize, SameTxns, Beyond of two. Conditions as each names them. -/
namespace Go.Proofs.YtaefninikmaiiaaGreatDoor
open Go.ChangeShapes Go.WideShapes Go.ChangeAt Go.RowKit Go.Lib
set_option linter.unusedVariables false

set_option maxHeartbeats 4000000 in
set_option maxRecDepth 100000 in
theorem txnsSize_any (ao : Option Addr) (L cap : Nat) (ts : List Tm) (w : World) (hT : TRs w ao ts) (hL : L = ts.length) :
    Calls Tryz.prog 8 #[.slice ao L cap] w fun e w' => ∃ N : Nat, e = .returned (.int .i64 (N : Int)) ∧ N ≤ 9007199254740992 ∧ Fr [] w w' := by
  have HL : Hid (L = ts.length) := hL
  have hLm : L ≤ 140737488355328 := by have := hT.few; omega
  clear hL
  go_enter Tryz.func8, Tryz.ntmps8
  go_wp2_with fail
  go_loopw [3, 4] (fun nn ii wr => ∃ (n i : Nat), nn = .int .i64 n ∧ ii = .int .i64 i ∧ i ≤ L ∧ n ≤ 9007199254740992 ∧ Fr [] w wr) (fun _ ii _ => L - (RowKit.intOf ii).toNat)
  case atStart => exact ⟨L, 0, rfl, rfl, Nat.zero_le _, by omega, Fr.refl _ _⟩
  case round =>
    obtain ⟨n, i, rfl, rfl, hiL, hn, hFr⟩ := hrel
    by_cases hi : i < L
    · by_cases hbig : n ≤ 1048576
      · have hi' : i < ts.length := by rw [← HL.out]; exact hi
        have hb' : (n : Int) ≤ 1048576 := by omega
        obtain ⟨bb, off, rfl, _, hc⟩ := (hT.keep hFr).lies (by omega)
        have hx := hc i hi'
        have hat := (hT.keep hFr).each _ (tgetD_mem ts i hi')
        obtain ⟨x, hxx⟩ : ∃ x, x = ts.getD i Tm.zero := ⟨_, rfl⟩
        rw [← hxx] at hx hat
        clear hxx hc
        obtain ⟨nn, xo, M, cm, ws⟩ := x
        obtain ⟨c0, c1⟩ := hx
        simp only at c0 c1
        have hat' : TArg wr nn xo M cm ws := hat
        go_wp2_with fail
        refine (txSize_any nn xo M cm ws _ hat'.rs hat'.len).mono ?_
        rintro e w2 ⟨K, rfl, hW, hF2⟩
        have hK : K ≤ 1125899906842624 := hW.2.1
        have hG2 := hFr.then hF2
        clear hat hat' hW hF2 hFr
        go_wp2
        go_roundw
        case rel => exact ⟨n + (K + 1), i + 1, by simp, by simp, by omega, by omega, hG2⟩
        case measure => simp [RowKit.intOf]; omega
      · have hb' : (1048576 : Int) < n := by omega
        have hb2 : ¬ ((n : Int) ≤ 1048576) := by omega
        go_wp2
        go_ret
        exact ⟨n, rfl, hn, hFr⟩
    · go_wp2
      go_ret
      exact ⟨n, rfl, hn, hFr⟩

set_option maxHeartbeats 1000000 in
theorem beyond2_any (k N M : Nat) (w : World) (hN : N ≤ 9007199254740992) (hM : M ≤ 9007199254740992) (h0 : w.cell? ⟨k, 0, none⟩ = some (.int .i64 (N : Int))) (h1 : w.cell? ⟨k, 1, none⟩ = some (.int .i64 (M : Int))) :
    Calls Tryz.prog 7 #[.slice (some ⟨k, 0, none⟩) 2 2] w fun e w' => ∃ B : Bool, e = .returned (.bool B) ∧ (B = false → N + M ≤ 1048576) ∧ w = w' := by
  by_cases h : 1048576 < N
  · have h' : (1048576 : Int) < N := by omega
    go_enter Tryz.func7, Tryz.ntmps7
    go_wp2_with fail
    refine wp_loop_rounds 1 ?_
    rw [rounds_succ]
    go_wp2
    go_ret
    exact ⟨true, rfl, fun hh => (by cases hh), rfl⟩
  · have h' : (N : Int) ≤ 1048576 := by omega
    by_cases h2 : 1048576 < N + M
    · have h2' : (1048576 : Int) < (N : Int) + M := by omega
      go_enter Tryz.func7, Tryz.ntmps7
      go_wp2_with fail
      refine wp_loop_rounds 2 ?_
      rw [rounds_succ]
      go_wp2
      rw [rounds_succ]
      go_wp2
      go_ret
      exact ⟨true, rfl, fun hh => (by cases hh), rfl⟩
    · have h2' : (N : Int) + M ≤ 1048576 := by omega
      go_enter Tryz.func7, Tryz.ntmps7
      go_wp2_with fail
      refine wp_loop_rounds 3 ?_
      rw [rounds_succ]
      go_wp2
      rw [rounds_succ]
      go_wp2
      rw [rounds_succ]
      go_wp2
      go_ret
      exact ⟨false, rfl, fun _ => (by omega), rfl⟩

theorem txs_upto (xs ys : List Tm) (hl : xs.length = ys.length) (h : ∀ j, j < xs.length → (xs.getD j Tm.zero).tx = (ys.getD j Tm.zero).tx) : txs xs = txs ys := by
  apply List.ext_getElem
  · simp [txs, hl]
  · intro i h1 h2
    have h3 := h i (by simpa [txs] using h1)
    have a : i < xs.length := by simpa [txs] using h1
    have b : i < ys.length := by simpa [txs] using h2
    simpa [txs, List.getD, a, b] using h3
set_option maxHeartbeats 8000000 in
set_option maxRecDepth 100000 in
theorem sameTxns_any (ao bo : Option Addr) (L M ca cb : Nat) (R : Bool) (xs ys : List Tm) (w : World) (ha : TRs w ao xs) (hb : TRs w bo ys) (hL : L = xs.length) (hM : M = ys.length) (hR : R = true ↔ txs xs = txs ys) :
    Calls Tryz.prog 21 #[.slice ao L ca, .slice bo M cb] w fun e w' => e = .returned (.bool R) ∧ Fr [] w w' := by
  have HR : Hid (R = true ↔ txs xs = txs ys) := hR
  have HL : Hid (L = xs.length) := hL
  have HM : Hid (M = ys.length) := hM
  have hLm : L ≤ 140737488355328 := by have := ha.few; omega
  have hMm : M ≤ 140737488355328 := by have := hb.few; omega
  clear hR hL hM
  by_cases hne : L = M
  · subst hne
    have hbn : ((L : Int) != (L : Int)) = false := by simp
    go_enter Tryz.func21, Tryz.ntmps21
    go_wp2_with fail
    go_loopw [5] (fun ii wr => ∃ (i : Nat), ii = .int .i64 i ∧ i ≤ L ∧ Hid (∀ j, j < i → (xs.getD j Tm.zero).tx = (ys.getD j Tm.zero).tx) ∧ Fr [] w wr) (fun ii _ => L - (RowKit.intOf ii).toNat)
    case atStart => exact ⟨0, rfl, Nat.zero_le _, fun j hj => by omega, Fr.refl _ _⟩
    case round =>
      obtain ⟨i, rfl, hiL, HE, hFr⟩ := hrel
      by_cases hi : i < L
      · have hix : i < xs.length := by rw [← HL.out]; exact hi
        have hiy : i < ys.length := by rw [← HM.out]; exact hi
        obtain ⟨b1, o1, rfl, hlt1, hc1⟩ := (ha.keep hFr).lies (by omega)
        obtain ⟨b2, o2, rfl, hlt2, hc2⟩ := (hb.keep hFr).lies (by omega)
        have hx := hc1 i hix
        have hy := hc2 i hiy
        have hatx := (ha.keep hFr).each _ (tgetD_mem xs i hix)
        have haty := (hb.keep hFr).each _ (tgetD_mem ys i hiy)
        obtain ⟨x, hxx⟩ : ∃ x, x = xs.getD i Tm.zero := ⟨_, rfl⟩
        obtain ⟨y, hyy⟩ : ∃ y, y = ys.getD i Tm.zero := ⟨_, rfl⟩
        rw [← hxx] at hx hatx
        rw [← hyy] at hy haty
        have HX : Hid (x = xs.getD i Tm.zero) := hxx
        have HY : Hid (y = ys.getD i Tm.zero) := hyy
        clear hxx hyy hc1 hc2
        obtain ⟨n1, x1, m1, k1, ws1⟩ := x
        obtain ⟨n2, x2, m2, k2, ws2⟩ := y
        obtain ⟨c0, c1⟩ := hx
        obtain ⟨d0, d1⟩ := hy
        simp only at c0 c1 d0 d1
        have hax : TArg wr n1 x1 m1 k1 ws1 := hatx
        have hay : TArg wr n2 x2 m2 k2 ws2 := haty
        obtain ⟨S, HS⟩ : ∃ S : Bool, Hid (S = true ↔ n1 = n2 ∧ ws1 = ws2) := by
          by_cases hh : n1 = n2 ∧ ws1 = ws2
          · exact ⟨true, by simp [Hid, hh]⟩
          · exact ⟨false, by simp only [Hid]; exact ⟨fun h => (by cases h), fun h => absurd h hh⟩⟩
        have hST := sameTxn_any n1 n2 x1 x2 m1 m2 k1 k2 S ws1 ws2 wr.drew (hax.rs.keep (Fr.drew [] wr)) (hay.rs.keep (Fr.drew [] wr)) hax.len hay.len HS.out
        obtain ⟨e0, e1, g0, g1⟩ : wr.drew.cell? ⟨b1, o1 + i * 2, none⟩ = some (.int .i64 n1) ∧ wr.drew.cell? ⟨b1, o1 + i * 2 + 1, none⟩ = some (.slice x1 m1 k1) ∧ wr.drew.cell? ⟨b2, o2 + i * 2, none⟩ = some (.int .i64 n2) ∧ wr.drew.cell? ⟨b2, o2 + i * 2 + 1, none⟩ = some (.slice x2 m2 k2) := ⟨c0, c1, d0, d1⟩
        have hq1 : b1 < wr.drew.heap.size := hlt1
        have hq2 : b2 < wr.drew.heap.size := hlt2
        clear hatx haty hax hay hlt1 hlt2
        go_wp2_with fail
        go_region_held3 (fun W => W.cell? ⟨b1, o1 + i * 2, none⟩ = some (.int .i64 n1) ∧ W.cell? ⟨b1, o1 + i * 2 + 1, none⟩ = some (.slice x1 m1 k1) ∧ W.cell? ⟨b2, o2 + i * 2, none⟩ = some (.int .i64 n2) ∧ W.cell? ⟨b2, o2 + i * 2 + 1, none⟩ = some (.slice x2 m2 k2)) (go_keep)
          (with_reducible refine hST.mono ?_; rintro e w2 ⟨rfl, hF2⟩; have z0 := (World.cell?_of_block (hF2.block b1 hq1 (by simp))).trans e0; have z1 := (World.cell?_of_block (hF2.block b1 hq1 (by simp))).trans e1; have z2 := (World.cell?_of_block (hF2.block b2 hq2 (by simp))).trans g0; have z3 := (World.cell?_of_block (hF2.block b2 hq2 (by simp))).trans g1)
        have hG2 := hFr.then ((Fr.drew [] wr).then hF2)
        clear hST hF2 c0 c1 d0 d1 e0 e1 g0 g1 z0 z1 z2 z3
        cases S with
        | true =>
          have HE2 : Hid (∀ j, j < i + 1 → (xs.getD j Tm.zero).tx = (ys.getD j Tm.zero).tx) := by
            intro j hj
            by_cases hji : j = i
            · subst hji
              rw [← HX.out, ← HY.out]
              obtain ⟨h1, h2⟩ := HS.out.1 rfl
              simp [Tm.tx, h1, h2]
            · exact HE.out j (by omega)
          go_wp2
          go_roundw
          case rel => exact ⟨i + 1, by simp, by omega, HE2, hG2⟩
          case measure => simp [RowKit.intOf]; omega
        | false =>
          have hRf : R = false := by
            cases hRR : R with
            | false => rfl
            | true =>
              exfalso
              have h1 := HR.out.1 hRR
              have h2 : (xs.getD i Tm.zero).tx = (ys.getD i Tm.zero).tx := by rw [← txs_getD, ← txs_getD, h1]
              rw [← HX.out, ← HY.out] at h2
              simp only [Tm.tx, Tx.mk.injEq] at h2
              have := HS.out.2 h2
              cases this
          subst hRf
          go_wp2
          go_ret
          exact ⟨rfl, hG2⟩
      · have hRt : R = true := HR.out.2 (txs_upto xs ys (by rw [← HL.out, ← HM.out]) (fun j hj => HE.out j (by have := HL.out; omega)))
        subst hRt
        go_wp2
        go_ret
        exact ⟨rfl, hFr⟩
  · have hRf : R = false := by
      cases hRR : R with
      | false => rfl
      | true =>
        exfalso
        have h1 := congrArg List.length (HR.out.1 hRR)
        rw [txs_length, txs_length, ← HL.out, ← HM.out] at h1
        exact hne h1
    subst hRf
    have hbn : ((L : Int) != (M : Int)) = true := by rw [bne_iff_ne]; omega
    clear hne
    go_enter Tryz.func21, Tryz.ntmps21
    go_wp2_with fail
    go_ret
    exact ⟨rfl, Fr.refl _ _⟩
end Go.Proofs.YtaefninikmaiiaaGreatDoor
/- The walk of the law LogfileReads. Conditions: how its argument lies in memory; the table of powers of ten reads as the library lays it. -/
namespace Go.Proofs.YtaefninikmaiiaaGreatDoor
open BigFrame Go.ChangeShapes Go.WideShapes Go.ChangeAt Go.RowKit Go.Lib
set_option linter.unusedVariables false
set_option linter.unusedSimpArgs false

theorem bytes_own {w : World} {t L : Nat} {xs : List Nat} (h : w.heap[t]? = some (.cells (bts (xs ++ [77])).toArray 5 (0, 0))) (hL : L = xs.length) (hm : L < 2^40) : w.ownsRow 0 5 1 (.slice (some ⟨t, 0, none⟩) L (L + 1)) L (bts xs) := by
  refine ⟨by rw [bts_length]; omega, .inr ⟨t, L + 1, (bts (xs ++ [77])).toArray, rfl, Nat.zero_le _, h, by omega, by simp only [maxLen]; omega, by simp [bts_length]; omega, ?_⟩⟩
  simp only [bts_append, Nat.mul_one]
  rw [List.take_append_of_le_length (by rw [bts_length]; omega), List.take_of_length_le (by rw [bts_length]; omega)]
theorem bytes_arg {w : World} {t L : Nat} {xs : List Nat} (h : w.heap[t]? = some (.cells (bts (xs ++ [77])).toArray 5 (0, 0))) (hL : L = xs.length) (hl : ∀ x ∈ xs, x < 256) (hm : L < 2^40) : BArg w (some ⟨t, 0, none⟩) L (L + 1) xs := by
  refine ⟨hL, hl, by omega, by omega, fun h0 => ⟨t, 0, rfl, lt_of_block h, fun j hj => ?_⟩⟩
  have h1 := bytes_own h hL hm
  rw [Nat.zero_add, h1.cellAt j (by omega), bts_get xs j (by omega)]
/-- What Read handed out, as a Book sees it. -/
theorem tout_dts {w w' W : World} {ro : Option Addr} {N rc : Nat} {ds : List Tm} (h : TOut w w' (.slice ro N rc) ds) (hf : Fr [] w' W) (hN : N = ds.length) (hNs : N < 1048577) : Bq.Dts W ro N rc (dts ds) := by
  have hrow : W.ownsRow 0 63 2 (.slice ro N rc) N (tmsC ds) := by
    have := owns_keep h.row hf (by simp)
    rw [← hN] at this
    exact this
  refine ⟨by rw [dtC_dts]; exact hrow, by simp [dts, hN], hNs, ?_, ?_⟩
  · intro i d hd
    obtain ⟨u, hu, rfl⟩ := dts_get hd
    obtain ⟨k, e1, e2, e3, hk, hr, hok⟩ := h.each u (List.mem_of_getElem? hu)
    have hr' := hf.keep hr (by simp)
    have hl := hok.2.2.1
    refine ⟨u.L, wtsC u.ws, ?_, by omega⟩
    simp only
    rw [e1, e2]
    refine ⟨by rw [wtsC_length, e3], .inr ⟨k, u.L, (wtsC u.ws).toArray, rfl, Nat.zero_le _, hr', Nat.le_refl _, by simp only [maxLen]; omega, by simp [wtsC_length]; omega, ?_⟩⟩
    rw [List.take_of_length_le (by rw [wtsC_length]; omega)]
  · intro i j a c ha hc hij k hk1 hk2
    obtain ⟨u, hu, rfl⟩ := dts_get ha
    obtain ⟨v, hv, rfl⟩ := dts_get hc
    obtain ⟨ku, e1, _⟩ := h.each u (List.mem_of_getElem? hu)
    obtain ⟨kv, e2, _⟩ := h.each v (List.mem_of_getElem? hv)
    simp only at hk1 hk2
    rw [e1] at hk1
    rw [e2] at hk2
    simp [Value.ownBlock] at hk1 hk2
    subst hk1
    have hne : u.ao ≠ v.ao := by
      have hiu := (List.getElem?_eq_some_iff.1 hu)
      have hjv := (List.getElem?_eq_some_iff.1 hv)
      have hp := List.pairwise_iff_getElem.1 h.pw
      by_cases hlt : i < j
      · have := hp i j hiu.1 hjv.1 hlt
        rw [hiu.2, hjv.2] at this
        exact this
      · have := hp j i hjv.1 hiu.1 (by omega)
        rw [hiu.2, hjv.2] at this
        exact fun e => this e.symm
    rw [e1, e2, hk2] at hne
    exact hne rfl
theorem lbs_tout {w w' : World} {v : Value} {ds : List Tm} (h : TOut w w' v ds) {T k : Nat} (hk : k ∈ Bq.lbs (Bq.held T (dts ds))) : w.heap.size ≤ k := by
  obtain ⟨i, d, hd, hk1⟩ := Bq.mem_held hk
  obtain ⟨u, hu, rfl⟩ := dts_get hd
  obtain ⟨ku, e1, _, _, h1, _⟩ := h.each u (List.mem_of_getElem? hu)
  simp only at hk1
  rw [e1] at hk1
  simp [Value.ownBlock] at hk1
  omega

set_option maxHeartbeats 8000000 in
set_option maxRecDepth 100000 in
theorem rdl (ao : Option Addr) (L cap : Nat) (xs : List Nat) (w : World) (hA : BArg w ao L cap xs) (htab : Bq.Tab w) :
    Calls Tryz.prog 4 #[.slice ao L cap] w fun e w' => e = .returned (.bool true) ∧ Fr [] w w' := by
  have HL : Hid (L = xs.length) := hA.len
  have HTb : Hid (Bq.Tab w) := htab
  have HI : Hid (∀ W, Fr [] w W → BArg W ao L cap xs) := fun W hf => hA.keep hf
  have hmost := hA.most
  have hF2 : Fr [] w (w.alloc (.cells #[.int .i64 (L : Int)] 3)) := Fr.alloc _ _ _
  obtain ⟨w2, HW2⟩ : ∃ w2, Hid (w.alloc (.cells #[.int .i64 (L : Int)] 3) = w2) := ⟨_, rfl⟩
  rw [HW2.out] at hF2
  go_enter Tryz.func4, Tryz.ntmps4
  go_wp2_with fail
  refine (beyond_any w.heap.size L _ hmost (by simp)).mono ?_
  rintro e w2' ⟨rfl, rfl⟩
  rw [HW2.out]
  by_cases hbig : 1048576 < L
  · have hbd : decide (1048576 < L) = true := by simpa using hbig
    rw [hbd]
    go_wp2
    go_ret
    exact ⟨rfl, hF2⟩
  · have hbd : decide (1048576 < L) = false := by simpa using hbig
    rw [hbd]
    have hLs : L < 1048577 := by omega
    have hlow := hA.low
    obtain ⟨ls, vs, c, hRd⟩ := Rds.ex xs.length 1 xs (Nat.le_refl _) hlow
    obtain ⟨hx1, hx2, _⟩ := Rds.inv hlow hRd
    have hxl := congrArg List.length hx1
    rw [List.length_append] at hxl
    have hle := (encL_length (okL_mem hx2)).1
    have HRd : Hid (Rds 1 xs ls vs c) := hRd
    obtain ⟨N, HN⟩ : ∃ N, Hid (N = ls.length) := ⟨_, rfl⟩
    obtain ⟨G, HG⟩ : ∃ G, Hid (G + vs.length = xs.length) := ⟨(encL ls).length, hxl.symm⟩
    have hNs : N < 1048577 := by have := HN.out; have := HL.out; omega
    clear hRd hx1 hx2 hxl hle hbig hbd
    go_wp2_with fail
    refine (twin_any ao L cap xs _ (HI.out _ hF2) (by omega)).mono ?_
    rintro e w4 ⟨t, rfl, ht, hrow4, hF4⟩
    have hG4 := hF2.then hF4
    have HG04 : Hid (Fr [] w w4) := hG4
    have hwt : w.heap.size ≤ t := by have := hF2.size; omega
    have htl : t < w4.heap.size := lt_of_block hrow4
    have HRow : Hid (∀ W, Fr [] w4 W → W.heap[t]? = some (.cells (bts (xs ++ [77])).toArray 5 (0, 0))) := fun W hf => hf.keep hrow4 (by simp)
    have HI4 : Hid (∀ W, Fr [] w4 W → BArg W ao L cap xs) := fun W hf => HI.out W (hG4.then hf)
    have hlx : xs.length < 2^40 := by rw [← HL.out]; omega
    clear hrow4 hF4 hF2 hG4 HI ht hA
    go_wp2_with fail
    refine (lread_any (some ⟨t, 0, none⟩) L (L + 1) c xs vs ls _ (bytes_arg (HRow.out _ (Fr.refl _ _)) HL.out hlow (by omega)) hlx HRd.out N G HN.out HG.out).mono ?_
    rintro e w5 ⟨ro, rc, rfl, ds, hds, hTO, hF5⟩
    go_wp2_with fail
    refine (yRead_any ao L cap c xs vs ls _ ((HI4.out _ hF5).rs (by omega)) hlow HL.out (HI4.out _ hF5).fits (by omega) HRd.out N G HN.out HG.out).mono ?_
    rintro e w8 ⟨po, pc, rfl, us, hus, hTU, hNu, hF8⟩
    have hG8 := hF5.then hF8
    have hdl : N = ds.length := by rw [HN.out, ← hds, txs_length]
    have HDl : Hid (N = ds.length) := hdl
    have hTD : TRs w8 ro ds := (hTO.trs (by rw [← hdl]; omega)).keep hF8
    have HTO : Hid (TOut w4 w5 (.slice ro N rc) ds) := hTO
    have HS : Hid _ := sameTxns_any ro po N N rc pc true ds us w8 hTD hTU hdl hNu (by simp [hds, hus])
    have HF8 : Hid (Fr [] w5 w8) := hF8
    have HR : Hid (Fr [] w4 w8) := hG8
    have hcc : ((c : Int) != c) = false := by simp
    have hGG : ((G : Int) != G) = false := by simp
    clear hTO hTD hTU hNu hds hus hF5 hF8 hG8 hdl
    go_wp2_with fail
    refine Calls.mono HS.out ?_
    rintro e x1 ⟨rfl, hf1⟩
    have HLf : Hid _ := leftBytes_any t ao L cap xs x1 (HI4.out _ (HR.out.then hf1)) (by omega) (HRow.out _ (HR.out.then hf1))
    clear HS
    go_wp2_with fail
    refine Calls.mono HLf.out ?_
    rintro e w9 ⟨rfl, qq, hw9⟩
    have hG9 : Fr [] w8 w9 := hf1.then (by rw [hw9]; exact Fr.drewN _ _ _)
    have HG9 : Hid (Fr [] w8 w9) := hG9
    obtain ⟨bk, HBk⟩ : ∃ bk, Hid (bk = w9.heap.size) := ⟨_, rfl⟩
    obtain ⟨wl, HWl⟩ : ∃ wl, Hid (wl = w9.alloc (Obj.cells #[.int .i64 0, .slice none 0 0, .slice none 0 0, .slice none 0 0, .slice none 0 0, .slice none 0 0, .slice none 0 0, .slice none 0 0, .slice none 0 0, .slice none 0 0, .slice none 0 0, .slice none 0 0] 45)) := ⟨_, rfl⟩
    clear hG9 hw9 HLf hf1
    go_upto_region 9 with fail
    rw [← HWl.out, ← HBk.out]
    have HFl : Hid (Fr [] w9 wl) := by rw [HWl.out]; exact Fr.alloc _ _ _
    have hBl : wl.heap[bk]? = some (.cells Bq.newBk 45 (0, 0)) := by rw [HWl.out, HBk.out]; exact heap_alloc_new w9 _
    have HG8l : Hid (Fr [] w8 wl) := HG9.out.then HFl.out
    have hbk1 : w8.heap.size ≤ bk := by rw [HBk.out]; exact HG9.out.size
    have hs8 : w4.heap.size ≤ w8.heap.size := HR.out.size
    have hs4 : w.heap.size ≤ w4.heap.size := HG04.out.size
    have HB0 : Hid (Bq.B4 w wl bk 0 (.slice none 0 0) (.slice none 0 0) (.slice none 0 0) (.slice none 0 0) [] [] [] []) := Bq.B4.new hBl (by omega)
    have HG4l : Hid (Fr [] w4 wl) := HR.out.then HG8l.out
    have HO1 : Hid (wl.ownsRow 0 5 1 (.slice (some ⟨t, 0, none⟩) L (L + 1)) L (bts xs)) := bytes_own (HRow.out _ HG4l.out) HL.out (by omega)
    have HC1 : Hid _ := Bq.bytes_any HB0.out (some ⟨t, 0, none⟩) L (L + 1) ⟨L, bts xs, HO1.out, by omega⟩ (fun k hk hm => by simp [Bq.lbs] at hm) (by omega)
    clear hBl
    go_wp2_with fail
    refine Calls.mono HC1.out ?_
    rintro e wa ⟨rfl, rB, hBa, hFa, hMa⟩
    have HBa : Hid (Bq.B4 w wa bk (0 + 1) rB (.slice none 0 0) (.slice none 0 0) (.slice none 0 0) ([] ++ [⟨.slice (some ⟨t, 0, none⟩) L (L + 1), .slice none 0 0, 0 + 1⟩]) [] [] []) := hBa
    have HFa : Hid (Fr [bk] wl wa) := hFa
    have HD0 : Hid (Bq.Dts wl ro N rc (dts ds)) := tout_dts HTO.out (HF8.out.then HG8l.out) HDl.out hNs
    have HDa : Hid (Bq.Dts wa ro N rc (dts ds)) := HD0.out.keep HFa.out (fun k hk => by have := (HD0.out.row.lt k hk).2; have h2 := Bq.own_type HD0.out.row k hk; simp; rintro rfl; obtain ⟨cs, hc⟩ := h2; obtain ⟨cs', hX, _⟩ := HB0.out.box; rw [hX.box] at hc; simp at hc)
      (fun i d hd k hk => by obtain ⟨n, vs', h1, _⟩ := HD0.out.each i d hd; obtain ⟨cs, hc⟩ := Bq.own_type h1 k hk; simp; rintro rfl; obtain ⟨cs', hX, _⟩ := HB0.out.box; rw [hX.box] at hc; simp at hc)
    have HC2 : Hid _ := Bq.txns_any HBa.out ro N rc _ HDa.out (fun i d hd k hk hm => by simp [Bq.lbs] at hm) (fun k hk hm => by simp [Bq.lbs] at hm) (by omega)
    clear hBa hFa hMa HC1 HB0 HD0
    go_wp2_with fail
    refine Calls.mono HC2.out ?_
    rintro e wc ⟨rfl, rW, rT, hBc, hFc, _, _⟩
    have hGc : Fr [] w wc := by
      refine ((HG04.out.then HG4l.out).on HFa.out (by intro x hx; simp at hx; omega)).on hFc ?_
      intro x hx
      simp [Value.ownBlock] at hx
      omega
    have HC4 : Hid _ := hBc.apart (by
        intro k hk
        obtain ⟨h, hh, hk1⟩ := Bq.mem_lbs.1 hk
        simp at hh
        subst hh
        simp [Value.ownBlock] at hk1
        omega) (by intro k hk; simp [Bq.lbs] at hk) (by
        intro k hk
        rw [List.nil_append] at hk
        have := lbs_tout HTO.out hk
        omega) (by
        intro k hk
        obtain ⟨h, hh, hk1⟩ := Bq.mem_lbs.1 hk
        simp at hh
        subst hh
        have := HTO.out.new k hk1
        omega) HTb.out hGc
    clear hBc hFc HC2 HBa hGc
    go_wp2_with fail
    refine Calls.mono HC4.out ?_
    rintro e wd ⟨rfl, hFd⟩
    clear HC4
    go_wp2
    go_ret
    exact ⟨rfl, hFd⟩
end Go.Proofs.YtaefninikmaiiaaGreatDoor
/- Transactions that came in: how they lie in memory. Conditions as each lemma names them. -/
namespace Go.Proofs.YtaefninikmaiiaaGreatDoor
open Go.ChangeShapes Go.WideShapes Go.ChangeAt Go.RowKit Go.Lib
set_option linter.unusedVariables false
section
variable {H : Type} {enc : TypeId × Value → H}
theorem Tryz.undTs' : Tryz.prog.underlying 22 = some (.slice 63) := by kernel_rfl
set_option maxRecDepth 100000 in
theorem ts_open {w : World} {fuel : Nat} {v : Value} {d : DataW H} {ps : List MemPlace} (h : DataW.trod enc Tryz.prog w 0 (fun _ => true) true fuel 22 [v] = some (d, ps)) (hsz : ∀ n ∈ d.weights Tryz.prog 22, n ≤ reachBytes) :
    ∃ ao L cap ts, v = .slice ao L cap ∧ TRs w ao ts ∧ L = ts.length ∧ L ≤ cap := by
  rcases Go.Deep.open_slice Tryz.undTs' h with ⟨hcs, _⟩ | ⟨a, len, cap, m, n, D, Pl, hcs, hb, hl, hm, hmm, hx, hE⟩
  · simp only [List.cons.injEq, and_true] at hcs
    exact ⟨none, 0, 0, [], hcs, TRs.nil _ _, rfl, Nat.le_refl _⟩
  · simp only [List.cons.injEq, and_true] at hcs
    simp only [if_true] at hmm
    subst hmm
    rw [Tryz.cellsT] at hE hx
    have hd : d = .slice ((List.range len).map D) ((List.range (m - len)).map fun j => D (len + j)) := by have := congrArg Prod.fst hx; simpa using this
    have hr := reachBytes_lt
    have hW : ∀ i, i < len → ∀ q ∈ (D i).weights Tryz.prog 63, q ≤ reachBytes := by
      intro i hi q hq
      apply hsz
      rw [hd]
      simp only [DataW.weights, Tryz.undTs']
      refine List.mem_cons_of_mem _ (List.mem_append_left _ ?_)
      exact weightsAll_mem (List.mem_map.2 ⟨i, by simpa using hi, rfl⟩) _ hq
    have hO : ∀ i, i < len → ∃ t : Tm, (w.cells? 0 (a.add (i * 2)) 2 = some [.int .i64 t.n, .slice t.ao t.L t.cap]) ∧ t.at w := by
      intro i hi
      obtain ⟨cs', h1, h2⟩ := hE i (by omega)
      obtain ⟨n, ao, L, cap, ws, rfl, hT⟩ := tx_open h2 (hW i hi)
      exact ⟨⟨n, ao, L, cap, ws⟩, h1, hT⟩
    haveI : Inhabited Tm := ⟨Tm.zero⟩
    obtain ⟨F, hF⟩ := Go.Deep.choose_lt hO
    have hlen : len ≤ 140737488355328 := by
      have hw : len * Tryz.prog.bytesOf 63 ≤ reachBytes := by
        refine Nat.le_trans (Nat.mul_le_mul_right _ hl) (hsz _ ?_)
        rw [hd]
        simp only [DataW.weights, Tryz.undTs', List.length_map, List.length_range]
        rw [show len + (m - len) = m by omega]
        exact List.mem_cons_self
      have hb40 : 1 ≤ Tryz.prog.bytesOf 63 := by
        rw [show Tryz.prog.bytesOf 63 = 32 from by kernel_rfl]
        decide
      have := Nat.le_mul_of_pos_right len hb40
      omega
    refine ⟨some a, len, m, (List.range len).map F, hcs, ⟨fun h0 => ?_, by simpa using hlen, ?_⟩, by simp, hl⟩
    · simp only [List.length_map, List.length_range] at h0 ⊢
      have hc0 := (World.cells?_some (hF 0 (by omega)).1).2.2
      obtain ⟨b, off, spot⟩ := a
      have hspot : spot = none := by
        have := hc0 0 (by omega)
        simp at this
        simpa [Addr.add] using World.cell?_spot this
      subst hspot
      have hcell : ∀ i, i < len → ∀ j, j < 2 → w.cell? ⟨b, off + i * 2 + j, none⟩ = [Value.int .i64 (F i).n, .slice (F i).ao (F i).L (F i).cap][j]? := by
        intro i hi j hj
        have := (World.cells?_some (hF i (by omega)).1).2.2 j hj
        rw [show ((⟨b, off, none⟩ : Addr).add (i * 2)).add j = ⟨b, off + i * 2 + j, none⟩ from by rw [Addr.add_lit, Addr.add_lit]] at this
        exact this
      refine ⟨b, off, rfl, World.block_lt_of_cell? w ⟨b, off + 0 * 2 + 0, none⟩ (by rw [hcell 0 (by omega) 0 (by omega)]; rfl), fun i hi => ?_⟩
      have e : ((List.range len).map F).getD i Tm.zero = F i := by simp [List.getD, hi]
      rw [e]
      exact ⟨hcell i hi 0 (by omega), hcell i hi 1 (by omega)⟩
    · intro t ht
      obtain ⟨i, hi, rfl⟩ := List.mem_map.1 ht
      exact (hF i (by simpa using hi)).2
end
end Go.Proofs.YtaefninikmaiiaaGreatDoor

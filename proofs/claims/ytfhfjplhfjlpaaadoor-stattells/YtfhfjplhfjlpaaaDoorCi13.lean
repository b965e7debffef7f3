/- A configuration as it comes in; drawn regions whose calls only make new memory. Conditions as each names them. -/
import Derived.Test.YtfhfjplhfjlpaaaDoorCf13
namespace Go.Proofs.YtfhfjplhfjlpaaaDoor
open Go.ChangeShapes Go.WideShapes Go.ChangeAt Go.RowKit Go.Lib
set_option linter.unusedVariables false
set_option linter.unusedSimpArgs false

structure Wd13 (w1 : World) where
  W : World
  h : Fr [] w1 W
instance (w1 : World) : Nonempty (Wd13 w1) := ⟨⟨w1, Fr.refl _ _⟩⟩
theorem wp_region_wd13 {P : Program} {w1 wr : World} {id : Nat} {Q : Exit → Act → World → Prop} {a : Act} {l : List Oper} (hm : P.follows .mixedOrders = true) (hB : Region.lexB .any l.toArray = true) (hf : Fr [] w1 wr)
    (h : wpQuiet P l.toArray (fun w' => ∃ x : Wd13 w1, w' = x.W) (fun a' => ∀ w', (∃ x : Wd13 w1, w' = x.W) → Q .normal a' w') l a) : (Code.region id l.toArray true).wp P Q a wr :=
  wp_region_quiet (C := fun w' => ∃ x : Wd13 w1, w' = x.W) hm hB ⟨⟨_, hf.then (Fr.drew [] wr)⟩, rfl⟩ (by simpa using h)

/-- The configuration lies in block b. -/
def CfM (w : World) (b : Nat) (l s x q : Int) : Prop := b < w.heap.size ∧ w.cell? ⟨b, 0, none⟩ = some (.int .i64 l) ∧ w.cell? ⟨b, 1, none⟩ = some (.int .i64 s) ∧ w.cell? ⟨b, 2, none⟩ = some (.int .i64 x) ∧ w.cell? ⟨b, 3, none⟩ = some (.int .i64 q)
theorem CfM.keep {w w' : World} {b : Nat} {l s x q : Int} (h : CfM w b l s x q) (hf : Fr [] w w') : CfM w' b l s x q := by
  have e : ∀ j, w'.cell? ⟨b, j, none⟩ = w.cell? ⟨b, j, none⟩ := fun j => World.cell?_of_block (a := ⟨b, j, none⟩) (hf.block b h.1 (by simp))
  exact ⟨Nat.lt_of_lt_of_le h.1 hf.size, (e 0).trans h.2.1, (e 1).trans h.2.2.1, (e 2).trans h.2.2.2.1, (e 3).trans h.2.2.2.2⟩
theorem CfM.new (w : World) (l s x q : Int) (t : TypeId) : CfM (w.alloc (.cells #[.int .i64 l, .int .i64 s, .int .i64 x, .int .i64 q] t)) w.heap.size l s x q :=
  ⟨by simp, by simp [World.cell?_alloc_at], by simp [World.cell?_alloc_at], by simp [World.cell?_alloc_at], by simp [World.cell?_alloc_at]⟩

theorem Tryd.cellsCf : Tryd.prog.cellsOf 23 = 4 := by kernel_rfl
theorem Tryd.cI13 : Tryd.prog.cellsOf 3 = 1 := by kernel_rfl
theorem Tryd.undI13 : Tryd.prog.underlying 3 = some (.int .i64) := by kernel_rfl
theorem Tryd.cfFields : (match Tryd.prog.underlying 23 with | some (.struct fs) => fs.toList.map (fun f => (f.type, f.offset)) | _ => []) = [(3, 0), (3, 1), (3, 2), (3, 3)] := by kernel_rfl
section
variable {H : Type} {enc : TypeId × Value → H}
set_option maxRecDepth 100000 in
theorem cf_open {w : World} {base : Nat} {spare : Nat → Bool} {held : Bool} {fuel : Nat} {cs : List Value} {x : DataW H × List MemPlace} (h : DataW.trod enc Tryd.prog w base spare held fuel 23 cs = some x) :
    ∃ (a b c d : Int), cs = [.int .i64 a, .int .i64 b, .int .i64 c, .int .i64 d] ∧ Cf.ok ⟨a, b, c, d⟩ := by
  have hF := Tryd.cfFields
  cases hu : Tryd.prog.underlying 23 with
  | none => rw [hu] at hF; simp at hF
  | some u =>
    rw [hu] at hF
    cases u with
    | struct fs =>
      simp only at hF
      obtain ⟨ys, n, _, hx, hlen, hys, hf⟩ := DataW.trod_struct hu h
      rw [Tryd.cellsCf] at hlen
      match cs, hlen with
      | [v0, v1, v2, v3], _ =>
        have hl4 : fs.toList.length = 4 := by have := congrArg List.length hF; simpa using this
        obtain ⟨l, hl⟩ : ∃ l, l = fs.toList := ⟨_, rfl⟩
        rw [← hl] at hF hl4
        match l, hl4 with
        | [f0, f1, f2, f3], _ =>
          simp only [List.map_cons, List.map_nil, List.cons.injEq, Prod.mk.injEq, and_true] at hF
          obtain ⟨⟨t0, o0⟩, ⟨t1, o1⟩, ⟨t2, o2⟩, ⟨t3, o3⟩⟩ := hF
          have g : ∀ (i : Nat) (f : Field), [f0, f1, f2, f3][i]? = some f → fs[i]? = some f := by
            intro i f hi
            rw [hl] at hi
            simpa using hi
          have r0 := hf 0 f0 (g 0 f0 rfl)
          have r1 := hf 1 f1 (g 1 f1 rfl)
          have r2 := hf 2 f2 (g 2 f2 rfl)
          have r3 := hf 3 f3 (g 3 f3 rfl)
          rw [t0, o0, Tryd.cI13] at r0
          rw [t1, o1, Tryd.cI13] at r1
          rw [t2, o2, Tryd.cI13] at r2
          rw [t3, o3, Tryd.cI13] at r3
          simp only [List.drop_zero, List.drop_succ_cons, List.take_succ_cons, List.take_zero] at r0 r1 r2 r3
          have hy4 : ys.length = 4 := by rw [hys]; have := congrArg List.length hl; simpa using this.symm
          match ys, hy4 with
          | [y0, y1, y2, y3], _ =>
            simp only [List.getElem?_cons_zero, List.getElem?_cons_succ] at r0 r1 r2 r3
            obtain ⟨k0, e0, _, w0⟩ := DataW.trod_int Tryd.undI13 r0
            obtain ⟨k1, e1, _, w1⟩ := DataW.trod_int Tryd.undI13 r1
            obtain ⟨k2, e2, _, w2⟩ := DataW.trod_int Tryd.undI13 r2
            obtain ⟨k3, e3, _, w3⟩ := DataW.trod_int Tryd.undI13 r3
            simp only [List.cons.injEq, and_true] at e0 e1 e2 e3
            exact ⟨k0, k1, k2, k3, by rw [e0, e1, e2, e3], bounds_i64 w0, bounds_i64 w1, bounds_i64 w2, bounds_i64 w3⟩
    | _ => simp at hF
end
end Go.Proofs.YtfhfjplhfjlpaaaDoor

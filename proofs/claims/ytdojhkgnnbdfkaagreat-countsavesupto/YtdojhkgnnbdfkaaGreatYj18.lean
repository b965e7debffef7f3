/- What the document's Decode keeps between two steps. Plain lemmas on memory. -/
import Derived.Test.YtdojhkgnnbdfkaaGreatYk18
import Derived.Test.YtdojhkgnnbdfkaaGreatTe18
namespace Go.Proofs.YtdojhkgnnbdfkaaGreat
open BigFrame Go.ChangeShapes Go.WideShapes Go.ChangeAt Go.RowKit Go.Lib Go.Maps
set_option linter.unusedVariables false
set_option linter.unusedSimpArgs false

theorem far_row {w : World} {b : Nat} {cs : Array Value} {ty : TypeId} (hb : w.heap[b]? = some (.cells cs ty (0, 0))) {base : Nat} {e : TypeId} {size : Nat} {v : Value} {n : Nat} {xs : List Value} (ho : w.ownsRow base e size v n xs) (hne : e ≠ ty) : b ∉ v.ownBlock.toList := fun hh => by
  obtain ⟨_, cur, hc⟩ := owns_cells ho (Option.mem_toList.1 hh)
  rw [hb] at hc
  simp only [Option.some.injEq, Obj.cells.injEq] at hc
  exact hne hc.2.1.symm
theorem St.box {w : World} {t : Nat} {ao : Option Addr} {L cap : Nat} {lv : Nat → Prop} {de : Nat → Prop} (h : St w t ao L cap lv de) : ∃ cs, w.heap[t]? = some (.cells cs 161 (0, 0)) := by
  rcases h with ⟨p, h3, h4⟩ | ⟨c, ⟨_, _, _, _, h3⟩, h4⟩
  · exact ⟨_, h3.ta.box⟩
  · exact ⟨_, h3.box⟩
/-- Between two steps: the answer's box, the checkpoint's box. -/
structure Dy (w W : World) (b0 t sb : Nat) (x y z : Value) : Prop where
  i : DcI w W b0 sb x y z
  n0 : w.heap.size ≤ b0
  nt : w.heap.size ≤ t
  ns : w.heap.size ≤ sb
  d1 : b0 ≠ t
  d2 : sb ≠ t
  d3 : b0 ≠ sb
section
variable {w W W' : World} {b0 t sb : Nat} {x y z : Value}
theorem Dy.stepT (h : Dy w W b0 t sb x y z) (hF : Fr [t] W W') : Dy w W' b0 t sb x y z :=
  ⟨⟨h.i.rb.keep hF (by simp; exact h.d1), h.i.sv.keep hF (by simp; exact h.d2), h.i.fr.on hF (by intro k hk; simp at hk; have := h.nt; omega)⟩, h.n0, h.nt, h.ns, h.d1, h.d2, h.d3⟩
theorem Dy.step0 (h : Dy w W b0 t sb x y z) (hF : Fr [] W W') : Dy w W' b0 t sb x y z := h.stepT (hF.mono (by simp))
theorem Dy.row {S : List Nat} (h : Dy w W b0 t sb x y z) (hF : Fr S W W') (h0 : b0 ∉ S) (h1 : sb ∉ S) (hS : ∀ k ∈ S, w.heap.size ≤ k) : Dy w W' b0 t sb x y z :=
  ⟨⟨h.i.rb.keep hF h0, h.i.sv.keep hF h1, h.i.fr.on hF hS⟩, h.n0, h.nt, h.ns, h.d1, h.d2, h.d3⟩
theorem Dy.at1 (h : Dy w W b0 t sb x y z) (v : Value) : Dy w (W.setCell ⟨sb, 1, none⟩ v) b0 t sb x v z ∧ Fr [sb] W (W.setCell ⟨sb, 1, none⟩ v) := by
  have hF : Fr [sb] W (W.setCell ⟨sb, 1, none⟩ v) := Fr.set _ _ _ (by simp)
  exact ⟨⟨⟨h.i.rb.keep hF (by simp; exact h.d3), h.i.sv.set1 v, h.i.fr.on hF (by intro k hk; simp at hk; have := h.ns; omega)⟩, h.n0, h.nt, h.ns, h.d1, h.d2, h.d3⟩, hF⟩
theorem Dy.at2 (h : Dy w W b0 t sb x y z) (v : Value) : Dy w (W.setCell ⟨sb, 2, none⟩ v) b0 t sb x y v ∧ Fr [sb] W (W.setCell ⟨sb, 2, none⟩ v) := by
  have hF : Fr [sb] W (W.setCell ⟨sb, 2, none⟩ v) := Fr.set _ _ _ (by simp)
  exact ⟨⟨⟨h.i.rb.keep hF (by simp; exact h.d3), h.i.sv.set2 v, h.i.fr.on hF (by intro k hk; simp at hk; have := h.ns; omega)⟩, h.n0, h.nt, h.ns, h.d1, h.d2, h.d3⟩, hF⟩
end
/-- One number more in the checkpoint. -/
theorem app_beyond {w wr w2 w3 w4 : World} {b0 t sb : Nat} {x z : Value} {yo yo' : Option Addr} {i c c' : Nat} {bs : List Int} {n : Int} {ao : Option Addr} {L cap : Nat} {lv : Nat → Prop} {de : Nat → Prop}
    (h : Dy w wr b0 t sb x (.slice yo i c) z) (hO : IOw w.heap.size wr yo i c bs) (hT : ∃ cs, wr.heap[t]? = some (.cells cs 161 (0, 0))) (hF2 : Fr [t] wr w2) (hS2 : St w2 t ao L cap lv de) (hF3 : Fr [] w2 w3) :
    Dy w w3 b0 t sb x (.slice yo i c) z ∧ IOw w.heap.size w3 yo i c bs ∧
      (IOw w.heap.size w4 yo' (i + 1) c' (bs ++ [n]) → Fr (Value.slice yo i c).ownBlock.toList w3 w4 → Dy w w4 b0 t sb x (.slice yo i c) z ∧ w4.frozen? ⟨sb, 1, none⟩ = false ∧ w4.cell? ⟨sb, 1, none⟩ = some (.slice yo i c) ∧
        Dy w (w4.setCell ⟨sb, 1, none⟩ (.slice yo' (i + 1) c')) b0 t sb x (.slice yo' (i + 1) c') z ∧ IOw w.heap.size (w4.setCell ⟨sb, 1, none⟩ (.slice yo' (i + 1) c')) yo' (i + 1) c' (bs ++ [n]) ∧ St (w4.setCell ⟨sb, 1, none⟩ (.slice yo' (i + 1) c')) t ao L cap lv de) := by
  obtain ⟨ct, hct⟩ := hT
  have hO2 : IOw w.heap.size w2 yo i c bs := hO.keepS hF2 (fun k hk hm => by
    simp at hm
    subst hm
    exact far_row hct hO.row (by decide) (Option.mem_toList.2 hk))
  have hO3 : IOw w.heap.size w3 yo i c bs := hO2.keepS hF3 (by simp)
  have hD3 := (h.stepT hF2).step0 hF3
  have hS3 := hS2.keep hF3 (by simp)
  refine ⟨hD3, hO3, fun hO4 hF4 => ?_⟩
  obtain ⟨c3, hc3⟩ := hS3.box
  have hD4 := hD3.row hF4 (far_row hD3.i.rb.box hO3.row (by decide)) (far_row hD3.i.sv.box hO3.row (by decide)) (fun k hk => (owns_cells hO3.row (Option.mem_toList.1 hk)).1)
  have hS4 := hS3.keep hF4 (far_row hc3 hO3.row (by decide))
  obtain ⟨hD5, hF5⟩ := hD4.at1 (.slice yo' (i + 1) c')
  exact ⟨hD4, hD4.i.sv.fz 1, hD4.i.sv.c1, hD5, hO4.offS hD4.i.sv hF5, hS4.keep hF5 (by simp; exact fun e => hD4.d2 e.symm)⟩
end Go.Proofs.YtdojhkgnnbdfkaaGreat

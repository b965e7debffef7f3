/- Both disks with both savers, as the laws hold them. Plain lemmas. -/
import Derived.Test.YtembflnhhfliaaaGreatDoorZt19
import Derived.Test.YtembflnhhfliaaaGreatDoorZr19
namespace Go.Proofs.YtembflnhhfliaaaGreatDoor
open BigFrame Go.ChangeShapes Go.WideShapes Go.ChangeAt Go.RowKit Go.Lib Go.Maps
set_option linter.unusedVariables false
set_option linter.unusedSimpArgs false

/-- Both savers, alike, apart from both disks. -/
structure Sv2 (w0 w : World) (gd gr sb fb ab tb ab2 slot : Nat) (zs : List Nat) (k : Nat) (SD SR : List Nat) : Prop where
  s : ∃ fo fc ac, SaM w sb gd fb ab fo fc ac slot zs k
  t : ∃ ac, ZaM w tb gr ab2 ac slot zs k
  apD : ∀ q ∈ [sb, fb, ab, tb, ab2], q ∉ SD
  apR : ∀ q ∈ [sb, fb, ab, tb, ab2], q ∉ SR
  new : ∀ q ∈ [sb, fb, ab, tb, ab2], w0.heap.size ≤ q
/-- The pair's savers: none, or both. -/
def SvP (w0 w : World) (gd gr : Nat) (SD SR : List Nat) (vs vt : Value) (SS : List Nat) : Prop :=
  (vs = .pointer none ∧ vt = .pointer none ∧ SS = []) ∨ ∃ sb fb ab tb ab2 slot zs k, vs = .pointer (some ⟨sb, 0, none⟩) ∧ vt = .pointer (some ⟨tb, 0, none⟩) ∧ SS = [sb, fb, ab, tb, ab2] ∧ Sv2 w0 w gd gr sb fb ab tb ab2 slot zs k SD SR
/-- All that the pair's doings may write. -/
def Ow (pb : Nat) (SD SR SS : List Nat) : List Nat := pb :: (SD ++ (SR ++ SS))
theorem mem_Ow {pb q : Nat} {SD SR SS : List Nat} : q ∈ Ow pb SD SR SS ↔ q = pb ∨ q ∈ SD ∨ q ∈ SR ∨ q ∈ SS := by simp [Ow]
/-- Both disks with both savers. -/
structure Ts (w0 w : World) (pb gd gr : Nat) (SD SR : List Nat) (t : Sk) (vs vt : Value) (SS : List Nat) : Prop where
  pr : PR w0 w gd gr SD SR t t
  box : w.heap[pb]? = some (.cells #[.pointer (some ⟨gd, 0, none⟩), vs, .pointer (some ⟨gr, 0, none⟩), vt] 35 (0, 0))
  pbn : w0.heap.size ≤ pb ∧ pb ∉ SD ∧ pb ∉ SR
  sv : SvP w0 w gd gr SD SR vs vt SS
section
variable {w0 w w' : World} {pb gd gr : Nat} {SD SR SD' SR' SS : List Nat} {t t' : Sk} {vs vt : Value}
theorem Sv2.lt {sb fb ab tb ab2 slot k : Nat} {zs : List Nat} (h : Sv2 w0 w gd gr sb fb ab tb ab2 slot zs k SD SR) : ∀ q ∈ [sb, fb, ab, tb, ab2], q < w.heap.size := by
  obtain ⟨fo, fc, ac, hs⟩ := h.s
  obtain ⟨ac2, ht⟩ := h.t
  have b1 := hs.blocks
  have b2 := ht.blocks
  intro q hq
  simp at hq
  rcases hq with rfl | rfl | rfl | rfl | rfl <;> omega
theorem Sv2.ne {sb fb ab tb ab2 slot k : Nat} {zs : List Nat} (h : Sv2 w0 w gd gr sb fb ab tb ab2 slot zs k SD SR) : sb ≠ tb ∧ sb ≠ ab2 ∧ tb ≠ fb ∧ tb ≠ ab := by
  obtain ⟨fo, fc, ac, hs⟩ := h.s
  obtain ⟨ac2, ht⟩ := h.t
  obtain ⟨cs, hf, _⟩ := hs.row
  obtain ⟨ca, ha⟩ := own_type hs.byt ab rfl
  obtain ⟨cb, hb⟩ := own_type ht.byt ab2 rfl
  refine ⟨?_, ?_, ?_, ?_⟩
  · rintro rfl; have := hs.box; rw [ht.box] at this; simp at this
  · rintro rfl; have := hs.box; rw [hb] at this; simp at this
  · rintro rfl; have := ht.box; rw [hf] at this; simp at this
  · rintro rfl; have := ht.box; rw [ha] at this; simp at this
/-- Other blocks are written; the disks grow by new ones. -/
theorem Sv2.go {S : List Nat} {sb fb ab tb ab2 slot k : Nat} {zs : List Nat} (h : Sv2 w0 w gd gr sb fb ab tb ab2 slot zs k SD SR) (hf : Fr S w w') (hS : ∀ q ∈ [sb, fb, ab, tb, ab2], q ∉ S) (hD : ∀ q ∈ SD', q ∈ SD ∨ w.heap.size ≤ q) (hR : ∀ q ∈ SR', q ∈ SR ∨ w.heap.size ≤ q) : Sv2 w0 w' gd gr sb fb ab tb ab2 slot zs k SD' SR' := by
  obtain ⟨fo, fc, ac, hs⟩ := h.s
  obtain ⟨ac2, ht⟩ := h.t
  have hlt := h.lt
  refine ⟨⟨fo, fc, ac, hs.keep hf (hS _ (by simp)) (hS _ (by simp)) (hS _ (by simp))⟩, ⟨ac2, ht.keep hf (hS _ (by simp)) (hS _ (by simp))⟩, fun q hq hm => ?_, fun q hq hm => ?_, h.new⟩
  · rcases hD q hm with p | p
    · exact h.apD q hq p
    · have := hlt q hq; omega
  · rcases hR q hm with p | p
    · exact h.apR q hq p
    · have := hlt q hq; omega
theorem SvP.go {S : List Nat} (h : SvP w0 w gd gr SD SR vs vt SS) (hf : Fr S w w') (hS : ∀ q ∈ S, q ∈ SD ∨ q ∈ SR ∨ (w.heap[q]?).map (fun o => match o with | .cells _ ty _ => decide (ty = 35) | _ => false) = some true) (hD : ∀ q ∈ SD', q ∈ SD ∨ w.heap.size ≤ q) (hR : ∀ q ∈ SR', q ∈ SR ∨ w.heap.size ≤ q) : SvP w0 w' gd gr SD' SR' vs vt SS := by
  rcases h with h | ⟨sb, fb, ab, tb, ab2, slot, zs, k, e1, e2, e3, h⟩
  · exact Or.inl h
  · refine Or.inr ⟨sb, fb, ab, tb, ab2, slot, zs, k, e1, e2, e3, h.go hf (fun q hq hm => ?_) hD hR⟩
    rcases hS q hm with p | p | p
    · exact h.apD q hq p
    · exact h.apR q hq p
    · obtain ⟨fo, fc, ac, hs⟩ := h.s
      obtain ⟨ac2, ht⟩ := h.t
      obtain ⟨cs, hf, _⟩ := hs.row
      obtain ⟨ca, ha⟩ := own_type hs.byt ab rfl
      obtain ⟨cb, hb⟩ := own_type ht.byt ab2 rfl
      simp at hq
      rcases hq with rfl | rfl | rfl | rfl | rfl
      · rw [hs.box] at p; simp at p
      · rw [hf] at p; simp at p
      · rw [ha] at p; simp at p
      · rw [ht.box] at p; simp at p
      · rw [hb] at p; simp at p
theorem Ts.lt (h : Ts w0 w pb gd gr SD SR t vs vt SS) : ∀ q ∈ Ow pb SD SR SS, q < w.heap.size := by
  intro q hq
  rcases mem_Ow.1 hq with rfl | hq | hq | hq
  · exact lt_of_block h.box
  · exact h.pr.d.lt q hq
  · exact h.pr.r.lt q hq
  · rcases h.sv with ⟨_, _, e⟩ | ⟨sb, fb, ab, tb, ab2, slot, zs, k, _, _, e, hs⟩
    · subst e; simp at hq
    · subst e
      exact hs.lt q hq
theorem Ts.new (h : Ts w0 w pb gd gr SD SR t vs vt SS) : ∀ q ∈ Ow pb SD SR SS, w0.heap.size ≤ q := by
  intro q hq
  rcases mem_Ow.1 hq with rfl | hq | hq | hq
  · exact h.pbn.1
  · exact h.pr.d.new q hq
  · exact h.pr.r.new q hq
  · rcases h.sv with ⟨_, _, e⟩ | ⟨sb, fb, ab, tb, ab2, slot, zs, k, _, _, e, hs⟩
    · subst e; simp at hq
    · subst e
      exact hs.new q hq
theorem Ts.quiet (h : Ts w0 w pb gd gr SD SR t vs vt SS) (hf : Fr [] w w') : Ts w0 w' pb gd gr SD SR t vs vt SS :=
  ⟨h.pr.quiet hf, hf.keep h.box (by simp), h.pbn, h.sv.go hf (by simp) (fun q hq => Or.inl hq) (fun q hq => Or.inl hq)⟩
/-- Blocks that are none of the pair's may be written. -/
theorem Ts.keepS {S : List Nat} (h : Ts w0 w pb gd gr SD SR t vs vt SS) (hf : Fr S w w') (hS : ∀ q ∈ S, q ∉ Ow pb SD SR SS) (hN : ∀ q ∈ S, w0.heap.size ≤ q) : Ts w0 w' pb gd gr SD SR t vs vt SS := by
  have hS' := fun q hq => fun hm => hS q hq (mem_Ow.2 hm)
  refine ⟨h.pr.keepS hf (fun q hq => ⟨fun hm => hS' q hq (Or.inr (Or.inl hm)), fun hm => hS' q hq (Or.inr (Or.inr (Or.inl hm)))⟩) hN, hf.keep h.box (fun hm => hS' pb hm (Or.inl rfl)), h.pbn, ?_⟩
  rcases h.sv with e | ⟨sb, fb, ab, tb, ab2, slot, zs, k, e1, e2, e3, hs⟩
  · exact Or.inl e
  · refine Or.inr ⟨sb, fb, ab, tb, ab2, slot, zs, k, e1, e2, e3, hs.go hf (fun q hq hm => ?_) (fun q hq => Or.inl hq) (fun q hq => Or.inl hq)⟩
    exact hS' q hm (Or.inr (Or.inr (Or.inr (by rw [e3]; exact hq))))
theorem isPair (h : Ts w0 w pb gd gr SD SR t vs vt SS) : (w.heap[pb]?).map (fun o => match o with | .cells _ ty _ => decide (ty = 35) | _ => false) = some true := by rw [h.box]; simp
theorem Ts.stepD (h : Ts w0 w pb gd gr SD SR t vs vt SS) {t2 : Sk} (hD : LD w0 w' gd SD' t2) (hT : To SD SD' w w') : PR w0 w' gd gr SD' SR t2 t ∧ w'.heap[pb]? = some (.cells #[.pointer (some ⟨gd, 0, none⟩), vs, .pointer (some ⟨gr, 0, none⟩), vt] 35 (0, 0)) ∧ (w0.heap.size ≤ pb ∧ pb ∉ SD' ∧ pb ∉ SR) ∧ SvP w0 w' gd gr SD' SR vs vt SS := by
  refine ⟨h.pr.stepD hD hT, hT.fr.keep h.box h.pbn.2.1, ⟨h.pbn.1, fun hm => ?_, h.pbn.2.2⟩, h.sv.go hT.fr (fun q hq => Or.inl hq) hT.grew (fun q hq => Or.inl hq)⟩
  rcases hT.grew pb hm with p | p
  · exact h.pbn.2.1 p
  · have := lt_of_block h.box; omega
/-- A call at the one disk, the same at the other. -/
theorem two_any {fD fR : FuncId} {aD aR : Array Value} {E : Int} {ob : Nat} {oc : Array Value} (h : Ts w0 w pb gd gr SD SR t vs vt SS) (hob : w.heap[ob]? = some (.cells oc 60 (0, 0))) (hoD : ob ∉ SD) (hoR : ob ∉ SR)
    (hD : Calls Tryz.prog fD aD w fun e w' => e = .returned (.int .i64 E) ∧ ∃ S', LD w0 w' gd S' t' ∧ To SD S' w w')
    (hR : ∀ W, LR w0 W gr SR t → Fr SD w W → Calls Tryz.prog fR aR W fun e w' => e = .returned (.int .i64 E) ∧ ∃ S', LR w0 w' gr S' t' ∧ To SR S' W w') :
    Calls Tryz.prog fD aD w fun e w2 => e = .returned (.int .i64 E) ∧ (∀ (j : Nat) v, (#[.pointer (some ⟨gd, 0, none⟩), vs, .pointer (some ⟨gr, 0, none⟩), vt] : Array Value)[j]? = some v → w2.cell? ⟨pb, j, none⟩ = some v) ∧ (∀ (j : Nat) v, oc[j]? = some v → w2.cell? ⟨ob, j, none⟩ = some v) ∧
      Hid (Calls Tryz.prog fR aR w2 fun e w3 => e = .returned (.int .i64 E) ∧ (∀ (j : Nat) v, (#[.pointer (some ⟨gd, 0, none⟩), vs, .pointer (some ⟨gr, 0, none⟩), vt] : Array Value)[j]? = some v → w3.cell? ⟨pb, j, none⟩ = some v) ∧ (∀ (j : Nat) v, oc[j]? = some v → w3.cell? ⟨ob, j, none⟩ = some v) ∧ Hid (∃ SD' SR', Ts w0 w3 pb gd gr SD' SR' t' vs vt SS ∧ To (Ow pb SD SR SS) (Ow pb SD' SR' SS) w w3)) := by
  refine hD.mono ?_
  rintro e w2 ⟨rfl, SD', hL, hT⟩
  obtain ⟨p1, p2, p3, p4⟩ := h.stepD hL hT
  have hob2 := hT.fr.keep hob hoD
  refine ⟨rfl, fun j v hv => by rw [cell_of_row _ _ _ _ _ _ p2]; exact hv, fun j v hv => by rw [cell_of_row _ _ _ _ _ _ hob2]; exact hv, ?_⟩
  refine Calls.mono (hR w2 p1.r hT.fr) ?_
  rintro e w3 ⟨rfl, SR', hL3, hT3⟩
  have p5 := p1.stepR hL3 hT3
  have hoR2 : ob ∉ SR := hoR
  refine ⟨rfl, fun j v hv => by rw [cell_of_row _ _ _ _ _ _ (hT3.fr.keep p2 p3.2.2)]; exact hv, fun j v hv => by rw [cell_of_row _ _ _ _ _ _ (hT3.fr.keep hob2 hoR)]; exact hv, SD', SR', ⟨p5, hT3.fr.keep p2 p3.2.2, ⟨p3.1, p3.2.1, fun hm => ?_⟩, p4.go hT3.fr (fun q hq => Or.inr (Or.inl hq)) (fun q hq => Or.inl hq) hT3.grew⟩, ?_⟩
  · rcases hT3.grew pb hm with p | p
    · exact p3.2.2 p
    · have := lt_of_block p2; omega
  · refine ⟨(hT.fr.mono (fun x hx _ => mem_Ow.2 (Or.inr (Or.inl hx)))).then (hT3.fr.mono (fun x hx _ => mem_Ow.2 (Or.inr (Or.inr (Or.inl hx))))), fun q hq => ?_⟩
    have hsz := hT.fr.size
    rcases mem_Ow.1 hq with p | p | p | p
    · exact Or.inl (mem_Ow.2 (Or.inl p))
    · rcases hT.grew q p with r | r
      · exact Or.inl (mem_Ow.2 (Or.inr (Or.inl r)))
      · exact Or.inr r
    · rcases hT3.grew q p with r | r
      · exact Or.inl (mem_Ow.2 (Or.inr (Or.inr (Or.inl r))))
      · exact Or.inr (by omega)
    · exact Or.inl (mem_Ow.2 (Or.inr (Or.inr (Or.inr p))))
end
end Go.Proofs.YtembflnhhfliaaaGreatDoor

/- What an owner handed out, by the blocks that it lies in, behind the owner's later calls. Conditions as each names them. -/
import Derived.Test.YtomajifklajilaaGreatDoorLf15
namespace Go.Proofs.YtomajifklajilaaGreatDoor
open Go.ChangeShapes Go.WideShapes Go.ChangeAt Go.RowKit Go.Lib Go.Maps
set_option linter.unusedVariables false
set_option linter.unusedSimpArgs false
theorem owns_moveO {w1 w3 : World} {B : Nat} {e : TypeId} {sz : Nat} {v : Value} {N : Nat} {xs : List Value} (h : w1.ownsRow B e sz v N xs) (hk : ∀ k, v.ownBlock = some k → w3.heap[k]? = w1.heap[k]?) : w3.ownsRow B e sz v N xs := by
  refine ⟨h.1, ?_⟩
  rcases h.2 with h0 | ⟨g, cap, cur, hv, hg, hb, hr⟩
  · exact .inl h0
  · exact .inr ⟨g, cap, cur, hv, hg, (hk g (by rw [hv]; rfl)).trans hb, hr⟩
theorem VOut.moveO {w w1 w3 : World} {ro : Option Addr} {N rc : Nat} {vs : List Vn} (h : VOut w w1 ro N rc vs) (hk : ∀ a, ro = some a → w3.heap[a.block]? = w1.heap[a.block]?) : VOut w w3 ro N rc vs := by
  obtain ⟨rc', hr, ho⟩ := h.own
  refine ⟨⟨rc', hr, owns_moveO ho (fun k e => ?_)⟩, h.len, h.cap⟩
  cases ro with
  | none => simp [Value.ownBlock] at e
  | some a => simp [Value.ownBlock] at e; rw [← e]; exact hk a rfl
/-- An owner's blocks by what lies in them. -/
theorem OwnA.is {w0 w : World} {t : Nat → Prop} {ob sb b n g C j : Nat} {pb : Option Nat} {M : ByteArray → List Vn} {rs : List Rq} (h : OwS w0 t w ob sb b n g pb C M rs) (hj : OwnA ob sb b g pb w j) : RowOf w b j ∨ (∃ es c, w.heap[j]? = some (.map es c)) ∨ ∃ cur tt, w.heap[j]? = some (.cells cur tt (0, 0)) ∧ tt ≠ 61 ∧ tt ≠ 79 ∧ tt ≠ 106 := by
  obtain ⟨xs, hq, _⟩ := h.q
  rcases hj with rfl | rfl | rfl | hj | hj | hj
  · exact Or.inr (Or.inr ⟨_, _, hq.box, by decide, by decide, by decide⟩)
  · exact Or.inr (Or.inr ⟨_, _, h.sh.box, by decide, by decide, by decide⟩)
  · exact Or.inr (Or.inl h.sh.mb)
  · obtain ⟨cur, tt, e, ht⟩ := ring_is hq.rg (j := j) (by simp [Rg.own, hj])
    exact Or.inr (Or.inr ⟨cur, tt, e, by rcases ht with rfl | rfl <;> decide, by rcases ht with rfl | rfl <;> decide, by rcases ht with rfl | rfl <;> decide⟩)
  · obtain ⟨cur, tt, e, ht⟩ := ring_is hq.rg (j := j) (by simp [Rg.own, hj])
    exact Or.inr (Or.inr ⟨cur, tt, e, by rcases ht with rfl | rfl <;> decide, by rcases ht with rfl | rfl <;> decide, by rcases ht with rfl | rfl <;> decide⟩)
  · exact Or.inl hj
/-- None of these is the owner's. -/
def Nh (ob sb b g : Nat) (pb : Option Nat) (H : Nat → Prop) (W : World) : Prop := ∀ j, H j → j < W.heap.size ∧ ¬ OwnA ob sb b g pb W j
section
variable {w0 W W' : World} {t : Nat → Prop} {ob sb b n g C : Nat} {pb pb' : Option Nat} {M : ByteArray → List Vn} {rs : List Rq} {H : Nat → Prop}
theorem Nh.call (h : Nh ob sb b g pb H W) (ho : OwS w0 t W ob sb b n g pb C M rs) (hF : OwF b g pb W W') (hp : ∀ k, pb' = some k → pb = some k ∨ W.heap.size ≤ k) : Nh ob sb b g pb' H W' ∧ ∀ j, H j → W'.heap[j]? = W.heap[j]? := by
  refine ⟨fun j hj => ⟨Nat.lt_of_lt_of_le (h j hj).1 hF.size, fun hA => ?_⟩, fun j hj => ?_⟩
  · rcases hA with e | e | e | e | e | e
    · exact (h j hj).2 (Or.inl e)
    · exact (h j hj).2 (Or.inr (Or.inl e))
    · exact (h j hj).2 (Or.inr (Or.inr (Or.inl e)))
    · exact (h j hj).2 (Or.inr (Or.inr (Or.inr (Or.inl e))))
    · rcases hp j e with q | q
      · exact (h j hj).2 (Or.inr (Or.inr (Or.inr (Or.inr (Or.inl q)))))
      · have := (h j hj).1; omega
    · obtain ⟨S, hS, hm⟩ := hF
      rcases (hm ho.sh.bl).2 j e with q | q
      · exact (h j hj).2 (Or.inr (Or.inr (Or.inr (Or.inr (Or.inr q)))))
      · have := (h j hj).1; omega
  · have hlt := (h j hj).1
    have e : W.heap[j]? = some (W.heap[j]'hlt) := Array.getElem?_eq_getElem hlt
    rw [e]
    refine hF.apart ho.sh.bl e (fun q => (h j hj).2 ?_)
    rcases q with q | q | q | ⟨_, q⟩
    · exact Or.inr (Or.inr (Or.inr (Or.inl q)))
    · exact Or.inr (Or.inr (Or.inr (Or.inr (Or.inl q))))
    · exact Or.inr (Or.inr (Or.inl q))
    · exact Or.inr (Or.inr (Or.inr (Or.inr (Or.inr q))))
theorem Nh.same (h : Nh ob sb b g pb H W) (ho : OwS w0 t W ob sb b n g pb C M rs) (hf : Fr [] W W') : Nh ob sb b g pb H W' := (h.call ho (OwF.of hf) (fun k e => Or.inl e)).1
end
/-- A reply as it lies there: its entries and its keys with versions, made since B; all its blocks are H's. -/
def Rp (B W : World) (n : Nat) (H : Nat → Prop) (eo : Option Addr) (el ec : Nat) (ho : Option Addr) (hl hc : Nat) : Prop := ∃ ps hs, EOut B W eo el ec ps ∧ HOut B W ho hl hc hs ∧ LoOk hs ∧ el ≤ n + 1 ∧ hl ≤ n ∧ (∀ k, (Value.slice eo el ec).ownBlock = some k → H k) ∧ (∀ k, (Value.slice ho hl hc).ownBlock = some k → H k) ∧ ∀ x ∈ hs, ∀ a, x.vo = some a → H a.block
theorem Rp.move {B W W' : World} {n : Nat} {H : Nat → Prop} {eo ho : Option Addr} {el ec hl hc : Nat} (h : Rp B W n H eo el ec ho hl hc) (hk : ∀ j, H j → W'.heap[j]? = W.heap[j]?) : Rp B W' n H eo el ec ho hl hc := by
  obtain ⟨ps, hs, h1, h2, h3, h4, h5, h6, h7, h8⟩ := h
  exact ⟨ps, hs, ⟨h1.len, owns_moveO h1.row (fun k e => hk k (h6 k e))⟩, ⟨h2.len, owns_moveO h2.row (fun k e => hk k (h7 k e)), fun x hx => (h2.each x hx).moveO (fun a e => hk _ (h8 x hx a e)), h2.apart⟩, h3, h4, h5, h6, h7, h8⟩
theorem lo_nilO : LoOk [] := ⟨List.Pairwise.nil, by simp⟩
theorem eout_nil (B W : World) : EOut B W none 0 0 [] := ⟨rfl, World.ownsRow_nil _ _ _ _⟩
theorem hout_nil (B W : World) : HOut B W none 0 0 [] := ⟨rfl, World.ownsRow_nil _ _ _ _, by simp, List.Pairwise.nil⟩
theorem rp_nil (B W : World) (n : Nat) (H : Nat → Prop) : Rp B W n H none 0 0 none 0 0 := ⟨[], [], eout_nil B W, hout_nil B W, lo_nilO, by omega, by omega, by simp [Value.ownBlock], by simp [Value.ownBlock], by simp⟩
theorem Sh.keyO {w0 W : World} {sb b n : Nat} {M : ByteArray → List Vn} (h : Sh w0 W sb b n M) (k : ByteArray) (hk : M k ≠ []) : okK9 k := by
  obtain ⟨G, hM, h0, hr, _⟩ := h.map
  cases hG : G k with
  | none => exact absurd (h0 k hG) hk
  | some x =>
    obtain ⟨gg, L, c⟩ := x
    exact (hr k gg L c hG).2.2
/-- A reply's blocks are new, and none of the owner's. -/
theorem rep_rp {w0 W W' : World} {t : Nat → Prop} {ob sb b n m g C : Nat} {pb : Option Nat} {M M' : ByteArray → List Vn} {rs rs' : List Rq} {r : Rq} {ok : Bool} {eo ho : Option Addr} {el ec hl hc : Nat} {c : Int} (h0 : OwS w0 t W ob sb b n g pb C M rs) (h : OwS w0 t W' ob sb b m g pb C M' rs') (hR : Rep b M r M' n ok eo el ec ho hl hc c W W') :
    ∃ H : Nat → Prop, Rp W W' n H eo el ec ho hl hc ∧ Nh ob sb b g pb H W' ∧ ∀ j, H j → W.heap.size ≤ j := by
  have nE : ∀ ps, EOut W W' eo el ec ps → ∀ k, (Value.slice eo el ec).ownBlock = some k → (W.heap.size ≤ k ∧ k < W'.heap.size) ∧ ¬ OwnA ob sb b g pb W' k := fun ps hE k hk => by
    obtain ⟨h1, cur, h2⟩ := owns_cells hE.row hk
    refine ⟨⟨h1, lt_of_block h2⟩, fun hA => ?_⟩
    rcases hA.is h with q | ⟨es, c, q⟩ | ⟨cur2, tt, q, q1, q2, q3⟩
    · obtain ⟨_, c2, e2⟩ := h.sh.rowLt q
      rw [h2] at e2
      simp only [Option.some.injEq, Obj.cells.injEq] at e2
      exact absurd e2.2.1 (by decide)
    · rw [h2] at q; cases q
    · rw [h2] at q
      simp only [Option.some.injEq, Obj.cells.injEq] at q
      exact q1 q.2.1.symm
  rcases hR with ⟨h1, ⟨rfl, rfl, rfl⟩, ⟨rfl, rfl, rfl⟩, _⟩ | ⟨h1, ⟨rfl, rfl, rfl⟩, _, _, h5⟩ | ⟨h1, _, ⟨rfl, rfl, rfl⟩, _, _, h6, ps, h7, h8⟩ | ⟨h1, _, ⟨rfl, rfl, rfl⟩, ⟨rfl, rfl, rfl⟩, _⟩ | ⟨h1, _, ⟨rfl, rfl, rfl⟩, _, rfl, h6, h7, hh, h8, h9⟩
  · exact ⟨fun _ => False, rp_nil _ _ _ _, fun j q => q.elim, fun j q => q.elim⟩
  · rcases h5 with ⟨_, _, rfl, rfl, rfl⟩ | ⟨_, v, _, rfl, a4⟩
    · exact ⟨fun _ => False, rp_nil _ _ _ _, fun j q => q.elim, fun j q => q.elim⟩
    · exact ⟨fun k => (Value.slice eo 1 ec).ownBlock = some k, ⟨_, [], a4, hout_nil _ _, lo_nilO, by omega, by omega, fun k e => e, by simp [Value.ownBlock], by simp⟩, fun j q => ⟨(nE _ a4 j q).1.2, (nE _ a4 j q).2⟩, fun j q => (nE _ a4 j q).1.1⟩
  · exact ⟨fun k => (Value.slice eo el ec).ownBlock = some k, ⟨_, [], h7, hout_nil _ _, lo_nilO, by omega, by omega, fun k e => e, by simp [Value.ownBlock], by simp⟩, fun j q => ⟨(nE _ h7 j q).1.2, (nE _ h7 j q).2⟩, fun j q => (nE _ h7 j q).1.1⟩
  · exact ⟨fun _ => False, rp_nil _ _ _ _, fun j q => q.elim, fun j q => q.elim⟩
  · have hlo : LoOk hh := h9.ok h0.sh.keyO (fun q => okV_sub (h0.sh.ok q) (dmp_sub (h0.sh.ok q) _ _))
    have tyA : ∀ j cur tt, W'.heap[j]? = some (.cells cur tt (0, 0)) → W.heap.size ≤ j → (tt = 79 ∨ tt = 106) → ¬ OwnA ob sb b g pb W' j := fun j cur tt e hj ht hA => by
      rcases hA.is h with q | ⟨es, c, q⟩ | ⟨cur2, tt2, q, q1, q2, q3⟩
      · have := h7 j q
        omega
      · rw [e] at q; cases q
      · rw [e] at q
        simp only [Option.some.injEq, Obj.cells.injEq] at q
        rcases ht with r | r
        · exact q2 (q.2.1.symm.trans r)
        · exact q3 (q.2.1.symm.trans r)
    have nR : ∀ k, (Value.slice ho hl hc).ownBlock = some k → (W.heap.size ≤ k ∧ k < W'.heap.size) ∧ ¬ OwnA ob sb b g pb W' k := fun k hk => by
      obtain ⟨z1, cur, z2⟩ := owns_cells h8.row hk
      exact ⟨⟨z1, lt_of_block z2⟩, tyA k cur _ z2 z1 (Or.inl rfl)⟩
    have nV : ∀ k, (∃ x ∈ hh, ∃ a, x.vo = some a ∧ a.block = k) → (W.heap.size ≤ k ∧ k < W'.heap.size) ∧ ¬ OwnA ob sb b g pb W' k := fun k ⟨x, hx, a, ea, ek⟩ => by
      have hb := (h8.each x hx).block a ea
      rw [ek] at hb
      obtain ⟨rc', hr, ho'⟩ := (h8.each x hx).own
      obtain ⟨z1, cur, z2⟩ := owns_cells ho' (k := k) (by rw [ea]; simp [Value.ownBlock, ek])
      exact ⟨⟨z1, lt_of_block z2⟩, tyA k cur _ z2 z1 (Or.inr rfl)⟩
    refine ⟨fun k => (Value.slice ho hl hc).ownBlock = some k ∨ ∃ x ∈ hh, ∃ a, x.vo = some a ∧ a.block = k, ⟨[], hh, eout_nil _ _, h8, hlo, by omega, h6, by simp [Value.ownBlock], fun k e => Or.inl e, fun x hx a e => Or.inr ⟨x, hx, a, e, rfl⟩⟩, fun j q => ?_, fun j q => ?_⟩
    · rcases q with q | q
      · exact ⟨(nR j q).1.2, (nR j q).2⟩
      · exact ⟨(nV j q).1.2, (nV j q).2⟩
    · rcases q with q | q
      · exact (nR j q).1.1
      · exact (nV j q).1.1
end Go.Proofs.YtomajifklajilaaGreatDoor

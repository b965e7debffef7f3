/- Texts of this claim laid together, one behind the other: contracts and plain lemmas; conditions as each names them. -/
import Derived.Test.YtomajifklajilaaGreatDoorGp39
import Derived.Test.YtomajifklajilaaGreatDoorGp1
import Derived.Deep.RegionLaw
import Derived.Deep.RegionWith
import Derived.Deep.RegionHeld3
import Derived.Deep.CutRange
/- What an owner handed out, by the blocks that it lies in, behind the owner's later calls. Conditions as each names them. -/
namespace Go.Proofs.YtomajifklajilaaGreatDoor
open Go.ChangeShapes Go.WideShapes Go.ChangeAt Go.RowKit Go.Lib Go.Maps
set_option linter.unusedVariables false
set_option linter.unusedSimpArgs false
theorem owns_moveO {w1 w3 : World} {B : Nat} {e : TypeId} {sz : Nat} {v : Value} {N : Nat} {xs : List Value} (h : w1.ownsRow B e sz v N xs) (hk : ∀ k, v.ownBlock = some k → w3.heap[k]? = w1.heap[k]?) : w3.ownsRow B e sz v N xs := by
  refine ⟨h.1, ?_⟩
  rcases h.2 with h0 | ⟨g, cap, cur, hv, hg, hb, hr⟩
  · exact .inl h0
  · exact .inr ⟨g, cap, cur, hv, hg, (hk g (by rw [hv]; rfl)).trans hb, hr⟩
theorem VOut.moveO {w w1 w3 : World} {ro : Option Addr} {N rc : Nat} {vs : List Vn} (h : VOut w w1 ro N rc vs) (hk : ∀ a, ro = some a → w3.heap[a.block]? = w1.heap[a.block]?) : VOut w w3 ro N rc vs := by
  obtain ⟨rc', hr, ho⟩ := h.own
  refine ⟨⟨rc', hr, owns_moveO ho (fun k e => ?_)⟩, h.len, h.cap⟩
  cases ro with
  | none => simp [Value.ownBlock] at e
  | some a => simp [Value.ownBlock] at e; rw [← e]; exact hk a rfl
/-- An owner's blocks by what lies in them. -/
theorem OwnA.is {w0 w : World} {t : Nat → Prop} {ob sb b n g C j : Nat} {pb : Option Nat} {M : ByteArray → List Vn} {rs : List Rq} (h : OwS w0 t w ob sb b n g pb C M rs) (hj : OwnA ob sb b g pb w j) : RowOf w b j ∨ (∃ es c, w.heap[j]? = some (.map es c)) ∨ ∃ cur tt, w.heap[j]? = some (.cells cur tt (0, 0)) ∧ tt ≠ 61 ∧ tt ≠ 79 ∧ tt ≠ 106 := by
  obtain ⟨xs, hq, _⟩ := h.q
  rcases hj with rfl | rfl | rfl | hj | hj | hj
  · exact Or.inr (Or.inr ⟨_, _, hq.box, by decide, by decide, by decide⟩)
  · exact Or.inr (Or.inr ⟨_, _, h.sh.box, by decide, by decide, by decide⟩)
  · exact Or.inr (Or.inl h.sh.mb)
  · obtain ⟨cur, tt, e, ht⟩ := ring_is hq.rg (j := j) (by simp [Rg.own, hj])
    exact Or.inr (Or.inr ⟨cur, tt, e, by rcases ht with rfl | rfl <;> decide, by rcases ht with rfl | rfl <;> decide, by rcases ht with rfl | rfl <;> decide⟩)
  · obtain ⟨cur, tt, e, ht⟩ := ring_is hq.rg (j := j) (by simp [Rg.own, hj])
    exact Or.inr (Or.inr ⟨cur, tt, e, by rcases ht with rfl | rfl <;> decide, by rcases ht with rfl | rfl <;> decide, by rcases ht with rfl | rfl <;> decide⟩)
  · exact Or.inl hj
/-- None of these is the owner's. -/
def Nh (ob sb b g : Nat) (pb : Option Nat) (H : Nat → Prop) (W : World) : Prop := ∀ j, H j → j < W.heap.size ∧ ¬ OwnA ob sb b g pb W j
section
variable {w0 W W' : World} {t : Nat → Prop} {ob sb b n g C : Nat} {pb pb' : Option Nat} {M : ByteArray → List Vn} {rs : List Rq} {H : Nat → Prop}
theorem Nh.call (h : Nh ob sb b g pb H W) (ho : OwS w0 t W ob sb b n g pb C M rs) (hF : OwF b g pb W W') (hp : ∀ k, pb' = some k → pb = some k ∨ W.heap.size ≤ k) : Nh ob sb b g pb' H W' ∧ ∀ j, H j → W'.heap[j]? = W.heap[j]? := by
  refine ⟨fun j hj => ⟨Nat.lt_of_lt_of_le (h j hj).1 hF.size, fun hA => ?_⟩, fun j hj => ?_⟩
  · rcases hA with e | e | e | e | e | e
    · exact (h j hj).2 (Or.inl e)
    · exact (h j hj).2 (Or.inr (Or.inl e))
    · exact (h j hj).2 (Or.inr (Or.inr (Or.inl e)))
    · exact (h j hj).2 (Or.inr (Or.inr (Or.inr (Or.inl e))))
    · rcases hp j e with q | q
      · exact (h j hj).2 (Or.inr (Or.inr (Or.inr (Or.inr (Or.inl q)))))
      · have := (h j hj).1; omega
    · obtain ⟨S, hS, hm⟩ := hF
      rcases (hm ho.sh.bl).2 j e with q | q
      · exact (h j hj).2 (Or.inr (Or.inr (Or.inr (Or.inr (Or.inr q)))))
      · have := (h j hj).1; omega
  · have hlt := (h j hj).1
    have e : W.heap[j]? = some (W.heap[j]'hlt) := Array.getElem?_eq_getElem hlt
    rw [e]
    refine hF.apart ho.sh.bl e (fun q => (h j hj).2 ?_)
    rcases q with q | q | q | ⟨_, q⟩
    · exact Or.inr (Or.inr (Or.inr (Or.inl q)))
    · exact Or.inr (Or.inr (Or.inr (Or.inr (Or.inl q))))
    · exact Or.inr (Or.inr (Or.inl q))
    · exact Or.inr (Or.inr (Or.inr (Or.inr (Or.inr q))))
theorem Nh.same (h : Nh ob sb b g pb H W) (ho : OwS w0 t W ob sb b n g pb C M rs) (hf : Fr [] W W') : Nh ob sb b g pb H W' := (h.call ho (OwF.of hf) (fun k e => Or.inl e)).1
end
/-- A reply as it lies there: its entries and its keys with versions, made since B; all its blocks are H's. -/
def Rp (B W : World) (n : Nat) (H : Nat → Prop) (eo : Option Addr) (el ec : Nat) (ho : Option Addr) (hl hc : Nat) : Prop := ∃ ps hs, EOut B W eo el ec ps ∧ HOut B W ho hl hc hs ∧ LoOk hs ∧ el ≤ n + 1 ∧ hl ≤ n ∧ (∀ k, (Value.slice eo el ec).ownBlock = some k → H k) ∧ (∀ k, (Value.slice ho hl hc).ownBlock = some k → H k) ∧ ∀ x ∈ hs, ∀ a, x.vo = some a → H a.block
theorem Rp.move {B W W' : World} {n : Nat} {H : Nat → Prop} {eo ho : Option Addr} {el ec hl hc : Nat} (h : Rp B W n H eo el ec ho hl hc) (hk : ∀ j, H j → W'.heap[j]? = W.heap[j]?) : Rp B W' n H eo el ec ho hl hc := by
  obtain ⟨ps, hs, h1, h2, h3, h4, h5, h6, h7, h8⟩ := h
  exact ⟨ps, hs, ⟨h1.len, owns_moveO h1.row (fun k e => hk k (h6 k e))⟩, ⟨h2.len, owns_moveO h2.row (fun k e => hk k (h7 k e)), fun x hx => (h2.each x hx).moveO (fun a e => hk _ (h8 x hx a e)), h2.apart⟩, h3, h4, h5, h6, h7, h8⟩
theorem lo_nilO : LoOk [] := ⟨List.Pairwise.nil, by simp⟩
theorem eout_nil (B W : World) : EOut B W none 0 0 [] := ⟨rfl, World.ownsRow_nil _ _ _ _⟩
theorem hout_nil (B W : World) : HOut B W none 0 0 [] := ⟨rfl, World.ownsRow_nil _ _ _ _, by simp, List.Pairwise.nil⟩
theorem rp_nil (B W : World) (n : Nat) (H : Nat → Prop) : Rp B W n H none 0 0 none 0 0 := ⟨[], [], eout_nil B W, hout_nil B W, lo_nilO, by omega, by omega, by simp [Value.ownBlock], by simp [Value.ownBlock], by simp⟩
theorem Sh.keyO {w0 W : World} {sb b n : Nat} {M : ByteArray → List Vn} (h : Sh w0 W sb b n M) (k : ByteArray) (hk : M k ≠ []) : okK9 k := by
  obtain ⟨G, hM, h0, hr, _⟩ := h.map
  cases hG : G k with
  | none => exact absurd (h0 k hG) hk
  | some x =>
    obtain ⟨gg, L, c⟩ := x
    exact (hr k gg L c hG).2.2
/-- A reply's blocks are new, and none of the owner's. -/
theorem rep_rp {w0 W W' : World} {t : Nat → Prop} {ob sb b n m g C : Nat} {pb : Option Nat} {M M' : ByteArray → List Vn} {rs rs' : List Rq} {r : Rq} {ok : Bool} {eo ho : Option Addr} {el ec hl hc : Nat} {c : Int} (h0 : OwS w0 t W ob sb b n g pb C M rs) (h : OwS w0 t W' ob sb b m g pb C M' rs') (hR : Rep b M r M' n ok eo el ec ho hl hc c W W') :
    ∃ H : Nat → Prop, Rp W W' n H eo el ec ho hl hc ∧ Nh ob sb b g pb H W' ∧ ∀ j, H j → W.heap.size ≤ j := by
  have nE : ∀ ps, EOut W W' eo el ec ps → ∀ k, (Value.slice eo el ec).ownBlock = some k → (W.heap.size ≤ k ∧ k < W'.heap.size) ∧ ¬ OwnA ob sb b g pb W' k := fun ps hE k hk => by
    obtain ⟨h1, cur, h2⟩ := owns_cells hE.row hk
    refine ⟨⟨h1, lt_of_block h2⟩, fun hA => ?_⟩
    rcases hA.is h with q | ⟨es, c, q⟩ | ⟨cur2, tt, q, q1, q2, q3⟩
    · obtain ⟨_, c2, e2⟩ := h.sh.rowLt q
      rw [h2] at e2
      simp only [Option.some.injEq, Obj.cells.injEq] at e2
      exact absurd e2.2.1 (by decide)
    · rw [h2] at q; cases q
    · rw [h2] at q
      simp only [Option.some.injEq, Obj.cells.injEq] at q
      exact q1 q.2.1.symm
  rcases hR with ⟨h1, ⟨rfl, rfl, rfl⟩, ⟨rfl, rfl, rfl⟩, _⟩ | ⟨h1, ⟨rfl, rfl, rfl⟩, _, _, h5⟩ | ⟨h1, _, ⟨rfl, rfl, rfl⟩, _, _, h6, ps, h7, h8⟩ | ⟨h1, _, ⟨rfl, rfl, rfl⟩, ⟨rfl, rfl, rfl⟩, _⟩ | ⟨h1, _, ⟨rfl, rfl, rfl⟩, _, rfl, h6, h7, hh, h8, h9⟩
  · exact ⟨fun _ => False, rp_nil _ _ _ _, fun j q => q.elim, fun j q => q.elim⟩
  · rcases h5 with ⟨_, _, rfl, rfl, rfl⟩ | ⟨_, v, _, rfl, a4⟩
    · exact ⟨fun _ => False, rp_nil _ _ _ _, fun j q => q.elim, fun j q => q.elim⟩
    · exact ⟨fun k => (Value.slice eo 1 ec).ownBlock = some k, ⟨_, [], a4, hout_nil _ _, lo_nilO, by omega, by omega, fun k e => e, by simp [Value.ownBlock], by simp⟩, fun j q => ⟨(nE _ a4 j q).1.2, (nE _ a4 j q).2⟩, fun j q => (nE _ a4 j q).1.1⟩
  · exact ⟨fun k => (Value.slice eo el ec).ownBlock = some k, ⟨_, [], h7, hout_nil _ _, lo_nilO, by omega, by omega, fun k e => e, by simp [Value.ownBlock], by simp⟩, fun j q => ⟨(nE _ h7 j q).1.2, (nE _ h7 j q).2⟩, fun j q => (nE _ h7 j q).1.1⟩
  · exact ⟨fun _ => False, rp_nil _ _ _ _, fun j q => q.elim, fun j q => q.elim⟩
  · have hlo : LoOk hh := h9.ok h0.sh.keyO (fun q => okV_sub (h0.sh.ok q) (dmp_sub (h0.sh.ok q) _ _))
    have tyA : ∀ j cur tt, W'.heap[j]? = some (.cells cur tt (0, 0)) → W.heap.size ≤ j → (tt = 79 ∨ tt = 106) → ¬ OwnA ob sb b g pb W' j := fun j cur tt e hj ht hA => by
      rcases hA.is h with q | ⟨es, c, q⟩ | ⟨cur2, tt2, q, q1, q2, q3⟩
      · have := h7 j q
        omega
      · rw [e] at q; cases q
      · rw [e] at q
        simp only [Option.some.injEq, Obj.cells.injEq] at q
        rcases ht with r | r
        · exact q2 (q.2.1.symm.trans r)
        · exact q3 (q.2.1.symm.trans r)
    have nR : ∀ k, (Value.slice ho hl hc).ownBlock = some k → (W.heap.size ≤ k ∧ k < W'.heap.size) ∧ ¬ OwnA ob sb b g pb W' k := fun k hk => by
      obtain ⟨z1, cur, z2⟩ := owns_cells h8.row hk
      exact ⟨⟨z1, lt_of_block z2⟩, tyA k cur _ z2 z1 (Or.inl rfl)⟩
    have nV : ∀ k, (∃ x ∈ hh, ∃ a, x.vo = some a ∧ a.block = k) → (W.heap.size ≤ k ∧ k < W'.heap.size) ∧ ¬ OwnA ob sb b g pb W' k := fun k ⟨x, hx, a, ea, ek⟩ => by
      have hb := (h8.each x hx).block a ea
      rw [ek] at hb
      obtain ⟨rc', hr, ho'⟩ := (h8.each x hx).own
      obtain ⟨z1, cur, z2⟩ := owns_cells ho' (k := k) (by rw [ea]; simp [Value.ownBlock, ek])
      exact ⟨⟨z1, lt_of_block z2⟩, tyA k cur _ z2 z1 (Or.inr rfl)⟩
    refine ⟨fun k => (Value.slice ho hl hc).ownBlock = some k ∨ ∃ x ∈ hh, ∃ a, x.vo = some a ∧ a.block = k, ⟨[], hh, eout_nil _ _, h8, hlo, by omega, h6, by simp [Value.ownBlock], fun k e => Or.inl e, fun x hx a e => Or.inr ⟨x, hx, a, e, rfl⟩⟩, fun j q => ?_, fun j q => ?_⟩
    · rcases q with q | q
      · exact ⟨(nR j q).1.2, (nR j q).2⟩
      · exact ⟨(nV j q).1.2, (nV j q).2⟩
    · rcases q with q | q
      · exact (nR j q).1.1
      · exact (nV j q).1.1
end Go.Proofs.YtomajifklajilaaGreatDoor
/- An append to a row of one's own, told sharply; rows of one's own (for the Book). Conditions as each lemma names them. -/
namespace Go.Proofs.YtomajifklajilaaGreatDoor.Bq
open Go.ChangeShapes Go.WideShapes Go.ChangeAt Go.RowKit Go.Lib

/-- Where a row of one's own lies behind an append: where it lay (its block alone may differ), or in a new block (no old one differs). -/
def Went (w : World) (v : Value) (g : Nat) (w' : World) : Prop := (v.ownBlock = some g ∧ w.grownBy w' (some g)) ∨ (w.heap.size ≤ g ∧ w.grownBy w' none)
theorem Went.fr {w w' : World} {v : Value} {g : Nat} (h : Went w v g w') : Fr v.ownBlock.toList w w' := by
  rcases h with ⟨h1, h2⟩ | ⟨_, h2⟩
  · refine Fr.grown h2 ?_
    intro k hk _
    cases hk
    simp [h1]
  · exact Fr.grown h2 (by simp)
theorem Went.moved {w w' : World} {v : Value} {g n cap : Nat} (h : Went w v g w') : Moved w.heap.size v (.slice (some ⟨g, 0, none⟩) n cap) := by
  rcases h with ⟨h1, _⟩ | ⟨h1, _⟩
  · exact Or.inl (by rw [h1]; rfl)
  · exact Or.inr ⟨g, rfl, h1⟩

section
variable {P : Program} (w : World)
theorem run_app_sharp (t ty e : TypeId) (i : TypeInfo) (z : Value) (size bytes : Nat) (ht : P.underlying t = some (.slice e)) (hi : P.info? e = some i) (hz : i.zero = some z)
    (hsize : i.size = size) (hby : i.bytes = bytes) (hzs : z.cells.size = size) (hsz : 0 < size)
    (v : Value) (n : Nat) (xs : List Value) (hown : w.ownsRow 0 e size v n xs)
    (a : Addr) (m c : Nat) (news : List Value) (hm : 0 < m) (hl : news.length = m * size) (hnews : ∀ j u, news[j]? = some u → w.cell? (a.add j) = some u) (h1 : ∀ u ∈ news, u.oneCell' = true)
    (h63 : n + m ≤ maxLen) (hbytes : (n + m) * bytes ≤ 140737488355328) :
    ∃ g cap w', (Builtin.append_ #[t, t] ty #[v, .slice (some a) m c]).run P w = .ok (.slice (some ⟨g, 0, none⟩) (n + m) cap) w' ∧ w'.ownsRow 0 e size (.slice (some ⟨g, 0, none⟩) (n + m) cap) (n + m) (xs ++ news) ∧ Went w v g w' := by
  obtain ⟨v', w', hr, h2, h3, h4⟩ := run_append_own (P := P) w 0 t ty e i z size bytes ht hi hz hsize hby hzs hsz v n xs hown a m c news hl hnews h1 h63 hbytes (Nat.zero_le _)
  obtain ⟨g, cap, rfl⟩ : ∃ g cap, v' = .slice (some ⟨g, 0, none⟩) (n + m) cap := by
    rcases h2.2 with ⟨_, hh⟩ | ⟨g, cap', _, hh, _⟩
    · omega
    · exact ⟨g, cap', hh⟩
  refine ⟨g, cap, w', hr, h2, ?_⟩
  subst hsize
  subst hby
  have hsmall : n + m ≤ 9223372036854775807 := by simp only [maxLen] at h63; omega
  rcases hown.2 with ⟨rfl, rfl⟩ | ⟨g0, cap0, cur, rfl, hbg, hg, hnc, hcm, hcs, htake⟩
  · have hr2 := run_append_nil (P := P) w t ty e i z ht hi hz a m c news hl hnews (by omega) (by omega) (by have hb := hbytes; simp only [Nat.zero_add] at hb; omega)
    rw [hr] at hr2
    injection hr2 with e1 e2
    simp only [Value.slice.injEq, Option.some.injEq, Addr.mk.injEq] at e1
    obtain ⟨⟨rfl, _⟩, _⟩ := e1
    subst e2
    exact Or.inr ⟨Nat.le_refl _, ⟨rfl, rfl, rfl, by simp, fun k hk _ => Below.heap_alloc w.drew _ _ hk⟩⟩
  · by_cases hroom : n + m ≤ cap0
    · have hfit : n * i.size + news.length ≤ cur.size := by rw [hl, hcs, ← Nat.add_mul]; exact Nat.mul_le_mul_right _ hroom
      have hr2 := run_append_room (P := P) w t ty e i ht hi g0 n cap0 cur hg a m c news hl hnews h1 hroom hfit
      rw [hr] at hr2
      cases hr2
      exact Or.inl ⟨rfl, h3⟩
    · have holds : ∀ j u, xs[j]? = some u → w.cell? ((⟨g0, 0, none⟩ : Addr).add j) = some u := hown.cells (g := g0) rfl
      have hr2 := run_append_grow (P := P) w t ty e i z ht hi hz ⟨g0, 0, none⟩ n cap0 xs hown.1 holds a m c news hl hnews (by omega) (by omega) (growslice_fits (by omega) hbytes)
      rw [hr] at hr2
      cases hr2
      exact Or.inr ⟨Nat.le_refl _, ⟨rfl, rfl, rfl, by simp, fun k hk _ => Below.heap_alloc w.drew _ _ hk⟩⟩

/-- One more element behind a row of one's own. -/
theorem wpList_app {ops : Array Oper} {rest : List Oper} {o : Oper} {a : Act} {Q : Exit → Act → World → Prop} (hgd : o.guard = none) (s x : Operand) (t : TypeId)
    (ho : o.op = .call { callee := .builtin .append, args := #[s, x], argTypes := #[t, t] })
    (e : TypeId) (i : TypeInfo) (z : Value) (size bytes : Nat) (ht : P.underlying t = some (.slice e)) (hi : P.info? e = some i) (hz : i.zero = some z)
    (hsize : i.size = size) (hby : i.bytes = bytes) (hzs : z.cells.size = size) (hsz : 0 < size)
    (v : Value) (n : Nat) (xs : List Value) (hs : a.eval s = v) (hown : w.ownsRow 0 e size v n xs)
    (ad : Addr) (c : Nat) (news : List Value) (hx : a.eval x = .slice (some ad) 1 c) (hl : news.length = size) (hnews : ∀ j u, news[j]? = some u → w.cell? (ad.add j) = some u) (h1 : ∀ u ∈ news, u.oneCell' = true)
    (hbytes : (n + 1) * bytes ≤ 140737488355328) (h63 : n + 1 ≤ maxLen)
    (h : ∀ g cap w', w'.ownsRow 0 e size (.slice (some ⟨g, 0, none⟩) (n + 1) cap) (n + 1) (xs ++ news) → Went w v g w' → wpList P ops Q rest (a.put o.dst (.slice (some ⟨g, 0, none⟩) (n + 1) cap)) w') : wpList P ops Q (o :: rest) a w := by
  refine wpList_plain hgd fun K hK => ?_
  obtain ⟨g, cap, w', hr, h2, h3⟩ := run_app_sharp (P := P) w t o.type e i z size bytes ht hi hz hsize hby hzs hsz v n xs hown ad 1 c news (by omega) (by omega) hnews h1 h63 hbytes
  unfold Oper.wp execOp
  simp only [ho, resolve, invoke, builtin, Sem.run_bind, Sem.run_pure, Result.andThen_ok, List.map_toArray, List.map_cons, List.map_nil, hs, hx, hr]
  exact hK _ _ (h g cap w' h2 h3)

/-- The same as one step of a region that draws its order. -/
theorem step_app {ops : Array Oper} {o : Oper} {a : Act} {K : Act → World → Prop} {Q : Exit → Act → World → Prop} {E : Prop} (hg : o.guard = none) (s x : Operand) (t : TypeId)
    (ho : o.op = .call { callee := .builtin .append, args := #[s, x], argTypes := #[t, t] })
    (e : TypeId) (i : TypeInfo) (z : Value) (size bytes : Nat) (ht : P.underlying t = some (.slice e)) (hi : P.info? e = some i) (hz : i.zero = some z)
    (hsize : i.size = size) (hby : i.bytes = bytes) (hzs : z.cells.size = size) (hsz : 0 < size)
    (v : Value) (n : Nat) (xs : List Value) (hs : a.eval s = v) (hown : w.ownsRow 0 e size v n xs)
    (ad : Addr) (c : Nat) (news : List Value) (hx : a.eval x = .slice (some ad) 1 c) (hl : news.length = size) (hnews : ∀ j u, news[j]? = some u → w.cell? (ad.add j) = some u) (h1 : ∀ u ∈ news, u.oneCell' = true)
    (hbytes : (n + 1) * bytes ≤ 140737488355328) (h63 : n + 1 ≤ maxLen)
    (h : ∀ g cap w', w'.ownsRow 0 e size (.slice (some ⟨g, 0, none⟩) (n + 1) cap) (n + 1) (xs ++ news) → Went w v g w' → K (a.put o.dst (.slice (some ⟨g, 0, none⟩) (n + 1) cap)) w') :
    if Region.wanted o (yielded ops a.tmps) = true then Oper.wp P o a w K Q else E := by
  have hw : Region.wanted o (yielded ops a.tmps) = true := by simp [Region.wanted, hg]
  rw [if_pos hw]
  obtain ⟨g, cap, w', hr, h2, h3⟩ := run_app_sharp (P := P) w t o.type e i z size bytes ht hi hz hsize hby hzs hsz v n xs hown ad 1 c news (by omega) (by omega) hnews h1 h63 hbytes
  unfold Oper.wp execOp
  simp only [ho, resolve, invoke, builtin, Sem.run_bind, Sem.run_pure, Result.andThen_ok, List.map_toArray, List.map_cons, List.map_nil, hs, hx, hr]
  exact h g cap w' h2 h3
end

/-- A row's cell is put. -/
theorem row_setCell {w : World} {b j : Nat} {cs : Array Value} {t : TypeId} (x : Value) (h : w.heap[b]? = some (.cells cs t (0, 0))) : (w.setCell ⟨b, j, none⟩ x).heap[b]? = some (.cells (cs.setIfInBounds j x) t (0, 0)) := by
  have hlt := lt_of_block h
  have h' : w.heap[b] = .cells cs t (0, 0) := by simpa [Array.getElem?_eq_getElem hlt] using h
  show (w.heap.modify b _)[b]? = _
  rw [Array.getElem?_eq_getElem (by simpa using hlt), Array.getElem_modify_self, h']
  rfl
theorem own_put {w : World} {e : TypeId} {g n cap size : Nat} {vs : List Value} (h : w.ownsRow 0 e size (.slice (some ⟨g, 0, none⟩) n cap) n vs) (j : Nat) (x : Value) :
    (w.setCell ⟨g, j, none⟩ x).ownsRow 0 e size (.slice (some ⟨g, 0, none⟩) n cap) n (vs.set j x) := by
  have hl := h.1
  rcases h.2 with ⟨hh, _⟩ | ⟨g', cap', cur, hh, hb, hg, hnc, hcm, hcs, ht⟩
  · cases hh
  · cases hh
    refine ⟨by rw [List.length_set]; exact hl, .inr ⟨g, cap, cur.setIfInBounds j x, rfl, hb, row_setCell x hg, hnc, hcm, by simpa using hcs, ?_⟩⟩
    rw [Array.toList_setIfInBounds, List.take_set, ht]
theorem own_free {w : World} {e : TypeId} {g n cap size : Nat} {vs : List Value} (h : w.ownsRow 0 e size (.slice (some ⟨g, 0, none⟩) n cap) n vs) (j : Nat) : w.frozen? ⟨g, j, none⟩ = false := by
  rcases h.2 with ⟨hh, _⟩ | ⟨g', cap', cur, hh, hb, hg, _⟩
  · cases hh
  · cases hh
    simp [World.frozen?, hg]
theorem own_type {w : World} {e : TypeId} {size : Nat} {v : Value} {n : Nat} {vs : List Value} (h : w.ownsRow 0 e size v n vs) : ∀ k, v.ownBlock = some k → ∃ cs, w.heap[k]? = some (.cells cs e (0, 0)) := by
  intro k hk
  rcases h.2 with ⟨rfl, _⟩ | ⟨g', cap', cur, rfl, hb, hg, _⟩
  · simp [Value.ownBlock] at hk
  · simp [Value.ownBlock] at hk
    subst hk
    exact ⟨cur, hg⟩
theorem own_form {w : World} {e : TypeId} {size : Nat} {v : Value} {n : Nat} {vs : List Value} (h : w.ownsRow 0 e size v n vs) (h0 : 0 < n) : ∃ g cap, v = .slice (some ⟨g, 0, none⟩) n cap ∧ n ≤ cap := by
  rcases h.2 with ⟨_, hh⟩ | ⟨g', cap', cur, rfl, hb, hg, hn, _⟩
  · omega
  · exact ⟨g', cap', rfl, hn⟩
theorem own_slice {w : World} {e : TypeId} {size : Nat} {v : Value} {n : Nat} {vs : List Value} (h : w.ownsRow 0 e size v n vs) : ∃ ao cap, v = .slice ao n cap := by
  rcases h.2 with ⟨rfl, rfl⟩ | ⟨g', cap', cur, rfl, _⟩
  · exact ⟨none, 0, rfl⟩
  · exact ⟨_, _, rfl⟩
end Go.Proofs.YtomajifklajilaaGreatDoor.Bq
/- A Book of many lists of many kinds (the statements' own check that lists share no memory): how it lies in memory, for any kind of elements. Conditions as each lemma names them. -/
namespace Go.Proofs.YtomajifklajilaaGreatDoor.Bq
open Go.ChangeShapes Go.WideShapes Go.ChangeAt Go.RowKit Go.Lib
set_option linter.unusedVariables false

/-- A list that the Book holds, what it is when more was put behind it, its number. -/
structure HB where
  l : Value
  long : Value
  n : Nat
def HB.cells (h : HB) : List Value := [h.l, h.long, .int .i64 (h.n : Int)]
def rowOf (hs : List HB) : List Value := hs.flatMap HB.cells
theorem rowOf_length (hs : List HB) : (rowOf hs).length = hs.length * 3 := by
  induction hs with
  | nil => rfl
  | cons h r ih => simp only [rowOf, List.flatMap_cons, List.length_append, HB.cells, List.length_cons, List.length_nil] at ih ⊢; omega
theorem rowOf_snoc (hs : List HB) (h : HB) : rowOf (hs ++ [h]) = rowOf hs ++ h.cells := by simp [rowOf]
theorem rowOf_get (hs : List HB) (i : Nat) (h : HB) (hi : hs[i]? = some h) (j : Nat) (hj : j < 3) : (rowOf hs)[i * 3 + j]? = h.cells[j]? := by
  induction hs generalizing i with
  | nil => simp at hi
  | cons a r ih =>
    have e : rowOf (a :: r) = a.cells ++ rowOf r := by simp [rowOf]
    have hl : a.cells.length = 3 := rfl
    cases i with
    | zero =>
      simp at hi
      subst hi
      rw [e, List.getElem?_append_left (by omega)]
      simp
    | succ i =>
      rw [e, List.getElem?_append_right (by omega), hl, show (i + 1) * 3 + j - 3 = i * 3 + j from by omega]
      exact ih i (by simpa using hi)
theorem rowOf_set (hs : List HB) (i : Nat) (h : HB) (hi : hs[i]? = some h) (x : Value) : rowOf (hs.set i { h with long := x }) = (rowOf hs).set (i * 3 + 1) x := by
  induction hs generalizing i with
  | nil => simp at hi
  | cons a r ih =>
    have e : ∀ b : HB, rowOf (b :: r) = b.cells ++ rowOf r := fun b => by simp [rowOf]
    have hl : a.cells.length = 3 := rfl
    cases i with
    | zero =>
      simp at hi
      subst hi
      rw [List.set_cons_zero, e, e, List.set_append_left _ _ (by omega)]
      rfl
    | succ i =>
      rw [List.set_cons_succ, show rowOf (a :: r.set i { h with long := x }) = a.cells ++ rowOf (r.set i { h with long := x }) from by simp [rowOf], ih i (by simpa using hi), e, List.set_append_right _ _ (by omega), hl, show (i + 1) * 3 + 1 - 3 = i * 3 + 1 from by omega]

/-- A kind of lists: the type of what is held, of an element, how many cells an element has, the mark of a number, the Book's cell. -/
structure Kd where
  tH : TypeId
  tE : TypeId
  S : Nat
  mark : Nat → List Value
  col : Nat
  pos : 0 < S
  len : ∀ n, (mark n).length = S
  hE : tH ≠ tE
  hB : tH ≠ 46
  eB : tE ≠ 46
/-- A mark, so many times. -/
def marks (x : List Value) (n : Nat) : List Value := (List.replicate n x).flatten
theorem marks_length (x : List Value) (n : Nat) : (marks x n).length = n * x.length := by simp [marks]
theorem marks_succ (x : List Value) (n : Nat) : marks x (n + 1) = marks x n ++ x := by simp [marks, List.replicate_succ']
theorem marks_cons (x : List Value) (n : Nat) : marks x (n + 1) = x ++ marks x n := by simp [marks, List.replicate_succ]
theorem marks_get (x : List Value) (n j i : Nat) (hj : j < n) (hi : i < x.length) : (marks x n)[j * x.length + i]? = x[i]? := by
  induction n generalizing j with
  | zero => omega
  | succ n ih =>
    rw [marks_cons]
    cases j with
    | zero => rw [Nat.zero_mul, Nat.zero_add, List.getElem?_append_left hi]
    | succ j =>
      have e : (j + 1) * x.length + i = x.length + (j * x.length + i) := by rw [Nat.add_mul]; omega
      rw [e, List.getElem?_append_right (by omega), Nat.add_sub_cancel_left]
      exact ih j (by omega)

/-- A row of one's own whose room may be cut off. -/
def Cut (w : World) (e : TypeId) (size : Nat) (v : Value) (n : Nat) (xs : List Value) : Prop := ∃ ao rc rf, v = .slice ao n rc ∧ n ≤ rc ∧ rc ≤ rf ∧ w.ownsRow 0 e size (.slice ao n rf) n xs
theorem ownBlock_cap (ao : Option Addr) (n m a b : Nat) : (Value.slice ao n a).ownBlock = (Value.slice ao m b).ownBlock := by cases ao <;> rfl
section
variable {w w' : World} {e : TypeId} {size n : Nat} {v : Value} {xs : List Value} {S : List Nat}
theorem Cut.of (h : w.ownsRow 0 e size v n xs) : Cut w e size v n xs := by
  rcases h.2 with ⟨rfl, rfl⟩ | ⟨g, cap, cur, rfl, _, _, hn, _⟩
  · exact ⟨none, 0, 0, rfl, Nat.le_refl _, Nat.le_refl _, h⟩
  · exact ⟨_, cap, cap, rfl, hn, Nat.le_refl _, h⟩
theorem Cut.keep (h : Cut w e size v n xs) (hf : Fr S w w') (hn : ∀ k, v.ownBlock = some k → k ∉ S) : Cut w' e size v n xs := by
  obtain ⟨ao, rc, rf, rfl, h1, h2, h3⟩ := h
  exact ⟨ao, rc, rf, rfl, h1, h2, owns_keep h3 hf (fun k hk => hn k (by rw [ownBlock_cap ao n n rc rf]; exact hk))⟩
theorem Cut.type (h : Cut w e size v n xs) : ∀ k, v.ownBlock = some k → ∃ cs, w.heap[k]? = some (.cells cs e (0, 0)) := by
  obtain ⟨ao, rc, rf, rfl, h1, h2, h3⟩ := h
  exact fun k hk => own_type h3 k (by rw [ownBlock_cap ao n n rf rc]; exact hk)
theorem Cut.lt (h : Cut w e size v n xs) : ∀ k, v.ownBlock = some k → k < w.heap.size := fun k hk => by
  obtain ⟨cs, hc⟩ := h.type k hk
  exact lt_of_block hc
end

section
variable {K : Kd}
/-- The Book's part of one kind: its struct in block bk, its row of held lists at rv. -/
structure Bl (K : Kd) (w : World) (bk : Nat) (rv : Value) (hs : List HB) : Prop where
  box : ∃ cs, w.heap[bk]? = some (.cells cs 46 (0, 0)) ∧ cs[K.col]? = some rv
  row : w.ownsRow 0 K.tH 3 rv hs.length (rowOf hs)
  few : hs.length < 67108864
  num : ∀ (j : Nat) (h : HB), hs[j]? = some h → h.n < 134217728
theorem Bl.keep {S : List Nat} {w w' : World} {bk : Nat} {rv : Value} {hs : List HB} (h : Bl K w bk rv hs) (hf : Fr S w w') (hb : bk ∉ S) (hr : ∀ k, rv.ownBlock = some k → k ∉ S) : Bl K w' bk rv hs := by
  obtain ⟨cs, h1, h2⟩ := h.box
  exact ⟨⟨cs, hf.keep h1 hb, h2⟩, owns_keep h.row hf hr, h.few, h.num⟩
theorem Bl.other {w : World} {bk : Nat} {rv : Value} {hs : List HB} (h : Bl K w bk rv hs) : rv.ownBlock ≠ some bk := by
  intro e
  obtain ⟨cs, hc⟩ := own_type h.row bk e
  obtain ⟨cs', h1, _⟩ := h.box
  rw [h1] at hc
  simp only [Option.some.injEq, Obj.cells.injEq] at hc
  exact K.hB hc.2.1.symm
theorem Bl.c1 {w : World} {bk : Nat} {rv : Value} {hs : List HB} (h : Bl K w bk rv hs) : w.cell? ⟨bk, K.col, none⟩ = some rv := by
  obtain ⟨cs, h1, h2⟩ := h.box
  rw [cell_of_row _ _ _ _ _ _ h1, h2]
/-- An entry of the row, cell by cell. -/
theorem Bl.at {w : World} {bk : Nat} {rv : Value} {hs : List HB} (h : Bl K w bk rv hs) (i : Nat) (e : HB) (hi : hs[i]? = some e) :
    ∃ rb cap, rv = .slice (some ⟨rb, 0, none⟩) hs.length cap ∧ hs.length ≤ cap ∧ w.cell? ⟨rb, i * 3, none⟩ = some e.l ∧ w.cell? ⟨rb, i * 3 + 1, none⟩ = some e.long ∧ w.cell? ⟨rb, i * 3 + 2, none⟩ = some (.int .i64 (e.n : Int)) := by
  have hlt : i < hs.length := (List.getElem?_eq_some_iff.1 hi).1
  obtain ⟨rb, cap, rfl, hc⟩ := own_form h.row (by omega)
  have hr := h.row
  have hat : ∀ j, j < 3 → w.cell? ⟨rb, i * 3 + j, none⟩ = e.cells[j]? := fun j hj => by rw [hr.cellAt (i * 3 + j) (by omega), rowOf_get hs i e hi j hj]
  exact ⟨rb, cap, rfl, hc, hat 0 (by omega), hat 1 (by omega), hat 2 (by omega)⟩
/-- A held list as it was handed in; with its marks; and with more behind it. -/
def P0 (K : Kd) (w : World) (h : HB) : Prop := ∃ n vs, Cut w K.tE K.S h.l n vs ∧ n < 17179869184
def P1 (K : Kd) (w : World) (h : HB) : Prop := ∃ n, Cut w K.tE K.S h.l n (marks (K.mark h.n) n) ∧ n < 17179869184
/-- A slice reads as n times a mark. -/
structure Rdm (K : Kd) (w : World) (v : Value) (n : Nat) (x : List Value) : Prop where
  shape : ∃ ao cap, v = .slice ao n cap ∧ n ≤ cap ∧ (0 < n → ∃ b, ao = some ⟨b, 0, none⟩ ∧ ∀ j i, j < n → i < K.S → w.cell? ⟨b, j * K.S + i, none⟩ = x[i]?)
  type : ∀ k, v.ownBlock = some k → ∃ cs, w.heap[k]? = some (.cells cs K.tE (0, 0))
theorem own_marks {w : World} {g m n cap : Nat} {x : List Value} (hx : x.length = K.S) (h : w.ownsRow 0 K.tE K.S (.slice (some ⟨g, 0, none⟩) m cap) m (marks x m)) (j i : Nat) (hj : j < m) (hi : i < K.S) : w.cell? ⟨g, j * K.S + i, none⟩ = x[i]? := by
  have h1 : j * K.S + i < m * K.S := by
    have : (j + 1) * K.S ≤ m * K.S := Nat.mul_le_mul_right _ hj
    rw [Nat.add_mul] at this
    omega
  rw [h.cellAt (j * K.S + i) h1]
  have := marks_get x m j i hj (by omega)
  rw [hx] at this
  exact this
theorem Rdm.of_own {w : World} {v : Value} {n m : Nat} {x : List Value} {cap : Nat} {ao : Option Addr} (hx : x.length = K.S) (h : w.ownsRow 0 K.tE K.S v n (marks x n)) (hm : m ≤ n) (he : (Value.slice ao m cap).ownBlock = v.ownBlock) (hc : m ≤ cap) (ho : ∀ a, ao = some a → a.off = 0 ∧ a.spot = none) : Rdm K w (.slice ao m cap) m x := by
  refine ⟨⟨ao, cap, rfl, hc, fun h0 => ?_⟩, fun k hk => own_type h k (by rw [← he]; exact hk)⟩
  obtain ⟨g, c, rfl, _⟩ := own_form h (by omega)
  cases ao with
  | none => simp [Value.ownBlock] at he
  | some a =>
    obtain ⟨b, off, spot⟩ := a
    obtain ⟨rfl, rfl⟩ : off = 0 ∧ spot = none := ho _ rfl
    simp [Value.ownBlock] at he
    subst he
    exact ⟨b, rfl, fun j i hj hi => own_marks (n := 0) hx h j i (by omega) hi⟩
theorem Rdm.keep {S : List Nat} {w w' : World} {v : Value} {n : Nat} {x : List Value} (h : Rdm K w v n x) (hf : Fr S w w') (hn : ∀ k, v.ownBlock = some k → k ∉ S) : Rdm K w' v n x := by
  obtain ⟨ao, cap, rfl, hc, hr⟩ := h.shape
  refine ⟨⟨ao, cap, rfl, hc, fun h0 => ?_⟩, fun k hk => ?_⟩
  · obtain ⟨b, rfl, hb⟩ := hr h0
    refine ⟨b, rfl, fun j i hj hi => ?_⟩
    obtain ⟨cs, hcs⟩ := h.type b rfl
    exact (World.cell?_of_block (hf.block b (lt_of_block hcs) (hn b rfl))).trans (hb j i hj hi)
  · obtain ⟨cs, hcs⟩ := h.type k hk
    exact ⟨cs, hf.keep hcs (hn k hk)⟩
def P2 (K : Kd) (w : World) (h : HB) : Prop := ∃ n, Rdm K w h.l n (K.mark h.n) ∧ Cut w K.tE K.S h.long (n + 70) (marks (K.mark h.n) (n + 70)) ∧ n < 17179869184
theorem P0.keep {S : List Nat} {w w' : World} {h : HB} (p : P0 K w h) (hf : Fr S w w') (hn : ∀ k, h.l.ownBlock = some k → k ∉ S) : P0 K w' h := by
  obtain ⟨n, vs, h1, h2⟩ := p
  exact ⟨n, vs, h1.keep hf hn, h2⟩
theorem P1.keep {S : List Nat} {w w' : World} {h : HB} (p : P1 K w h) (hf : Fr S w w') (hn : ∀ k, h.l.ownBlock = some k → k ∉ S) : P1 K w' h := by
  obtain ⟨n, h1, h2⟩ := p
  exact ⟨n, h1.keep hf hn, h2⟩
theorem P2.keep {S : List Nat} {w w' : World} {h : HB} (p : P2 K w h) (hf : Fr S w w') (hn : ∀ k, h.l.ownBlock = some k → k ∉ S) (hn2 : ∀ k, h.long.ownBlock = some k → k ∉ S) : P2 K w' h := by
  obtain ⟨n, h1, h2, h3⟩ := p
  exact ⟨n, h1.keep hf hn, h2.keep hf hn2, h3⟩
theorem P0.type {w : World} {h : HB} (p : P0 K w h) : ∀ k, h.l.ownBlock = some k → ∃ cs, w.heap[k]? = some (.cells cs K.tE (0, 0)) := by
  obtain ⟨n, vs, h1, h2⟩ := p
  exact h1.type
theorem P1.type {w : World} {h : HB} (p : P1 K w h) : ∀ k, h.l.ownBlock = some k → ∃ cs, w.heap[k]? = some (.cells cs K.tE (0, 0)) := by
  obtain ⟨n, h1, h2⟩ := p
  exact h1.type
/-- Blocks of elements are none of the Book's own. -/
theorem Bl.apart {w : World} {bk : Nat} {rv : Value} {hs : List HB} (h : Bl K w bk rv hs) {k : Nat} {cs : Array Value} (hk : w.heap[k]? = some (.cells cs K.tE (0, 0))) : k ≠ bk ∧ rv.ownBlock ≠ some k := by
  refine ⟨fun e => ?_, fun e => ?_⟩
  · subst e
    obtain ⟨cs', h1, _⟩ := h.box
    rw [h1] at hk
    simp only [Option.some.injEq, Obj.cells.injEq] at hk
    exact K.eB hk.2.1.symm
  · obtain ⟨cs', hc⟩ := own_type h.row k e
    rw [hk] at hc
    simp only [Option.some.injEq, Obj.cells.injEq] at hc
    exact K.hE hc.2.1.symm
end
/-- The blocks of the lists as they were handed in. -/
def lbs (hs : List HB) : List Nat := hs.flatMap fun h => h.l.ownBlock.toList
theorem mem_lbs {hs : List HB} {k : Nat} : k ∈ lbs hs ↔ ∃ h ∈ hs, h.l.ownBlock = some k := by simp [lbs]
/-- No two of them share one. -/
def Alone (hs : List HB) : Prop := ∀ (i j : Nat) (a b : HB), hs[i]? = some a → hs[j]? = some b → i ≠ j → ∀ k, a.l.ownBlock = some k → b.l.ownBlock ≠ some k
/-- Nothing was put behind them yet. -/
def Fresh (hs : List HB) : Prop := ∀ (j : Nat) (h : HB), hs[j]? = some h → h.long = .slice none 0 0
end Go.Proofs.YtomajifklajilaaGreatDoor.Bq

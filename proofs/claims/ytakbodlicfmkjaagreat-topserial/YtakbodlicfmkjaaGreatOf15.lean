/- Which blocks an owner's calls may change; an owner with its shard in memory. Conditions as each names them. -/
import Derived.Test.YtakbodlicfmkjaaGreatSva15
import Derived.Test.YtakbodlicfmkjaaGreatSvb15
import Derived.Test.YtakbodlicfmkjaaGreatSvc15
import Derived.Test.YtakbodlicfmkjaaGreatSvd15
import Derived.Test.YtakbodlicfmkjaaGreatSve15
import Derived.Test.YtakbodlicfmkjaaGreatHv9
import Derived.Test.YtakbodlicfmkjaaGreatHd9
import Derived.Test.YtakbodlicfmkjaaGreatHi9
import Derived.Test.YtakbodlicfmkjaaGreatHc9
namespace Go.Proofs.YtakbodlicfmkjaaGreat.O
open Go.ChangeShapes Go.WideShapes Go.ChangeAt Go.RowKit Go.Lib Go.Maps
set_option linter.unusedVariables false
set_option linter.unusedSimpArgs false
theorem ring_is {w : World} {g C : Nat} {pb : Option Nat} {xs : List Rv} {cl : Bool} (h : Rg w g pb C xs cl) {j : Nat} (hj : j ∈ Rg.own g pb) : ∃ cur t, w.heap[j]? = some (.cells cur t (0, 0)) ∧ (t = 309 ∨ t = 278) := by
  obtain ⟨N, F, K, ps, hR⟩ := h
  simp only [Rg.own, List.mem_cons, Option.mem_toList] at hj
  rcases hj with rfl | hj
  · exact ⟨_, _, hR.box, Or.inl rfl⟩
  · exact ⟨_, _, hR.row j hj, Or.inr rfl⟩
/-- The blocks that an owner's calls may change: its ring's, its map, its versions. -/
def OM (w : World) (b gg : Nat) (pp : Option Nat) (j : Nat) : Prop := j = gg ∨ pp = some j ∨ j = b ∨ ((∃ cur, w.heap[j]? = some (.cells cur 128 (0, 0))) ∧ RowOf w b j)
/-- Only those, and new ones, may differ; what becomes the shard's own is new. -/
def OwF (b gg : Nat) (pp : Option Nat) (w w' : World) : Prop := ∃ S, Fr S w w' ∧ (b < w.heap.size → (∀ j ∈ S, j < w.heap.size → OM w b gg pp j) ∧ ∀ j, RowOf w' b j → RowOf w b j ∨ w.heap.size ≤ j)
section
variable {w0 w w' w1 w2 : World} {b gg : Nat} {pp : Option Nat} {t : Nat → Prop}
theorem OwF.of (h : Fr [] w w') : OwF b gg pp w w' := ⟨[], h, fun hb => ⟨by simp, fun j hr => Or.inl (hr.back h (by simp) hb)⟩⟩
theorem OwF.size (h : OwF b gg pp w w') : w.heap.size ≤ w'.heap.size := by
  obtain ⟨S, h, _⟩ := h
  exact h.size
theorem OwF.ofS (h : FrS w0 b w w') : OwF b gg pp w w' := by
  obtain ⟨S, h1, h2⟩ := h
  refine ⟨S, h1, fun hb => ?_⟩
  obtain ⟨k1, k2⟩ := h2 hb
  refine ⟨fun j hj hl => ?_, k2⟩
  rcases k1 j hj hl with e | ⟨⟨_, e⟩, f⟩
  · exact Or.inr (Or.inr (Or.inl e))
  · exact Or.inr (Or.inr (Or.inr ⟨e, f⟩))
theorem ring_nb {g C : Nat} {pb : Option Nat} {xs : List Rv} {cl : Bool} (hR : Rg w g pb C xs cl) (hb : ∃ es c, w.heap[b]? = some (.map es c)) : b ∉ Rg.own g pb := fun hm => by
  obtain ⟨cur, t, e, _⟩ := ring_is hR hm
  obtain ⟨es, c, e2⟩ := hb
  rw [e2] at e
  cases e
theorem OwF.ofR {g C : Nat} {pb : Option Nat} {xs : List Rv} {cl : Bool} (hR : Rg w g pb C xs cl) (hb : ∃ es c, w.heap[b]? = some (.map es c)) (h : Fr (Rg.own g pb) w w') : OwF b g pb w w' := by
  refine ⟨_, h, fun hl => ⟨fun j hj _ => ?_, fun j hr => Or.inl (hr.back h (ring_nb hR hb) hl)⟩⟩
  simp only [Rg.own, List.mem_cons, Option.mem_toList] at hj
  rcases hj with rfl | hj
  · exact Or.inl rfl
  · exact Or.inr (Or.inl hj)
theorem OwF.then (h : OwF b gg pp w w1) (k : OwF b gg pp w1 w2) : OwF b gg pp w w2 := by
  obtain ⟨S, hS, hm⟩ := h
  obtain ⟨T, hT, kn⟩ := k
  refine ⟨S ++ T, hS.trans hT (fun x hx _ => List.mem_append_left _ hx) (fun x hx _ => List.mem_append_right _ hx), fun hb => ?_⟩
  obtain ⟨m1, m2⟩ := hm hb
  obtain ⟨k1, k2⟩ := kn (Nat.lt_of_lt_of_le hb hS.size)
  refine ⟨fun j hj hlt => ?_, fun j hr => ?_⟩
  · by_cases hjS : j ∈ S
    · exact m1 j hjS hlt
    · have hjT : j ∈ T := (List.mem_append.1 hj).resolve_left hjS
      have e := hS.block j hlt hjS
      rcases k1 j hjT (Nat.lt_of_lt_of_le hlt hS.size) with q | q | q | ⟨⟨c, q⟩, r⟩
      · exact Or.inl q
      · exact Or.inr (Or.inl q)
      · exact Or.inr (Or.inr (Or.inl q))
      · rcases m2 j r with r | r
        · exact Or.inr (Or.inr (Or.inr ⟨⟨c, by rw [← e]; exact q⟩, r⟩))
        · omega
  · rcases k2 j hr with h1 | h1
    · exact m2 j h1
    · exact Or.inr (Nat.le_trans hS.size h1)
theorem OwF.apart (h : OwF b gg pp w w') (hb : b < w.heap.size) {j : Nat} {o : Obj} (hj : w.heap[j]? = some o) (hn : ¬ OM w b gg pp j) : w'.heap[j]? = some o := by
  obtain ⟨S, hS, hm⟩ := h
  have hlt : j < w.heap.size := by
    rcases Nat.lt_or_ge j w.heap.size with h1 | h1
    · exact h1
    · rw [Array.getElem?_eq_none h1] at hj; cases hj
  rw [← hj]
  exact hS.block j hlt (fun hjS => hn ((hm hb).1 j hjS hlt))
theorem OwF.keep {g C : Nat} {pb : Option Nat} {xs : List Rv} {cl : Bool} (h : OwF b g pb w w') (hR : Rg w g pb C xs cl) (hb : ∃ es c, w.heap[b]? = some (.map es c)) {j : Nat} {cs : Array Value} {tt : TypeId} {fr : Nat × Nat} (hj : w.heap[j]? = some (.cells cs tt fr)) (h1 : tt ≠ 309) (h2 : tt ≠ 278) (h3 : tt ≠ 128) : w'.heap[j]? = some (.cells cs tt fr) := by
  have hbl : b < w.heap.size := by
    obtain ⟨es, c, hb⟩ := hb
    rcases Nat.lt_or_ge b w.heap.size with h1 | h1
    · exact h1
    · rw [Array.getElem?_eq_none h1] at hb; cases hb
  have ring : j ∈ Rg.own g pb → False := fun hm => by
    obtain ⟨cur, t2, e, ht⟩ := ring_is hR hm
    rw [hj] at e
    simp only [Option.some.injEq, Obj.cells.injEq] at e
    rcases ht with rfl | rfl
    · exact h1 e.2.1
    · exact h2 e.2.1
  refine h.apart hbl hj ?_
  rintro (e | e | e | ⟨⟨c, e⟩, _⟩)
  · exact ring (by simp [Rg.own, e])
  · exact ring (by simp [Rg.own, e])
  · obtain ⟨es, c, hb⟩ := hb
    rw [← e, hj] at hb
    cases hb
  · rw [hj] at e; simp only [Option.some.injEq, Obj.cells.injEq] at e; exact h3 e.2.1
/-- A request that waits. -/
structure One15 (w0 : World) (t : Nat → Prop) (w : World) (x : Rv) (r : Rq) : Prop where
  is : x.q r.bs = r
  ok : okR r
  len : x.bl = r.bs.length
  row : IRs w x.bo r.bs
  nb : Nb w w0.heap.size x.bo
  av : ∀ a, x.bo = some a → ¬ t a.block
inductive Wt15 (w0 : World) (t : Nat → Prop) (w : World) : List Rv → List Rq → Prop
  | nil : Wt15 w0 t w [] []
  | cons {x : Rv} {r : Rq} {xs : List Rv} {rs : List Rq} : One15 w0 t w x r → Wt15 w0 t w xs rs → Wt15 w0 t w (x :: xs) (r :: rs)
theorem Wt15.len {xs : List Rv} {rs : List Rq} (h : Wt15 w0 t w xs rs) : xs.length = rs.length := by
  induction h with
  | nil => rfl
  | cons _ _ ih => simp [ih]
theorem Wt15.snoc {xs : List Rv} {rs : List Rq} {x : Rv} {r : Rq} (h : Wt15 w0 t w xs rs) (hx : One15 w0 t w x r) : Wt15 w0 t w (xs ++ [x]) (rs ++ [r]) := by
  induction h with
  | nil => exact .cons hx .nil
  | cons h1 _ ih => exact .cons h1 ih
theorem One15.keep {x : Rv} {r : Rq} (h : One15 w0 t w x r) (hk : ∀ (j : Nat) (cs : Array Value), w.heap[j]? = some (.cells cs 3 (0, 0)) → w'.heap[j]? = some (.cells cs 3 (0, 0))) (hs : w.heap.size ≤ w'.heap.size) : One15 w0 t w' x r := by
  refine ⟨h.is, h.ok, h.len, ⟨fun h0 => ?_, h.row.few⟩, fun a e => ?_, h.av⟩
  · obtain ⟨bb, off, e, hb, hc⟩ := h.row.lies h0
    obtain ⟨_, cur, hcur⟩ := h.nb _ e
    have hcur' := hk _ _ hcur
    refine ⟨bb, off, e, Nat.lt_of_lt_of_le hb hs, fun i hi => ?_⟩
    rw [← hc i hi]
    exact World.cell?_of_block (hcur'.trans hcur.symm)
  · obtain ⟨h1, cur, hcur⟩ := h.nb a e
    exact ⟨h1, cur, hk _ _ hcur⟩
theorem Wt15.keep {xs : List Rv} {rs : List Rq} (h : Wt15 w0 t w xs rs) (hk : ∀ (j : Nat) (cs : Array Value), w.heap[j]? = some (.cells cs 3 (0, 0)) → w'.heap[j]? = some (.cells cs 3 (0, 0))) (hs : w.heap.size ≤ w'.heap.size) : Wt15 w0 t w' xs rs := by
  induction h with
  | nil => exact .nil
  | cons h1 _ ih => exact .cons (h1.keep hk hs) ih
/-- An owner with its shard: made since w0; it has the versions M, and the requests rs wait. -/
structure OwS (w0 : World) (t : Nat → Prop) (w : World) (ob sb b n g : Nat) (pb : Option Nat) (C : Nat) (M : ByteArray → List Vn) (rs : List Rq) : Prop where
  q : ∃ xs, OwQ w ob g ⟨sb, 0, none⟩ pb C xs ∧ Wt15 w0 t w xs rs
  sh : Sh w0 w sb b n M
  fr : Fr [] w0 w
  gn : w0.heap.size ≤ g
  on : w0.heap.size ≤ ob
  pn : ∀ k, pb = some k → w0.heap.size ≤ k
section
variable {ob sb n g C : Nat} {pb : Option Nat} {M : ByteArray → List Vn} {rs : List Rq}
theorem OwS.same (h : OwS w0 t w ob sb b n g pb C M rs) (hf : Fr [] w w') : OwS w0 t w' ob sb b n g pb C M rs := by
  obtain ⟨xs, hq, hw⟩ := h.q
  exact ⟨⟨xs, hq.same hf, hw.keep (fun j cs hj => hf.keep hj (by simp)) hf.size⟩, h.sh.keep hf, h.fr.then hf, h.gn, h.on, h.pn⟩
theorem OwS.own (h : OwS w0 t w ob sb b n g pb C M rs) : ∀ j ∈ Rg.own g pb, w0.heap.size ≤ j := by
  intro j hj
  simp only [Rg.own, List.mem_cons, Option.mem_toList] at hj
  rcases hj with rfl | hj
  · exact h.gn
  · exact h.pn j hj
theorem Wt15.at {xs : List Rv} {rs : List Rq} (h : Wt15 w0 t w xs rs) {t' : Nat → Prop} (ht : ∀ k, t' k → t k ∨ w.heap.size ≤ k) : Wt15 w0 t' w xs rs := by
  induction h with
  | nil => exact .nil
  | cons h1 _ ih =>
    refine .cons ⟨h1.is, h1.ok, h1.len, h1.row, h1.nb, fun a e q => ?_⟩ ih
    rcases ht _ q with r | r
    · exact h1.av a e r
    · obtain ⟨_, cur, hc⟩ := h1.nb a e
      have := lt_of_block hc
      omega
/-- Another row that is left alone. -/
theorem OwS.at (h : OwS w0 t w ob sb b n g pb C M rs) {t' : Nat → Prop} (ht : ∀ k, t' k → t k ∨ w.heap.size ≤ k) : OwS w0 t' w ob sb b n g pb C M rs := by
  obtain ⟨xs, hq, hw⟩ := h.q
  exact ⟨⟨xs, hq, hw.at ht⟩, h.sh, h.fr, h.gn, h.on, h.pn⟩
/-- An owner's own blocks, but for what waiting requests have. -/
def OwnA (ob sb b g : Nat) (pb : Option Nat) (w : World) (j : Nat) : Prop := j = ob ∨ j = sb ∨ j = b ∨ j = g ∨ pb = some j ∨ RowOf w b j
/-- Behind a change of what is not the owner's. -/
theorem OwS.far {S0 : List Nat} (h : OwS w0 t w ob sb b n g pb C M rs) (hf0 : Fr S0 w w') (hS0 : ∀ j ∈ S0, j < w.heap.size → w0.heap.size ≤ j ∧ ¬ OwnA ob sb b g pb w j ∧ (t j ∨ ∃ cur tt, w.heap[j]? = some (.cells cur tt (0, 0)) ∧ tt ≠ 3)) : OwS w0 t w' ob sb b n g pb C M rs := by
  classical
  obtain ⟨S, hf, hS⟩ : ∃ S, Fr S w w' ∧ ∀ j ∈ S, w0.heap.size ≤ j ∧ ¬ OwnA ob sb b g pb w j ∧ (t j ∨ ∃ cur tt, w.heap[j]? = some (.cells cur tt (0, 0)) ∧ tt ≠ 3) := by
    refine ⟨S0.filter fun j => decide (j < w.heap.size), hf0.mono (fun x hx hl => List.mem_filter.2 ⟨hx, by simpa using hl⟩), fun j hj => ?_⟩
    obtain ⟨a, b⟩ := List.mem_filter.1 hj
    exact hS0 j a (by simpa using b)
  obtain ⟨xs, hq, hw⟩ := h.q
  have no : ∀ j, OwnA ob sb b g pb w j → j ∉ S := fun j hj hm => (hS j hm).2.1 hj
  refine ⟨⟨xs, ⟨hf.keep hq.box (no ob (Or.inl rfl)), hq.rg.keep hf (no g (Or.inr (Or.inr (Or.inr (Or.inl rfl))))) (fun k e => no k (Or.inr (Or.inr (Or.inr (Or.inr (Or.inl e))))))⟩, ?_⟩, h.sh.keepS hf (no sb (Or.inr (Or.inl rfl))) (fun j hj hm => ?_), h.fr.on hf (fun y hy => (hS y hy).1), h.gn, h.on, h.pn⟩
  · clear hq h no
    induction hw with
    | nil => exact .nil
    | @cons x r xs rs h1 _ ih =>
      have hav : ∀ a, x.bo = some a → a.block ∉ S := fun a e hm => by
        rcases (hS _ hm).2.2 with q | ⟨cur, tt, q1, q2⟩
        · exact h1.av a e q
        · obtain ⟨_, c2, e2⟩ := h1.nb a e
          rw [q1] at e2
          simp only [Option.some.injEq, Obj.cells.injEq] at e2
          exact q2 e2.2.1
      refine .cons ⟨h1.is, h1.ok, h1.len, h1.row.keepS hf (fun _ a e => hav a e), fun a e => ?_, h1.av⟩ ih
      obtain ⟨k1, cur, hc⟩ := h1.nb a e
      exact ⟨k1, cur, hf.keep hc (hav a e)⟩
  · rcases hm with rfl | ⟨_, hr⟩
    · exact no _ (Or.inr (Or.inr (Or.inl rfl))) hj
    · exact no j (Or.inr (Or.inr (Or.inr (Or.inr (Or.inr hr))))) hj
/-- The shard behind a change of the ring. -/
theorem OwS.shR (h : OwS w0 t w ob sb b n g pb C M rs) (hf : Fr (Rg.own g pb) w w') : Sh w0 w' sb b n M := by
  obtain ⟨xs, hq, hw⟩ := h.q
  refine h.sh.keepS hf (ring_not hq.rg h.sh.box (by decide) (by decide)) (fun j hj hm => ?_)
  obtain ⟨cur, t, e, ht⟩ := ring_is hq.rg hj
  rcases hm with rfl | ⟨⟨_, c2, e2⟩, _⟩
  · exact ring_nb hq.rg h.sh.mb hj
  · rw [e] at e2
    simp only [Option.some.injEq, Obj.cells.injEq] at e2
    rcases ht with rfl | rfl <;> exact absurd e2.2.1 (by decide)
end
end
end Go.Proofs.YtakbodlicfmkjaaGreat.O

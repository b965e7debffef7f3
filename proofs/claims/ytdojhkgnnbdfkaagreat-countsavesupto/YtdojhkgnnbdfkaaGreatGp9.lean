/- Texts of this claim laid together, one behind the other: contracts and plain lemmas; conditions as each names them. -/
import Derived.Test.YtdojhkgnnbdfkaaGreatGp8
import Derived.OwnWalk
/- Numbers in a row; named: which versions are named. Conditions as each names them. -/
namespace Go.Proofs.YtdojhkgnnbdfkaaGreat
open Go.ChangeShapes Go.WideShapes Go.ChangeAt Go.RowKit Go.Lib
set_option linter.unusedVariables false
set_option linter.unusedSimpArgs false
/-- The slice at ao reads as the numbers ns. -/
structure IRs (w : World) (ao : Option Addr) (ns : List Int) : Prop where
  lies : 0 < ns.length → ∃ b off, ao = some ⟨b, off, none⟩ ∧ b < w.heap.size ∧ ∀ i, i < ns.length → w.cell? ⟨b, off + i, none⟩ = some (.int .i64 (ns.getD i 0))
  few : ns.length ≤ 17592186044416
theorem IRs.keepS {S : List Nat} {w w' : World} {ao : Option Addr} {ns : List Int} (h : IRs w ao ns) (hf : Fr S w w') (hn : 0 < ns.length → ∀ a, ao = some a → a.block ∉ S) : IRs w' ao ns := by
  refine ⟨fun h0 => ?_, h.few⟩
  obtain ⟨b, off, e, hb, hc⟩ := h.lies h0
  exact ⟨b, off, e, Nat.lt_of_lt_of_le hb hf.size, fun i hi => (World.cell?_of_block (hf.block b hb (hn h0 _ e))).trans (hc i hi)⟩
theorem IRs.keep {w w' : World} {ao : Option Addr} {ns : List Int} (h : IRs w ao ns) (hf : Fr [] w w') : IRs w' ao ns := h.keepS hf (by simp)
theorem itake_snoc (ns : List Int) (i : Nat) (h : i < ns.length) : ns.take (i + 1) = ns.take i ++ [ns.getD i 0] := by
  rw [List.take_add_one]
  simp [List.getD, h]
/-- Of each version: is its number one of these? -/
def mkB (vs : List Vn) (ns : List Int) : List Value := vs.map fun v => .bool (decide (v.num ∈ ns))
theorem mkB_length (vs : List Vn) (ns : List Int) : (mkB vs ns).length = vs.length := by simp [mkB]
theorem mkB_get (vs : List Vn) (ns : List Int) (i : Nat) (h : i < vs.length) : (mkB vs ns)[i]? = some (.bool (decide ((vs.getD i Vn.zero).num ∈ ns))) := by
  simp [mkB, List.getD, h]
theorem mkB_same {vs : List Vn} {ns : List Int} {n : Int} (h : ∀ y ∈ vs, y.num ≠ n) : mkB vs (ns ++ [n]) = mkB vs ns := by
  unfold mkB
  refine List.map_congr_left fun v hv => ?_
  have := h v hv
  congr 2
  simp [List.mem_append, this]
theorem mkB_step {vs : List Vn} (hR : Ris vs) {ns : List Int} {n : Int} {d : Nat} (hd : d < vs.length) (e : (vs.getD d Vn.zero).num = n) : mkB vs (ns ++ [n]) = (mkB vs ns).set d (.bool true) := by
  apply List.ext_getElem?
  intro i
  by_cases hi : i < vs.length
  · rw [mkB_get _ _ _ hi, List.getElem?_set, mkB_length, mkB_get _ _ _ hi]
    by_cases hid : d = i
    · subst hid
      rw [if_pos rfl, if_pos hd, e]
      simp
    · rw [if_neg hid]
      have hne : (vs.getD i Vn.zero).num ≠ n := by
        rw [← e]
        rcases Nat.lt_trichotomy i d with h | h | h
        · have := ris_get hR h hd; omega
        · omega
        · have := ris_get hR h hi; omega
      congr 2
      simp only [List.mem_append, List.mem_singleton, hne, or_false]
  · rw [List.getElem?_eq_none (by rw [mkB_length]; omega), List.getElem?_eq_none (by rw [List.length_set, mkB_length]; omega)]
theorem vrow_setCell {w : World} {b j : Nat} {cs : Array Value} {t : TypeId} (x : Value) (h : w.heap[b]? = some (.cells cs t (0, 0))) : (w.setCell ⟨b, j, none⟩ x).heap[b]? = some (.cells (cs.setIfInBounds j x) t (0, 0)) := by
  have hlt := lt_of_block h
  have h' : w.heap[b] = .cells cs t (0, 0) := by simpa [Array.getElem?_eq_getElem hlt] using h
  show (w.heap.modify b _)[b]? = _
  rw [Array.getElem?_eq_getElem (by simpa using hlt), Array.getElem_modify_self, h']
  rfl
/-- A row of bools of one's own. -/
structure BRow (w : World) (g L : Nat) (bs : List Value) : Prop where
  row : ∃ cur, w.heap[g]? = some (.cells cur 4 (0, 0)) ∧ cur.toList = bs
  len : bs.length = L
theorem BRow.keep {S : List Nat} {w w' : World} {g L : Nat} {bs : List Value} (h : BRow w g L bs) (hf : Fr S w w') (hn : g ∉ S) : BRow w' g L bs := by
  obtain ⟨cur, h1, h2⟩ := h.row
  exact ⟨⟨cur, hf.keep h1 hn, h2⟩, h.len⟩
theorem BRow.put {w : World} {g L : Nat} {bs : List Value} (h : BRow w g L bs) (j : Nat) (x : Value) : BRow (w.setCell ⟨g, j, none⟩ x) g L (bs.set j x) := by
  obtain ⟨cur, h1, h2⟩ := h.row
  exact ⟨⟨_, vrow_setCell x h1, by rw [Array.toList_setIfInBounds, h2]⟩, by rw [List.length_set]; exact h.len⟩
theorem BRow.cell {w : World} {g L : Nat} {bs : List Value} (h : BRow w g L bs) {i : Nat} {u : Value} (hu : bs[i]? = some u) : w.cell? ⟨g, i, none⟩ = some u := by
  obtain ⟨cur, h1, h2⟩ := h.row
  rw [cell_of_row _ _ _ _ _ _ h1, ← Array.getElem?_toList, h2]
  exact hu
theorem Tryz.infoBoolF : (Tryz.prog.info? 4).map (fun i => (i.zero, i.size, i.bytes)) = some (some (.bool false), 1, 1) := by kernel_rfl
theorem infoBool_parts : ∃ i, Tryz.prog.info? 4 = some i ∧ i.zero = some (.bool false) ∧ i.size = 1 ∧ i.bytes = 1 := by
  have h := Tryz.infoBoolF
  cases hi : Tryz.prog.info? 4 with
  | none => rw [hi] at h; cases h
  | some i =>
    rw [hi] at h
    simp only [Option.map_some, Option.some.injEq, Prod.mk.injEq] at h
    exact ⟨i, rfl, h.1, h.2.1, h.2.2⟩
theorem madeF (vs : List Vn) : (madeCells (Value.bool false).cells vs.length).toList = mkB vs [] := by
  apply List.ext_getElem
  · simp [madeCells, mkB]
  · intro i h1 h2
    simp [madeCells, mkB, Value.cells, Nat.mod_one]
end Go.Proofs.YtdojhkgnnbdfkaaGreat
/- One more version behind a row of one's own whose spare room may be cut off; Dump. Conditions as each names them. -/
namespace Go.Proofs.YtdojhkgnnbdfkaaGreat
open Go.ChangeShapes Go.WideShapes Go.ChangeAt Go.RowKit Go.Lib
set_option linter.unusedVariables false
set_option linter.unusedSimpArgs false
theorem run_appCut (w0 w : World) (ty : TypeId) (ro : Option Addr) (N rc : Nat) (qs : List Vn) (hO : VOut w0 w ro N rc qs) (ad : Addr) (c : Nat) (x : Vn) (hnews : ∀ j u, (vnC x)[j]? = some u → w.cell? (ad.add j) = some u)
    (hb : N < 2199023255552) (hs : w0.heap.size ≤ w.heap.size) :
    ∃ ro' rc' w', (Builtin.append_ #[56, 56] ty #[.slice ro N rc, .slice (some ad) 1 c]).run Tryz.prog w = .ok (.slice ro' (N + 1) rc') w' ∧ VOut w0 w' ro' (N + 1) rc' (qs ++ [x]) ∧ Fr (Value.slice ro N rc).ownBlock.toList w w' := by
  obtain ⟨i0, hi, hz0, hz1, hz2⟩ := infoVn_parts
  obtain ⟨rf, hrf, hown⟩ := hO.own
  have hlen : N + 1 = (qs ++ [x]).length := by rw [List.length_append, ← hO.len]; rfl
  have hcells : vnsC (qs ++ [x]) = vnsC qs ++ vnC x := by rw [vnsC_append]; simp [vnsC]
  have h1c : ∀ u ∈ vnC x, u.oneCell' = true := by
    intro u hu
    simp only [vnC, List.mem_cons, List.not_mem_nil, or_false] at hu
    rcases hu with rfl | rfl | rfl <;> rfl
  have hmx : N + 1 ≤ maxLen := by unfold maxLen; omega
  obtain ⟨v', w', hr, h2, h3, h4⟩ := run_append_own (P := Tryz.prog) w w0.heap.size 56 ty 74 i0 _ 3 32 Tryz.undVns' hi hz0 hz1 hz2 rfl (by decide) (.slice ro N rf) N (vnsC qs) hown ad 1 c (vnC x) rfl hnews h1c hmx (by omega) hs
  rcases hown.2 with ⟨hv, hn⟩ | ⟨g, cap, cur, hv, hbg, hg, hnc, hcm, hcs, htake⟩
  · cases hv
    obtain rfl : rc = 0 := by omega
    obtain ⟨ro', rc', rfl⟩ := own_shapeV h2
    exact ⟨ro', rc', w', hr, ⟨⟨rc', Nat.le_refl _, by rw [hcells]; exact h2⟩, hlen, own_cap h2⟩, Fr.grown h3 (fun y hy _ => by simp [Value.ownBlock] at hy)⟩
  · cases hv
    by_cases hroom : N + 1 ≤ rc
    · have hfit : N * i0.size + (vnC x).length ≤ cur.size := by rw [hz1, hcs]; simp only [vnC, List.length_cons, List.length_nil]; omega
      have hA := run_append_room (P := Tryz.prog) w 56 ty 74 i0 Tryz.undVns' hi g N rc cur hg ad 1 c (vnC x) (by rw [hz1]; rfl) hnews h1c hroom hfit
      have hB := run_append_room (P := Tryz.prog) w 56 ty 74 i0 Tryz.undVns' hi g N rf cur hg ad 1 c (vnC x) (by rw [hz1]; rfl) hnews h1c (by omega) hfit
      rw [hr] at hB
      injection hB with e1 e2
      rw [e1, e2] at h2
      refine ⟨_, _, _, hA, ⟨⟨rf, hrf, by rw [hcells]; exact h2⟩, hlen, hroom⟩, ?_⟩
      rw [e2] at h3
      exact Fr.grown h3 (fun y hy _ => by simpa [Value.ownBlock] using hy.symm)
    · have holds : ∀ j u, (vnsC qs)[j]? = some u → w.cell? ((⟨g, 0, none⟩ : Addr).add j) = some u := hown.cells (g := g) rfl
      have hA := run_append_grow (P := Tryz.prog) w 56 ty 74 i0 _ Tryz.undVns' hi hz0 ⟨g, 0, none⟩ N rc (vnsC qs) (by rw [hz1]; exact hown.1) holds ad 1 c (vnC x) (by rw [hz1]; rfl) hnews (by omega) (by omega) (by rw [hz2]; exact growslice_fits (by omega) (by omega))
      have hGn : N + 1 ≤ grownCap w (N + 1) rc 74 := grownCap_ge w _ _ _
      have hGm := grownCap_le_maxLen w (N + 1) rc 74 hmx
      refine ⟨_, _, _, hA, VOut.of ?_ hlen, (Fr.drew _ _).then (Fr.alloc _ _ _)⟩
      rw [hcells]
      refine ⟨by rw [← hcells, vnsC_length, ← hlen], .inr ⟨w.heap.size, _, _, rfl, hs, heap_alloc_new w.drew _, hGn, hGm, ?_, ?_⟩⟩
      · have e1 : (vnsC qs).length = N * 3 := hown.1
        simp only [Array.size_append, size_zeroCells, Value.cells, List.size_toArray, e1, vnC, List.length_cons, List.length_nil]
        omega
      · have e1 : (vnsC qs ++ vnC x).length = (N + 1) * 3 := by rw [← hcells, vnsC_length, ← hlen]
        rw [Array.toList_append, Array.toList_append, List.take_append_of_le_length (by simp only [List.length_append] at e1 ⊢; omega), List.take_of_length_le (by simp only [List.length_append] at e1 ⊢; omega)]
theorem wpList_appCut (w0 w : World) {ops : Array Oper} {rest : List Oper} {o : Oper} {a : Act} {Q : Exit → Act → World → Prop} (hgd : o.guard = none) (s x : Operand)
    (ho : o.op = .call { callee := .builtin .append, args := #[s, x], argTypes := #[56, 56] })
    (ro : Option Addr) (N rc : Nat) (qs : List Vn) (hs : a.eval s = .slice ro N rc) (hO : VOut w0 w ro N rc qs)
    (ad : Addr) (c : Nat) (v : Vn) (hx : a.eval x = .slice (some ad) 1 c) (hnews : ∀ j u, (vnC v)[j]? = some u → w.cell? (ad.add j) = some u) (hb : N < 2199023255552) (hsz : w0.heap.size ≤ w.heap.size)
    (h : ∀ ro' rc' w', VOut w0 w' ro' (N + 1) rc' (qs ++ [v]) → Fr (Value.slice ro N rc).ownBlock.toList w w' → wpList Tryz.prog ops Q rest (a.put o.dst (.slice ro' (N + 1) rc')) w') : wpList Tryz.prog ops Q (o :: rest) a w := by
  refine wpList_plain hgd fun K hK => ?_
  obtain ⟨ro', rc', w', hr, h2, h3⟩ := run_appCut w0 w o.type ro N rc qs hO ad c v hnews hb hsz
  unfold Oper.wp execOp
  simp only [ho, resolve, invoke, builtin, Sem.run_bind, Sem.run_pure, Result.andThen_ok, List.map_toArray, List.map_cons, List.map_nil, hs, hx, hr]
  exact hK _ _ (h ro' rc' w' h2 h3)
theorem VOut.blk {w0 w : World} {ro : Option Addr} {N rc : Nat} {qs : List Vn} (h : VOut w0 w ro N rc qs) : ∀ k ∈ (Value.slice ro N rc).ownBlock.toList, w0.heap.size ≤ k ∧ ∃ cur, w.heap[k]? = some (.cells cur 74 (0, 0)) := by
  intro k hk
  obtain ⟨rf, _, hown⟩ := h.own
  rcases hown.2 with ⟨hv, _⟩ | ⟨g, cap, cur, hv, hb, hg, _⟩
  · cases hv; simp [Value.ownBlock] at hk
  · cases hv
    simp [Value.ownBlock] at hk
    subst hk
    exact ⟨hb, cur, hg⟩
theorem VOut.keepS {S : List Nat} {w0 w w' : World} {ro : Option Addr} {N rc : Nat} {qs : List Vn} (h : VOut w0 w ro N rc qs) (hf : Fr S w w') (hn : ∀ k ∈ (Value.slice ro N rc).ownBlock.toList, k ∉ S) : VOut w0 w' ro N rc qs := by
  obtain ⟨rf, hr, hown⟩ := h.own
  refine ⟨⟨rf, hr, hown.1, ?_⟩, h.len, h.cap⟩
  rcases hown.2 with hh | ⟨g, cap, cur, hv, hb, hg, rest⟩
  · exact .inl hh
  · cases hv
    exact .inr ⟨g, rf, cur, rfl, hb, hf.keep hg (hn g (by simp [Value.ownBlock])), rest⟩
/-- The newest at the mark, if it has a value. -/
def headD (vs : List Vn) (d : Nat) : List Vn := if 0 < d ∧ (vs.getD (d - 1) Vn.zero).drop = false then [vs.getD (d - 1) Vn.zero] else []
/-- What Dump tells. -/
def DuTold (vs : List Vn) (k : Int) (ns : List Int) (us : List Vn) (c : Nat) : Prop := (c = 1 ∧ ¬ okV vs ∧ us = []) ∨ (c = 0 ∧ okV vs ∧ ∃ d, UpTo vs k d ∧ us = headD vs d ++ (vs.drop d).filter fun v => decide (v.num ∈ ns))
theorem filt_snoc (vs : List Vn) (ns : List Int) (i : Nat) (hi : i < vs.length) : (vs.take (i + 1)).filter (fun v => decide (v.num ∈ ns)) = (vs.take i).filter (fun v => decide (v.num ∈ ns)) ++ if (vs.getD i Vn.zero).num ∈ ns then [vs.getD i Vn.zero] else [] := by
  rw [vtake_snoc vs i hi, List.filter_append]
  congr 1
  by_cases h : (vs.getD i Vn.zero).num ∈ ns
  · rw [if_pos h, List.filter_cons_of_pos (by simpa using h)]; rfl
  · rw [if_neg h, List.filter_cons_of_neg (by simpa using h)]; rfl
theorem dump_len (vs : List Vn) (ns : List Int) (d : Nat) (i : Nat) : (headD vs d ++ ((vs.drop d).take i).filter fun v => decide (v.num ∈ ns)).length ≤ 1 + i := by
  have h1 : (headD vs d).length ≤ 1 := by unfold headD; split <;> simp
  have h2 := List.length_filter_le (fun v => decide (v.num ∈ ns)) ((vs.drop d).take i)
  rw [List.length_append]
  simp only [List.length_take] at h2
  omega
/-- What Dump's loop keeps. -/
structure DI (w wr : World) (ro : Option Addr) (N rc g m : Nat) (vs : List Vn) (d : Nat) (ns : List Int) (i : Nat) : Prop where
  fr : Fr [] w wr
  kept : VOut w wr ro N rc (headD vs d ++ ((vs.drop d).take i).filter fun v => decide (v.num ∈ ns))
  bools : BRow wr g m (mkB (vs.drop d) ns)
end Go.Proofs.YtdojhkgnnbdfkaaGreat
/- What puts make of a list, in whatever order. Plain lemmas. -/
namespace Go.Proofs.YtdojhkgnnbdfkaaGreat
set_option linter.unusedVariables false
theorem mem_get {vs : List Vn} {y : Vn} (h : y ∈ vs) : ∃ j, j < vs.length ∧ vs.getD j Vn.zero = y := by
  obtain ⟨j, hj, e⟩ := List.mem_iff_getElem.1 h
  exact ⟨j, hj, by simp [List.getD, hj, e]⟩
theorem there_iff {vs : List Vn} {v : Vn} {d : Nat} (hR : Ris vs) (hU : UpTo vs v.num d) : There vs v d ↔ ∃ y ∈ vs, y.num = v.num := by
  constructor
  · rintro ⟨h0, h1⟩
    exact ⟨_, vgetD_mem vs (d - 1) (by have := hU.le; omega), h1⟩
  · rintro ⟨y, hy, e⟩
    obtain ⟨j, hj, rfl⟩ := mem_get hy
    have hjd : j < d := by
      by_cases h : j < d
      · exact h
      · have := hU.hi j (by omega) hj; omega
    refine ⟨by omega, ?_⟩
    by_cases hjd1 : j = d - 1
    · rw [← hjd1]; exact e
    · have h1 := ris_get hR (show j < d - 1 by omega) (by have := hU.le; omega)
      have h2 := hU.lo (d - 1) (by omega)
      omega
theorem mem_ins {vs : List Vn} {v : Vn} {d : Nat} (x : Vn) : x ∈ vs.take d ++ [v] ++ vs.drop d ↔ x = v ∨ x ∈ vs := by
  have e : vs = vs.take d ++ vs.drop d := (List.take_append_drop d vs).symm
  have : x ∈ vs ↔ x ∈ vs.take d ∨ x ∈ vs.drop d := by
    constructor
    · intro h; rw [e] at h; exact List.mem_append.1 h
    · intro h; rw [e]; exact List.mem_append.2 h
  rw [this]
  simp only [List.mem_append, List.mem_singleton]
  constructor
  · rintro ((h | h) | h)
    · exact Or.inr (Or.inl h)
    · exact Or.inl h
    · exact Or.inr (Or.inr h)
  · rintro (h | h | h)
    · exact Or.inl (Or.inr h)
    · exact Or.inl (Or.inl h)
    · exact Or.inr h
theorem len_ins {vs : List Vn} {v : Vn} {d : Nat} (hd : d ≤ vs.length) : (vs.take d ++ [v] ++ vs.drop d).length = vs.length + 1 := by
  simp only [List.length_append, List.length_take, List.length_drop, List.length_singleton]
  omega
theorem okV_ins {vs : List Vn} {v : Vn} {d : Nat} (h : okV vs) (hv : okX v) (hU : UpTo vs v.num d) (hT : ¬ There vs v d) : okV (vs.take d ++ [v] ++ vs.drop d) := by
  refine ⟨fun x hx => ?_, ?_⟩
  · rcases (mem_ins x).1 hx with rfl | hx
    · exact hv
    · exact h.1 x hx
  · have hlo : ∀ x ∈ vs.take d, x.num < v.num := by
      intro x hx
      obtain ⟨j, hj, e⟩ := mem_get hx
      have hj2 : j < d ∧ j < vs.length := by simp at hj; omega
      have e2 : (vs.take d).getD j Vn.zero = vs.getD j Vn.zero := by simp [List.getD, List.getElem?_take_of_lt hj2.1]
      rw [e2] at e
      have h1 := hU.lo j hj2.1
      rw [e] at h1
      by_cases h2 : x.num = v.num
      · exact absurd ((there_iff h.2 hU).2 ⟨x, List.mem_of_mem_take hx, h2⟩) hT
      · omega
    have hhi : ∀ x ∈ vs.drop d, v.num < x.num := by
      intro x hx
      obtain ⟨j, hj, e⟩ := mem_get hx
      rw [getD_drop] at e
      have := hU.hi (d + j) (by omega) (by simp at hj; omega)
      rw [e] at this
      exact this
    have hs : Ris vs := h.2
    unfold Ris at hs ⊢
    rw [List.append_assoc, List.pairwise_append]
    refine ⟨hs.sublist (List.take_sublist _ _), ?_, ?_⟩
    · rw [List.singleton_append, List.pairwise_cons]
      exact ⟨hhi, hs.sublist (List.drop_sublist _ _)⟩
    · intro a ha b hb
      rw [List.singleton_append, List.mem_cons] at hb
      rcases hb with rfl | hb
      · exact hlo a ha
      · have := hlo a ha; have := hhi b hb; omega
/-- Rising lists with the same members are one. -/
theorem ris_unique : ∀ (a b : List Vn), Ris a → Ris b → (∀ v, v ∈ a ↔ v ∈ b) → a = b
  | [], [], _, _, _ => rfl
  | [], y :: b, _, _, h => by have := (h y).2 (by simp); simp at this
  | x :: a, [], _, _, h => by have := (h x).1 (by simp); simp at this
  | x :: a, y :: b, ha, hb, h => by
    have ha' := List.pairwise_cons.1 ha
    have hb' := List.pairwise_cons.1 hb
    have exy : x = y := by
      have h1 : x ∈ y :: b := (h x).1 (by simp)
      have h2 : y ∈ x :: a := (h y).2 (by simp)
      rcases List.mem_cons.1 h1 with h1 | h1
      · exact h1
      · rcases List.mem_cons.1 h2 with h2 | h2
        · exact h2.symm
        · have := ha'.1 y h2; have := hb'.1 x h1; omega
    subst exy
    have : a = b := by
      refine ris_unique a b ha'.2 hb'.2 fun v => ⟨fun hv => ?_, fun hv => ?_⟩
      · rcases List.mem_cons.1 ((h v).1 (List.mem_cons_of_mem _ hv)) with e | e
        · have := ha'.1 v hv; rw [e] at this; omega
        · exact e
      · rcases List.mem_cons.1 ((h v).2 (List.mem_cons_of_mem _ hv)) with e | e
        · have := hb'.1 v hv; rw [e] at this; omega
        · exact e
    rw [this]
/-- The turned row's places. -/
def fidx (n t i : Nat) : Nat := (n - 1 - i + t) % n
theorem fidx_lt {n t i : Nat} (h : i < n) : fidx n t i < n := Nat.mod_lt _ (by omega)
theorem fidx_fidx {n t k : Nat} (h : k < n) : fidx n t (fidx n t k) = k := by
  unfold fidx
  have h1 := Nat.div_add_mod (n - 1 - k + t) n
  have h2 := Nat.mod_lt (n - 1 - k + t) (show 0 < n by omega)
  obtain ⟨Q, hQ⟩ : ∃ Q, Q = (n - 1 - k + t) / n := ⟨_, rfl⟩
  obtain ⟨r, hr⟩ : ∃ r, r = (n - 1 - k + t) % n := ⟨_, rfl⟩
  rw [← hQ, ← hr] at h1
  rw [← hr] at h2 ⊢
  obtain ⟨M, hM⟩ : ∃ M, M = n * Q := ⟨_, rfl⟩
  have h3 : n - 1 - r + t = n * Q + k := by rw [← hM] at h1 ⊢; omega
  rw [h3, Nat.mul_add_mod, Nat.mod_eq_of_lt h]
theorem fidx_inj {n t i j : Nat} (hi : i < n) (hj : j < n) (h : fidx n t i = fidx n t j) : i = j := by
  rw [← fidx_fidx (t := t) hi, h, fidx_fidx hj]
/-- No two of one number. -/
def Dis (os : List Vn) : Prop := ∀ i j, i < j → j < os.length → (os.getD i Vn.zero).num ≠ (os.getD j Vn.zero).num
theorem dis_snoc {os : List Vn} {v : Vn} (h : Dis os) (hv : ∀ y ∈ os, y.num ≠ v.num) : Dis (os ++ [v]) := by
  intro i j hij hj
  have hg : ∀ k, k < os.length → (os ++ [v]).getD k Vn.zero = os.getD k Vn.zero := fun k hk => by simp [List.getD, List.getElem?_append_left hk]
  simp only [List.length_append, List.length_singleton] at hj
  by_cases hjl : j < os.length
  · rw [hg i (by omega), hg j hjl]
    exact h i j hij hjl
  · obtain rfl : j = os.length := by omega
    rw [hg i hij]
    have e : (os ++ [v]).getD os.length Vn.zero = v := by simp [List.getD]
    rw [e]
    exact hv _ (vgetD_mem os i hij)
theorem dis_eq {os : List Vn} (h : Dis os) {i j : Nat} (hi : i < os.length) (hj : j < os.length) (e : (os.getD i Vn.zero).num = (os.getD j Vn.zero).num) : i = j := by
  rcases Nat.lt_trichotomy i j with h1 | h1 | h1
  · exact absurd e (h i j h1 hj)
  · exact h1
  · exact absurd e.symm (h j i h1 hi)
theorem upTo_mem {xs : List Vn} (h : Ris xs) {v : Vn} (hv : v ∈ xs) {d : Nat} (hd : UpTo xs v.num d) : 0 < d ∧ atV xs d = v := by
  obtain ⟨j, hj, e⟩ := mem_get hv
  have hU : UpTo xs v.num (j + 1) := by
    refine ⟨hj, fun i hi => ?_, fun i h1 h2 => ?_⟩
    · by_cases hij : i = j
      · rw [hij, e]; exact Int.le_refl _
      · have := ris_get h (show i < j by omega) hj
        rw [e] at this
        omega
    · have := ris_get h (show j < i by omega) h2
      rw [e] at this
      exact this
  obtain rfl := hd.one hU
  exact ⟨by omega, by unfold atV; rw [if_neg (by omega)]; exact e⟩
end Go.Proofs.YtdojhkgnnbdfkaaGreat

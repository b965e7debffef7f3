/- Texts of this claim laid together, one behind the other: contracts and plain lemmas; conditions as each names them. -/
import Derived.Test.YtembflnhhfliaaaGreatDoorGp6
import Derived.Maps.RangeWalk
import Derived.Sort.KeysCollected
/- One more version behind a row of one's own whose spare room may be cut off; Dump. Conditions as each names them. -/
namespace Go.Proofs.YtembflnhhfliaaaGreatDoor
open Go.ChangeShapes Go.WideShapes Go.ChangeAt Go.RowKit Go.Lib
set_option linter.unusedVariables false
set_option linter.unusedSimpArgs false
theorem run_appCut (w0 w : World) (ty : TypeId) (ro : Option Addr) (N rc : Nat) (qs : List Vn) (hO : VOut w0 w ro N rc qs) (ad : Addr) (c : Nat) (x : Vn) (hnews : ∀ j u, (vnC x)[j]? = some u → w.cell? (ad.add j) = some u)
    (hb : N < 2199023255552) (hs : w0.heap.size ≤ w.heap.size) :
    ∃ ro' rc' w', (Builtin.append_ #[132, 132] ty #[.slice ro N rc, .slice (some ad) 1 c]).run Tryz.prog w = .ok (.slice ro' (N + 1) rc') w' ∧ VOut w0 w' ro' (N + 1) rc' (qs ++ [x]) ∧ Fr (Value.slice ro N rc).ownBlock.toList w w' := by
  obtain ⟨i0, hi, hz0, hz1, hz2⟩ := infoVn_parts
  obtain ⟨rf, hrf, hown⟩ := hO.own
  have hlen : N + 1 = (qs ++ [x]).length := by rw [List.length_append, ← hO.len]; rfl
  have hcells : vnsC (qs ++ [x]) = vnsC qs ++ vnC x := by rw [vnsC_append]; simp [vnsC]
  have h1c : ∀ u ∈ vnC x, u.oneCell' = true := by
    intro u hu
    simp only [vnC, List.mem_cons, List.not_mem_nil, or_false] at hu
    rcases hu with rfl | rfl | rfl <;> rfl
  have hmx : N + 1 ≤ maxLen := by unfold maxLen; omega
  obtain ⟨v', w', hr, h2, h3, h4⟩ := run_append_own (P := Tryz.prog) w w0.heap.size 132 ty 136 i0 _ 3 32 Tryz.undVns' hi hz0 hz1 hz2 rfl (by decide) (.slice ro N rf) N (vnsC qs) hown ad 1 c (vnC x) rfl hnews h1c hmx (by omega) hs
  rcases hown.2 with ⟨hv, hn⟩ | ⟨g, cap, cur, hv, hbg, hg, hnc, hcm, hcs, htake⟩
  · cases hv
    obtain rfl : rc = 0 := by omega
    obtain ⟨ro', rc', rfl⟩ := own_shapeV h2
    exact ⟨ro', rc', w', hr, ⟨⟨rc', Nat.le_refl _, by rw [hcells]; exact h2⟩, hlen, own_cap h2⟩, Fr.grown h3 (fun y hy _ => by simp [Value.ownBlock] at hy)⟩
  · cases hv
    by_cases hroom : N + 1 ≤ rc
    · have hfit : N * i0.size + (vnC x).length ≤ cur.size := by rw [hz1, hcs]; simp only [vnC, List.length_cons, List.length_nil]; omega
      have hA := run_append_room (P := Tryz.prog) w 132 ty 136 i0 Tryz.undVns' hi g N rc cur hg ad 1 c (vnC x) (by rw [hz1]; rfl) hnews h1c hroom hfit
      have hB := run_append_room (P := Tryz.prog) w 132 ty 136 i0 Tryz.undVns' hi g N rf cur hg ad 1 c (vnC x) (by rw [hz1]; rfl) hnews h1c (by omega) hfit
      rw [hr] at hB
      injection hB with e1 e2
      rw [e1, e2] at h2
      refine ⟨_, _, _, hA, ⟨⟨rf, hrf, by rw [hcells]; exact h2⟩, hlen, hroom⟩, ?_⟩
      rw [e2] at h3
      exact Fr.grown h3 (fun y hy _ => by simpa [Value.ownBlock] using hy.symm)
    · have holds : ∀ j u, (vnsC qs)[j]? = some u → w.cell? ((⟨g, 0, none⟩ : Addr).add j) = some u := hown.cells (g := g) rfl
      have hA := run_append_grow (P := Tryz.prog) w 132 ty 136 i0 _ Tryz.undVns' hi hz0 ⟨g, 0, none⟩ N rc (vnsC qs) (by rw [hz1]; exact hown.1) holds ad 1 c (vnC x) (by rw [hz1]; rfl) hnews (by omega) (by omega) (by rw [hz2]; exact growslice_fits (by omega) (by omega))
      have hGn : N + 1 ≤ grownCap w (N + 1) rc 136 := grownCap_ge w _ _ _
      have hGm := grownCap_le_maxLen w (N + 1) rc 136 hmx
      refine ⟨_, _, _, hA, VOut.of ?_ hlen, (Fr.drew _ _).then (Fr.alloc _ _ _)⟩
      rw [hcells]
      refine ⟨by rw [← hcells, vnsC_length, ← hlen], .inr ⟨w.heap.size, _, _, rfl, hs, heap_alloc_new w.drew _, hGn, hGm, ?_, ?_⟩⟩
      · have e1 : (vnsC qs).length = N * 3 := hown.1
        simp only [Array.size_append, size_zeroCells, Value.cells, List.size_toArray, e1, vnC, List.length_cons, List.length_nil]
        omega
      · have e1 : (vnsC qs ++ vnC x).length = (N + 1) * 3 := by rw [← hcells, vnsC_length, ← hlen]
        rw [Array.toList_append, Array.toList_append, List.take_append_of_le_length (by simp only [List.length_append] at e1 ⊢; omega), List.take_of_length_le (by simp only [List.length_append] at e1 ⊢; omega)]
theorem wpList_appCut (w0 w : World) {ops : Array Oper} {rest : List Oper} {o : Oper} {a : Act} {Q : Exit → Act → World → Prop} (hgd : o.guard = none) (s x : Operand)
    (ho : o.op = .call { callee := .builtin .append, args := #[s, x], argTypes := #[132, 132] })
    (ro : Option Addr) (N rc : Nat) (qs : List Vn) (hs : a.eval s = .slice ro N rc) (hO : VOut w0 w ro N rc qs)
    (ad : Addr) (c : Nat) (v : Vn) (hx : a.eval x = .slice (some ad) 1 c) (hnews : ∀ j u, (vnC v)[j]? = some u → w.cell? (ad.add j) = some u) (hb : N < 2199023255552) (hsz : w0.heap.size ≤ w.heap.size)
    (h : ∀ ro' rc' w', VOut w0 w' ro' (N + 1) rc' (qs ++ [v]) → Fr (Value.slice ro N rc).ownBlock.toList w w' → wpList Tryz.prog ops Q rest (a.put o.dst (.slice ro' (N + 1) rc')) w') : wpList Tryz.prog ops Q (o :: rest) a w := by
  refine wpList_plain hgd fun K hK => ?_
  obtain ⟨ro', rc', w', hr, h2, h3⟩ := run_appCut w0 w o.type ro N rc qs hO ad c v hnews hb hsz
  unfold Oper.wp execOp
  simp only [ho, resolve, invoke, builtin, Sem.run_bind, Sem.run_pure, Result.andThen_ok, List.map_toArray, List.map_cons, List.map_nil, hs, hx, hr]
  exact hK _ _ (h ro' rc' w' h2 h3)
theorem VOut.blk {w0 w : World} {ro : Option Addr} {N rc : Nat} {qs : List Vn} (h : VOut w0 w ro N rc qs) : ∀ k ∈ (Value.slice ro N rc).ownBlock.toList, w0.heap.size ≤ k ∧ ∃ cur, w.heap[k]? = some (.cells cur 136 (0, 0)) := by
  intro k hk
  obtain ⟨rf, _, hown⟩ := h.own
  rcases hown.2 with ⟨hv, _⟩ | ⟨g, cap, cur, hv, hb, hg, _⟩
  · cases hv; simp [Value.ownBlock] at hk
  · cases hv
    simp [Value.ownBlock] at hk
    subst hk
    exact ⟨hb, cur, hg⟩
theorem VOut.keepS {S : List Nat} {w0 w w' : World} {ro : Option Addr} {N rc : Nat} {qs : List Vn} (h : VOut w0 w ro N rc qs) (hf : Fr S w w') (hn : ∀ k ∈ (Value.slice ro N rc).ownBlock.toList, k ∉ S) : VOut w0 w' ro N rc qs := by
  obtain ⟨rf, hr, hown⟩ := h.own
  refine ⟨⟨rf, hr, hown.1, ?_⟩, h.len, h.cap⟩
  rcases hown.2 with hh | ⟨g, cap, cur, hv, hb, hg, rest⟩
  · exact .inl hh
  · cases hv
    exact .inr ⟨g, rf, cur, rfl, hb, hf.keep hg (hn g (by simp [Value.ownBlock])), rest⟩
/-- The newest at the mark, if it has a value. -/
def headD (vs : List Vn) (d : Nat) : List Vn := if 0 < d ∧ (vs.getD (d - 1) Vn.zero).drop = false then [vs.getD (d - 1) Vn.zero] else []
/-- What Dump tells. -/
def DuTold (vs : List Vn) (k : Int) (ns : List Int) (us : List Vn) (c : Nat) : Prop := (c = 1 ∧ ¬ okV vs ∧ us = []) ∨ (c = 0 ∧ okV vs ∧ ∃ d, UpTo vs k d ∧ us = headD vs d ++ (vs.drop d).filter fun v => decide (v.num ∈ ns))
theorem filt_snoc (vs : List Vn) (ns : List Int) (i : Nat) (hi : i < vs.length) : (vs.take (i + 1)).filter (fun v => decide (v.num ∈ ns)) = (vs.take i).filter (fun v => decide (v.num ∈ ns)) ++ if (vs.getD i Vn.zero).num ∈ ns then [vs.getD i Vn.zero] else [] := by
  rw [vtake_snoc vs i hi, List.filter_append]
  congr 1
  by_cases h : (vs.getD i Vn.zero).num ∈ ns
  · rw [if_pos h, List.filter_cons_of_pos (by simpa using h)]; rfl
  · rw [if_neg h, List.filter_cons_of_neg (by simpa using h)]; rfl
theorem dump_len (vs : List Vn) (ns : List Int) (d : Nat) (i : Nat) : (headD vs d ++ ((vs.drop d).take i).filter fun v => decide (v.num ∈ ns)).length ≤ 1 + i := by
  have h1 : (headD vs d).length ≤ 1 := by unfold headD; split <;> simp
  have h2 := List.length_filter_le (fun v => decide (v.num ∈ ns)) ((vs.drop d).take i)
  rw [List.length_append]
  simp only [List.length_take] at h2
  omega
/-- What Dump's loop keeps. -/
structure DI (w wr : World) (ro : Option Addr) (N rc g m : Nat) (vs : List Vn) (d : Nat) (ns : List Int) (i : Nat) : Prop where
  fr : Fr [] w wr
  kept : VOut w wr ro N rc (headD vs d ++ ((vs.drop d).take i).filter fun v => decide (v.num ∈ ns))
  bools : BRow wr g m (mkB (vs.drop d) ns)
end Go.Proofs.YtembflnhhfliaaaGreatDoor
/- What puts make of a list, in whatever order. Plain lemmas. -/
namespace Go.Proofs.YtembflnhhfliaaaGreatDoor
set_option linter.unusedVariables false
theorem mem_get {vs : List Vn} {y : Vn} (h : y ∈ vs) : ∃ j, j < vs.length ∧ vs.getD j Vn.zero = y := by
  obtain ⟨j, hj, e⟩ := List.mem_iff_getElem.1 h
  exact ⟨j, hj, by simp [List.getD, hj, e]⟩
theorem there_iff {vs : List Vn} {v : Vn} {d : Nat} (hR : Ris vs) (hU : UpTo vs v.num d) : There vs v d ↔ ∃ y ∈ vs, y.num = v.num := by
  constructor
  · rintro ⟨h0, h1⟩
    exact ⟨_, vgetD_mem vs (d - 1) (by have := hU.le; omega), h1⟩
  · rintro ⟨y, hy, e⟩
    obtain ⟨j, hj, rfl⟩ := mem_get hy
    have hjd : j < d := by
      by_cases h : j < d
      · exact h
      · have := hU.hi j (by omega) hj; omega
    refine ⟨by omega, ?_⟩
    by_cases hjd1 : j = d - 1
    · rw [← hjd1]; exact e
    · have h1 := ris_get hR (show j < d - 1 by omega) (by have := hU.le; omega)
      have h2 := hU.lo (d - 1) (by omega)
      omega
theorem mem_ins {vs : List Vn} {v : Vn} {d : Nat} (x : Vn) : x ∈ vs.take d ++ [v] ++ vs.drop d ↔ x = v ∨ x ∈ vs := by
  have e : vs = vs.take d ++ vs.drop d := (List.take_append_drop d vs).symm
  have : x ∈ vs ↔ x ∈ vs.take d ∨ x ∈ vs.drop d := by
    constructor
    · intro h; rw [e] at h; exact List.mem_append.1 h
    · intro h; rw [e]; exact List.mem_append.2 h
  rw [this]
  simp only [List.mem_append, List.mem_singleton]
  constructor
  · rintro ((h | h) | h)
    · exact Or.inr (Or.inl h)
    · exact Or.inl h
    · exact Or.inr (Or.inr h)
  · rintro (h | h | h)
    · exact Or.inl (Or.inr h)
    · exact Or.inl (Or.inl h)
    · exact Or.inr h
theorem len_ins {vs : List Vn} {v : Vn} {d : Nat} (hd : d ≤ vs.length) : (vs.take d ++ [v] ++ vs.drop d).length = vs.length + 1 := by
  simp only [List.length_append, List.length_take, List.length_drop, List.length_singleton]
  omega
theorem okV_ins {vs : List Vn} {v : Vn} {d : Nat} (h : okV vs) (hv : okX v) (hU : UpTo vs v.num d) (hT : ¬ There vs v d) : okV (vs.take d ++ [v] ++ vs.drop d) := by
  refine ⟨fun x hx => ?_, ?_⟩
  · rcases (mem_ins x).1 hx with rfl | hx
    · exact hv
    · exact h.1 x hx
  · have hlo : ∀ x ∈ vs.take d, x.num < v.num := by
      intro x hx
      obtain ⟨j, hj, e⟩ := mem_get hx
      have hj2 : j < d ∧ j < vs.length := by simp at hj; omega
      have e2 : (vs.take d).getD j Vn.zero = vs.getD j Vn.zero := by simp [List.getD, List.getElem?_take_of_lt hj2.1]
      rw [e2] at e
      have h1 := hU.lo j hj2.1
      rw [e] at h1
      by_cases h2 : x.num = v.num
      · exact absurd ((there_iff h.2 hU).2 ⟨x, List.mem_of_mem_take hx, h2⟩) hT
      · omega
    have hhi : ∀ x ∈ vs.drop d, v.num < x.num := by
      intro x hx
      obtain ⟨j, hj, e⟩ := mem_get hx
      rw [getD_drop] at e
      have := hU.hi (d + j) (by omega) (by simp at hj; omega)
      rw [e] at this
      exact this
    have hs : Ris vs := h.2
    unfold Ris at hs ⊢
    rw [List.append_assoc, List.pairwise_append]
    refine ⟨hs.sublist (List.take_sublist _ _), ?_, ?_⟩
    · rw [List.singleton_append, List.pairwise_cons]
      exact ⟨hhi, hs.sublist (List.drop_sublist _ _)⟩
    · intro a ha b hb
      rw [List.singleton_append, List.mem_cons] at hb
      rcases hb with rfl | hb
      · exact hlo a ha
      · have := hlo a ha; have := hhi b hb; omega
/-- Rising lists with the same members are one. -/
theorem ris_unique : ∀ (a b : List Vn), Ris a → Ris b → (∀ v, v ∈ a ↔ v ∈ b) → a = b
  | [], [], _, _, _ => rfl
  | [], y :: b, _, _, h => by have := (h y).2 (by simp); simp at this
  | x :: a, [], _, _, h => by have := (h x).1 (by simp); simp at this
  | x :: a, y :: b, ha, hb, h => by
    have ha' := List.pairwise_cons.1 ha
    have hb' := List.pairwise_cons.1 hb
    have exy : x = y := by
      have h1 : x ∈ y :: b := (h x).1 (by simp)
      have h2 : y ∈ x :: a := (h y).2 (by simp)
      rcases List.mem_cons.1 h1 with h1 | h1
      · exact h1
      · rcases List.mem_cons.1 h2 with h2 | h2
        · exact h2.symm
        · have := ha'.1 y h2; have := hb'.1 x h1; omega
    subst exy
    have : a = b := by
      refine ris_unique a b ha'.2 hb'.2 fun v => ⟨fun hv => ?_, fun hv => ?_⟩
      · rcases List.mem_cons.1 ((h v).1 (List.mem_cons_of_mem _ hv)) with e | e
        · have := ha'.1 v hv; rw [e] at this; omega
        · exact e
      · rcases List.mem_cons.1 ((h v).2 (List.mem_cons_of_mem _ hv)) with e | e
        · have := hb'.1 v hv; rw [e] at this; omega
        · exact e
    rw [this]
/-- The turned row's places. -/
def fidx (n t i : Nat) : Nat := (n - 1 - i + t) % n
theorem fidx_lt {n t i : Nat} (h : i < n) : fidx n t i < n := Nat.mod_lt _ (by omega)
theorem fidx_fidx {n t k : Nat} (h : k < n) : fidx n t (fidx n t k) = k := by
  unfold fidx
  have h1 := Nat.div_add_mod (n - 1 - k + t) n
  have h2 := Nat.mod_lt (n - 1 - k + t) (show 0 < n by omega)
  obtain ⟨Q, hQ⟩ : ∃ Q, Q = (n - 1 - k + t) / n := ⟨_, rfl⟩
  obtain ⟨r, hr⟩ : ∃ r, r = (n - 1 - k + t) % n := ⟨_, rfl⟩
  rw [← hQ, ← hr] at h1
  rw [← hr] at h2 ⊢
  obtain ⟨M, hM⟩ : ∃ M, M = n * Q := ⟨_, rfl⟩
  have h3 : n - 1 - r + t = n * Q + k := by rw [← hM] at h1 ⊢; omega
  rw [h3, Nat.mul_add_mod, Nat.mod_eq_of_lt h]
theorem fidx_inj {n t i j : Nat} (hi : i < n) (hj : j < n) (h : fidx n t i = fidx n t j) : i = j := by
  rw [← fidx_fidx (t := t) hi, h, fidx_fidx hj]
/-- No two of one number. -/
def Dis (os : List Vn) : Prop := ∀ i j, i < j → j < os.length → (os.getD i Vn.zero).num ≠ (os.getD j Vn.zero).num
theorem dis_snoc {os : List Vn} {v : Vn} (h : Dis os) (hv : ∀ y ∈ os, y.num ≠ v.num) : Dis (os ++ [v]) := by
  intro i j hij hj
  have hg : ∀ k, k < os.length → (os ++ [v]).getD k Vn.zero = os.getD k Vn.zero := fun k hk => by simp [List.getD, List.getElem?_append_left hk]
  simp only [List.length_append, List.length_singleton] at hj
  by_cases hjl : j < os.length
  · rw [hg i (by omega), hg j hjl]
    exact h i j hij hjl
  · obtain rfl : j = os.length := by omega
    rw [hg i hij]
    have e : (os ++ [v]).getD os.length Vn.zero = v := by simp [List.getD]
    rw [e]
    exact hv _ (vgetD_mem os i hij)
theorem dis_eq {os : List Vn} (h : Dis os) {i j : Nat} (hi : i < os.length) (hj : j < os.length) (e : (os.getD i Vn.zero).num = (os.getD j Vn.zero).num) : i = j := by
  rcases Nat.lt_trichotomy i j with h1 | h1 | h1
  · exact absurd e (h i j h1 hj)
  · exact h1
  · exact absurd e.symm (h j i h1 hi)
theorem upTo_mem {xs : List Vn} (h : Ris xs) {v : Vn} (hv : v ∈ xs) {d : Nat} (hd : UpTo xs v.num d) : 0 < d ∧ atV xs d = v := by
  obtain ⟨j, hj, e⟩ := mem_get hv
  have hU : UpTo xs v.num (j + 1) := by
    refine ⟨hj, fun i hi => ?_, fun i h1 h2 => ?_⟩
    · by_cases hij : i = j
      · rw [hij, e]; exact Int.le_refl _
      · have := ris_get h (show i < j by omega) hj
        rw [e] at this
        omega
    · have := ris_get h (show j < i by omega) h2
      rw [e] at this
      exact this
  obtain rfl := hd.one hU
  exact ⟨by omega, by unfold atV; rw [if_neg (by omega)]; exact e⟩
end Go.Proofs.YtembflnhhfliaaaGreatDoor
/- A map of keys to rows of versions, as a function; a shard in memory, and which blocks are its own. Conditions as each names them. -/
namespace Go.Proofs.YtembflnhhfliaaaGreatDoor
open Go.ChangeShapes Go.WideShapes Go.ChangeAt Go.RowKit Go.Lib Go.Maps
set_option linter.unusedVariables false
set_option linter.unusedSimpArgs false

theorem Tryz.undVMap : Tryz.prog.underlying 237 = some (.map 9 132) := by kernel_rfl
theorem Tryz.keyedStr : Keyed Tryz.prog 9 := string_keyed Tryz.undStr
theorem Tryz.zeroVns (w : World) : (zeroValue 132).run Tryz.prog w = .ok (.slice none 0 0) w := by kernel_rfl
theorem keyOf_str7 (s : ByteArray) (hs : s.size ≤ maxLen) : keyOf Tryz.prog 9 (.string s) = some (kl7 s) := Go.WideMaps.keyOf_string_mk Tryz.undStr hs
/-- How a row's slice reads. -/
abbrev Sl3 := Option (Nat × Nat × Nat)
def slV : Sl3 → Value
  | none => .slice none 0 0
  | some (g, L, c) => .slice (some ⟨g, 0, none⟩) L c
def slD : Sl3 → DataW Unit
  | none => .agg []
  | some (g, L, c) => .agg [.lit (.int .i64 g), .lit (.int .i64 L), .lit (.int .i64 c)]
def slElem (v : Value) : Option (DataW Unit × List MemPlace) :=
  match v with
  | .slice none 0 0 => some (slD none, [])
  | .slice (some ⟨g, 0, none⟩) L c => some (slD (some (g, L, c)), [])
  | _ => none
theorem slElem_mk (s : Sl3) : slElem (slV s) = some (slD s, []) := by
  rcases s with _ | ⟨g, L, c⟩ <;> rfl
theorem slElem_inv {v : Value} {y : DataW Unit × List MemPlace} (h : slElem v = some y) : ∃ s, v = slV s ∧ y = (slD s, []) := by
  unfold slElem at h
  split at h
  · simp only [Option.some.injEq] at h
    exact ⟨none, rfl, h.symm⟩
  · rename_i g L c
    simp only [Option.some.injEq] at h
    exact ⟨some (g, L, c), rfl, h.symm⟩
  · cases h
theorem slD_inj {s t : Sl3} (h : slD s = slD t) : s = t := by
  rcases s with _ | ⟨g, L, c⟩ <;> rcases t with _ | ⟨g', L', c'⟩
  · rfl
  · simp [slD] at h
  · simp [slD] at h
  · simp [slD] at h
    obtain ⟨h1, h2, h3⟩ := h
    have e1 : g = g' := by omega
    have e2 : L = L' := by omega
    have e3 : c = c' := by omega
    rw [e1, e2, e3]
/-- Block b is a map of at most n entries that says at each key what G says. -/
def MapV (w : World) (b n : Nat) (G : ByteArray → Sl3) : Prop :=
  ∃ D : DataW Unit, w.ownsMap Tryz.prog 9 slElem b n D ∧ (∀ s, has D (kl7 s) = (G s).isSome) ∧ ∀ s, (G s).isSome = true → ∀ z, D.atKey (kl7 s) z = slD (G s)
theorem MapV.lt {w : World} {b n : Nat} {G : ByteArray → Sl3} (h : MapV w b n G) : b < w.heap.size := by
  obtain ⟨D, hD, _⟩ := h
  exact hD.lt
theorem MapV.block {w : World} {b n : Nat} {G : ByteArray → Sl3} (h : MapV w b n G) : ∃ es c, w.heap[b]? = some (.map es c) := by
  obtain ⟨D, ⟨es, clock, hb, hr⟩, h2⟩ := h
  exact ⟨es, clock, hb⟩
theorem MapV.keep {S : List Nat} {w w' : World} {b n : Nat} {G : ByteArray → Sl3} (h : MapV w b n G) (hf : Fr S w w') (hn : b ∉ S) : MapV w' b n G := by
  have hlt := h.lt
  obtain ⟨D, ⟨es, clock, hb, hr⟩, h2⟩ := h
  exact ⟨D, ⟨es, clock, (hf.block b hlt hn).trans hb, hr⟩, h2⟩
theorem MapV.mono {w : World} {b n m : Nat} {G : ByteArray → Sl3} (h : MapV w b n G) (hn : n ≤ m) : MapV w b m G := by
  obtain ⟨D, hD, h2⟩ := h
  exact ⟨D, hD.mono hn, h2⟩
theorem MapV.made (w : World) : MapV (w.alloc (.map #[] 0)) w.heap.size 0 (fun _ => none) :=
  ⟨.map [], World.ownsMap_made w _ _ _, fun s => rfl, fun s h => by cases h⟩
theorem MapV.look {w : World} {b n : Nat} {G : ByteArray → Sl3} (h : MapV w b n G) (key : ByteArray) (hs : key.size ≤ maxLen) :
    (Instr.lookup 237 (.map (some b)) (.string key) false).run Tryz.prog w = .ok (slV (G key)) w := by
  obtain ⟨D, hD, hH, hA⟩ := h
  have hk := keyOf_str7 key hs
  obtain ⟨v, ps, hrun, hv⟩ := hD.lookup Tryz.keyedStr Tryz.undVMap (Tryz.zeroVns _) (slElem_mk none) hk
  rw [hrun]
  obtain ⟨s, rfl, e⟩ := slElem_inv hv
  simp only [Prod.mk.injEq] at e
  cases hG : G key with
  | some x =>
    rw [hA key (by rw [hG]; rfl), hG] at e
    rw [slD_inj e.1]
  | none =>
    have hh : has D (kl7 key) = false := by rw [hH key, hG]; rfl
    rw [atKey_of_not_has hh] at e
    rw [slD_inj e.1]
def updG (G : ByteArray → Sl3) (key : ByteArray) (s : Nat × Nat × Nat) : ByteArray → Sl3 := fun k => if k = key then some s else G k
theorem MapV.store {w : World} {b n : Nat} {G : ByteArray → Sl3} (h : MapV w b n G) (key : ByteArray) (s : Nat × Nat × Nat) (hs : key.size ≤ maxLen) (hn : n < maxLen) :
    ∃ w', (Instr.mapUpdate 237 (.map (some b)) (.string key) (slV (some s))).run Tryz.prog w = .ok () w' ∧ MapV w' b (n + 1) (updG G key s) ∧ Fr [b] w w' := by
  obtain ⟨D, hD, hH, hA⟩ := h
  have hk := keyOf_str7 key hs
  have hI := hD.isMap
  obtain ⟨w', hrun, hO, hg⟩ := hD.update Tryz.keyedStr Tryz.undVMap hn hk (slElem_mk (some s))
  refine ⟨w', hrun, ⟨_, hO, ?_, ?_⟩, Fr.grown hg (by intro k hk _; cases hk; simp)⟩
  · intro t
    unfold updG
    by_cases he : t = key
    · subst he
      rw [if_pos rfl, has_put_same hI (Tryz.keyedStr.key hk)]
      rfl
    · rw [if_neg he, has_put_other (fun e => he (kl7_inj e)), hH t]
  · intro t ht z
    unfold updG at ht ⊢
    by_cases he : t = key
    · subst he
      rw [if_pos rfl]
      exact atKey_put_same hI (Tryz.keyedStr.key hk) _ _
    · rw [if_neg he] at ht ⊢
      rw [atKey_put_other (fun e => he (kl7_inj e))]
      exact hA t ht z
/-- May a key be? -/
def okK9 (k : ByteArray) : Prop := 1 ≤ k.size ∧ k.size ≤ 64
/-- A shard: its struct lies in block sb, its map in block b, of at most n keys; each key's versions lie in a row of their own, made since w0. -/
structure Sh (w0 w : World) (sb b n : Nat) (M : ByteArray → List Vn) : Prop where
  box : w.heap[sb]? = some (.cells #[.map (some b)] 241 (0, 0))
  sbn : w0.heap.size ≤ sb
  bn : w0.heap.size ≤ b
  ok : ∀ k, okV (M k)
  map : ∃ G, MapV w b n G ∧ (∀ k, G k = none → M k = []) ∧ (∀ k g L c, G k = some (g, L, c) → VOut w0 w (some ⟨g, 0, none⟩) L c (M k) ∧ 0 < L ∧ okK9 k) ∧ (∀ k k' g L c L' c', G k = some (g, L, c) → G k' = some (g, L', c') → k = k')
theorem slV_inj {s t : Sl3} (h : slV s = slV t) : s = t := by
  rcases s with _ | ⟨g, L, c⟩ <;> rcases t with _ | ⟨g', L', c'⟩
  · rfl
  · simp [slV] at h
  · simp [slV] at h
  · simp [slV] at h
    obtain ⟨h1, h2, h3⟩ := h
    rw [h1, h2, h3]
/-- A map says one thing at a key. -/
theorem MapV.one {w : World} {b n m : Nat} {G G' : ByteArray → Sl3} (h : MapV w b n G) (h' : MapV w b m G') (k : ByteArray) (hk : k.size ≤ maxLen) : G k = G' k := by
  have e1 := h.look k hk
  have e2 := h'.look k hk
  rw [e1] at e2
  simp only [Result.ok.injEq, and_true] at e2
  exact slV_inj e2
/-- Block j is a row of the map in block b. -/
def RowOf (w : World) (b j : Nat) : Prop := ∃ G n k L c, MapV w b n G ∧ k.size ≤ maxLen ∧ G k = some (j, L, c)
theorem RowOf.back {S : List Nat} {w w' : World} {b j : Nat} (h : RowOf w' b j) (hf : Fr S w w') (hb : b ∉ S) (hlt : b < w.heap.size) : RowOf w b j := by
  obtain ⟨G, n, k, L, c, ⟨D, ⟨es, clock, hb', hr⟩, h2⟩, hk, hG⟩ := h
  exact ⟨G, n, k, L, c, ⟨D, ⟨es, clock, (hf.block b hlt hb).symm.trans hb', hr⟩, h2⟩, hk, hG⟩
/-- The blocks that are a shard's own. -/
def Mine (w0 w : World) (b j : Nat) : Prop := j = b ∨ ((w0.heap.size ≤ j ∧ ∃ cur, w.heap[j]? = some (.cells cur 136 (0, 0))) ∧ RowOf w b j)
/-- Only a shard's own blocks, and new ones, may differ; what becomes its own is new. -/
def FrS (w0 : World) (b : Nat) (w w' : World) : Prop := ∃ S, Fr S w w' ∧ (b < w.heap.size → (∀ j ∈ S, j < w.heap.size → Mine w0 w b j) ∧ ∀ j, RowOf w' b j → RowOf w b j ∨ w.heap.size ≤ j)
theorem FrS.of {w0 : World} {b : Nat} {w w' : World} (h : Fr [] w w') : FrS w0 b w w' := ⟨[], h, fun hb => ⟨by simp, fun j hr => Or.inl (hr.back h (by simp) hb)⟩⟩
theorem FrS.size {w0 : World} {b : Nat} {w w' : World} (h : FrS w0 b w w') : w.heap.size ≤ w'.heap.size := by
  obtain ⟨S, h, _⟩ := h
  exact h.size
theorem FrS.then {w0 : World} {b : Nat} {w w1 w2 : World} (h : FrS w0 b w w1) (k : FrS w0 b w1 w2) : FrS w0 b w w2 := by
  obtain ⟨S, hS, hm⟩ := h
  obtain ⟨T, hT, kn⟩ := k
  refine ⟨S ++ T, hS.trans hT (fun x hx _ => List.mem_append_left _ hx) (fun x hx _ => List.mem_append_right _ hx), fun hb => ?_⟩
  obtain ⟨m1, m2⟩ := hm hb
  obtain ⟨k1, k2⟩ := kn (Nat.lt_of_lt_of_le hb hS.size)
  refine ⟨fun j hj hlt => ?_, fun j hr => ?_⟩
  · rcases List.mem_append.1 hj with h1 | h1
    · exact m1 j h1 hlt
    · by_cases hjS : j ∈ S
      · exact m1 j hjS hlt
      · rcases k1 j h1 (Nat.lt_of_lt_of_le hlt hS.size) with e | ⟨⟨e1, cur, e2⟩, e3⟩
        · exact Or.inl e
        · rcases m2 j e3 with e4 | e4
          · exact Or.inr ⟨⟨e1, cur, by rw [← hS.block j hlt hjS]; exact e2⟩, e4⟩
          · omega
  · rcases k2 j hr with h1 | h1
    · exact m2 j h1
    · exact Or.inr (Nat.le_trans hS.size h1)
/-- What is no row of the map, and not the map, stays. -/
theorem FrS.apart {w0 : World} {b : Nat} {w w' : World} (h : FrS w0 b w w') (hb : b < w.heap.size) {j : Nat} {o : Obj} (hj : w.heap[j]? = some o) (hjb : j ≠ b) (hr : ¬ RowOf w b j) : w'.heap[j]? = some o := by
  obtain ⟨S, hS, hm⟩ := h
  have hlt : j < w.heap.size := by
    rcases Nat.lt_or_ge j w.heap.size with h1 | h1
    · exact h1
    · rw [Array.getElem?_eq_none h1] at hj; cases hj
  rw [← hj]
  refine hS.block j hlt (fun hjS => ?_)
  rcases (hm hb).1 j hjS hlt with e | e
  · exact hjb e
  · exact hr e.2
theorem FrS.rows {w0 : World} {b : Nat} {w w' : World} (h : FrS w0 b w w') (hb : b < w.heap.size) {j : Nat} (hr : RowOf w' b j) : RowOf w b j ∨ w.heap.size ≤ j := by
  obtain ⟨S, hS, hm⟩ := h
  exact (hm hb).2 j hr
/-- A block of another type, or an elder one, stays. -/
theorem FrS.keep {w0 : World} {b : Nat} {w w' : World} (h : FrS w0 b w w') {j : Nat} {cs : Array Value} {t : TypeId} {fr : Nat × Nat} (hj : w.heap[j]? = some (.cells cs t fr)) (hb : ∃ es c, w.heap[b]? = some (.map es c)) (ht : t ≠ 136) : w'.heap[j]? = some (.cells cs t fr) := by
  obtain ⟨S, hS, hm⟩ := h
  have hbl : b < w.heap.size := by
    obtain ⟨es, c, hb⟩ := hb
    rcases Nat.lt_or_ge b w.heap.size with h1 | h1
    · exact h1
    · rw [Array.getElem?_eq_none h1] at hb; cases hb
  refine hS.keep hj (fun hjS => ?_)
  rcases (hm hbl).1 j hjS (lt_of_block hj) with e | ⟨⟨e1, cur, e2⟩, _⟩
  · obtain ⟨es, c, hb⟩ := hb
    rw [← e, hj] at hb
    cases hb
  · rw [hj] at e2
    simp only [Option.some.injEq, Obj.cells.injEq] at e2
    exact ht e2.2.1
theorem FrS.below {w0 : World} {b : Nat} {w w' : World} (h : FrS w0 b w w') (hb : w0.heap.size ≤ b) (h0 : Fr [] w0 w) (hbl : b < w.heap.size) : Fr [] w0 w' := by
  obtain ⟨S, hS, hm⟩ := h
  refine h0.trans (hS.mono (T := S) (fun _ x _ => x)) (fun _ x _ => x) (fun x hx hlt => ?_)
  rcases (hm hbl).1 x hx (Nat.lt_of_lt_of_le hlt h0.size) with e | ⟨⟨e1, _⟩, _⟩ <;> omega
theorem Sh.mb {w0 w : World} {sb b n : Nat} {M : ByteArray → List Vn} (h : Sh w0 w sb b n M) : ∃ es c, w.heap[b]? = some (.map es c) := by
  obtain ⟨G, hM, _⟩ := h.map
  exact hM.block
theorem Sh.bl {w0 w : World} {sb b n : Nat} {M : ByteArray → List Vn} (h : Sh w0 w sb b n M) : b < w.heap.size := by
  obtain ⟨G, hM, _⟩ := h.map
  exact hM.lt
/-- A shard's rows lie in the heap. -/
theorem Sh.rowLt {w0 w : World} {sb b n : Nat} {M : ByteArray → List Vn} (h : Sh w0 w sb b n M) {j : Nat} (hr : RowOf w b j) : w0.heap.size ≤ j ∧ ∃ cur, w.heap[j]? = some (.cells cur 136 (0, 0)) := by
  obtain ⟨G, hM, h0, hg, hu⟩ := h.map
  obtain ⟨G', n', k, L, c, hM', hk, hG⟩ := hr
  rw [hM'.one hM k hk] at hG
  exact (hg k j L c hG).1.blk j (by simp [Value.ownBlock])
theorem Sh.keepS {S : List Nat} {w0 w w' : World} {sb b n : Nat} {M : ByteArray → List Vn} (h : Sh w0 w sb b n M) (hf : Fr S w w') (hs : sb ∉ S) (hn : ∀ j ∈ S, ¬ Mine w0 w b j) : Sh w0 w' sb b n M := by
  obtain ⟨G, hM, h0, hr, hu⟩ := h.map
  refine ⟨hf.keep h.box hs, h.sbn, h.bn, h.ok, G, hM.keep hf (fun hb => hn b hb (Or.inl rfl)), h0, fun k g L c hG => ?_, hu⟩
  obtain ⟨hV, h1, h2⟩ := hr k g L c hG
  refine ⟨hV.keepS hf (fun j hj hjS => hn j hjS (Or.inr ⟨hV.blk j hj, G, n, k, L, c, hM, (by have := h2.2; unfold maxLen; omega), by simp [Value.ownBlock] at hj; subst hj; exact hG⟩)), h1, h2⟩
theorem Sh.keep {w0 w w' : World} {sb b n : Nat} {M : ByteArray → List Vn} (h : Sh w0 w sb b n M) (hf : Fr [] w w') : Sh w0 w' sb b n M := h.keepS hf (by simp) (by simp)
theorem Sh.mono {w0 w : World} {sb b n m : Nat} {M : ByteArray → List Vn} (h : Sh w0 w sb b n M) (hn : n ≤ m) : Sh w0 w sb b m M := by
  obtain ⟨G, hM, hr⟩ := h.map
  exact ⟨h.box, h.sbn, h.bn, h.ok, G, hM.mono hn, hr⟩
/-- A key's row, as the map says it. -/
theorem Sh.look {w0 w : World} {sb b n : Nat} {M : ByteArray → List Vn} (h : Sh w0 w sb b n M) (key : ByteArray) (hs : key.size ≤ maxLen) :
    ∃ ro N rc, (Instr.lookup 237 (.map (some b)) (.string key) false).run Tryz.prog w = .ok (.slice ro N rc) w ∧ VOut w0 w ro N rc (M key) ∧ (N = 0 ∨ okK9 key) := by
  obtain ⟨G, hM, h0, hr, hu⟩ := h.map
  rw [hM.look key hs]
  cases hG : G key with
  | none =>
    refine ⟨none, 0, 0, rfl, ?_, Or.inl rfl⟩
    rw [h0 key hG]
    exact VOut.of ⟨rfl, .inl ⟨rfl, rfl⟩⟩ rfl
  | some x =>
    obtain ⟨g, L, c⟩ := x
    obtain ⟨hV, h1, h2⟩ := hr key g L c hG
    exact ⟨_, L, c, rfl, hV, Or.inr h2⟩
def updM (M : ByteArray → List Vn) (key : ByteArray) (us : List Vn) : ByteArray → List Vn := fun k => if k = key then us else M k
/-- A row of its own, laid in its place in the map: behind what was done to rows (w to w1). -/
theorem Sh.lay {w0 w w1 : World} {sb b n : Nat} {M : ByteArray → List Vn} (h : Sh w0 w sb b n M) (key : ByteArray) (hk : okK9 key) (hn : n < 9007199254740992) {ro ro' : Option Addr} {N rc N' rc' : Nat} {us : List Vn} (hlk : (Instr.lookup 237 (.map (some b)) (.string key) false).run Tryz.prog w = .ok (.slice ro N rc) w)
    (hF : Fr (Value.slice ro N rc).ownBlock.toList w w1) (hV : VOut w0 w1 ro' N' rc' us) (hnew : ∀ g, (Value.slice ro' N' rc').ownBlock = some g → (Value.slice ro N rc).ownBlock = some g ∨ w.heap.size ≤ g) (hus : okV us) (h1 : 0 < N') :
    ∃ w2, (Instr.mapUpdate 237 (.map (some b)) (.string key) (.slice ro' N' rc')).run Tryz.prog w1 = .ok () w2 ∧ Sh w0 w2 sb b (n + 1) (updM M key us) ∧ FrS w0 b w w2 ∧ Fr [b] w1 w2 ∧ Fr ((Value.slice ro N rc).ownBlock.toList ++ [b]) w w2 := by
  have hmx : 9007199254740992 ≤ maxLen := by unfold maxLen; omega
  obtain ⟨G, hM, h0, hr, hu⟩ := h.map
  have hlk2 := hM.look key (by have := hk.2; omega)
  rw [hlk] at hlk2
  simp only [Result.ok.injEq, and_true] at hlk2
  have hbk := hM.block
  have hmine : ∀ j ∈ (Value.slice ro N rc).ownBlock.toList, w0.heap.size ≤ j ∧ ∃ cur, w.heap[j]? = some (.cells cur 136 (0, 0)) := by
    intro j hj
    cases hG : G key with
    | none => rw [hG] at hlk2; rw [hlk2] at hj; simp [slV, Value.ownBlock] at hj
    | some x =>
      obtain ⟨g, L, c⟩ := x
      rw [hG] at hlk2
      rw [hlk2] at hj
      exact (hr key g L c hG).1.blk j hj
  have hbn : b ∉ (Value.slice ro N rc).ownBlock.toList := fun hj => by
    obtain ⟨_, cur, e⟩ := hmine b hj
    obtain ⟨es, c, e2⟩ := hbk
    rw [e2] at e
    cases e
  have hsbn : sb ∉ (Value.slice ro N rc).ownBlock.toList := fun hj => by
    obtain ⟨_, cur, e⟩ := hmine sb hj
    rw [h.box] at e
    simp only [Option.some.injEq, Obj.cells.injEq] at e
    exact absurd e.2.1 (by decide)
  have hM1 := hM.keep hF hbn
  obtain ⟨g', hg'⟩ : ∃ g', ro' = some ⟨g', 0, none⟩ := by
    obtain ⟨rf, _, ho⟩ := hV.own
    rcases ho.2 with ⟨_, hz⟩ | ⟨g, cap, cur, e, _⟩
    · omega
    · cases e
      exact ⟨g, rfl⟩
  subst hg'
  obtain ⟨w2, hrun, hM2, hF2⟩ := hM1.store key (g', N', rc') (by have := hk.2; omega) (by omega)
  obtain ⟨_, cur', hcur'⟩ := hV.blk g' (by simp [Value.ownBlock])
  have hg'b : g' ≠ b := fun e => by
    obtain ⟨es, c, e2⟩ := hM1.block
    rw [← e, hcur'] at e2
    cases e2
  have hsbb : sb ≠ b := fun e => by
    obtain ⟨es, c, e2⟩ := hbk
    rw [← e, h.box] at e2
    cases e2
  refine ⟨w2, hrun, ⟨hF2.keep (hF.keep h.box hsbn) (by simpa using hsbb), h.sbn, h.bn, ?_, updG G key (g', N', rc'), hM2, ?_, ?_, ?_⟩, ?_, hF2, hF.trans hF2 (fun x hx _ => List.mem_append_left _ hx) (fun x hx _ => List.mem_append_right _ hx)⟩
  · intro k
    unfold updM
    split
    · exact hus
    · exact h.ok k
  · intro k hG
    unfold updG at hG
    unfold updM
    by_cases e : k = key
    · rw [if_pos e] at hG; cases hG
    · rw [if_neg e] at hG ⊢
      exact h0 k hG
  · intro k g L c hG
    unfold updG at hG
    unfold updM
    by_cases e : k = key
    · rw [if_pos e] at hG ⊢
      simp only [Option.some.injEq, Prod.mk.injEq] at hG
      obtain ⟨rfl, rfl, rfl⟩ := hG
      exact ⟨hV.keepS hF2 (fun j hj => by simp [Value.ownBlock] at hj; subst hj; simpa using hg'b), h1, by rw [e]; exact hk⟩
    · rw [if_neg e] at hG ⊢
      obtain ⟨hV2, h2, h3⟩ := hr k g L c hG
      have hgb : g ≠ b := fun e => by
        obtain ⟨_, cur, e1⟩ := hV2.blk g (by simp [Value.ownBlock])
        obtain ⟨es, c, e2⟩ := hbk
        rw [e, e2] at e1
        cases e1
      refine ⟨(hV2.keepS hF (fun j hj hj2 => ?_)).keepS hF2 (fun j hj => by simp [Value.ownBlock] at hj; subst hj; simpa using hgb), h2, h3⟩
      simp [Value.ownBlock] at hj
      subst hj
      cases hG2 : G key with
      | none => rw [hG2] at hlk2; rw [hlk2] at hj2; simp [slV, Value.ownBlock] at hj2
      | some x =>
        obtain ⟨g2, L2, c2⟩ := x
        rw [hG2] at hlk2
        rw [hlk2] at hj2
        simp [slV, Value.ownBlock] at hj2
        subst hj2
        exact e (hu k key _ _ _ _ _ hG hG2)
  · have hfresh : ∀ k g L c, k ≠ key → G k = some (g, L, c) → g ≠ g' := by
      intro k g L c e hG e2
      subst e2
      rcases hnew g (by simp [Value.ownBlock]) with h4 | h4
      · cases hG2 : G key with
        | none => rw [hG2] at hlk2; rw [hlk2] at h4; simp [slV, Value.ownBlock] at h4
        | some x =>
          obtain ⟨g2, L2, c2⟩ := x
          rw [hG2] at hlk2
          rw [hlk2] at h4
          simp [slV, Value.ownBlock] at h4
          subst h4
          exact e (hu k key _ _ _ _ _ hG hG2)
      · obtain ⟨_, cur, e1⟩ := (hr k g L c hG).1.blk g (by simp [Value.ownBlock])
        have := lt_of_block e1
        omega
    intro k k' g L c L' c' hG hG'
    unfold updG at hG hG'
    by_cases e : k = key <;> by_cases e' : k' = key
    · rw [e, e']
    · rw [if_pos e] at hG
      rw [if_neg e'] at hG'
      simp only [Option.some.injEq, Prod.mk.injEq] at hG
      exact absurd hG.1.symm (hfresh k' g L' c' e' hG')
    · rw [if_neg e] at hG
      rw [if_pos e'] at hG'
      simp only [Option.some.injEq, Prod.mk.injEq] at hG'
      exact absurd hG'.1.symm (hfresh k g L c e hG)
    · rw [if_neg e] at hG
      rw [if_neg e'] at hG'
      exact hu k k' g L c L' c' hG hG'
  · have hrow : ∀ j ∈ (Value.slice ro N rc).ownBlock.toList, RowOf w b j := by
      intro j hj
      cases hG : G key with
      | none => rw [hG] at hlk2; rw [hlk2] at hj; simp [slV, Value.ownBlock] at hj
      | some x =>
        obtain ⟨g, L, c⟩ := x
        rw [hG] at hlk2
        rw [hlk2] at hj
        simp [slV, Value.ownBlock] at hj
        subst hj
        exact ⟨G, n, key, L, c, hM, by have := hk.2; omega, hG⟩
    refine ⟨(Value.slice ro N rc).ownBlock.toList ++ [b], hF.trans hF2 (fun x hx _ => List.mem_append_left _ hx) (fun x hx _ => List.mem_append_right _ hx), fun hbl => ⟨fun j hj hlt => ?_, fun j hj => ?_⟩⟩
    · rcases List.mem_append.1 hj with h4 | h4
      · exact Or.inr ⟨hmine j h4, hrow j h4⟩
      · exact Or.inl (by simpa using h4)
    · obtain ⟨G', n', k', L', c', hM', hk', hG'⟩ := hj
      rw [hM'.one hM2 k' hk'] at hG'
      unfold updG at hG'
      by_cases e : k' = key
      · rw [if_pos e] at hG'
        simp only [Option.some.injEq, Prod.mk.injEq] at hG'
        obtain ⟨rfl, rfl, rfl⟩ := hG'
        rcases hnew g' (by simp [Value.ownBlock]) with h4 | h4
        · exact Or.inl (hrow g' (by rw [h4]; simp))
        · exact Or.inr h4
      · rw [if_neg e] at hG'
        exact Or.inl ⟨G, n, k', L', c', hM, hk', hG'⟩
theorem Sh.made (w0 w : World) (hs : w0.heap.size ≤ w.heap.size) : Sh w0 ((w.alloc (.map #[] 0)).alloc (.cells #[.map (some w.heap.size)] 241)) (w.heap.size + 1) w.heap.size 0 (fun _ => []) := by
  have e : (w.alloc (.map #[] 0)).heap.size = w.heap.size + 1 := by simp
  refine ⟨?_, by omega, hs, fun _ => okV_nil, fun _ => none, (MapV.made w).keep (Fr.alloc [] _ _) (by simp), fun _ _ => rfl, fun k g L c h => (by cases h), fun k k' g L c L' c' h => (by cases h)⟩
  rw [← e]
  exact heap_alloc_new _ _
end Go.Proofs.YtembflnhhfliaaaGreatDoor
/- What is read of a key's versions at a mark; what an install makes; what goes in of parts: mathematics alone. -/
namespace Go.Proofs.YtembflnhhfliaaaGreatDoor
set_option linter.unusedVariables false
set_option linter.unusedSimpArgs false

/-- The newest version at a mark. -/
def vAt (vs : List Vn) (k : Int) : Option Vn := (vs.filter fun v => decide (v.num ≤ k)).getLast?
/-- The value at a mark: none, if the newest is a Drop. -/
def valOf (o : Option Vn) : Option ByteArray :=
  match o with
  | none => none
  | some x => if x.drop = true then none else some x.val
def valAt (vs : List Vn) (k : Int) : Option ByteArray := valOf (vAt vs k)
theorem filt_upTo {vs : List Vn} {k : Int} {d : Nat} (h : UpTo vs k d) : vs.filter (fun v => decide (v.num ≤ k)) = vs.take d := by
  rw [← List.take_append_drop d vs, List.filter_append]
  have hle := h.le
  have h1 : (vs.take d).filter (fun v => decide (v.num ≤ k)) = vs.take d := by
    refine List.filter_eq_self.2 fun p hp => ?_
    obtain ⟨j, hj, e⟩ := List.mem_iff_getElem.1 hp
    have hj' : j < d ∧ j < vs.length := by simp at hj; omega
    have := h.lo j hj'.1
    simp only [List.getD, List.getElem?_eq_getElem hj'.2, Option.getD_some] at this
    rw [← e]
    simpa using this
  have h2 : (vs.drop d).filter (fun v => decide (v.num ≤ k)) = [] := by
    refine List.filter_eq_nil_iff.2 fun p hp => ?_
    obtain ⟨j, hj, e⟩ := List.mem_iff_getElem.1 hp
    have hj' : d + j < vs.length := by simp at hj; omega
    have := h.hi (d + j) (by omega) hj'
    simp only [List.getD, List.getElem?_eq_getElem hj', Option.getD_some] at this
    rw [← e]
    simp
    omega
  rw [h1, h2, List.append_nil, List.take_append_drop]
theorem vAt_upTo {vs : List Vn} {k : Int} {d : Nat} (h : UpTo vs k d) : vAt vs k = if d = 0 then none else some (atV vs d) := by
  unfold vAt
  rw [filt_upTo h]
  have hle := h.le
  by_cases h0 : d = 0
  · subst h0; simp
  · rw [if_neg h0, List.getLast?_eq_getElem?]
    unfold atV
    rw [if_neg h0]
    have e : (vs.take d).length - 1 = d - 1 := by simp; omega
    have hl : d - 1 < vs.length := by omega
    rw [e, List.getElem?_take_of_lt (by omega), List.getElem?_eq_getElem hl]
    simp [List.getD, hl]
theorem atV_mem {vs : List Vn} {d : Nat} (h0 : 0 < d) (hd : d ≤ vs.length) : atV vs d ∈ vs := by
  unfold atV
  rw [if_neg (by omega)]
  exact vgetD_mem vs (d - 1) (by omega)
/-- What Get says. -/
theorem get_told {vs : List Vn} {k : Int} {x : Vn} {ok : Bool} {c : Nat} (hok : okV vs) (h : AtTold vs k x ok c) : (ok && !x.drop) = (valAt vs k).isSome ∧ x.val = (valAt vs k).getD noS ∧ c = 0 := by
  rcases h with ⟨_, h, _⟩ | ⟨hc, _, d, hd, h1, h2⟩
  · exact absurd hok h
  · have hv := vAt_upTo hd
    unfold valAt valOf
    by_cases h0 : d = 0
    · rw [if_pos h0] at hv
      rw [hv, h1, h2]
      subst h0
      exact ⟨rfl, rfl, hc⟩
    · rw [if_neg h0] at hv
      rw [hv, h2]
      simp only
      rw [← h1]
      have hm : x ∈ vs := by rw [h1]; exact atV_mem (by omega) hd.le
      have hx := hok.1 x hm
      have hd0 : decide (0 < d) = true := by simp; omega
      rw [hd0]
      cases hdr : x.drop with
      | true => exact ⟨rfl, by simpa using hx.2.2.2 hdr, hc⟩
      | false => exact ⟨rfl, by simp, hc⟩
end Go.Proofs.YtembflnhhfliaaaGreatDoor

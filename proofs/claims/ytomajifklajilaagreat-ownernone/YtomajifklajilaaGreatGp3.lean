/- Texts of this claim laid together, one behind the other: contracts and plain lemmas; conditions as each names them. -/
import Derived.Test.YtomajifklajilaaGreatGp2
import Derived.Maps.OwnOps
import Derived.Maps.OwnSet
import Derived.Maps.Views
import Derived.OwnWalk
/- Entries in memory (rows of one's own, rows that can be read, one more behind), entries by rising keys as what a function says, stretches of keys; SameEntries. Conditions as each names them. -/
namespace Go.Proofs.YtomajifklajilaaGreat
open Go.ChangeShapes Go.WideShapes Go.ChangeAt Go.RowKit Go.Lib Go.Maps
set_option linter.unusedVariables false
set_option linter.unusedSimpArgs false
theorem bytes_eq {a b : ByteArray} (h : a.data.toList = b.data.toList) : a = b := by
  cases a; cases b
  simp only at h
  congr
  exact Array.toList_inj.1 h
def kl7 (s : ByteArray) : Lit := .string s.data.toList
theorem kl7_inj {s t : ByteArray} (h : kl7 s = kl7 t) : s = t := bytes_eq (by simpa [kl7] using h)
abbrev Pr := ByteArray × ByteArray
def encE (x : Pr) : Value := .agg #[.string x.1, .string x.2]
def celE (x : Pr) : List Value := [.string x.1, .string x.2]
def celsE (ps : List Pr) : List Value := ps.flatMap celE
theorem celsE_length (ps : List Pr) : (celsE ps).length = 2 * ps.length := by
  induction ps with
  | nil => rfl
  | cons p ps ih => simp [celsE, celE] at *; omega
theorem celsE_snoc (ps : List Pr) (x : Pr) : celsE (ps ++ [x]) = celsE ps ++ celE x := by simp [celsE]
theorem Tryz.undEns : Tryz.prog.underlying 54 = some (.slice 67) := by kernel_rfl
theorem Tryz.infoEn : (Tryz.prog.info? 67).map (fun i => (i.zero, i.size, i.bytes)) = some (some (.agg #[.string ⟨#[]⟩, .string ⟨#[]⟩]), 2, 32) := by kernel_rfl
theorem Tryz.infoEn' : ∃ i, Tryz.prog.info? 67 = some i ∧ i.zero = some (.agg #[.string ⟨#[]⟩, .string ⟨#[]⟩]) ∧ i.size = 2 ∧ i.bytes = 32 := by
  have h := Tryz.infoEn
  cases hi : Tryz.prog.info? 67 with
  | none => rw [hi] at h; cases h
  | some i =>
    rw [hi] at h
    simp only [Option.map_some, Option.some.injEq, Prod.mk.injEq] at h
    exact ⟨i, rfl, h.1, h.2.1, h.2.2⟩
theorem owns_keepB {S : List Nat} {w w' : World} {base : Nat} {e : TypeId} {size : Nat} {v : Value} {n : Nat} {xs : List Value} (h : w.ownsRow base e size v n xs) (hf : Fr S w w') (hn : ∀ k, v.ownBlock = some k → k ∉ S) : w'.ownsRow base e size v n xs := by
  refine ⟨h.1, ?_⟩
  rcases h.2 with h0 | ⟨g, cap, cur, hv, hb, hg, hr⟩
  · exact Or.inl h0
  · exact Or.inr ⟨g, cap, cur, hv, hb, hf.keep hg (hn g (by rw [hv]; rfl)), hr⟩
theorem owns_cells {w : World} {base : Nat} {e : TypeId} {size : Nat} {v : Value} {n : Nat} {xs : List Value} (h : w.ownsRow base e size v n xs) {k : Nat} (hk : v.ownBlock = some k) : base ≤ k ∧ ∃ cur, w.heap[k]? = some (.cells cur e (0, 0)) := by
  rcases h.2 with ⟨rfl, _⟩ | ⟨g, cap, cur, rfl, hb, hg, hr⟩
  · simp [Value.ownBlock] at hk
  · simp [Value.ownBlock] at hk
    subst hk
    exact ⟨hb, cur, hg⟩
theorem new2_cells (w : World) (x : Pr) : ∀ (j : Nat) (u : Value), [Value.string x.1, Value.string x.2][j]? = some u → (w.alloc (.cells #[.string x.1, .string x.2] 67)).cell? ((⟨w.heap.size, 0, none⟩ : Addr).add j) = some u := by
  intro j u hu
  have hr := heap_alloc_new w (.cells #[.string x.1, .string x.2] 67)
  match j, hu with
  | 0, hu => show World.cell? _ ⟨w.heap.size, 0, none⟩ = _; rw [cell_of_row _ _ _ _ _ _ hr]; exact hu
  | 1, hu => show World.cell? _ ⟨w.heap.size, 1, none⟩ = _; rw [cell_of_row _ _ _ _ _ _ hr]; exact hu
  | (j + 2), hu => simp at hu
theorem new2_one (x : Pr) : ∀ u ∈ [Value.string x.1, Value.string x.2], u.oneCell' = true := by
  intro u hu
  simp only [List.mem_cons, List.not_mem_nil, or_false] at hu
  rcases hu with rfl | rfl <;> rfl
theorem box_set {w : World} {b : Nat} {t : TypeId} {v : Value} (h : w.heap[b]? = some (.cells #[v] t (0, 0))) (u : Value) : (w.setCell ⟨b, 0, none⟩ u).heap[b]? = some (.cells #[u] t (0, 0)) := by
  obtain ⟨hlt, hk⟩ := Array.getElem?_eq_some_iff.1 h
  show (w.heap.modify b _)[b]? = _
  rw [Array.getElem?_eq_getElem (by rw [Array.size_modify]; exact hlt), Array.getElem_modify_self, hk]
  rfl
theorem celsE_at : ∀ (ps : List Pr) (t : Nat), t < ps.length * 2 → (celsE ps)[t]? = some ((celE ps[t / 2]!)[t % 2]!)
  | [], t, h => by simp at h
  | p :: ps, 0, h => by simp [celsE, celE]
  | p :: ps, 1, h => by simp [celsE, celE]
  | p :: ps, (t + 2), h => by
    have ih := celsE_at ps t (by simp at h; omega)
    have e1 : (t + 2) / 2 = t / 2 + 1 := by omega
    have e2 : (t + 2) % 2 = t % 2 := by omega
    rw [e1, e2]
    have e3 : (celsE (p :: ps))[t + 2]? = (celsE ps)[t]? := by simp [celsE, celE]
    rw [e3, ih]
    simp
theorem Tryz.sizeOfEn (w : World) : (Go.sizeOf 67).run Tryz.prog w = .ok 2 w := by kernel_rfl
theorem celE_one (x : Pr) : ∀ v ∈ celE x, v.oneCell' = true := new2_one x
/-- A row of entries of its own. -/
structure EOut (w w' : World) (ro : Option Addr) (N rc : Nat) (ps : List Pr) : Prop where
  len : N = ps.length
  row : w'.ownsRow w.heap.size 67 2 (.slice ro N rc) N (celsE ps)
theorem own_base {w : World} {base base' : Nat} {e : TypeId} {size : Nat} {v : Value} {n : Nat} {xs : List Value} (h : w.ownsRow base e size v n xs) (hb : base' ≤ base) : w.ownsRow base' e size v n xs := by
  refine ⟨h.1, ?_⟩
  rcases h.2 with h0 | ⟨g, cap, cur, hv, hg, hr⟩
  · exact Or.inl h0
  · exact Or.inr ⟨g, cap, cur, hv, by omega, hr⟩
theorem own_shape2 {w : World} {base : Nat} {e : TypeId} {v : Value} {n : Nat} {xs : List Value} (h : w.ownsRow base e 2 v n xs) : ∃ ao cap, v = .slice ao n cap := by
  rcases h.2 with ⟨rfl, h0⟩ | ⟨g, cap, _, rfl, _⟩
  · exact ⟨none, 0, by rw [h0]⟩
  · exact ⟨_, cap, rfl⟩
/-- A row of entries can be read. -/
structure ERs (w : World) (ro : Option Addr) (ps : List Pr) : Prop where
  few : ps.length < 3518437208883
  lies : 0 < ps.length → ∃ g cur, ro = some ⟨g, 0, none⟩ ∧ w.heap[g]? = some (.cells cur 67 (0, 0)) ∧ cur.toList.take (ps.length * 2) = celsE ps
theorem ERs.keep {w w' : World} {ro : Option Addr} {ps : List Pr} (h : ERs w ro ps) (hf : Fr [] w w') : ERs w' ro ps :=
  ⟨h.few, fun h0 => by obtain ⟨g, cur, e, hb, ht⟩ := h.lies h0; exact ⟨g, cur, e, hf.keep hb (by simp), ht⟩⟩
theorem ers_of {w : World} {base : Nat} {ro : Option Addr} {N rc : Nat} {ps : List Pr} (h : w.ownsRow base 67 2 (.slice ro N rc) N (celsE ps)) (hN : N = ps.length) (hf : ps.length < 3518437208883) : ERs w ro ps := by
  refine ⟨hf, fun h0 => ?_⟩
  rcases h.2 with ⟨_, h1⟩ | ⟨g, cap, cur, hv, _, hg, _, _, _, ht⟩
  · omega
  · cases hv
    exact ⟨g, cur, rfl, hg, by rw [← hN]; exact ht⟩
def e0 : Pr := (⟨#[]⟩, ⟨#[]⟩)
theorem celsE_get (ps : List Pr) (i : Nat) (h : i < ps.length) : (celsE ps)[i * 2]? = some (.string (ps.getD i e0).1) ∧ (celsE ps)[i * 2 + 1]? = some (.string (ps.getD i e0).2) := by
  have a := celsE_at ps (i * 2) (by omega)
  have b := celsE_at ps (i * 2 + 1) (by omega)
  have e1 : i * 2 / 2 = i := by omega
  have e2 : i * 2 % 2 = 0 := by omega
  have e3 : (i * 2 + 1) / 2 = i := by omega
  have e4 : (i * 2 + 1) % 2 = 1 := by omega
  rw [e1, e2] at a
  rw [e3, e4] at b
  rw [a, b]
  simp [celE, List.getD, h]
theorem ERs.at {w : World} {ro : Option Addr} {ps : List Pr} (h : ERs w ro ps) (i : Nat) (hi : i < ps.length) : ∃ g, ro = some ⟨g, 0, none⟩ ∧ w.cell? ⟨g, i * 2, none⟩ = some (.string (ps.getD i e0).1) ∧ w.cell? ⟨g, i * 2 + 1, none⟩ = some (.string (ps.getD i e0).2) := by
  obtain ⟨g, cur, e, hb, ht⟩ := h.lies (by omega)
  obtain ⟨a, b⟩ := celsE_get ps i hi
  refine ⟨g, e, ?_, ?_⟩
  · rw [cell_of_row _ _ _ _ _ _ hb, ← Array.getElem?_toList, ← a, ← ht, List.getElem?_take_of_lt (by omega)]
  · rw [cell_of_row _ _ _ _ _ _ hb, ← Array.getElem?_toList, ← b, ← ht, List.getElem?_take_of_lt (by omega)]
theorem celsE_append (ps qs : List Pr) : celsE (ps ++ qs) = celsE ps ++ celsE qs := by simp [celsE]
theorem celsE_ones (ps : List Pr) : ∀ u ∈ celsE ps, u.oneCell' = true := by
  intro u hu
  obtain ⟨p, _, hp⟩ := List.mem_flatMap.1 hu
  exact celE_one p u hp
/-- Some entries of a row, as an append takes them. -/
structure ESl (w : World) (xo : Option Addr) (m : Nat) (rs : List Pr) : Prop where
  len : m = rs.length
  lies : ∀ ad, xo = some ad → ∀ j u, (celsE rs)[j]? = some u → w.cell? (ad.add j) = some u
  none : xo = none → m = 0
theorem ERs.cells {w : World} {ro : Option Addr} {ps : List Pr} (h : ERs w ro ps) {j : Nat} {u : Value} (hu : (celsE ps)[j]? = some u) : ∃ g, ro = some ⟨g, 0, none⟩ ∧ w.cell? ⟨g, j, none⟩ = some u := by
  have hj : j < (celsE ps).length := (List.getElem?_eq_some_iff.1 hu).1
  rw [celsE_length] at hj
  obtain ⟨g, cur, e, hb, ht⟩ := h.lies (by omega)
  refine ⟨g, e, ?_⟩
  rw [cell_of_row _ _ _ _ _ _ hb, ← Array.getElem?_toList, ← hu, ← ht, List.getElem?_take_of_lt (by omega)]
theorem addr_add (g j k : Nat) : (⟨g, j, none⟩ : Addr).add k = ⟨g, j + k, none⟩ := by
  unfold Addr.add
  by_cases h : k = 0 <;> simp [h]
theorem ERs.take {w : World} {ro : Option Addr} {ps : List Pr} (h : ERs w ro ps) (i : Nat) (hi : i ≤ ps.length) : ESl w ro i (ps.take i) := by
  refine ⟨by simp; omega, ?_, ?_⟩
  · intro ad e j u hu
    have hu2 : (celsE ps)[j]? = some u := by
      rw [← List.take_append_drop i ps, celsE_append, List.getElem?_append_left (List.getElem?_eq_some_iff.1 hu).1]
      exact hu
    obtain ⟨g, e2, hc⟩ := h.cells hu2
    rw [e] at e2
    cases e2
    rw [addr_add, Nat.zero_add]
    exact hc
  · intro e
    rcases Nat.eq_zero_or_pos ps.length with h0 | h0
    · omega
    · obtain ⟨g, _, e2, _⟩ := h.lies h0
      rw [e] at e2
      cases e2
theorem run_append_noneB {P : Program} (w : World) (t ty e : TypeId) (i : TypeInfo) (size c base : Nat) (ht : P.underlying t = some (.slice e)) (hi : P.info? e = some i)
    (v : Value) (n : Nat) (xs : List Value) (hown : w.ownsRow base e size v n xs) :
    (Builtin.append_ #[t, t] ty #[v, .slice none 0 c]).run P w = .ok v w := by
  rcases hown.2 with ⟨rfl, rfl⟩ | ⟨g, cap, cur, rfl, _, _, hnc, _⟩
  · simp [Builtin.append_, run_underlying ht, sizeOf, typeInfo, hi, Builtin.lenOf, Builtin.firstCells]
  · simp [Builtin.append_, run_underlying ht, sizeOf, typeInfo, hi, Builtin.lenOf, Builtin.firstCells, hnc, storeCells]
theorem esl_new (w : World) (x : Pr) : ESl (w.alloc (.cells #[.string x.1, .string x.2] 67)) (some ⟨w.heap.size, 0, none⟩) 1 [x] :=
  ⟨rfl, fun ad e j u hu => by cases e; exact new2_cells w x j u (by simpa [celsE, celE] using hu), fun h => by cases h⟩
/-- Entries of a row, behind a row of one's own. -/
theorem wpList_appE (w : World) {ops : Array Oper} {rest : List Oper} {o : Oper} {a : Act} {Q : Exit → Act → World → Prop} (hgd : o.guard = none) (s x : Operand)
    (ho : o.op = .call { callee := .builtin .append, args := #[s, x], argTypes := #[54, 54] })
    (base : Nat) (v : Value) (qs : List Pr) (hs : a.eval s = v) (hown : w.ownsRow base 67 2 v qs.length (celsE qs))
    (xo : Option Addr) (m c : Nat) (rs : List Pr) (hx : a.eval x = .slice xo m c) (hB : ESl w xo m rs) (hn : qs.length + m < 3518437208884) (hbase : base ≤ w.heap.size)
    (h : ∀ bo n' cap' w', n' = (qs ++ rs).length → w'.ownsRow base 67 2 (.slice bo n' cap') n' (celsE (qs ++ rs)) → Fr v.ownBlock.toList w w' → wpList Tryz.prog ops Q rest (a.put o.dst (.slice bo n' cap')) w') : wpList Tryz.prog ops Q (o :: rest) a w := by
  obtain ⟨i0, hi, hz0, hz1, hz2⟩ := Tryz.infoEn'
  have hl : (celsE rs).length = m * 2 := by rw [celsE_length, hB.len]; omega
  have hmx : 3518437208884 ≤ maxLen := by unfold maxLen; omega
  cases xo with
  | none =>
    refine wpList_plain hgd fun K hK => ?_
    obtain rfl : m = 0 := hB.none rfl
    have hrs : rs = [] := List.eq_nil_of_length_eq_zero hB.len.symm
    subst hrs
    have hr := run_append_noneB (P := Tryz.prog) w 54 o.type 67 i0 2 c base Tryz.undEns hi v qs.length (celsE qs) hown
    obtain ⟨bo, cap', rfl⟩ := own_shape2 hown
    unfold Oper.wp execOp
    simp only [ho, resolve, invoke, builtin, Sem.run_bind, Sem.run_pure, Result.andThen_ok, List.map_toArray, List.map_cons, List.map_nil, hs, hx, hr]
    exact hK _ _ (h bo _ cap' w (by simp) (by simpa using hown) (Fr.refl _ _))
  | some ad =>
    refine wpList_append_own w hgd s x 54 ho base 67 i0 _ 2 32 Tryz.undEns hi hz0 hz1 hz2 rfl (by decide) v qs.length (celsE qs) hs hown ad m c (celsE rs) hx hl (hB.lies ad rfl) (celsE_ones rs) (by omega) (by omega) hbase ?_
    intro v' w' hown' hg' _
    have hlen : (qs ++ rs).length = qs.length + m := by rw [List.length_append, hB.len]
    obtain ⟨bo, cap', rfl⟩ := own_shape2 hown'
    exact h bo _ cap' w' hlen.symm (by rw [celsE_append]; exact hown') (Fr.grown hg' (fun y hy _ => Option.mem_toList.2 hy))
/-- Keys rise. -/
def Inc (ps : List Pr) : Prop := ps.Pairwise fun a b => Op.bytesLess a.1.toList b.1.toList = true
/-- These are the entries of E, by rising keys. -/
structure Is (E : ByteArray → Option ByteArray) (ps : List Pr) : Prop where
  inc : Inc ps
  mem : ∀ p, p ∈ ps ↔ E p.1 = some p.2
theorem inc_irr {p : Pr} : ¬ Op.bytesLess p.1.toList p.1.toList = true := by rw [bl_irrefl]; simp
theorem inc_unique : ∀ {ps qs : List Pr}, Inc ps → Inc qs → (∀ p, p ∈ ps ↔ p ∈ qs) → ps = qs
  | [], [], _, _, _ => rfl
  | [], q :: qs, _, _, h => absurd ((h q).2 (by simp)) (by simp)
  | p :: ps, [], _, _, h => absurd ((h p).1 (by simp)) (by simp)
  | p :: ps, q :: qs, h1, h2, h => by
    unfold Inc at h1 h2
    rw [List.pairwise_cons] at h1 h2
    have hpq : p = q := by
      have m1 := (h p).1 (by simp)
      have m2 := (h q).2 (by simp)
      rcases List.mem_cons.1 m1 with e | e
      · exact e
      rcases List.mem_cons.1 m2 with e' | e'
      · exact e'.symm
      have a := h2.1 p e
      have b := h1.1 q e'
      exact absurd (bl_trans a b) inc_irr
    subst hpq
    congr 1
    refine inc_unique h1.2 h2.2 fun x => ⟨fun hx => ?_, fun hx => ?_⟩
    · rcases List.mem_cons.1 ((h x).1 (List.mem_cons_of_mem _ hx)) with e | e
      · subst e; exact absurd (h1.1 x hx) inc_irr
      · exact e
    · rcases List.mem_cons.1 ((h x).2 (List.mem_cons_of_mem _ hx)) with e | e
      · subst e; exact absurd (h2.1 x hx) inc_irr
      · exact e
theorem Is.unique {E : ByteArray → Option ByteArray} {ps qs : List Pr} (h1 : Is E ps) (h2 : Is E qs) : ps = qs :=
  inc_unique h1.inc h2.inc fun p => (h1.mem p).trans (h2.mem p).symm
theorem Is.nil : Is (fun _ => none) [] := ⟨List.Pairwise.nil, fun p => by simp⟩
theorem Is.key {E : ByteArray → Option ByteArray} {ps : List Pr} (h : Is E ps) {p q : Pr} (hp : p ∈ ps) (hq : q ∈ ps) (e : p.1 = q.1) : p = q := by
  have a := (h.mem p).1 hp
  have b := (h.mem q).1 hq
  rw [e, b] at a
  exact Prod.ext e (by simpa using a.symm)
theorem Is.cong {E E' : ByteArray → Option ByteArray} {ps : List Pr} (h : Is E ps) (e : ∀ s, E s = E' s) : Is E' ps := ⟨h.inc, fun p => by rw [← e]; exact h.mem p⟩
/-- A stretch of it. -/
theorem Is.filter {E : ByteArray → Option ByteArray} {ps : List Pr} (h : Is E ps) (K : ByteArray → Bool) : Is (fun s => if K s = true then E s else none) (ps.filter fun p => K p.1) := by
  refine ⟨List.Pairwise.filter _ h.inc, fun p => ?_⟩
  rw [List.mem_filter, h.mem p]
  by_cases hk : K p.1 = true
  · simp [hk]
  · simp [hk]
theorem inc_getD {ps : List Pr} (h : Inc ps) {i j : Nat} (hij : i < j) (hj : j < ps.length) : Op.bytesLess (ps.getD i e0).1.toList (ps.getD j e0).1.toList = true := by
  have := List.pairwise_iff_getElem.1 h i j (by omega) hj hij
  simpa [List.getD, hj, show i < ps.length by omega] using this
/-- Does a key lie in a stretch? -/
def inS (key en s : ByteArray) : Bool := !(Op.bytesLess s.toList key.toList) && (en.toList == [] || Op.bytesLess s.toList en.toList)
/-- Two stretches that follow one another are one. -/
theorem inS_lo (key s : ByteArray) (hk : key.toList ≠ []) : inS ⟨#[]⟩ key s = Op.bytesLess s.toList key.toList := by
  have hE0 : (⟨#[]⟩ : ByteArray).toList = [] := (tl_nil _).2 rfl
  unfold inS
  rw [hE0]
  have h1 : Op.bytesLess s.toList [] = false := by cases s.toList <;> rfl
  have h2 : (key.toList == []) = false := by simpa using hk
  rw [h1, h2]
  simp
theorem inS_hi (key s : ByteArray) : inS key ⟨#[]⟩ s = !(Op.bytesLess s.toList key.toList) := by
  have hE0 : (⟨#[]⟩ : ByteArray).toList = [] := (tl_nil _).2 rfl
  unfold inS
  rw [hE0]
  simp
theorem split_at {ps : List Pr} (h : Inc ps) (key : ByteArray) : ps.filter (fun p => Op.bytesLess p.1.toList key.toList) ++ ps.filter (fun p => !(Op.bytesLess p.1.toList key.toList)) = ps := by
  induction ps with
  | nil => rfl
  | cons p ps ih =>
    unfold Inc at h
    rw [List.pairwise_cons] at h
    have ih := ih h.2
    cases hp : Op.bytesLess p.1.toList key.toList with
    | true => simp only [List.filter_cons, hp]; simpa using ih
    | false =>
      have hall : ∀ q ∈ ps, Op.bytesLess q.1.toList key.toList = false := fun q hq => by
        cases hq2 : Op.bytesLess q.1.toList key.toList with
        | false => rfl
        | true => have := bl_trans (h.1 q hq) hq2; rw [hp] at this; cases this
      have e1 : ps.filter (fun p => Op.bytesLess p.1.toList key.toList) = [] := List.filter_eq_nil_iff.2 (fun q hq => by rw [hall q hq]; simp)
      have e2 : ps.filter (fun p => !(Op.bytesLess p.1.toList key.toList)) = ps := List.filter_eq_self.2 (fun q hq => by rw [hall q hq]; rfl)
      simp only [List.filter_cons, hp, e1, e2]
      simp
theorem inS_part (key en s : ByteArray) : inS key en s = (inS key ⟨#[]⟩ s && (en.toList == [] || Op.bytesLess s.toList en.toList)) := by
  rw [inS_hi]
  rfl
theorem inS_all2 (s : ByteArray) : inS ⟨#[]⟩ ⟨#[]⟩ s = true := by
  have hE0 : (⟨#[]⟩ : ByteArray).toList = [] := (tl_nil _).2 rfl
  unfold inS
  rw [hE0]
  cases s.toList <;> simp [Op.bytesLess]
set_option maxHeartbeats 4000000 in
set_option maxRecDepth 100000 in
theorem sameEntries_any (ro ro' : Option Addr) (N rc rc' : Nat) (ps : List Pr) (w : World) (h1 : ERs w ro ps) (h2 : ERs w ro' ps) (hN : N = ps.length) :
    Calls Tryz.prog 39 #[.slice ro N rc, .slice ro' N rc'] w fun e w' => e = .returned (.bool true) ∧ Fr [] w w' := by
  have HN : Hid (N = ps.length) := hN
  have hNf : N < 3518437208883 := by rw [hN]; exact h1.few
  have HE : Hid (∀ W, Fr [] w W → ERs W ro ps ∧ ERs W ro' ps) := fun W hf => ⟨h1.keep hf, h2.keep hf⟩
  clear hN h1 h2
  go_enter Tryz.func39, Tryz.ntmps39
  go_wp2_with fail
  go_loopw [5] (fun ii wr => ∃ (i : Nat), ii = .int .i64 i ∧ i ≤ N ∧ Fr [] w wr) (fun ii _ => N - (RowKit.intOf ii).toNat)
  case atStart => exact ⟨0, rfl, Nat.zero_le _, Fr.refl _ _⟩
  case round =>
    obtain ⟨i, rfl, hiN, hFr⟩ := hrel
    by_cases hi : i < N
    · have hi' : i < ps.length := by rw [← HN.out]; exact hi
      obtain ⟨g, rfl, d0, d1⟩ := (HE.out _ hFr).1.at i hi'
      obtain ⟨g', rfl, d2, d3⟩ := (HE.out _ hFr).2.at i hi'
      obtain ⟨⟨k2, v2⟩, hyy⟩ : ∃ y, y = ps.getD i e0 := ⟨_, rfl⟩
      rw [← hyy] at d0 d1 d2 d3
      simp only at d0 d1 d2 d3
      clear hyy
      go_wp2_with fail
      go_quiet (fail)
      go_wp2
      exact ⟨⟨i + 1, by simp, by omega, hFr.then (Fr.drewN _ _ _)⟩, by simp [RowKit.intOf]; omega⟩
    · go_wp2
      go_ret
      exact ⟨rfl, hFr⟩
end Go.Proofs.YtomajifklajilaaGreat
/- Numbers in a row; named: which versions are named. Conditions as each names them. -/
namespace Go.Proofs.YtomajifklajilaaGreat
open Go.ChangeShapes Go.WideShapes Go.ChangeAt Go.RowKit Go.Lib
set_option linter.unusedVariables false
set_option linter.unusedSimpArgs false
/-- The slice at ao reads as the numbers ns. -/
structure IRs (w : World) (ao : Option Addr) (ns : List Int) : Prop where
  lies : 0 < ns.length → ∃ b off, ao = some ⟨b, off, none⟩ ∧ b < w.heap.size ∧ ∀ i, i < ns.length → w.cell? ⟨b, off + i, none⟩ = some (.int .i64 (ns.getD i 0))
  few : ns.length ≤ 17592186044416
theorem IRs.keepS {S : List Nat} {w w' : World} {ao : Option Addr} {ns : List Int} (h : IRs w ao ns) (hf : Fr S w w') (hn : 0 < ns.length → ∀ a, ao = some a → a.block ∉ S) : IRs w' ao ns := by
  refine ⟨fun h0 => ?_, h.few⟩
  obtain ⟨b, off, e, hb, hc⟩ := h.lies h0
  exact ⟨b, off, e, Nat.lt_of_lt_of_le hb hf.size, fun i hi => (World.cell?_of_block (hf.block b hb (hn h0 _ e))).trans (hc i hi)⟩
theorem IRs.keep {w w' : World} {ao : Option Addr} {ns : List Int} (h : IRs w ao ns) (hf : Fr [] w w') : IRs w' ao ns := h.keepS hf (by simp)
theorem itake_snoc (ns : List Int) (i : Nat) (h : i < ns.length) : ns.take (i + 1) = ns.take i ++ [ns.getD i 0] := by
  rw [List.take_add_one]
  simp [List.getD, h]
/-- Of each version: is its number one of these? -/
def mkB (vs : List Vn) (ns : List Int) : List Value := vs.map fun v => .bool (decide (v.num ∈ ns))
theorem mkB_length (vs : List Vn) (ns : List Int) : (mkB vs ns).length = vs.length := by simp [mkB]
theorem mkB_get (vs : List Vn) (ns : List Int) (i : Nat) (h : i < vs.length) : (mkB vs ns)[i]? = some (.bool (decide ((vs.getD i Vn.zero).num ∈ ns))) := by
  simp [mkB, List.getD, h]
theorem mkB_same {vs : List Vn} {ns : List Int} {n : Int} (h : ∀ y ∈ vs, y.num ≠ n) : mkB vs (ns ++ [n]) = mkB vs ns := by
  unfold mkB
  refine List.map_congr_left fun v hv => ?_
  have := h v hv
  congr 2
  simp [List.mem_append, this]
theorem mkB_step {vs : List Vn} (hR : Ris vs) {ns : List Int} {n : Int} {d : Nat} (hd : d < vs.length) (e : (vs.getD d Vn.zero).num = n) : mkB vs (ns ++ [n]) = (mkB vs ns).set d (.bool true) := by
  apply List.ext_getElem?
  intro i
  by_cases hi : i < vs.length
  · rw [mkB_get _ _ _ hi, List.getElem?_set, mkB_length, mkB_get _ _ _ hi]
    by_cases hid : d = i
    · subst hid
      rw [if_pos rfl, if_pos hd, e]
      simp
    · rw [if_neg hid]
      have hne : (vs.getD i Vn.zero).num ≠ n := by
        rw [← e]
        rcases Nat.lt_trichotomy i d with h | h | h
        · have := ris_get hR h hd; omega
        · omega
        · have := ris_get hR h hi; omega
      congr 2
      simp only [List.mem_append, List.mem_singleton, hne, or_false]
  · rw [List.getElem?_eq_none (by rw [mkB_length]; omega), List.getElem?_eq_none (by rw [List.length_set, mkB_length]; omega)]
theorem vrow_setCell {w : World} {b j : Nat} {cs : Array Value} {t : TypeId} (x : Value) (h : w.heap[b]? = some (.cells cs t (0, 0))) : (w.setCell ⟨b, j, none⟩ x).heap[b]? = some (.cells (cs.setIfInBounds j x) t (0, 0)) := by
  have hlt := lt_of_block h
  have h' : w.heap[b] = .cells cs t (0, 0) := by simpa [Array.getElem?_eq_getElem hlt] using h
  show (w.heap.modify b _)[b]? = _
  rw [Array.getElem?_eq_getElem (by simpa using hlt), Array.getElem_modify_self, h']
  rfl
/-- A row of bools of one's own. -/
structure BRow (w : World) (g L : Nat) (bs : List Value) : Prop where
  row : ∃ cur, w.heap[g]? = some (.cells cur 4 (0, 0)) ∧ cur.toList = bs
  len : bs.length = L
theorem BRow.keep {S : List Nat} {w w' : World} {g L : Nat} {bs : List Value} (h : BRow w g L bs) (hf : Fr S w w') (hn : g ∉ S) : BRow w' g L bs := by
  obtain ⟨cur, h1, h2⟩ := h.row
  exact ⟨⟨cur, hf.keep h1 hn, h2⟩, h.len⟩
theorem BRow.put {w : World} {g L : Nat} {bs : List Value} (h : BRow w g L bs) (j : Nat) (x : Value) : BRow (w.setCell ⟨g, j, none⟩ x) g L (bs.set j x) := by
  obtain ⟨cur, h1, h2⟩ := h.row
  exact ⟨⟨_, vrow_setCell x h1, by rw [Array.toList_setIfInBounds, h2]⟩, by rw [List.length_set]; exact h.len⟩
theorem BRow.cell {w : World} {g L : Nat} {bs : List Value} (h : BRow w g L bs) {i : Nat} {u : Value} (hu : bs[i]? = some u) : w.cell? ⟨g, i, none⟩ = some u := by
  obtain ⟨cur, h1, h2⟩ := h.row
  rw [cell_of_row _ _ _ _ _ _ h1, ← Array.getElem?_toList, h2]
  exact hu
theorem Tryz.undBools : Tryz.prog.underlying 146 = some (.slice 4) := by kernel_rfl
theorem Tryz.infoBoolF : (Tryz.prog.info? 4).map (fun i => (i.zero, i.size, i.bytes)) = some (some (.bool false), 1, 1) := by kernel_rfl
theorem infoBool_parts : ∃ i, Tryz.prog.info? 4 = some i ∧ i.zero = some (.bool false) ∧ i.size = 1 ∧ i.bytes = 1 := by
  have h := Tryz.infoBoolF
  cases hi : Tryz.prog.info? 4 with
  | none => rw [hi] at h; cases h
  | some i =>
    rw [hi] at h
    simp only [Option.map_some, Option.some.injEq, Prod.mk.injEq] at h
    exact ⟨i, rfl, h.1, h.2.1, h.2.2⟩
theorem madeF (vs : List Vn) : (madeCells (Value.bool false).cells vs.length).toList = mkB vs [] := by
  apply List.ext_getElem
  · simp [madeCells, mkB]
  · intro i h1 h2
    simp [madeCells, mkB, Value.cells, Nat.mod_one]
set_option maxHeartbeats 4000000 in
set_option maxRecDepth 100000 in
theorem named_any (ao : Option Addr) (L cap : Nat) (vs : List Vn) (bo : Option Addr) (M cb : Nat) (ns : List Int) (w : World) (hV : VRs w ao vs) (hL : L = vs.length) (hR : Ris vs) (hN : IRs w bo ns) (hM : M = ns.length) :
    Calls Tryz.prog 110 #[.slice ao L cap, .slice bo M cb] w fun e w' => ∃ g, e = .returned (.slice (some ⟨g, 0, none⟩) L L) ∧ w.heap.size ≤ g ∧ BRow w' g L (mkB vs ns) ∧ Fr [] w w' := by
  obtain ⟨i0, hi0, hz0, hz1, hz2⟩ := infoBool_parts
  have HV : Hid (∀ W, Fr [] w W → VRs W ao vs ∧ IRs W bo ns) := fun W hf => ⟨hV.keep hf, hN.keep hf⟩
  have HL : Hid (L = vs.length ∧ M = ns.length ∧ Ris vs) := ⟨hL, hM, hR⟩
  have hLL : L ≤ 4398046511104 := by have := hV.few; omega
  have hMM : M ≤ 17592186044416 := by have := hN.few; omega
  clear hV hL hR hN hM
  go_enter Tryz.func110, Tryz.ntmps110
  go_wp2_with (at_make; refine wpList_make_full _ rfl (.tmp 10) (.tmp 10) 146 rfl 0 4 i0 _ 1 Tryz.undBools hi0 hz0 hz1 .i64 .i64 (L : Int) (L : Int) L rfl rfl rfl rfl ?b2 ?b3 ?b4 ?_)
  case b2 => rw [hz2]; omega
  case b3 => unfold maxLen; omega
  case b4 => exact Nat.zero_le _
  intro w1 hown hgrow
  obtain ⟨g, hg⟩ : ∃ g, g = w.heap.size := ⟨_, rfl⟩
  have HB1 : Hid (BRow w1 g L (mkB vs [])) := by
    have hm : (madeCells #[Value.bool false] L).toList = mkB vs [] := by rw [HL.out.1]; exact madeF vs
    simp only [hm, ← hg] at hown
    refine ⟨?_, by rw [mkB_length, HL.out.1]⟩
    rcases hown.2 with ⟨hv, _⟩ | ⟨g', cap', cur, hv, _, hb, _, _, hcs, ht⟩
    · cases hv
    · cases hv
      refine ⟨cur, hb, ?_⟩
      rw [← ht, List.take_of_length_le]
      rw [Array.length_toList, hcs]
      exact Nat.le_refl _
  have hF1 : Fr [] w w1 := Fr.grown (S := []) hgrow (by simp)
  have hgw : w.heap.size ≤ g := by omega
  rw [← hg]
  clear hown hgrow hg
  go_wp2_with fail
  go_loopw [14] (fun ii wr => ∃ (i : Nat), ii = .int .i64 i ∧ i ≤ M ∧ Fr [] w wr ∧ Hid (BRow wr g L (mkB vs (ns.take i)))) (fun ii _ => M - (RowKit.intOf ii).toNat)
  case atStart => exact ⟨0, rfl, Nat.zero_le _, hF1, HB1⟩
  case round =>
    obtain ⟨i, rfl, hiM, hFr, HB⟩ := hrel
    by_cases hi : i < M
    · have hi' : i < ns.length := by have := HL.out.2.1; omega
      obtain ⟨b, off, rfl, hbl, hat⟩ := (HV.out _ hFr).2.lies (by omega)
      have c0 := hat i hi'
      obtain ⟨n, hn⟩ : ∃ n, n = ns.getD i 0 := ⟨_, rfl⟩
      rw [← hn] at c0
      have HTk : Hid (ns.take (i + 1) = ns.take i ++ [n]) := by rw [hn]; exact itake_snoc ns i hi'
      have HU : Hid (Calls _ _ _ _ _) := upTo_any ao L cap n vs _ (HV.out _ hFr).1 HL.out.1 HL.out.2.2
      clear hat hn
      go_wp2_with fail
      refine Calls.mono HU.out ?_
      rintro e w2 ⟨d, rfl, hd, hF2⟩
      have hG2 := hFr.then hF2
      have HB2 : Hid (BRow w2 g L (mkB vs (ns.take i))) := HB.out.keep hF2 (by simp)
      have hdL : d ≤ L := by have := hd.le; have := HL.out.1; omega
      obtain ⟨B, hB⟩ : ∃ B : Bool, B = true ↔ 0 < d ∧ (vs.getD (d - 1) Vn.zero).num = n := ⟨@decide _ (Classical.propDecidable _), @decide_eq_true_iff _ (Classical.propDecidable _)⟩
      have HS : Hid (Calls _ _ _ _ _) := stands_any ao L cap d n B vs w2 (HV.out _ hG2).1 HL.out.1 hdL hB
      have HD : Hid (UpTo vs n d) := hd
      have HBB : Hid (B = true ↔ 0 < d ∧ (vs.getD (d - 1) Vn.zero).num = n) := hB
      clear HU hd hB HB hF2 c0
      go_wp2_with fail
      refine Calls.mono HS.out ?_
      rintro e w3 ⟨rfl, hF3⟩
      have hG3 := hG2.then hF3
      have HB3 : Hid (BRow w3 g L (mkB vs (ns.take i))) := HB2.out.keep hF3 (by simp)
      clear HS HB2 hF3
      cases B with
      | true =>
        obtain ⟨h0, he⟩ := HBB.out.1 rfl
        obtain ⟨d', rfl⟩ : ∃ d', d = d' + 1 := ⟨d - 1, by omega⟩
        simp only [Nat.add_sub_cancel] at he
        have hd' : d' < vs.length := by have := HL.out.1; omega
        have hcl := HB3.out.cell (i := d') (mkB_get vs (ns.take i) d' hd')
        have HN2 : Hid (BRow (w3.setCell ⟨g, d', none⟩ (.bool true)) g L (mkB vs (ns.take (i + 1)))) := by
          rw [HTk.out, mkB_step HL.out.2.2 hd' he]
          exact HB3.out.put d' _
        have hfz : w3.frozen? ⟨g, d', none⟩ = false := by
          obtain ⟨cur, h1, _⟩ := HB3.out.row
          simp [World.frozen?, h1]
        have hF4 : Fr [] w (w3.setCell ⟨g, d', none⟩ (.bool true)) := hG3.on (Fr.set (S := [g]) _ _ _ (by simp)) (by simp; exact hgw)
        have hdi : (((d' + 1 : Nat) : Int) - 1) = (d' : Int) := by omega
        have hd'L : d' < L := by omega
        generalize decide ((vs.getD d' Vn.zero).num ∈ ns.take i) = Q at hcl
        clear HBB h0 he
        go_wp2
        exact ⟨⟨i + 1, by simp, by omega, hF4, HN2⟩, by simp [RowKit.intOf]; omega⟩
      | false =>
        have HN2 : Hid (BRow w3 g L (mkB vs (ns.take (i + 1)))) := by
          rw [HTk.out, mkB_same]
          · exact HB3.out
          · intro y hy e
            have h1 : 0 < d ∧ (vs.getD (d - 1) Vn.zero).num = n := by
              obtain ⟨j, hj, e2⟩ := List.mem_iff_getElem.1 hy
              have e3 : vs.getD j Vn.zero = y := by simp [List.getD, hj, e2]
              have hjd : j < d := by
                by_cases h : j < d
                · exact h
                · have := HD.out.hi j (by omega) hj; rw [e3] at this; omega
              refine ⟨by omega, ?_⟩
              by_cases hjd1 : j = d - 1
              · rw [← hjd1, e3]; exact e
              · have h4 := ris_get HL.out.2.2 (show j < d - 1 by omega) (by have := HD.out.le; omega)
                have h5 := HD.out.lo (d - 1) (by omega)
                rw [e3] at h4
                omega
            have := HBB.out.2 h1
            cases this
        clear HBB
        go_wp2
        exact ⟨⟨i + 1, by simp, by omega, hG3, HN2⟩, by simp [RowKit.intOf]; omega⟩
    · have HB9 : Hid (BRow wr g L (mkB vs ns)) := by
        have := HB.out
        rw [List.take_of_length_le (by have := HL.out.2.1; omega)] at this
        exact this
      go_wp2
      go_ret
      exact ⟨g, rfl, hgw, HB9.out, hFr⟩
end Go.Proofs.YtomajifklajilaaGreat
/- One more version behind a row of one's own whose spare room may be cut off; Dump. Conditions as each names them. -/
namespace Go.Proofs.YtomajifklajilaaGreat
open Go.ChangeShapes Go.WideShapes Go.ChangeAt Go.RowKit Go.Lib
set_option linter.unusedVariables false
set_option linter.unusedSimpArgs false
theorem run_appCut (w0 w : World) (ty : TypeId) (ro : Option Addr) (N rc : Nat) (qs : List Vn) (hO : VOut w0 w ro N rc qs) (ad : Addr) (c : Nat) (x : Vn) (hnews : ∀ j u, (vnC x)[j]? = some u → w.cell? (ad.add j) = some u)
    (hb : N < 2199023255552) (hs : w0.heap.size ≤ w.heap.size) :
    ∃ ro' rc' w', (Builtin.append_ #[68, 68] ty #[.slice ro N rc, .slice (some ad) 1 c]).run Tryz.prog w = .ok (.slice ro' (N + 1) rc') w' ∧ VOut w0 w' ro' (N + 1) rc' (qs ++ [x]) ∧ Fr (Value.slice ro N rc).ownBlock.toList w w' := by
  obtain ⟨i0, hi, hz0, hz1, hz2⟩ := infoVn_parts
  obtain ⟨rf, hrf, hown⟩ := hO.own
  have hlen : N + 1 = (qs ++ [x]).length := by rw [List.length_append, ← hO.len]; rfl
  have hcells : vnsC (qs ++ [x]) = vnsC qs ++ vnC x := by rw [vnsC_append]; simp [vnsC]
  have h1c : ∀ u ∈ vnC x, u.oneCell' = true := by
    intro u hu
    simp only [vnC, List.mem_cons, List.not_mem_nil, or_false] at hu
    rcases hu with rfl | rfl | rfl <;> rfl
  have hmx : N + 1 ≤ maxLen := by unfold maxLen; omega
  obtain ⟨v', w', hr, h2, h3, h4⟩ := run_append_own (P := Tryz.prog) w w0.heap.size 68 ty 110 i0 _ 3 32 Tryz.undVns' hi hz0 hz1 hz2 rfl (by decide) (.slice ro N rf) N (vnsC qs) hown ad 1 c (vnC x) rfl hnews h1c hmx (by omega) hs
  rcases hown.2 with ⟨hv, hn⟩ | ⟨g, cap, cur, hv, hbg, hg, hnc, hcm, hcs, htake⟩
  · cases hv
    obtain rfl : rc = 0 := by omega
    obtain ⟨ro', rc', rfl⟩ := own_shapeV h2
    exact ⟨ro', rc', w', hr, ⟨⟨rc', Nat.le_refl _, by rw [hcells]; exact h2⟩, hlen, own_cap h2⟩, Fr.grown h3 (fun y hy _ => by simp [Value.ownBlock] at hy)⟩
  · cases hv
    by_cases hroom : N + 1 ≤ rc
    · have hfit : N * i0.size + (vnC x).length ≤ cur.size := by rw [hz1, hcs]; simp only [vnC, List.length_cons, List.length_nil]; omega
      have hA := run_append_room (P := Tryz.prog) w 68 ty 110 i0 Tryz.undVns' hi g N rc cur hg ad 1 c (vnC x) (by rw [hz1]; rfl) hnews h1c hroom hfit
      have hB := run_append_room (P := Tryz.prog) w 68 ty 110 i0 Tryz.undVns' hi g N rf cur hg ad 1 c (vnC x) (by rw [hz1]; rfl) hnews h1c (by omega) hfit
      rw [hr] at hB
      injection hB with e1 e2
      rw [e1, e2] at h2
      refine ⟨_, _, _, hA, ⟨⟨rf, hrf, by rw [hcells]; exact h2⟩, hlen, hroom⟩, ?_⟩
      rw [e2] at h3
      exact Fr.grown h3 (fun y hy _ => by simpa [Value.ownBlock] using hy.symm)
    · have holds : ∀ j u, (vnsC qs)[j]? = some u → w.cell? ((⟨g, 0, none⟩ : Addr).add j) = some u := hown.cells (g := g) rfl
      have hA := run_append_grow (P := Tryz.prog) w 68 ty 110 i0 _ Tryz.undVns' hi hz0 ⟨g, 0, none⟩ N rc (vnsC qs) (by rw [hz1]; exact hown.1) holds ad 1 c (vnC x) (by rw [hz1]; rfl) hnews (by omega) (by omega) (by rw [hz2]; exact growslice_fits (by omega) (by omega))
      have hGn : N + 1 ≤ grownCap w (N + 1) rc 110 := grownCap_ge w _ _ _
      have hGm := grownCap_le_maxLen w (N + 1) rc 110 hmx
      refine ⟨_, _, _, hA, VOut.of ?_ hlen, (Fr.drew _ _).then (Fr.alloc _ _ _)⟩
      rw [hcells]
      refine ⟨by rw [← hcells, vnsC_length, ← hlen], .inr ⟨w.heap.size, _, _, rfl, hs, heap_alloc_new w.drew _, hGn, hGm, ?_, ?_⟩⟩
      · have e1 : (vnsC qs).length = N * 3 := hown.1
        simp only [Array.size_append, size_zeroCells, Value.cells, List.size_toArray, e1, vnC, List.length_cons, List.length_nil]
        omega
      · have e1 : (vnsC qs ++ vnC x).length = (N + 1) * 3 := by rw [← hcells, vnsC_length, ← hlen]
        rw [Array.toList_append, Array.toList_append, List.take_append_of_le_length (by simp only [List.length_append] at e1 ⊢; omega), List.take_of_length_le (by simp only [List.length_append] at e1 ⊢; omega)]
theorem wpList_appCut (w0 w : World) {ops : Array Oper} {rest : List Oper} {o : Oper} {a : Act} {Q : Exit → Act → World → Prop} (hgd : o.guard = none) (s x : Operand)
    (ho : o.op = .call { callee := .builtin .append, args := #[s, x], argTypes := #[68, 68] })
    (ro : Option Addr) (N rc : Nat) (qs : List Vn) (hs : a.eval s = .slice ro N rc) (hO : VOut w0 w ro N rc qs)
    (ad : Addr) (c : Nat) (v : Vn) (hx : a.eval x = .slice (some ad) 1 c) (hnews : ∀ j u, (vnC v)[j]? = some u → w.cell? (ad.add j) = some u) (hb : N < 2199023255552) (hsz : w0.heap.size ≤ w.heap.size)
    (h : ∀ ro' rc' w', VOut w0 w' ro' (N + 1) rc' (qs ++ [v]) → Fr (Value.slice ro N rc).ownBlock.toList w w' → wpList Tryz.prog ops Q rest (a.put o.dst (.slice ro' (N + 1) rc')) w') : wpList Tryz.prog ops Q (o :: rest) a w := by
  refine wpList_plain hgd fun K hK => ?_
  obtain ⟨ro', rc', w', hr, h2, h3⟩ := run_appCut w0 w o.type ro N rc qs hO ad c v hnews hb hsz
  unfold Oper.wp execOp
  simp only [ho, resolve, invoke, builtin, Sem.run_bind, Sem.run_pure, Result.andThen_ok, List.map_toArray, List.map_cons, List.map_nil, hs, hx, hr]
  exact hK _ _ (h ro' rc' w' h2 h3)
theorem VOut.blk {w0 w : World} {ro : Option Addr} {N rc : Nat} {qs : List Vn} (h : VOut w0 w ro N rc qs) : ∀ k ∈ (Value.slice ro N rc).ownBlock.toList, w0.heap.size ≤ k ∧ ∃ cur, w.heap[k]? = some (.cells cur 110 (0, 0)) := by
  intro k hk
  obtain ⟨rf, _, hown⟩ := h.own
  rcases hown.2 with ⟨hv, _⟩ | ⟨g, cap, cur, hv, hb, hg, _⟩
  · cases hv; simp [Value.ownBlock] at hk
  · cases hv
    simp [Value.ownBlock] at hk
    subst hk
    exact ⟨hb, cur, hg⟩
theorem VOut.keepS {S : List Nat} {w0 w w' : World} {ro : Option Addr} {N rc : Nat} {qs : List Vn} (h : VOut w0 w ro N rc qs) (hf : Fr S w w') (hn : ∀ k ∈ (Value.slice ro N rc).ownBlock.toList, k ∉ S) : VOut w0 w' ro N rc qs := by
  obtain ⟨rf, hr, hown⟩ := h.own
  refine ⟨⟨rf, hr, hown.1, ?_⟩, h.len, h.cap⟩
  rcases hown.2 with hh | ⟨g, cap, cur, hv, hb, hg, rest⟩
  · exact .inl hh
  · cases hv
    exact .inr ⟨g, rf, cur, rfl, hb, hf.keep hg (hn g (by simp [Value.ownBlock])), rest⟩
/-- The newest at the mark, if it has a value. -/
def headD (vs : List Vn) (d : Nat) : List Vn := if 0 < d ∧ (vs.getD (d - 1) Vn.zero).drop = false then [vs.getD (d - 1) Vn.zero] else []
/-- What Dump tells. -/
def DuTold (vs : List Vn) (k : Int) (ns : List Int) (us : List Vn) (c : Nat) : Prop := (c = 1 ∧ ¬ okV vs ∧ us = []) ∨ (c = 0 ∧ okV vs ∧ ∃ d, UpTo vs k d ∧ us = headD vs d ++ (vs.drop d).filter fun v => decide (v.num ∈ ns))
theorem filt_snoc (vs : List Vn) (ns : List Int) (i : Nat) (hi : i < vs.length) : (vs.take (i + 1)).filter (fun v => decide (v.num ∈ ns)) = (vs.take i).filter (fun v => decide (v.num ∈ ns)) ++ if (vs.getD i Vn.zero).num ∈ ns then [vs.getD i Vn.zero] else [] := by
  rw [vtake_snoc vs i hi, List.filter_append]
  congr 1
  by_cases h : (vs.getD i Vn.zero).num ∈ ns
  · rw [if_pos h, List.filter_cons_of_pos (by simpa using h)]; rfl
  · rw [if_neg h, List.filter_cons_of_neg (by simpa using h)]; rfl
theorem dump_len (vs : List Vn) (ns : List Int) (d : Nat) (i : Nat) : (headD vs d ++ ((vs.drop d).take i).filter fun v => decide (v.num ∈ ns)).length ≤ 1 + i := by
  have h1 : (headD vs d).length ≤ 1 := by unfold headD; split <;> simp
  have h2 := List.length_filter_le (fun v => decide (v.num ∈ ns)) ((vs.drop d).take i)
  rw [List.length_append]
  simp only [List.length_take] at h2
  omega
/-- What Dump's loop keeps. -/
structure DI (w wr : World) (ro : Option Addr) (N rc g m : Nat) (vs : List Vn) (d : Nat) (ns : List Int) (i : Nat) : Prop where
  fr : Fr [] w wr
  kept : VOut w wr ro N rc (headD vs d ++ ((vs.drop d).take i).filter fun v => decide (v.num ∈ ns))
  bools : BRow wr g m (mkB (vs.drop d) ns)
set_option maxHeartbeats 16000000 in
set_option maxRecDepth 100000 in
/-- The second half: what is kept, and those named behind. -/
theorem dump_any (ao : Option Addr) (L cap : Nat) (k : Int) (vs : List Vn) (bo : Option Addr) (M cb : Nat) (ns : List Int) (w : World) (hV : VRs w ao vs) (hL : L = vs.length) (hcap : L ≤ cap) (hN : IRs w bo ns) (hM : M = ns.length) :
    Calls Tryz.prog 100 #[.slice ao L cap, .int .i64 k, .slice bo M cb] w fun e w' => ∃ ro N rc us c, e = .returned (.tuple #[.slice ro N rc, .int .i64 ((c : Nat) : Int)]) ∧ DuTold vs k ns us c ∧ VOut w w' ro N rc us ∧ Fr [] w w' := by
  have HV : Hid (∀ W, Fr [] w W → VRs W ao vs ∧ IRs W bo ns) := fun W hf => ⟨hV.keep hf, hN.keep hf⟩
  have HL : Hid (L = vs.length ∧ M = ns.length) := ⟨hL, hM⟩
  have hLL : L ≤ 4398046511104 := by have := hV.few; omega
  obtain ⟨c, hck⟩ := CkT.ex vs
  have HC : Hid (Calls _ _ _ _ _) := vcheck_any ao L cap c vs w hV hL hck
  clear hV hL hN hM
  rcases hck with ⟨rfl, hok⟩ | ⟨rfl, hok⟩
  · have HO : Hid (okV vs) := hok
    have hL2 : L ≤ 65536 := by have := okV_few hok; have := HL.out.1; omega
    clear hok
    go_enter Tryz.func100, Tryz.ntmps100
    go_wp2_with fail
    refine Calls.mono HC.out ?_
    rintro e w1 ⟨rfl, hF1⟩
    have HU : Hid (Calls _ _ _ _ _) := upTo_any ao L cap k vs w1 (HV.out _ hF1).1 HL.out.1 HO.out.2
    clear HC
    go_wp2_with fail
    refine Calls.mono HU.out ?_
    rintro e w2 ⟨d, rfl, hd, hF2⟩
    have hG2 := hF1.then hF2
    have hdL : d ≤ L := by have := hd.le; have := HL.out.1; omega
    have HD : Hid (UpTo vs k d) := hd
    clear HU hd hF1 hF2
    have s2 : ∀ W, (Instr.sliceAt 68 (.slice ao L cap) (some (.int .i64 (d : Int))) none none).run Tryz.prog W = .ok (.slice (fromV ao cap d) (L - d) (cap - d)) W := slV_l ao L cap d hdL
    have HNm : Hid (∀ W, Fr [] w W → Calls Tryz.prog 110 #[.slice (fromV ao cap d) (L - d) (cap - d), .slice bo M cb] W fun e w' => ∃ g, e = .returned (.slice (some ⟨g, 0, none⟩) (L - d) (L - d)) ∧ W.heap.size ≤ g ∧ BRow w' g (L - d) (mkB (vs.drop d) ns) ∧ Fr [] W w') := fun W hf => by
      have t2 : VRs W (fromV ao cap d) (vs.drop d) := by
        have := (HV.out _ hf).1.from cap d L hdL (by have := HL.out.1; omega) (by have := HL.out.1; omega)
        rwa [List.take_of_length_le (by rw [List.length_drop]; have := HL.out.1; omega)] at this
      exact named_any (fromV ao cap d) (L - d) (cap - d) (vs.drop d) bo M cb ns W t2 (by rw [List.length_drop, ← HL.out.1]) (okV_drop HO.out d).2 (HV.out _ hf).2 HL.out.2
    obtain ⟨fo, hfo⟩ : ∃ fo, fo = fromV ao cap d := ⟨_, rfl⟩
    obtain ⟨m, hm⟩ : ∃ m, m = L - d := ⟨_, rfl⟩
    obtain ⟨cm, hcm⟩ : ∃ cm, cm = cap - d := ⟨_, rfl⟩
    rw [← hfo, ← hm, ← hcm] at HNm s2
    have HM : Hid (m = (vs.drop d).length) := by show _ = _; rw [List.length_drop, ← HL.out.1]; exact hm
    have hmL : d + m = L := by omega
    have hm2 : m ≤ 65536 := by omega
    have HmL : Hid (d + m = L) := hmL
    clear hfo hm hcm hmL
    by_cases h0 : d = 0
    · have hd0 : (d : Int) ≤ 0 := by omega
      have HP : Hid (Calls _ _ _ _ _) := part_any ao L cap d d vs w2 (HV.out _ hG2).1 HL.out.1 hcap (Nat.le_refl _) hdL
      have Hh0 : Hid (d = 0) := h0
      clear h0
      go_wp2_with fail
      refine Calls.mono HP.out ?_
      rintro e w3 ⟨ro, rfl, hO, hF3⟩
      have hG3 := hG2.then hF3
      obtain ⟨N0, hN0⟩ : ∃ N0, N0 = d - d := ⟨_, rfl⟩
      have e0 : (vs.drop d).take (d - d) = [] := by simp
      rw [e0] at hO
      rw [← hN0] at hO ⊢
      have hO3 : VOut w w3 ro N0 N0 (headD vs d) := by unfold headD; rw [if_neg (fun h => by have := Hh0.out; omega)]; exact hO.later hG2.size
      have hN1 : N0 ≤ 1 := by omega
      clear HP hO hF3 hN0 e0
      have HN3 : Hid (Calls _ _ _ _ _) := HNm.out w3 hG3
      clear HNm
      go_wp2_with fail
      refine Calls.mono HN3.out ?_
      rintro e w4 ⟨g, rfl, hgs, hB4, hF4⟩
      have hG4 := hG3.then hF4
      have HD0 : Hid (DI w w4 ro N0 N0 g m vs d ns 0) := ⟨hG4, by simpa using hO3.keepS hF4 (by simp), hB4⟩
      clear HN3 hO3 hF4 hB4 hgs s2
      go_wp2_with fail
      go_loopw [11, 46] (fun kk ii wr => ∃ (ro : Option Addr) (N rc i : Nat), kk = .slice ro N rc ∧ ii = .int .i64 i ∧ i ≤ m ∧ N ≤ 1 + i ∧ Hid (DI w wr ro N rc g m vs d ns i)) (fun _ ii _ => m - (RowKit.intOf ii).toNat)
      case atStart => exact ⟨ro, N0, N0, 0, rfl, rfl, Nat.zero_le _, by omega, HD0⟩
      case round =>
        obtain ⟨ro, N, rc, i, rfl, rfl, him, hNi, HI⟩ := hrel
        by_cases hi : i < m
        · have hi' : i < (vs.drop d).length := by rw [← HM.out]; exact hi
          have cb := HI.out.bools.cell (mkB_get (vs.drop d) ns i hi')
          have hst := filt_snoc (vs.drop d) ns i hi'
          rw [getD_drop] at cb hst
          have hdi : d + i < vs.length := by have := HL.out.1; have := HmL.out; omega
          have hdiL : (d : Int) + (i : Int) < L := by have := HmL.out; omega
          obtain ⟨b, off, rfl, hbl, hat⟩ := (HV.out _ HI.out.fr).1.lies (by omega)
          obtain ⟨c0, c1, c2⟩ := hat (d + i) hdi
          obtain ⟨x, hx⟩ : ∃ x, x = vs.getD (d + i) Vn.zero := ⟨_, rfl⟩
          rw [← hx] at cb hst c0 c1 c2
          by_cases hin : x.num ∈ ns
          · rw [decide_eq_true hin] at cb
            rw [if_pos hin] at hst
            have HSt : Hid (_ = _) := hst
            have hsz : w.heap.size ≤ wr.heap.size := HI.out.fr.size
            have HOa : Hid (VOut w (wr.alloc (.cells #[.int .i64 x.num, .string x.val, .bool x.drop] 110)) ro N rc (headD vs d ++ ((vs.drop d).take i).filter fun v => decide (v.num ∈ ns))) := HI.out.kept.keepS (Fr.alloc [] _ _) (by simp)
            have HNe : Hid (∀ j u, (vnC x)[j]? = some u → (wr.alloc (.cells #[.int .i64 x.num, .string x.val, .bool x.drop] 110)).cell? ((⟨wr.heap.size, 0, none⟩ : Addr).add j) = some u) := by
              intro j u hu
              rw [Addr.add_lit, World.cell?_alloc_at _ _ _ _ (by simp)]
              simpa [vnC] using hu
            have HFa : Hid (Fr [] w (wr.alloc (.cells #[.int .i64 x.num, .string x.val, .bool x.drop] 110))) := HI.out.fr.then (Fr.alloc [] _ _)
            have HBa : Hid (BRow (wr.alloc (.cells #[.int .i64 x.num, .string x.val, .bool x.drop] 110)) g m (mkB (vs.drop d) ns)) := HI.out.bools.keep (Fr.alloc [] _ _) (by simp)
            clear HI hst hat hx hin
            go_upto_region 13 with fail
            go_wp2_with (at_builtin; refine wpList_appCut w _ rfl _ _ rfl ro N rc _ rfl HOa.out ⟨wr.heap.size, 0, none⟩ 1 x rfl HNe.out (by omega) (by have := HFa.out.size; omega) ?_
                         intro ro' rc' W' hO' hF'
                         have HI5 : Hid (DI w W' ro' (N + 1) rc' g m vs d ns (i + 1)) := ⟨HFa.out.on hF' (fun y hy => (HOa.out.blk y hy).1), by rw [HSt.out, ← List.append_assoc]; exact hO', HBa.out.keep hF' (fun hm => by
                           obtain ⟨cur, h1⟩ := (HOa.out.blk g hm).2
                           obtain ⟨cur', h2, _⟩ := HBa.out.row
                           rw [h1] at h2
                           cases h2)⟩
                         clear hO' hF'
                         go_frame)
            exact ⟨⟨ro', N + 1, rc', i + 1, rfl, by simp, by omega, by omega, HI5⟩, by simp [RowKit.intOf]; omega⟩
          · rw [decide_eq_false hin] at cb
            rw [if_neg hin, List.append_nil] at hst
            have HI5 : Hid (DI w wr ro N rc g m vs d ns (i + 1)) := ⟨HI.out.fr, by rw [hst]; exact HI.out.kept, HI.out.bools⟩
            clear HI hst hat hx hin c0 c1 c2
            go_wp2
            exact ⟨⟨ro, N, rc, i + 1, rfl, by simp, by omega, by omega, HI5⟩, by simp [RowKit.intOf]; omega⟩
        · have HE : Hid (VOut w wr ro N rc (headD vs d ++ (vs.drop d).filter fun v => decide (v.num ∈ ns))) := by
            have := HI.out.kept
            rw [List.take_of_length_le (by rw [← HM.out]; omega)] at this
            exact this
          have hFz := HI.out.fr
          clear HI
          go_wp2
          refine bodyPost_ret (results_tmp2 rfl _ _ _) rfl ?_
          exact ⟨ro, N, rc, _, 0, rfl, Or.inr ⟨rfl, HO.out, d, HD.out, rfl⟩, HE.out, hFz⟩
    · obtain ⟨d', hd'⟩ : ∃ d', d = d' + 1 := ⟨d - 1, by omega⟩
      have hd1 : (d : Int) - 1 = (d' : Int) := by omega
      have hdpos : (d : Int) > 0 := by omega
      have hdp2 : d' < L := by omega
      obtain ⟨b, off, rfl, hbl, hat⟩ := (HV.out _ hG2).1.lies (by have := HL.out.1; omega)
      have c2 := (hat d' (by have := HL.out.1; omega)).c2
      obtain ⟨dr, hdr⟩ : ∃ dr, dr = (vs.getD d' Vn.zero).drop := ⟨_, rfl⟩
      rw [← hdr] at c2
      have HDr : Hid (dr = (vs.getD (d - 1) Vn.zero).drop) := by show _ = _; rw [hdr, hd', Nat.add_sub_cancel]
      have HSn : Hid ((vs.drop d').take (d - d') = [vs.getD (d - 1) Vn.zero]) := by
        show _ = _
        have e : d - d' = 1 := by omega
        have hl : d' < vs.length := by have := HL.out.1; omega
        rw [e, List.drop_eq_getElem_cons hl, List.take_succ_cons, List.take_zero, hd', Nat.add_sub_cancel]
        simp [List.getD, hl]
      have HP : Hid (∀ f, f ≤ d → Calls Tryz.prog 109 #[.slice (some ⟨b, off, none⟩) L cap, .int .i64 ((f : Nat) : Int), .int .i64 (d : Int)] w2 fun e w' => ∃ ro, e = .returned (.slice ro (d - f) (d - f)) ∧ VOut w2 w' ro (d - f) (d - f) ((vs.drop f).take (d - f)) ∧ Fr [] w2 w') := fun f hf => part_any _ L cap f d vs w2 (HV.out _ hG2).1 HL.out.1 hcap hf hdL
      have HDd : Hid (d = d' + 1) := hd'
      clear hat hdr hd' h0
      cases dr with
      | false =>
        have HP2 : Hid (Calls _ _ _ _ _) := HP.out d' (by have := HDd.out; omega)
        clear HP
        go_wp2_with fail
        refine Calls.mono HP2.out ?_
        rintro e w3 ⟨ro, rfl, hO, hF3⟩
        have hG3 := hG2.then hF3
        obtain ⟨N0, hN0⟩ : ∃ N0, N0 = d - d' := ⟨_, rfl⟩
        rw [HSn.out] at hO
        rw [← hN0] at hO ⊢
        have hO3 : VOut w w3 ro N0 N0 (headD vs d) := by unfold headD; rw [if_pos ⟨by omega, HDr.out.symm⟩]; exact hO.later hG2.size
        have hN1 : N0 ≤ 1 := by have := HDd.out; omega
        clear HP2 hO hF3 hN0 HSn HDr c2
        have HN3 : Hid (Calls _ _ _ _ _) := HNm.out w3 hG3
        clear HNm
        go_wp2_with fail
        refine Calls.mono HN3.out ?_
        rintro e w4 ⟨g, rfl, hgs, hB4, hF4⟩
        have hG4 := hG3.then hF4
        have HD0 : Hid (DI w w4 ro N0 N0 g m vs d ns 0) := ⟨hG4, by simpa using hO3.keepS hF4 (by simp), hB4⟩
        clear HN3 hO3 hF4 hB4 hgs s2
        go_wp2_with fail
        go_loopw [11, 46] (fun kk ii wr => ∃ (ro : Option Addr) (N rc i : Nat), kk = .slice ro N rc ∧ ii = .int .i64 i ∧ i ≤ m ∧ N ≤ 1 + i ∧ Hid (DI w wr ro N rc g m vs d ns i)) (fun _ ii _ => m - (RowKit.intOf ii).toNat)
        case atStart => exact ⟨ro, N0, N0, 0, rfl, rfl, Nat.zero_le _, by omega, HD0⟩
        case round =>
          obtain ⟨ro, N, rc, i, rfl, rfl, him, hNi, HI⟩ := hrel
          by_cases hi : i < m
          · have hi' : i < (vs.drop d).length := by rw [← HM.out]; exact hi
            have cb := HI.out.bools.cell (mkB_get (vs.drop d) ns i hi')
            have hst := filt_snoc (vs.drop d) ns i hi'
            rw [getD_drop] at cb hst
            have hdi : d + i < vs.length := by have := HL.out.1; have := HmL.out; omega
            have hdiL : (d : Int) + (i : Int) < L := by have := HmL.out; omega
            obtain ⟨b2, off2, e2, hbl2, hat⟩ := (HV.out _ HI.out.fr).1.lies (by omega)
            obtain ⟨c0, c1, c2⟩ := hat (d + i) hdi
            cases e2
            obtain ⟨x, hx⟩ : ∃ x, x = vs.getD (d + i) Vn.zero := ⟨_, rfl⟩
            rw [← hx] at cb hst c0 c1 c2
            by_cases hin : x.num ∈ ns
            · rw [decide_eq_true hin] at cb
              rw [if_pos hin] at hst
              have HSt : Hid (_ = _) := hst
              have hsz : w.heap.size ≤ wr.heap.size := HI.out.fr.size
              have HOa : Hid (VOut w (wr.alloc (.cells #[.int .i64 x.num, .string x.val, .bool x.drop] 110)) ro N rc (headD vs d ++ ((vs.drop d).take i).filter fun v => decide (v.num ∈ ns))) := HI.out.kept.keepS (Fr.alloc [] _ _) (by simp)
              have HNe : Hid (∀ j u, (vnC x)[j]? = some u → (wr.alloc (.cells #[.int .i64 x.num, .string x.val, .bool x.drop] 110)).cell? ((⟨wr.heap.size, 0, none⟩ : Addr).add j) = some u) := by
                intro j u hu
                rw [Addr.add_lit, World.cell?_alloc_at _ _ _ _ (by simp)]
                simpa [vnC] using hu
              have HFa : Hid (Fr [] w (wr.alloc (.cells #[.int .i64 x.num, .string x.val, .bool x.drop] 110))) := HI.out.fr.then (Fr.alloc [] _ _)
              have HBa : Hid (BRow (wr.alloc (.cells #[.int .i64 x.num, .string x.val, .bool x.drop] 110)) g m (mkB (vs.drop d) ns)) := HI.out.bools.keep (Fr.alloc [] _ _) (by simp)
              clear HI hst hat hx hin
              go_upto_region 13 with fail
              go_wp2_with (at_builtin; refine wpList_appCut w _ rfl _ _ rfl ro N rc _ rfl HOa.out ⟨wr.heap.size, 0, none⟩ 1 x rfl HNe.out (by omega) (by have := HFa.out.size; omega) ?_
                           intro ro' rc' W' hO' hF'
                           have HI5 : Hid (DI w W' ro' (N + 1) rc' g m vs d ns (i + 1)) := ⟨HFa.out.on hF' (fun y hy => (HOa.out.blk y hy).1), by rw [HSt.out, ← List.append_assoc]; exact hO', HBa.out.keep hF' (fun hm => by
                             obtain ⟨cur, h1⟩ := (HOa.out.blk g hm).2
                             obtain ⟨cur', h2, _⟩ := HBa.out.row
                             rw [h1] at h2
                             cases h2)⟩
                           clear hO' hF'
                           go_frame)
              exact ⟨⟨ro', N + 1, rc', i + 1, rfl, by simp, by omega, by omega, HI5⟩, by simp [RowKit.intOf]; omega⟩
            · rw [decide_eq_false hin] at cb
              rw [if_neg hin, List.append_nil] at hst
              have HI5 : Hid (DI w wr ro N rc g m vs d ns (i + 1)) := ⟨HI.out.fr, by rw [hst]; exact HI.out.kept, HI.out.bools⟩
              clear HI hst hat hx hin c0 c1 c2
              go_wp2
              exact ⟨⟨ro, N, rc, i + 1, rfl, by simp, by omega, by omega, HI5⟩, by simp [RowKit.intOf]; omega⟩
          · have HE : Hid (VOut w wr ro N rc (headD vs d ++ (vs.drop d).filter fun v => decide (v.num ∈ ns))) := by
              have := HI.out.kept
              rw [List.take_of_length_le (by rw [← HM.out]; omega)] at this
              exact this
            have hFz := HI.out.fr
            clear HI
            go_wp2
            refine bodyPost_ret (results_tmp2 rfl _ _ _) rfl ?_
            exact ⟨ro, N, rc, _, 0, rfl, Or.inr ⟨rfl, HO.out, d, HD.out, rfl⟩, HE.out, hFz⟩
      | true =>
        have HP2 : Hid (Calls _ _ _ _ _) := HP.out d (Nat.le_refl _)
        clear HP
        go_wp2_with fail
        refine Calls.mono HP2.out ?_
        rintro e w3 ⟨ro, rfl, hO, hF3⟩
        have hG3 := hG2.then hF3
        obtain ⟨N0, hN0⟩ : ∃ N0, N0 = d - d := ⟨_, rfl⟩
        have e0 : (vs.drop d).take (d - d) = [] := by simp
        rw [e0] at hO
        rw [← hN0] at hO ⊢
        have hO3 : VOut w w3 ro N0 N0 (headD vs d) := by unfold headD; rw [if_neg (fun h => by have := HDr.out; rw [h.2] at this; cases this)]; exact hO.later hG2.size
        have hN1 : N0 ≤ 1 := by omega
        clear HP2 hO hF3 hN0 HSn HDr c2 e0
        have HN3 : Hid (Calls _ _ _ _ _) := HNm.out w3 hG3
        clear HNm
        go_wp2_with fail
        refine Calls.mono HN3.out ?_
        rintro e w4 ⟨g, rfl, hgs, hB4, hF4⟩
        have hG4 := hG3.then hF4
        have HD0 : Hid (DI w w4 ro N0 N0 g m vs d ns 0) := ⟨hG4, by simpa using hO3.keepS hF4 (by simp), hB4⟩
        clear HN3 hO3 hF4 hB4 hgs s2
        go_wp2_with fail
        go_loopw [11, 46] (fun kk ii wr => ∃ (ro : Option Addr) (N rc i : Nat), kk = .slice ro N rc ∧ ii = .int .i64 i ∧ i ≤ m ∧ N ≤ 1 + i ∧ Hid (DI w wr ro N rc g m vs d ns i)) (fun _ ii _ => m - (RowKit.intOf ii).toNat)
        case atStart => exact ⟨ro, N0, N0, 0, rfl, rfl, Nat.zero_le _, by omega, HD0⟩
        case round =>
          obtain ⟨ro, N, rc, i, rfl, rfl, him, hNi, HI⟩ := hrel
          by_cases hi : i < m
          · have hi' : i < (vs.drop d).length := by rw [← HM.out]; exact hi
            have cb := HI.out.bools.cell (mkB_get (vs.drop d) ns i hi')
            have hst := filt_snoc (vs.drop d) ns i hi'
            rw [getD_drop] at cb hst
            have hdi : d + i < vs.length := by have := HL.out.1; have := HmL.out; omega
            have hdiL : (d : Int) + (i : Int) < L := by have := HmL.out; omega
            obtain ⟨b2, off2, e2, hbl2, hat⟩ := (HV.out _ HI.out.fr).1.lies (by omega)
            obtain ⟨c0, c1, c2⟩ := hat (d + i) hdi
            cases e2
            obtain ⟨x, hx⟩ : ∃ x, x = vs.getD (d + i) Vn.zero := ⟨_, rfl⟩
            rw [← hx] at cb hst c0 c1 c2
            by_cases hin : x.num ∈ ns
            · rw [decide_eq_true hin] at cb
              rw [if_pos hin] at hst
              have HSt : Hid (_ = _) := hst
              have hsz : w.heap.size ≤ wr.heap.size := HI.out.fr.size
              have HOa : Hid (VOut w (wr.alloc (.cells #[.int .i64 x.num, .string x.val, .bool x.drop] 110)) ro N rc (headD vs d ++ ((vs.drop d).take i).filter fun v => decide (v.num ∈ ns))) := HI.out.kept.keepS (Fr.alloc [] _ _) (by simp)
              have HNe : Hid (∀ j u, (vnC x)[j]? = some u → (wr.alloc (.cells #[.int .i64 x.num, .string x.val, .bool x.drop] 110)).cell? ((⟨wr.heap.size, 0, none⟩ : Addr).add j) = some u) := by
                intro j u hu
                rw [Addr.add_lit, World.cell?_alloc_at _ _ _ _ (by simp)]
                simpa [vnC] using hu
              have HFa : Hid (Fr [] w (wr.alloc (.cells #[.int .i64 x.num, .string x.val, .bool x.drop] 110))) := HI.out.fr.then (Fr.alloc [] _ _)
              have HBa : Hid (BRow (wr.alloc (.cells #[.int .i64 x.num, .string x.val, .bool x.drop] 110)) g m (mkB (vs.drop d) ns)) := HI.out.bools.keep (Fr.alloc [] _ _) (by simp)
              clear HI hst hat hx hin
              go_upto_region 13 with fail
              go_wp2_with (at_builtin; refine wpList_appCut w _ rfl _ _ rfl ro N rc _ rfl HOa.out ⟨wr.heap.size, 0, none⟩ 1 x rfl HNe.out (by omega) (by have := HFa.out.size; omega) ?_
                           intro ro' rc' W' hO' hF'
                           have HI5 : Hid (DI w W' ro' (N + 1) rc' g m vs d ns (i + 1)) := ⟨HFa.out.on hF' (fun y hy => (HOa.out.blk y hy).1), by rw [HSt.out, ← List.append_assoc]; exact hO', HBa.out.keep hF' (fun hm => by
                             obtain ⟨cur, h1⟩ := (HOa.out.blk g hm).2
                             obtain ⟨cur', h2, _⟩ := HBa.out.row
                             rw [h1] at h2
                             cases h2)⟩
                           clear hO' hF'
                           go_frame)
              exact ⟨⟨ro', N + 1, rc', i + 1, rfl, by simp, by omega, by omega, HI5⟩, by simp [RowKit.intOf]; omega⟩
            · rw [decide_eq_false hin] at cb
              rw [if_neg hin, List.append_nil] at hst
              have HI5 : Hid (DI w wr ro N rc g m vs d ns (i + 1)) := ⟨HI.out.fr, by rw [hst]; exact HI.out.kept, HI.out.bools⟩
              clear HI hst hat hx hin c0 c1 c2
              go_wp2
              exact ⟨⟨ro, N, rc, i + 1, rfl, by simp, by omega, by omega, HI5⟩, by simp [RowKit.intOf]; omega⟩
          · have HE : Hid (VOut w wr ro N rc (headD vs d ++ (vs.drop d).filter fun v => decide (v.num ∈ ns))) := by
              have := HI.out.kept
              rw [List.take_of_length_le (by rw [← HM.out]; omega)] at this
              exact this
            have hFz := HI.out.fr
            clear HI
            go_wp2
            refine bodyPost_ret (results_tmp2 rfl _ _ _) rfl ?_
            exact ⟨ro, N, rc, _, 0, rfl, Or.inr ⟨rfl, HO.out, d, HD.out, rfl⟩, HE.out, hFz⟩
  · have HO : Hid (¬ okV vs) := hok
    clear hok
    go_enter Tryz.func100, Tryz.ntmps100
    go_wp2_with fail
    refine Calls.mono HC.out ?_
    rintro e w1 ⟨rfl, hF1⟩
    clear HC
    go_wp2
    refine bodyPost_ret (results_tmp2 rfl _ _ _) rfl ?_
    exact ⟨none, 0, 0, [], 1, rfl, Or.inl ⟨rfl, HO.out, rfl⟩, VOut.of ⟨rfl, .inl ⟨rfl, rfl⟩⟩ rfl, hF1⟩
end Go.Proofs.YtomajifklajilaaGreat

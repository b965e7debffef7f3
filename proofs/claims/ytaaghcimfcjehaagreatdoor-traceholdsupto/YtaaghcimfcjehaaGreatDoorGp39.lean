/- Texts of this claim laid together, one behind the other: contracts and plain lemmas; conditions as each names them. -/
import Derived.Test.YtaaghcimfcjehaaGreatDoorGp38
import Derived.Sort.Walk0
import Derived.Shelf.SlSortCmp.WholeK
import Derived.Shelf.Small.Strs
import Derived.Shelf.Lay
import Derived.Ground.SlsfProg
import Derived.Ground.NamesProg
import Derived.Test.YtaaghcimfcjehaaGreatDoorGp36
import Derived.Laws.Cover1
/- Entries by rising keys: strings.Compare, byKey, slices.SortFunc of a row of entries. Conditions as each names them. -/
namespace Go.Proofs.YtaaghcimfcjehaaGreatDoor
open Go.ChangeShapes Go.WideShapes Go.ChangeAt Go.RowKit Go.Lib Go.Maps Go.Sort Go.Shelf
set_option linter.unusedVariables false

shelf_lay_g SlLaysF0.n6 Slsf 6 at Tryz 168 as Tryz.sortEn
shelf_lay Lays.n106 Nm 106 at Tryz as Tryz.strCmp

def cfE (x y : Pr) : Int := compareBytes x.1.data.toList y.1.data.toList
set_option maxHeartbeats 1000000 in
theorem byKey_any (x y : Pr) (W : World) : Calls Tryz.prog 141 #[.agg #[.string x.1, .string x.2], .agg #[.string y.1, .string y.2]] W fun e w' => e = .returned (.int .i64 (cfE x y)) ∧ ∃ q os', w' = grow (W.drewN q) os' := by
  have hcon := fun W' => Any.strings_Compare Tryz.strCmp x.1 y.1 W'
  change ∀ W', Calls Tryz.prog 170 _ _ _ at hcon
  unfold cfE
  generalize compareBytes x.1.data.toList y.1.data.toList = r at hcon ⊢
  go_enter Tryz.func141, Tryz.ntmps141
  go_wp2_with (go_at_call 170; refine (hcon _).mono ?_; rintro e w' ⟨rfl, rfl⟩)
  go_ret
  exact ⟨rfl, 0, _, by rw [alloc_eq_grow, alloc_eq_grow, grow_grow]; rfl⟩
theorem ltOf_cfE (x y : Pr) : ltOf cfE x y = Op.bytesLess x.1.toList y.1.toList := by
  unfold ltOf cfE
  rw [ByteArray.toList_eq, ByteArray.toList_eq]
  have h := bl_cmp x.1.data.toList y.1.data.toList
  cases hb : Op.bytesLess x.1.data.toList y.1.data.toList with
  | true => simpa using h.2 hb
  | false =>
    rw [hb] at h
    simpa using h
theorem swoE : SWO (ltOf cfE) where
  irrefl x := by rw [ltOf_cfE]; exact bl_irrefl _
  trans x y z h1 h2 := by rw [ltOf_cfE] at *; exact bl_trans h1 h2
  ntrans x y z h1 h2 := by rw [ltOf_cfE] at *; exact bl_ntrans h1 h2
theorem celsE_at : ∀ (ps : List Pr) (t : Nat), t < ps.length * 2 → (celsE ps)[t]? = some ((celE ps[t / 2]!)[t % 2]!)
  | [], t, h => by simp at h
  | p :: ps, 0, h => by simp [celsE, celE]
  | p :: ps, 1, h => by simp [celsE, celE]
  | p :: ps, (t + 2), h => by
    have ih := celsE_at ps t (by simp at h; omega)
    have e1 : (t + 2) / 2 = t / 2 + 1 := by omega
    have e2 : (t + 2) % 2 = t % 2 := by omega
    rw [e1, e2]
    have e3 : (celsE (p :: ps))[t + 2]? = (celsE ps)[t]? := by simp [celsE, celE]
    rw [e3, ih]
    simp
theorem flatE (ps : List Pr) : flatK celE 2 ps.toArray = (celsE ps).toArray := by
  apply Array.ext_getElem?
  intro t
  by_cases h : t < ps.length * 2
  · have h1 : t < (flatK celE 2 ps.toArray).size := by rw [size_flatK]; simpa using h
    have h2 := get_flatK celE 2 ps.toArray t (by simpa using h)
    rw [getElem!_pos _ t h1] at h2
    rw [Array.getElem?_eq_getElem h1, h2, List.getElem?_toArray, celsE_at ps t h]
    simp
  · rw [Array.getElem?_eq_none (by rw [size_flatK]; simp; omega), Array.getElem?_eq_none (by simp [celsE_length]; omega)]
theorem holdsE {w : World} {g : Nat} {cur : Array Value} {e : TypeId} {ps : List Pr} (hb : w.heap[g]? = some (.cells cur e (0, 0))) (ht : cur.toList.take (ps.length * 2) = celsE ps) : HoldsK celE 2 w g 0 ps.toArray := by
  unfold HoldsK
  rw [flatE]
  intro j hj
  have hj' : j < ps.length * 2 := by simp [celsE_length] at hj; omega
  refine ⟨?_, by simp [World.frozen?, hb]⟩
  have h1 : (cur.toList.take (ps.length * 2))[j]? = (celsE ps)[j]? := by rw [ht]
  rw [List.getElem?_take_of_lt hj'] at h1
  rw [cell_of_row _ _ _ _ _ _ hb, Nat.zero_add, ← Array.getElem?_toList, h1]
  have hl : j < (celsE ps).length := by rw [celsE_length]; omega
  simp [hl]
theorem heapE {w : World} {g n : Nat} {os : Array Obj} {cur : Array Value} {e : TypeId} {fr : Nat × Nat} (d : Array Pr) (hb : w.heap[g]? = some (.cells cur e fr)) :
    (sortWorldK celE 2 w g 0 n d os).heap[g]? = some (.cells (putCells id 0 (flatK celE 2 d) cur) e fr) := by
  have hg : g < w.heap.size := (Array.getElem?_eq_some_iff.1 hb).1
  unfold sortWorldK putRowK
  rw [heap_grow_old _ _ (by simpa using hg)]
  simp [putRow, mapBlock, Sort.ahead, Array.getElem?_modify, hb, onCells]
theorem grownE {w : World} {g n : Nat} {os : Array Obj} (d : Array Pr) : w.grownBy (sortWorldK celE 2 w g 0 n d os) (some g) := by
  unfold sortWorldK putRowK
  refine ⟨rfl, rfl, rfl, by simp, fun k hk hne => ?_⟩
  rw [heap_grow_old _ _ (by simpa using hk)]
  have : g ≠ k := fun e => hne (by rw [e])
  simp [putRow, mapBlock, Sort.ahead, Array.getElem?_modify, this]
theorem take_putE (cur : Array Value) (vs : List Value) (h : vs.length ≤ cur.size) : (putCells id 0 vs.toArray cur).toList.take vs.length = vs := by
  apply List.ext_getElem?
  intro j
  by_cases hj : j < vs.length
  · rw [List.getElem?_take_of_lt hj, Array.getElem?_toList]
    simp [putCells, hj, show j < cur.size by omega]
  · rw [List.getElem?_take_eq_none (by omega), List.getElem?_eq_none (by omega)]
/-- No later key is less. -/
def Sd (ps : List Pr) : Prop := ps.Pairwise fun a b => Op.bytesLess b.1.toList a.1.toList = false
theorem sd_of {ds : List Pr} (h : SortedIn (ltOf cfE) 0 ds.length ds.toArray) : Sd ds := by
  unfold Sd
  rw [List.pairwise_iff_getElem]
  intro i j hi hj hij
  have := h i j (Nat.zero_le _) hij hj
  rw [ltOf_cfE] at this
  simpa [hi, hj] using this
theorem Tryz.isAggEn (w : World) : (isAgg 152).run Tryz.prog w = .ok true w := by kernel_rfl
theorem Tryz.sizeOfEn (w : World) : (Go.sizeOf 152).run Tryz.prog w = .ok 2 w := by kernel_rfl
theorem celE_one (x : Pr) : ∀ v ∈ celE x, v.oneCell' = true := new2_one x
set_option maxHeartbeats 1000000 in
theorem sortE_some (base g cap : Nat) (ps : List Pr) (w : World) (hrow : w.ownsRow base 152 2 (.slice (some ⟨g, 0, none⟩) ps.length cap) ps.length (celsE ps)) (hlen : ps.length < 1099511627776) :
    Calls Tryz.prog 168 #[.slice (some ⟨g, 0, none⟩) ps.length cap, .func (.func 141) #[] #[]] w fun e w' => e = .returned (.tuple #[]) ∧ ∃ ds, ds.Perm ps ∧ Sd ds ∧ w'.ownsRow base 152 2 (.slice (some ⟨g, 0, none⟩) ps.length cap) ps.length (celsE ds) ∧ Fr [g] w w' := by
  obtain ⟨hl, hr⟩ := hrow
  rcases hr with ⟨hh, _⟩ | ⟨g', cap', cur, hh, hbase, hb, h1, h2, h3, h4⟩
  · cases hh
  cases hh
  have eg : ∀ args w, (callFunc 141 args).run Tryz.prog w = .ok (.enter 141 args) w := enters_of Tryz.func141 (by kernel_rfl) rfl
  have hcmp : CmpLays Tryz.prog 141 #[] celE 2 cfE g 0 ps.toArray.size w := fun _ _ _ _ x y => byKey_any x y _
  have hcon := AnyQ.slices_SortFunc Tryz.sortEn 2 Tryz.isAggEn Tryz.sizeOfEn celE (fun _ => rfl) celE_one cfE swoE 141 #[] g 0 cap ps.toArray w eg hcmp (holdsE hb h4) (lt_of_block hb) (by simp; omega)
  change Calls Tryz.prog 168 _ _ _ at hcon
  have hsz : ps.toArray.size = ps.length := by simp
  rw [hsz] at hcon
  refine hcon.mono ?_
  rintro e w' ⟨rfl, d', n, os, hp, hs, rfl⟩
  obtain ⟨hs1, _, hp1⟩ := hp
  have hd : d'.toList.length = ps.length := by simpa using hs1
  refine ⟨rfl, d'.toList, ?_, ?_, ⟨?_, .inr ⟨g, cap, _, rfl, hbase, heapE d' hb, h1, h2, by simp [putCells, h3], ?_⟩⟩, Fr.grown (grownE d') (by intro k hk _; cases hk; simp)⟩
  · have e1 : d'.extract 0 ps.length = d' := by rw [← hd]; simp
    have e2 : ps.toArray.extract 0 ps.length = ps.toArray := by simp
    rw [e1, e2] at hp1
    simpa using hp1
  · refine sd_of ?_
    rw [hd]
    simpa using hs
  · rw [celsE_length, hd]; omega
  · have e1 : flatK celE 2 d' = (celsE d'.toList).toArray := by rw [← flatE]
    have e2 : ps.length * 2 = (celsE d'.toList).length := by rw [celsE_length, hd]; omega
    rw [e1, e2]
    exact take_putE cur _ (by rw [celsE_length, hd, h3]; omega)
end Go.Proofs.YtaaghcimfcjehaaGreatDoor
/- Entries by rising keys that are what a map says: there is one such list; what a write, a stretch make of it. Mathematics alone. -/
namespace Go.Proofs.YtaaghcimfcjehaaGreatDoor
set_option linter.unusedVariables false

/-- Keys rise. -/
def Inc (ps : List Pr) : Prop := ps.Pairwise fun a b => Op.bytesLess a.1.toList b.1.toList = true
/-- These are the entries of E, by rising keys. -/
structure Is (E : ByteArray → Option ByteArray) (ps : List Pr) : Prop where
  inc : Inc ps
  mem : ∀ p, p ∈ ps ↔ E p.1 = some p.2
theorem inc_irr {p : Pr} : ¬ Op.bytesLess p.1.toList p.1.toList = true := by rw [bl_irrefl]; simp
theorem inc_unique : ∀ {ps qs : List Pr}, Inc ps → Inc qs → (∀ p, p ∈ ps ↔ p ∈ qs) → ps = qs
  | [], [], _, _, _ => rfl
  | [], q :: qs, _, _, h => absurd ((h q).2 (by simp)) (by simp)
  | p :: ps, [], _, _, h => absurd ((h p).1 (by simp)) (by simp)
  | p :: ps, q :: qs, h1, h2, h => by
    unfold Inc at h1 h2
    rw [List.pairwise_cons] at h1 h2
    have hpq : p = q := by
      have m1 := (h p).1 (by simp)
      have m2 := (h q).2 (by simp)
      rcases List.mem_cons.1 m1 with e | e
      · exact e
      rcases List.mem_cons.1 m2 with e' | e'
      · exact e'.symm
      have a := h2.1 p e
      have b := h1.1 q e'
      exact absurd (bl_trans a b) inc_irr
    subst hpq
    congr 1
    refine inc_unique h1.2 h2.2 fun x => ⟨fun hx => ?_, fun hx => ?_⟩
    · rcases List.mem_cons.1 ((h x).1 (List.mem_cons_of_mem _ hx)) with e | e
      · subst e; exact absurd (h1.1 x hx) inc_irr
      · exact e
    · rcases List.mem_cons.1 ((h x).2 (List.mem_cons_of_mem _ hx)) with e | e
      · subst e; exact absurd (h2.1 x hx) inc_irr
      · exact e
theorem Is.unique {E : ByteArray → Option ByteArray} {ps qs : List Pr} (h1 : Is E ps) (h2 : Is E qs) : ps = qs :=
  inc_unique h1.inc h2.inc fun p => (h1.mem p).trans (h2.mem p).symm
theorem Is.nil : Is (fun _ => none) [] := ⟨List.Pairwise.nil, fun p => by simp⟩
theorem Is.key {E : ByteArray → Option ByteArray} {ps : List Pr} (h : Is E ps) {p q : Pr} (hp : p ∈ ps) (hq : q ∈ ps) (e : p.1 = q.1) : p = q := by
  have a := (h.mem p).1 hp
  have b := (h.mem q).1 hq
  rw [e, b] at a
  exact Prod.ext e (by simpa using a.symm)
theorem Is.cong {E E' : ByteArray → Option ByteArray} {ps : List Pr} (h : Is E ps) (e : ∀ s, E s = E' s) : Is E' ps := ⟨h.inc, fun p => by rw [← e]; exact h.mem p⟩
/-- What is sorted by keys that differ rises. -/
theorem is_sorted {E : ByteArray → Option ByteArray} {ps ds : List Pr} (h : AllP E ps) (hp : ds.Perm ps) (hs : ds.Pairwise fun a b => Op.bytesLess b.1.toList a.1.toList = false) : Is E ds := by
  refine ⟨?_, fun p => by rw [← h.mem p]; exact hp.mem_iff⟩
  have hn : (ds.map (·.1)).Nodup := (hp.map (·.1)).nodup_iff.2 h.nd
  have hn2 := List.pairwise_map.1 hn
  unfold Inc
  have := hs.and hn2
  refine this.imp ?_
  rintro a b ⟨h1, h2⟩
  cases hab : Op.bytesLess a.1.toList b.1.toList with
  | true => rfl
  | false =>
    exfalso
    have e := bl_eq hab h1
    rw [ByteArray.toList_eq, ByteArray.toList_eq] at e
    exact h2 (bytes_eq e)
/-- A stretch of it. -/
theorem Is.filter {E : ByteArray → Option ByteArray} {ps : List Pr} (h : Is E ps) (K : ByteArray → Bool) : Is (fun s => if K s = true then E s else none) (ps.filter fun p => K p.1) := by
  refine ⟨List.Pairwise.filter _ h.inc, fun p => ?_⟩
  rw [List.mem_filter, h.mem p]
  by_cases hk : K p.1 = true
  · simp [hk]
  · simp [hk]
/-- How many are ahead of a key. -/
def rank (ps : List Pr) (key : ByteArray) : Nat := ps.countP fun p => Op.bytesLess p.1.toList key.toList
def hasK (ps : List Pr) (key : ByteArray) : Bool := ps.any fun p => p.1 == key
/-- What a write makes of it. -/
def wrote (ps : List Pr) (x : Wt) : List Pr := ps.filter (fun p => Op.bytesLess p.1.toList x.key.toList) ++ (if x.drop = true then [] else [(x.key, x.val)]) ++ ps.filter (fun p => Op.bytesLess x.key.toList p.1.toList)
theorem Is.write {E : ByteArray → Option ByteArray} {ps : List Pr} (h : Is E ps) (x : Wt) : Is (applyE E x) (wrote ps x) := by
  refine ⟨?_, fun p => ?_⟩
  · unfold Inc wrote
    have hi : ps.Pairwise fun a b => Op.bytesLess a.1.toList b.1.toList = true := h.inc
    rw [List.pairwise_append, List.pairwise_append]
    refine ⟨⟨List.Pairwise.filter _ hi, ?_, ?_⟩, List.Pairwise.filter _ hi, ?_⟩
    · by_cases hd : x.drop = true <;> simp [hd]
    · intro a ha b hb
      by_cases hd : x.drop = true
      · simp [hd] at hb
      · simp [hd] at hb
        subst hb
        exact (List.mem_filter.1 ha).2
    · intro a ha b hb
      have hb' := (List.mem_filter.1 hb).2
      rcases List.mem_append.1 ha with ha | ha
      · exact bl_trans (List.mem_filter.1 ha).2 hb'
      · by_cases hd : x.drop = true
        · simp [hd] at ha
        · simp [hd] at ha
          subst ha
          exact hb'
  · unfold wrote applyE
    rw [List.mem_append, List.mem_append, List.mem_filter, List.mem_filter, h.mem p]
    by_cases hk : p.1 = x.key
    · rw [if_pos hk, hk, bl_irrefl]
      by_cases hd : x.drop = true
      · simp [hd]
      · simp [hd]
        constructor
        · rintro rfl; rfl
        · intro e; exact Prod.ext hk e.symm
    · rw [if_neg hk]
      have hne : ¬ p = (x.key, x.val) := fun e => hk (by rw [e])
      have hm : ¬ p ∈ (if x.drop = true then [] else [(x.key, x.val)]) := by
        by_cases hd : x.drop = true
        · simp [hd]
        · simp [hd]; exact hne
      constructor
      · rintro ((h1 | h1) | h1)
        · exact h1.1
        · exact absurd h1 hm
        · exact h1.1
      · intro h1
        cases hab : Op.bytesLess p.1.toList x.key.toList with
        | true => exact Or.inl (Or.inl ⟨h1, rfl⟩)
        | false =>
          cases hba : Op.bytesLess x.key.toList p.1.toList with
          | true => exact Or.inr ⟨h1, rfl⟩
          | false =>
            exfalso
            have e := bl_eq hab hba
            rw [ByteArray.toList_eq, ByteArray.toList_eq] at e
            exact hk (bytes_eq e)
end Go.Proofs.YtaaghcimfcjehaaGreatDoor
/- Contracts of mayBe and of fold's Get. Conditions as each names them. -/
namespace Go.Proofs.YtaaghcimfcjehaaGreatDoor
open Go.ChangeShapes Go.WideShapes Go.ChangeAt Go.RowKit Go.Lib Go.Maps
set_option linter.unusedVariables false
set_option linter.unusedSimpArgs false

/-- May a key be? -/
def okK (key : ByteArray) : Bool := !(key.toList == []) && decide (key.size ≤ 64)
theorem capplys_at (Pk : ByteArray → Bool) (s : ByteArray) (hs : Pk s = true) : ∀ (ws : List Wt) (E E' : ByteArray → Option ByteArray), E s = E' s → capplys Pk E ws s = capplys (fun _ => true) E' ws s
  | [], E, E', h => h
  | x :: ws, E, E', h => by
    show capplys Pk (capply Pk E x) ws s = capplys (fun _ => true) (capply (fun _ => true) E' x) ws s
    refine capplys_at Pk s hs ws _ _ ?_
    unfold capply
    rw [if_pos rfl]
    by_cases hk : Pk x.key = true
    · rw [if_pos hk]; unfold applyE; rw [h]
    · rw [if_neg hk]
      unfold applyE
      rw [if_neg (fun e => hk (by rw [← e]; exact hs)), h]
theorem capplys_off (Pk : ByteArray → Bool) (s : ByteArray) (hs : Pk s = false) : ∀ (ws : List Wt) (E : ByteArray → Option ByteArray), capplys Pk E ws s = E s
  | [], E => rfl
  | x :: ws, E => by
    show capplys Pk (capply Pk E x) ws s = E s
    rw [capplys_off Pk s hs ws]
    unfold capply
    by_cases hk : Pk x.key = true
    · rw [if_pos hk]; unfold applyE; rw [if_neg (fun e => by rw [e] at hs; rw [hs] at hk; cases hk)]
    · rw [if_neg hk]
theorem call_at' (Pk : ByteArray → Bool) (s : ByteArray) (hs : Pk s = true) : ∀ (l : List Tx) (E E' : ByteArray → Option ByteArray), E s = E' s → call Pk E l s = call (fun _ => true) E' l s
  | [], E, E', h => h
  | t :: l, E, E', h => call_at' Pk s hs l _ _ (capplys_at Pk s hs t.ws E E' h)
theorem call_off' (Pk : ByteArray → Bool) (s : ByteArray) (hs : Pk s = false) : ∀ (l : List Tx) (E : ByteArray → Option ByteArray), call Pk E l s = E s
  | [], E => rfl
  | t :: l, E => by
    show call Pk (capplys Pk E t.ws) l s = E s
    rw [call_off' Pk s hs l, capplys_off Pk s hs]
/-- What a log comes to. -/
def fo (l : List Tx) : ByteArray → Option ByteArray := call (fun _ => true) (fun _ => none) l
theorem call_fo (Pk : ByteArray → Bool) (l : List Tx) (s : ByteArray) : call Pk (fun _ => none) l s = if Pk s = true then fo l s else none := by
  by_cases h : Pk s = true
  · rw [if_pos h]; exact call_at' Pk s h l _ _ rfl
  · rw [if_neg h]; exact call_off' Pk s (by simpa using h) l _
/-- What Get tells. -/
def GTold (l : List Tx) (f : Int) (key : ByteArray) (val : ByteArray) (ok : Bool) (c : Nat) : Prop :=
  (CoTold l f c ∧ c ≠ 0 ∧ val = ⟨#[]⟩ ∧ ok = false) ∨ (CoTold l f 0 ∧ okK key = false ∧ c = 1 ∧ val = ⟨#[]⟩ ∧ ok = false) ∨
  (CoTold l f 0 ∧ okK key = true ∧ c = 0 ∧ val = (fo (l.take f.toNat) key).getD ⟨#[]⟩ ∧ ok = (fo (l.take f.toNat) key).isSome)
theorem GTold.ex (l : List Tx) (f : Int) (key : ByteArray) : ∃ val ok c, GTold l f key val ok c := by
  obtain ⟨c, hc⟩ := CoTold.ex l f
  by_cases h0 : c = 0
  · subst h0
    cases hk : okK key with
    | false => exact ⟨_, _, _, Or.inr (Or.inl ⟨hc, hk, rfl, rfl, rfl⟩)⟩
    | true => exact ⟨_, _, _, Or.inr (Or.inr ⟨hc, hk, rfl, rfl, rfl⟩)⟩
  · exact ⟨_, _, c, Or.inl ⟨hc, h0, rfl, rfl⟩⟩
theorem CoTold.ok0 {l : List Tx} {f : Int} (h : CoTold l f 0) : okL 1 l ∧ 0 ≤ f ∧ f ≤ (l.length : Int) := by
  rcases h with ⟨_, h0⟩ | ⟨_, _, h0⟩ | ⟨h1, h2, _⟩
  · exact absurd rfl h0
  · cases h0
  · exact ⟨h1, h2⟩
end Go.Proofs.YtaaghcimfcjehaaGreatDoor

/- Texts of this claim laid together, one behind the other: contracts and plain lemmas; conditions as each names them. -/
import Derived.Test.YtaaghcimfcjehaaGreatDoorGp30
import Derived.Test.YtaaghcimfcjehaaGreatDoorGp29
import Derived.Laws.Cover1
import Derived.Shelf.SlSortCmp.NoneTotal
import Derived.Test.YtaaghcimfcjehaaGreatDoorGp27
/- Entries by rising keys that are what a map says: there is one such list; what a write, a stretch make of it. Mathematics alone. -/
namespace Go.Proofs.YtaaghcimfcjehaaGreatDoor
set_option linter.unusedVariables false

/-- Keys rise. -/
def Inc (ps : List Pr) : Prop := ps.Pairwise fun a b => Op.bytesLess a.1.toList b.1.toList = true
/-- These are the entries of E, by rising keys. -/
structure Is (E : ByteArray → Option ByteArray) (ps : List Pr) : Prop where
  inc : Inc ps
  mem : ∀ p, p ∈ ps ↔ E p.1 = some p.2
theorem inc_irr {p : Pr} : ¬ Op.bytesLess p.1.toList p.1.toList = true := by rw [bl_irrefl]; simp
theorem inc_unique : ∀ {ps qs : List Pr}, Inc ps → Inc qs → (∀ p, p ∈ ps ↔ p ∈ qs) → ps = qs
  | [], [], _, _, _ => rfl
  | [], q :: qs, _, _, h => absurd ((h q).2 (by simp)) (by simp)
  | p :: ps, [], _, _, h => absurd ((h p).1 (by simp)) (by simp)
  | p :: ps, q :: qs, h1, h2, h => by
    unfold Inc at h1 h2
    rw [List.pairwise_cons] at h1 h2
    have hpq : p = q := by
      have m1 := (h p).1 (by simp)
      have m2 := (h q).2 (by simp)
      rcases List.mem_cons.1 m1 with e | e
      · exact e
      rcases List.mem_cons.1 m2 with e' | e'
      · exact e'.symm
      have a := h2.1 p e
      have b := h1.1 q e'
      exact absurd (bl_trans a b) inc_irr
    subst hpq
    congr 1
    refine inc_unique h1.2 h2.2 fun x => ⟨fun hx => ?_, fun hx => ?_⟩
    · rcases List.mem_cons.1 ((h x).1 (List.mem_cons_of_mem _ hx)) with e | e
      · subst e; exact absurd (h1.1 x hx) inc_irr
      · exact e
    · rcases List.mem_cons.1 ((h x).2 (List.mem_cons_of_mem _ hx)) with e | e
      · subst e; exact absurd (h2.1 x hx) inc_irr
      · exact e
theorem Is.unique {E : ByteArray → Option ByteArray} {ps qs : List Pr} (h1 : Is E ps) (h2 : Is E qs) : ps = qs :=
  inc_unique h1.inc h2.inc fun p => (h1.mem p).trans (h2.mem p).symm
theorem Is.nil : Is (fun _ => none) [] := ⟨List.Pairwise.nil, fun p => by simp⟩
theorem Is.key {E : ByteArray → Option ByteArray} {ps : List Pr} (h : Is E ps) {p q : Pr} (hp : p ∈ ps) (hq : q ∈ ps) (e : p.1 = q.1) : p = q := by
  have a := (h.mem p).1 hp
  have b := (h.mem q).1 hq
  rw [e, b] at a
  exact Prod.ext e (by simpa using a.symm)
theorem Is.cong {E E' : ByteArray → Option ByteArray} {ps : List Pr} (h : Is E ps) (e : ∀ s, E s = E' s) : Is E' ps := ⟨h.inc, fun p => by rw [← e]; exact h.mem p⟩
/-- What is sorted by keys that differ rises. -/
theorem is_sorted {E : ByteArray → Option ByteArray} {ps ds : List Pr} (h : AllP E ps) (hp : ds.Perm ps) (hs : ds.Pairwise fun a b => Op.bytesLess b.1.toList a.1.toList = false) : Is E ds := by
  refine ⟨?_, fun p => by rw [← h.mem p]; exact hp.mem_iff⟩
  have hn : (ds.map (·.1)).Nodup := (hp.map (·.1)).nodup_iff.2 h.nd
  have hn2 := List.pairwise_map.1 hn
  unfold Inc
  have := hs.and hn2
  refine this.imp ?_
  rintro a b ⟨h1, h2⟩
  cases hab : Op.bytesLess a.1.toList b.1.toList with
  | true => rfl
  | false =>
    exfalso
    have e := bl_eq hab h1
    rw [ByteArray.toList_eq, ByteArray.toList_eq] at e
    exact h2 (bytes_eq e)
/-- A stretch of it. -/
theorem Is.filter {E : ByteArray → Option ByteArray} {ps : List Pr} (h : Is E ps) (K : ByteArray → Bool) : Is (fun s => if K s = true then E s else none) (ps.filter fun p => K p.1) := by
  refine ⟨List.Pairwise.filter _ h.inc, fun p => ?_⟩
  rw [List.mem_filter, h.mem p]
  by_cases hk : K p.1 = true
  · simp [hk]
  · simp [hk]
/-- How many are ahead of a key. -/
def rank (ps : List Pr) (key : ByteArray) : Nat := ps.countP fun p => Op.bytesLess p.1.toList key.toList
def hasK (ps : List Pr) (key : ByteArray) : Bool := ps.any fun p => p.1 == key
/-- What a write makes of it. -/
def wrote (ps : List Pr) (x : Wt) : List Pr := ps.filter (fun p => Op.bytesLess p.1.toList x.key.toList) ++ (if x.drop = true then [] else [(x.key, x.val)]) ++ ps.filter (fun p => Op.bytesLess x.key.toList p.1.toList)
theorem Is.write {E : ByteArray → Option ByteArray} {ps : List Pr} (h : Is E ps) (x : Wt) : Is (applyE E x) (wrote ps x) := by
  refine ⟨?_, fun p => ?_⟩
  · unfold Inc wrote
    have hi : ps.Pairwise fun a b => Op.bytesLess a.1.toList b.1.toList = true := h.inc
    rw [List.pairwise_append, List.pairwise_append]
    refine ⟨⟨List.Pairwise.filter _ hi, ?_, ?_⟩, List.Pairwise.filter _ hi, ?_⟩
    · by_cases hd : x.drop = true <;> simp [hd]
    · intro a ha b hb
      by_cases hd : x.drop = true
      · simp [hd] at hb
      · simp [hd] at hb
        subst hb
        exact (List.mem_filter.1 ha).2
    · intro a ha b hb
      have hb' := (List.mem_filter.1 hb).2
      rcases List.mem_append.1 ha with ha | ha
      · exact bl_trans (List.mem_filter.1 ha).2 hb'
      · by_cases hd : x.drop = true
        · simp [hd] at ha
        · simp [hd] at ha
          subst ha
          exact hb'
  · unfold wrote applyE
    rw [List.mem_append, List.mem_append, List.mem_filter, List.mem_filter, h.mem p]
    by_cases hk : p.1 = x.key
    · rw [if_pos hk, hk, bl_irrefl]
      by_cases hd : x.drop = true
      · simp [hd]
      · simp [hd]
        constructor
        · rintro rfl; rfl
        · intro e; exact Prod.ext hk e.symm
    · rw [if_neg hk]
      have hne : ¬ p = (x.key, x.val) := fun e => hk (by rw [e])
      have hm : ¬ p ∈ (if x.drop = true then [] else [(x.key, x.val)]) := by
        by_cases hd : x.drop = true
        · simp [hd]
        · simp [hd]; exact hne
      constructor
      · rintro ((h1 | h1) | h1)
        · exact h1.1
        · exact absurd h1 hm
        · exact h1.1
      · intro h1
        cases hab : Op.bytesLess p.1.toList x.key.toList with
        | true => exact Or.inl (Or.inl ⟨h1, rfl⟩)
        | false =>
          cases hba : Op.bytesLess x.key.toList p.1.toList with
          | true => exact Or.inr ⟨h1, rfl⟩
          | false =>
            exfalso
            have e := bl_eq hab hba
            rw [ByteArray.toList_eq, ByteArray.toList_eq] at e
            exact hk (bytes_eq e)
end Go.Proofs.YtaaghcimfcjehaaGreatDoor
/- Contracts of mayBe and of fold's Get. Conditions as each names them. -/
namespace Go.Proofs.YtaaghcimfcjehaaGreatDoor
open Go.ChangeShapes Go.WideShapes Go.ChangeAt Go.RowKit Go.Lib Go.Maps
set_option linter.unusedVariables false
set_option linter.unusedSimpArgs false

/-- May a key be? -/
def okK (key : ByteArray) : Bool := !(key.toList == []) && decide (key.size ≤ 64)
theorem capplys_at (Pk : ByteArray → Bool) (s : ByteArray) (hs : Pk s = true) : ∀ (ws : List Wt) (E E' : ByteArray → Option ByteArray), E s = E' s → capplys Pk E ws s = capplys (fun _ => true) E' ws s
  | [], E, E', h => h
  | x :: ws, E, E', h => by
    show capplys Pk (capply Pk E x) ws s = capplys (fun _ => true) (capply (fun _ => true) E' x) ws s
    refine capplys_at Pk s hs ws _ _ ?_
    unfold capply
    rw [if_pos rfl]
    by_cases hk : Pk x.key = true
    · rw [if_pos hk]; unfold applyE; rw [h]
    · rw [if_neg hk]
      unfold applyE
      rw [if_neg (fun e => hk (by rw [← e]; exact hs)), h]
theorem capplys_off (Pk : ByteArray → Bool) (s : ByteArray) (hs : Pk s = false) : ∀ (ws : List Wt) (E : ByteArray → Option ByteArray), capplys Pk E ws s = E s
  | [], E => rfl
  | x :: ws, E => by
    show capplys Pk (capply Pk E x) ws s = E s
    rw [capplys_off Pk s hs ws]
    unfold capply
    by_cases hk : Pk x.key = true
    · rw [if_pos hk]; unfold applyE; rw [if_neg (fun e => by rw [e] at hs; rw [hs] at hk; cases hk)]
    · rw [if_neg hk]
theorem call_at' (Pk : ByteArray → Bool) (s : ByteArray) (hs : Pk s = true) : ∀ (l : List Tx) (E E' : ByteArray → Option ByteArray), E s = E' s → call Pk E l s = call (fun _ => true) E' l s
  | [], E, E', h => h
  | t :: l, E, E', h => call_at' Pk s hs l _ _ (capplys_at Pk s hs t.ws E E' h)
theorem call_off' (Pk : ByteArray → Bool) (s : ByteArray) (hs : Pk s = false) : ∀ (l : List Tx) (E : ByteArray → Option ByteArray), call Pk E l s = E s
  | [], E => rfl
  | t :: l, E => by
    show call Pk (capplys Pk E t.ws) l s = E s
    rw [call_off' Pk s hs l, capplys_off Pk s hs]
/-- What a log comes to. -/
def fo (l : List Tx) : ByteArray → Option ByteArray := call (fun _ => true) (fun _ => none) l
theorem call_fo (Pk : ByteArray → Bool) (l : List Tx) (s : ByteArray) : call Pk (fun _ => none) l s = if Pk s = true then fo l s else none := by
  by_cases h : Pk s = true
  · rw [if_pos h]; exact call_at' Pk s h l _ _ rfl
  · rw [if_neg h]; exact call_off' Pk s (by simpa using h) l _
/-- What Get tells. -/
def GTold (l : List Tx) (f : Int) (key : ByteArray) (val : ByteArray) (ok : Bool) (c : Nat) : Prop :=
  (CoTold l f c ∧ c ≠ 0 ∧ val = ⟨#[]⟩ ∧ ok = false) ∨ (CoTold l f 0 ∧ okK key = false ∧ c = 1 ∧ val = ⟨#[]⟩ ∧ ok = false) ∨
  (CoTold l f 0 ∧ okK key = true ∧ c = 0 ∧ val = (fo (l.take f.toNat) key).getD ⟨#[]⟩ ∧ ok = (fo (l.take f.toNat) key).isSome)
theorem GTold.ex (l : List Tx) (f : Int) (key : ByteArray) : ∃ val ok c, GTold l f key val ok c := by
  obtain ⟨c, hc⟩ := CoTold.ex l f
  by_cases h0 : c = 0
  · subst h0
    cases hk : okK key with
    | false => exact ⟨_, _, _, Or.inr (Or.inl ⟨hc, hk, rfl, rfl, rfl⟩)⟩
    | true => exact ⟨_, _, _, Or.inr (Or.inr ⟨hc, hk, rfl, rfl, rfl⟩)⟩
  · exact ⟨_, _, c, Or.inl ⟨hc, h0, rfl, rfl⟩⟩
theorem CoTold.ok0 {l : List Tx} {f : Int} (h : CoTold l f 0) : okL 1 l ∧ 0 ≤ f ∧ f ≤ (l.length : Int) := by
  rcases h with ⟨_, h0⟩ | ⟨_, _, h0⟩ | ⟨h1, h2, _⟩
  · exact absurd rfl h0
  · cases h0
  · exact ⟨h1, h2⟩
end Go.Proofs.YtaaghcimfcjehaaGreatDoor
/- Contracts of slices.SortedFunc of a map's entries, of fold's Scan and Store. Conditions as each names them. -/
namespace Go.Proofs.YtaaghcimfcjehaaGreatDoor
open Go.ChangeShapes Go.WideShapes Go.ChangeAt Go.RowKit Go.Lib Go.Maps Go.Sort Go.Shelf
set_option linter.unusedVariables false
set_option linter.unusedSimpArgs false

/-- A row of entries of its own. -/
structure EOut (w w' : World) (ro : Option Addr) (N rc : Nat) (ps : List Pr) : Prop where
  len : N = ps.length
  row : w'.ownsRow w.heap.size 152 2 (.slice ro N rc) N (celsE ps)
theorem own_base {w : World} {base base' : Nat} {e : TypeId} {size : Nat} {v : Value} {n : Nat} {xs : List Value} (h : w.ownsRow base e size v n xs) (hb : base' ≤ base) : w.ownsRow base' e size v n xs := by
  refine ⟨h.1, ?_⟩
  rcases h.2 with h0 | ⟨g, cap, cur, hv, hg, hr⟩
  · exact Or.inl h0
  · exact Or.inr ⟨g, cap, cur, hv, by omega, hr⟩
theorem sortE_any (base : Nat) (v : Value) (ps : List Pr) (w : World) (hrow : w.ownsRow base 152 2 v ps.length (celsE ps)) (hlen : ps.length < 1099511627776) :
    Calls Tryz.prog 168 #[v, .func (.func 141) #[] #[]] w fun e w' => e = .returned (.tuple #[]) ∧ ∃ ds, ds.Perm ps ∧ Sd ds ∧ w'.ownsRow base 152 2 v ps.length (celsE ds) ∧ Fr v.ownBlock.toList w w' := by
  rcases hrow.2 with ⟨rfl, h0⟩ | ⟨g, cap, cur, rfl, _⟩
  · have hcon := AnyF.slices_SortFunc_none Tryz.sortEn none 0 (.func (.func 141) #[] #[]) w
    change Calls Tryz.prog 168 _ _ _ at hcon
    obtain rfl : ps = [] := List.eq_nil_of_length_eq_zero h0
    refine hcon.mono ?_
    rintro e w' ⟨rfl, rfl⟩
    exact ⟨rfl, [], List.Perm.refl _, List.Pairwise.nil, hrow, Fr.refl _ _⟩
  · exact sortE_some base g cap ps w hrow hlen
set_option maxHeartbeats 1000000 in
theorem sortedFunc_any (b Bm nn : Nat) (E : ByteArray → Option ByteArray) (w : World) (hM : MapE w b nn E) (hn : nn < 1099511627776) (hBm : Bm < w.heap.size) (hm : w.cell? ⟨Bm, 0, none⟩ = some (.map (some b))) :
    Calls Tryz.prog 139 #[.func (.func 169) #[] #[.pointer (some ⟨Bm, 0, none⟩)], .func (.func 141) #[] #[]] w fun e w' => ∃ (v : Value) (ps : List Pr), e = .returned v ∧ Is E ps ∧ w'.ownsRow w.heap.size 152 2 v ps.length (celsE ps) ∧ Fr [] w w' := by
  have HC : Hid _ := collect_values b Bm nn E w hM hn hBm hm
  clear hM hm
  go_enter Tryz.func139, Tryz.ntmps139
  go_wp2_with fail
  refine Calls.mono HC.out ?_
  rintro e w1 ⟨v, ps, rfl, hA, hrow, hF1⟩
  have HS : Hid _ := sortE_any w.heap.size v ps w1 hrow (by have := hA.2; omega)
  have HA : Hid (AllP E ps) := hA.1
  have HR : Hid (∀ k, v.ownBlock = some k → w.heap.size ≤ k) := fun k hk => (owns_cells hrow hk).1
  clear HC hA hrow
  go_wp2_with fail
  refine Calls.mono HS.out ?_
  rintro e w2 ⟨rfl, ds, hp, hs, hrow2, hF2⟩
  have HG : Hid (Is E ds ∧ w2.ownsRow w.heap.size 152 2 v ds.length (celsE ds) ∧ Fr [] w w2) := ⟨is_sorted HA.out hp hs, by rw [hp.length_eq]; exact hrow2, hF1.on hF2 (fun x hx => by simp only [Option.mem_toList] at hx; exact HR.out x hx)⟩
  clear HS HA HR hp hs hrow2 hF1 hF2
  go_wp2
  go_ret
  exact ⟨v, ds, rfl, HG.out⟩
theorem capplys_is : ∀ (ws : List Wt) (E : ByteArray → Option ByteArray) (ps : List Pr), Is E ps → ∃ qs, Is (capplys (fun _ => true) E ws) qs
  | [], E, ps, h => ⟨ps, h⟩
  | x :: ws, E, ps, h => by
    have h1 : Is (capply (fun _ => true) E x) (wrote ps x) := by unfold capply; rw [if_pos rfl]; exact h.write x
    exact capplys_is ws _ _ h1
theorem call_is : ∀ (l : List Tx) (E : ByteArray → Option ByteArray) (ps : List Pr), Is E ps → ∃ qs, Is (call (fun _ => true) E l) qs
  | [], E, ps, h => ⟨ps, h⟩
  | t :: l, E, ps, h => by
    obtain ⟨qs, hq⟩ := capplys_is t.ws E ps h
    exact call_is l _ _ hq
theorem fo_is (l : List Tx) : ∃ ps, Is (fo l) ps := call_is l _ _ Is.nil
/-- What Scan tells. -/
def ScTold (l : List Tx) (f : Int) (key en : ByteArray) (ps : List Pr) (c : Nat) : Prop :=
  CoTold l f c ∧ ((c ≠ 0 ∧ ps = []) ∨ (c = 0 ∧ Is (call (inS key en) (fun _ => none) (l.take f.toNat)) ps))
theorem ScTold.ex (l : List Tx) (f : Int) (key en : ByteArray) : ∃ ps c, ScTold l f key en ps c := by
  obtain ⟨c, hc⟩ := CoTold.ex l f
  by_cases h0 : c = 0
  · obtain ⟨ps, hp⟩ := fo_is (l.take f.toNat)
    exact ⟨_, c, hc, Or.inr ⟨h0, (hp.filter (inS key en)).cong (fun s => (call_fo _ _ s).symm)⟩⟩
  · exact ⟨[], c, hc, Or.inl ⟨h0, rfl⟩⟩
theorem own_shape2 {w : World} {base : Nat} {e : TypeId} {v : Value} {n : Nat} {xs : List Value} (h : w.ownsRow base e 2 v n xs) : ∃ ao cap, v = .slice ao n cap := by
  rcases h.2 with ⟨rfl, h0⟩ | ⟨g, cap, _, rfl, _⟩
  · exact ⟨none, 0, by rw [h0]⟩
  · exact ⟨_, cap, rfl⟩
set_option maxHeartbeats 4000000 in
set_option maxRecDepth 100000 in
theorem fScan_any (ao : Option Addr) (L cap : Nat) (f : Int) (key en : ByteArray) (ps : List Pr) (N c : Nat) (ts : List Tm) (w : World) (hT : TRs w ao ts) (hLe : L = ts.length) (hcap : L ≤ cap) (hf0 : -9223372036854775808 ≤ f) (hf1 : f ≤ 9223372036854775807) (h : ScTold (txs ts) f key en ps c) (hN : N = ps.length) :
    Calls Tryz.prog 113 #[.slice ao L cap, .int .i64 f, .string key, .string en] w fun e w' => ∃ ro rc, e = .returned (.tuple #[.slice ro N rc, .int .i64 (c : Int)]) ∧ EOut w w' ro N rc ps ∧ Fr [] w w' := by
  have HL : Hid (L = ts.length) := hLe
  have HI : Hid (∀ W, Fr [] w W → TRs W ao ts) := fun W hf => hT.keep hf
  obtain ⟨hc, ⟨h0, rfl⟩ | ⟨rfl, hI⟩⟩ := h
  · have HC : Hid (CoTold (txs ts) f c ∧ c ≠ 0) := ⟨hc, h0⟩
    have hcb : ((c : Int) != 0) = true := by rw [bne_iff_ne]; omega
    obtain rfl : N = 0 := hN
    clear hc h0 hLe
    go_enter Tryz.func113, Tryz.ntmps113
    go_wp2_with fail
    refine (stretch_any key en _).mono ?_
    rintro e w1 ⟨b, b2, rfl, hb, hb2, hbl, hbl2, hF1⟩
    go_wp2_with fail
    refine (comeS_no ao L cap f c ts b b2 key en _ (HI.out _ hF1) HL.out hf0 hf1 HC.out.1 HC.out.2).mono ?_
    rintro e w2 ⟨rfl, hF2⟩
    have hG := hF1.then hF2
    clear hb hbl hF1 hF2 hb2 hbl2
    go_wp2
    go_ret2
    exact ⟨none, 0, rfl, ⟨rfl, ⟨rfl, .inl ⟨rfl, rfl⟩⟩⟩, hG⟩
  · obtain ⟨hok, hfn, hfl⟩ := hc.ok0
    obtain ⟨f', rfl⟩ : ∃ f' : Nat, f = (f' : Int) := ⟨f.toNat, by omega⟩
    have HO : Hid (okL 1 (txs ts) ∧ f' ≤ L) := ⟨hok, by rw [txs_length] at hfl; omega⟩
    rw [Int.toNat_natCast] at hI
    obtain ⟨E, hE⟩ : ∃ E, E = call (inS key en) (fun _ => none) ((txs ts).take f') := ⟨_, rfl⟩
    rw [← hE] at hI
    have HIs : Hid (Is E ps ∧ N = ps.length) := ⟨hI, hN⟩
    clear hc hok hfl hfn hLe hI hN
    go_enter Tryz.func113, Tryz.ntmps113
    go_wp2_with fail
    refine (stretch_any key en _).mono ?_
    rintro e w1 ⟨b, b2, rfl, hb, hb2, hbl, hbl2, hF1⟩
    go_wp2_with fail
    refine (comeS_ok ao L cap f' ts b b2 key en _ (HI.out _ hF1) HL.out hcap hb hb2 HO.out.1 HO.out.2).mono ?_
    rintro e w2 ⟨m, rfl, hm, hM, hF2⟩
    rw [← hE] at hM
    have hG := hF1.then hF2
    clear hb hbl hF1 hF2 hE hb2 hbl2
    go_wp2_with fail
    refine (values_any _ _).mono ?_
    rintro e w3 ⟨rfl, hw3⟩
    have hF3 : Fr [] w2 w3 := by rw [hw3]; exact Fr.alloc _ _ _
    have hbx : w3.heap[w2.heap.size]? = some (.cells #[.map (some m)] 222 (0, 0)) := by rw [hw3]; exact heap_alloc_new _ _
    have hM3 := hM.keep hF3 (by simp)
    have hG3 := hG.then hF3
    have hcx : w3.cell? ⟨w2.heap.size, 0, none⟩ = some (.map (some m)) := by rw [cell_of_row _ _ _ _ _ _ hbx]; rfl
    have HS : Hid _ := sortedFunc_any m w2.heap.size 9000000 E w3 hM3 (by omega) (lt_of_block hbx) hcx
    clear hw3 hM hM3 hcx hbx hF3 hG
    go_wp2_with fail
    refine Calls.mono HS.out ?_
    rintro e w4 ⟨v, qs, rfl, hQ, hrow, hF4⟩
    have hqp : ps = qs := HIs.out.1.unique hQ
    subst hqp
    obtain ⟨ro, rc, rfl⟩ := own_shape2 hrow
    have HR : Hid (EOut w w4 ro N rc ps ∧ Fr [] w w4) := ⟨⟨HIs.out.2, by rw [HIs.out.2]; exact own_base hrow hG3.size⟩, hG3.then hF4⟩
    rw [← HIs.out.2]
    clear HS hQ hrow hF4 hG3 HIs
    go_wp2
    go_ret2
    exact ⟨ro, rc, rfl, HR.out⟩
theorem fStore_any (ao : Option Addr) (L cap : Nat) (f : Int) (ps : List Pr) (N c : Nat) (ts : List Tm) (w : World) (hT : TRs w ao ts) (hLe : L = ts.length) (hcap : L ≤ cap) (hf0 : -9223372036854775808 ≤ f) (hf1 : f ≤ 9223372036854775807) (h : ScTold (txs ts) f ⟨#[]⟩ ⟨#[]⟩ ps c) (hN : N = ps.length) :
    Calls Tryz.prog 73 #[.slice ao L cap, .int .i64 f] w fun e w' => ∃ ro rc, e = .returned (.tuple #[.slice ro N rc, .int .i64 (c : Int)]) ∧ EOut w w' ro N rc ps ∧ Fr [] w w' := by
  have HS : Hid _ := fScan_any ao L cap f ⟨#[]⟩ ⟨#[]⟩ ps N c ts w hT hLe hcap hf0 hf1 h hN
  clear hT hLe h hN
  go_enter Tryz.func73, Tryz.ntmps73
  go_wp2_with fail
  refine Calls.mono HS.out ?_
  rintro e w1 ⟨ro, rc, rfl, hE, hF⟩
  have HR : Hid (EOut w w1 ro N rc ps ∧ Fr [] w w1) := ⟨hE, hF⟩
  clear HS hE hF
  go_wp2
  go_ret2
  exact ⟨ro, rc, rfl, HR.out⟩
end Go.Proofs.YtaaghcimfcjehaaGreatDoor
/- The greatest number that is there at the beginning. Conditions as it names them. -/
namespace Go.Proofs.YtaaghcimfcjehaaGreatDoor
open Go.ChangeShapes Go.WideShapes Go.ChangeAt Go.RowKit Go.Lib Go.Maps
set_option linter.unusedVariables false
set_option linter.unusedSimpArgs false

/-- The greatest number. -/
def grt (m : Int) (xs : List Int) : Int := if 0 < xs.length then xs.getD (xs.length - 1) 0 else m
set_option maxHeartbeats 2000000 in
set_option maxRecDepth 100000 in
theorem great_any (m : Int) (bo : Option Addr) (bn bc : Nat) (xs : List Int) (w : World) (hX : IRs w bo xs) (hn : bn = xs.length) (hbc : bn ≤ bc) (ho : Option Addr) (hl hc : Nat) :
    Calls Tryz.prog 75 #[.agg #[.int .i64 m, .slice bo bn bc, .slice ho hl hc]] w fun e w' => e = .returned (.int .i64 (grt m xs)) ∧ Fr [] w w' := by
  have HF : Hid (Fr [] w (w.alloc (.cells #[.int .i64 m, .slice bo bn bc, .slice ho hl hc] 28))) := Fr.alloc _ _ _
  by_cases h0 : 0 < bn
  · obtain ⟨b, off, rfl, hb, hcs⟩ := hX.lies (by omega)
    have c0 := (World.cell?_of_block (HF.out.block b hb (by simp))).trans (hcs (bn - 1) (by omega))
    have hfew := hX.few
    have hG : Hid (grt m xs = xs.getD (bn - 1) 0) := by show _ = _; rw [grt, if_pos (by omega), hn]
    obtain ⟨v, hv⟩ : ∃ v, v = xs.getD (bn - 1) 0 := ⟨_, rfl⟩
    rw [← hv] at c0 hG
    obtain ⟨j, rfl⟩ : ∃ j, bn = j + 1 := ⟨bn - 1, by omega⟩
    have c1 : (w.alloc (.cells #[.int .i64 m, .slice (some ⟨b, off, none⟩) (j + 1) bc, .slice ho hl hc] 28)).cell? ⟨b, off + j, none⟩ = some (.int .i64 v) := c0
    have hj : ((j + 1 : Nat) : Int) - 1 = (j : Int) := by omega
    have hj2 : (j + 1 : Nat) ≤ 17592186044416 := by omega
    have hjj : (0 : Int) < ((j + 1 : Nat) : Int) := by omega
    have hwr : IntKind.i64.wrap ((j : Int) + 1 - 1) = (j : Int) := by rw [IntKind.wrap_i64]; omega
    clear hX hcs c0 hv hn
    go_enter Tryz.func75, Tryz.ntmps75
    go_wp2_with fail
    go_ret
    rw [hG.out]
    exact ⟨rfl, HF.out⟩
  · have hb0 : bn = 0 := by omega
    have hG : Hid (grt m xs = m) := by show _ = _; rw [grt, if_neg (by omega)]
    subst hb0
    clear hX hn
    go_enter Tryz.func75, Tryz.ntmps75
    go_wp2_with fail
    go_ret
    rw [hG.out]
    exact ⟨rfl, HF.out⟩
end Go.Proofs.YtaaghcimfcjehaaGreatDoor

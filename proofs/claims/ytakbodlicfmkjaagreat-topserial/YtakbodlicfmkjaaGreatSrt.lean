/- Entries by rising keys: strings.Compare, byKey, slices.SortFunc of a row of entries. Conditions as each names them. -/
import Derived.Test.YtakbodlicfmkjaaGreatCol2
import Derived.Test.YtakbodlicfmkjaaGreatOrd7
import Derived.Sort.Walk0
import Derived.Shelf.SlSortCmp.WholeK
import Derived.Shelf.Small.Strs
import Derived.Shelf.Lay
import Derived.Ground.SlsfProg
import Derived.Ground.NamesProg
namespace Go.Proofs.YtakbodlicfmkjaaGreat.Fo
open Go.ChangeShapes Go.WideShapes Go.ChangeAt Go.RowKit Go.Lib Go.Maps Go.Sort Go.Shelf
set_option linter.unusedVariables false

shelf_lay_g SlLaysF0.n6 Slsf 6 at Tryz 73 as Tryz.sortEn
shelf_lay Lays.n106 Nm 106 at Tryz as Tryz.strCmp

def cfE (x y : Pr) : Int := compareBytes x.1.data.toList y.1.data.toList
set_option maxHeartbeats 1000000 in
theorem byKey_any (x y : Pr) (W : World) : Calls Tryz.prog 41 #[.agg #[.string x.1, .string x.2], .agg #[.string y.1, .string y.2]] W fun e w' => e = .returned (.int .i64 (cfE x y)) ∧ ∃ q os', w' = grow (W.drewN q) os' := by
  have hcon := fun W' => Any.strings_Compare Tryz.strCmp x.1 y.1 W'
  change ∀ W', Calls Tryz.prog 50 _ _ _ at hcon
  unfold cfE
  generalize compareBytes x.1.data.toList y.1.data.toList = r at hcon ⊢
  go_enter Tryz.func41, Tryz.ntmps41
  go_wp2_with (go_at_call 50; refine (hcon _).mono ?_; rintro e w' ⟨rfl, rfl⟩)
  go_ret
  exact ⟨rfl, 0, _, by rw [alloc_eq_grow, alloc_eq_grow, grow_grow]; rfl⟩
theorem ltOf_cfE (x y : Pr) : ltOf cfE x y = Op.bytesLess x.1.toList y.1.toList := by
  unfold ltOf cfE
  rw [ByteArray.toList_eq, ByteArray.toList_eq]
  have h := bl_cmp x.1.data.toList y.1.data.toList
  cases hb : Op.bytesLess x.1.data.toList y.1.data.toList with
  | true => simpa using h.2 hb
  | false =>
    rw [hb] at h
    simpa using h
theorem swoE : SWO (ltOf cfE) where
  irrefl x := by rw [ltOf_cfE]; exact bl_irrefl _
  trans x y z h1 h2 := by rw [ltOf_cfE] at *; exact bl_trans h1 h2
  ntrans x y z h1 h2 := by rw [ltOf_cfE] at *; exact bl_ntrans h1 h2
theorem celsE_at : ∀ (ps : List Pr) (t : Nat), t < ps.length * 2 → (celsE ps)[t]? = some ((celE ps[t / 2]!)[t % 2]!)
  | [], t, h => by simp at h
  | p :: ps, 0, h => by simp [celsE, celE]
  | p :: ps, 1, h => by simp [celsE, celE]
  | p :: ps, (t + 2), h => by
    have ih := celsE_at ps t (by simp at h; omega)
    have e1 : (t + 2) / 2 = t / 2 + 1 := by omega
    have e2 : (t + 2) % 2 = t % 2 := by omega
    rw [e1, e2]
    have e3 : (celsE (p :: ps))[t + 2]? = (celsE ps)[t]? := by simp [celsE, celE]
    rw [e3, ih]
    simp
theorem flatE (ps : List Pr) : flatK celE 2 ps.toArray = (celsE ps).toArray := by
  apply Array.ext_getElem?
  intro t
  by_cases h : t < ps.length * 2
  · have h1 : t < (flatK celE 2 ps.toArray).size := by rw [size_flatK]; simpa using h
    have h2 := get_flatK celE 2 ps.toArray t (by simpa using h)
    rw [getElem!_pos _ t h1] at h2
    rw [Array.getElem?_eq_getElem h1, h2, List.getElem?_toArray, celsE_at ps t h]
    simp
  · rw [Array.getElem?_eq_none (by rw [size_flatK]; simp; omega), Array.getElem?_eq_none (by simp [celsE_length]; omega)]
theorem holdsE {w : World} {g : Nat} {cur : Array Value} {e : TypeId} {ps : List Pr} (hb : w.heap[g]? = some (.cells cur e (0, 0))) (ht : cur.toList.take (ps.length * 2) = celsE ps) : HoldsK celE 2 w g 0 ps.toArray := by
  unfold HoldsK
  rw [flatE]
  intro j hj
  have hj' : j < ps.length * 2 := by simp [celsE_length] at hj; omega
  refine ⟨?_, by simp [World.frozen?, hb]⟩
  have h1 : (cur.toList.take (ps.length * 2))[j]? = (celsE ps)[j]? := by rw [ht]
  rw [List.getElem?_take_of_lt hj'] at h1
  rw [cell_of_row _ _ _ _ _ _ hb, Nat.zero_add, ← Array.getElem?_toList, h1]
  have hl : j < (celsE ps).length := by rw [celsE_length]; omega
  simp [hl]
theorem heapE {w : World} {g n : Nat} {os : Array Obj} {cur : Array Value} {e : TypeId} {fr : Nat × Nat} (d : Array Pr) (hb : w.heap[g]? = some (.cells cur e fr)) :
    (sortWorldK celE 2 w g 0 n d os).heap[g]? = some (.cells (putCells id 0 (flatK celE 2 d) cur) e fr) := by
  have hg : g < w.heap.size := (Array.getElem?_eq_some_iff.1 hb).1
  unfold sortWorldK putRowK
  rw [heap_grow_old _ _ (by simpa using hg)]
  simp [putRow, mapBlock, Sort.ahead, Array.getElem?_modify, hb, onCells]
theorem grownE {w : World} {g n : Nat} {os : Array Obj} (d : Array Pr) : w.grownBy (sortWorldK celE 2 w g 0 n d os) (some g) := by
  unfold sortWorldK putRowK
  refine ⟨rfl, rfl, rfl, by simp, fun k hk hne => ?_⟩
  rw [heap_grow_old _ _ (by simpa using hk)]
  have : g ≠ k := fun e => hne (by rw [e])
  simp [putRow, mapBlock, Sort.ahead, Array.getElem?_modify, this]
theorem take_putE (cur : Array Value) (vs : List Value) (h : vs.length ≤ cur.size) : (putCells id 0 vs.toArray cur).toList.take vs.length = vs := by
  apply List.ext_getElem?
  intro j
  by_cases hj : j < vs.length
  · rw [List.getElem?_take_of_lt hj, Array.getElem?_toList]
    simp [putCells, hj, show j < cur.size by omega]
  · rw [List.getElem?_take_eq_none (by omega), List.getElem?_eq_none (by omega)]
/-- No later key is less. -/
def Sd (ps : List Pr) : Prop := ps.Pairwise fun a b => Op.bytesLess b.1.toList a.1.toList = false
theorem sd_of {ds : List Pr} (h : SortedIn (ltOf cfE) 0 ds.length ds.toArray) : Sd ds := by
  unfold Sd
  rw [List.pairwise_iff_getElem]
  intro i j hi hj hij
  have := h i j (Nat.zero_le _) hij hj
  rw [ltOf_cfE] at this
  simpa [hi, hj] using this
theorem Tryz.isAggEn (w : World) : (isAgg 61).run Tryz.prog w = .ok true w := by kernel_rfl
theorem Tryz.sizeOfEn (w : World) : (Go.sizeOf 61).run Tryz.prog w = .ok 2 w := by kernel_rfl
theorem celE_one (x : Pr) : ∀ v ∈ celE x, v.oneCell' = true := new2_one x
set_option maxHeartbeats 1000000 in
theorem sortE_some (base g cap : Nat) (ps : List Pr) (w : World) (hrow : w.ownsRow base 61 2 (.slice (some ⟨g, 0, none⟩) ps.length cap) ps.length (celsE ps)) (hlen : ps.length < 1099511627776) :
    Calls Tryz.prog 73 #[.slice (some ⟨g, 0, none⟩) ps.length cap, .func (.func 41) #[] #[]] w fun e w' => e = .returned (.tuple #[]) ∧ ∃ ds, ds.Perm ps ∧ Sd ds ∧ w'.ownsRow base 61 2 (.slice (some ⟨g, 0, none⟩) ps.length cap) ps.length (celsE ds) ∧ Fr [g] w w' := by
  obtain ⟨hl, hr⟩ := hrow
  rcases hr with ⟨hh, _⟩ | ⟨g', cap', cur, hh, hbase, hb, h1, h2, h3, h4⟩
  · cases hh
  cases hh
  have eg : ∀ args w, (callFunc 41 args).run Tryz.prog w = .ok (.enter 41 args) w := enters_of Tryz.func41 (by kernel_rfl) rfl
  have hcmp : CmpLays Tryz.prog 41 #[] celE 2 cfE g 0 ps.toArray.size w := fun _ _ _ _ x y => byKey_any x y _
  have hcon := AnyQ.slices_SortFunc Tryz.sortEn 2 Tryz.isAggEn Tryz.sizeOfEn celE (fun _ => rfl) celE_one cfE swoE 41 #[] g 0 cap ps.toArray w eg hcmp (holdsE hb h4) (lt_of_block hb) (by simp; omega)
  change Calls Tryz.prog 73 _ _ _ at hcon
  have hsz : ps.toArray.size = ps.length := by simp
  rw [hsz] at hcon
  refine hcon.mono ?_
  rintro e w' ⟨rfl, d', n, os, hp, hs, rfl⟩
  obtain ⟨hs1, _, hp1⟩ := hp
  have hd : d'.toList.length = ps.length := by simpa using hs1
  refine ⟨rfl, d'.toList, ?_, ?_, ⟨?_, .inr ⟨g, cap, _, rfl, hbase, heapE d' hb, h1, h2, by simp [putCells, h3], ?_⟩⟩, Fr.grown (grownE d') (by intro k hk _; cases hk; simp)⟩
  · have e1 : d'.extract 0 ps.length = d' := by rw [← hd]; simp
    have e2 : ps.toArray.extract 0 ps.length = ps.toArray := by simp
    rw [e1, e2] at hp1
    simpa using hp1
  · refine sd_of ?_
    rw [hd]
    simpa using hs
  · rw [celsE_length, hd]; omega
  · have e1 : flatK celE 2 d' = (celsE d'.toList).toArray := by rw [← flatE]
    have e2 : ps.length * 2 = (celsE d'.toList).length := by rw [celsE_length, hd]; omega
    rw [e1, e2]
    exact take_putE cur _ (by rw [celsE_length, hd, h3]; omega)
end Go.Proofs.YtakbodlicfmkjaaGreat.Fo

/- A list of keys, rising: what Collect, Scan, Dump and Size make of it. Conditions as each names them. -/
import Derived.Test.YtkplammapbiebaaGreatDoorKm9
import Derived.Test.YtkplammapbiebaaGreatDoorKz9
import Derived.Test.YtkplammapbiebaaGreatDoorHc9
import Derived.Test.YtkplammapbiebaaGreatDoorHg9
namespace Go.Proofs.YtkplammapbiebaaGreatDoor
open Go.ChangeShapes Go.WideShapes Go.ChangeAt Go.RowKit Go.Lib Go.Maps
set_option linter.unusedVariables false
set_option linter.unusedSimpArgs false

theorem hget_eq (hs : List Hd) (j : Nat) (h : j < hs.length) : hs.getD j Hd.zero = hs[j] := by simp [List.getD, h]
theorem LoOk.keys {hs : List Hd} (h : LoOk hs) : (hs.map (·.key)).Nodup := by
  rw [List.Nodup, List.pairwise_map]
  exact h.1.imp fun {a b} hab e => by rw [e, bl_irrefl] at hab; cases hab
theorem LoOk.keyMem {hs : List Hd} (h : LoOk hs) (k : ByteArray) : k ∈ hs.map (·.key) ↔ mOf hs k ≠ [] := by
  constructor
  · intro hk
    obtain ⟨x, hx, rfl⟩ := List.mem_map.1 hk
    rw [mOf_mem h hx]
    exact (h.2 x hx).2.1
  · intro hk
    obtain ⟨x, hx, e⟩ := mOf_ne hk
    exact List.mem_map.2 ⟨x, hx, e⟩
theorem LoOk.sum {hs : List Hd} (h : LoOk hs) (f : List Vn → Nat) : ((hs.map (·.key)).map fun k => f (mOf hs k)).sum = (hs.map fun x => f x.vs).sum := by
  rw [List.map_map]
  congr 1
  refine List.map_congr_left fun x hx => ?_
  simp only [Function.comp]
  rw [mOf_mem h hx]
theorem szH_is {hs : List Hd} (h : LoOk hs) : SzT (mOf hs) (szH hs) := ⟨hs.map (fun x : Hd => x.key), h.keys, h.keyMem, by unfold szH; exact (h.sum List.length).symm⟩
/-- How many go at a Collect. -/
def goH (hs : List Hd) (k : Int) : Nat := (hs.map fun x => colN x.vs k).sum
theorem goH_is {hs : List Hd} (h : LoOk hs) (k : Int) : GoT (mOf hs) k (goH hs k) := ⟨hs.map (fun x : Hd => x.key), h.keys, fun s => h.keyMem s, by unfold goH; exact (h.sum fun vs => colN vs k).symm⟩
theorem goH_snoc (hs : List Hd) (x : Hd) (k : Int) : goH (hs ++ [x]) k = goH hs k + colN x.vs k := by simp [goH]
/-- The first i collected. -/
structure ColI (hs gs : List Hd) (k : Int) (i : Nat) : Prop where
  len : gs.length = hs.length
  key : ∀ j, j < hs.length → (gs.getD j Hd.zero).key = (hs.getD j Hd.zero).key
  done : ∀ j, j < i → j < hs.length → (gs.getD j Hd.zero).vs = colV (hs.getD j Hd.zero).vs k
  rest : ∀ j, i ≤ j → j < hs.length → gs.getD j Hd.zero = hs.getD j Hd.zero
theorem ColI.refl (hs : List Hd) (k : Int) : ColI hs hs k 0 := ⟨rfl, fun _ _ => rfl, fun j h => by omega, fun _ _ _ => rfl⟩
theorem ColI.next {hs gs : List Hd} {k : Int} {i : Nat} (h : ColI hs gs k i) (hi : i < hs.length) (x : Hd) (hk : x.key = (hs.getD i Hd.zero).key) (hv : x.vs = colV (hs.getD i Hd.zero).vs k) : ColI hs (gs.set i x) k (i + 1) := by
  have hg : ∀ j, (gs.set i x).getD j Hd.zero = if i = j then x else gs.getD j Hd.zero := fun j => by
    have := h.len
    by_cases hj : j < gs.length
    · by_cases e : i = j
      · subst e; rw [if_pos rfl]; simp [List.getD, hj]
      · rw [if_neg e]; simp [List.getD, List.getElem?_set, e]
    · have e : i ≠ j := by omega
      rw [if_neg e]; simp [List.getD, List.getElem?_set, e]
  refine ⟨by rw [List.length_set]; exact h.len, fun j hj => ?_, fun j h1 h2 => ?_, fun j h1 h2 => ?_⟩
  · rw [hg j]
    split
    · rename_i e; subst e; exact hk
    · exact h.key j hj
  · rw [hg j]
    split
    · rename_i e; subst e; exact hv
    · exact h.done j (by omega) h2
  · rw [hg j, if_neg (by omega)]
    exact h.rest j (by omega) h2
theorem ColI.ok {hs gs : List Hd} {k : Int} {i : Nat} (h : ColI hs gs k i) (hl : LoOk hs) : LoOk gs := by
  have hn := h.len
  refine ⟨?_, fun y hy => ?_⟩
  · rw [List.pairwise_iff_getElem]
    intro a b ha hb hab
    have e1 := h.key a (by omega)
    have e2 := h.key b (by omega)
    rw [hget_eq _ _ ha, hget_eq _ _ (by omega)] at e1
    rw [hget_eq _ _ hb, hget_eq _ _ (by omega)] at e2
    rw [e1, e2]
    exact List.pairwise_iff_getElem.1 hl.1 a b _ _ hab
  · obtain ⟨j, hj, rfl⟩ := List.getElem_of_mem hy
    have hj' : j < hs.length := by omega
    have ho := hl.2 _ (hgetD_mem hs j hj')
    rw [← hget_eq _ _ hj]
    by_cases hji : j < i
    · refine ⟨by rw [h.key j hj']; exact ho.1, ?_, ?_⟩
      · rw [h.done j hji hj']; exact (colV_ne k).2 ho.2.1
      · rw [h.done j hji hj']; exact colV_ok ho.2.2 k
    · rw [h.rest j (by omega) hj']; exact ho
theorem ColI.is {hs gs : List Hd} {k : Int} (h : ColI hs gs k hs.length) (hl : LoOk hs) : LoOk gs ∧ mOf gs = fun s => colV (mOf hs s) k := by
  have hL := h.ok hl
  have hn := h.len
  refine ⟨hL, mOf_is hL (fun x hx => ?_) (fun s hs2 => ?_)⟩
  · obtain ⟨j, hj, rfl⟩ := List.getElem_of_mem hx
    have hj' : j < hs.length := by omega
    rw [← hget_eq _ _ hj]
    show colV (mOf hs (gs.getD j Hd.zero).key) k = _
    rw [h.key j hj', h.done j hj' hj', mOf_mem hl (hgetD_mem hs j hj')]
  · show colV (mOf hs s) k = []
    rw [mOf_off fun x hx e => ?_]
    · exact colV_nil k
    · obtain ⟨j, hj, rfl⟩ := List.getElem_of_mem hx
      have hj' : j < gs.length := by omega
      refine hs2 _ (List.getElem_mem hj') ?_
      rw [← hget_eq _ _ hj', h.key j hj, hget_eq _ _ hj]
      exact e
/-- What a Dump has of one. -/
def duOf (k : Int) (ns : List Int) (x : Hd) : Option (ByteArray × List Vn) := if dmp x.vs k ns = [] then none else some (x.key, dmp x.vs k ns)
theorem duOf_is {hs gs : List Hd} (hl : LoOk hs) (k : Int) (ns : List Int) (h : gs.map hkv = hs.filterMap (duOf k ns)) : PkT (mOf hs) (fun s => dmp (mOf hs s) k ns) gs := by
  have hin : ∀ y ∈ gs, ∃ x ∈ hs, dmp x.vs k ns ≠ [] ∧ y.key = x.key ∧ y.vs = dmp x.vs k ns := fun y hy => by
    have h1 : hkv y ∈ gs.map hkv := List.mem_map.2 ⟨y, hy, rfl⟩
    rw [h] at h1
    obtain ⟨x, hx, e⟩ := List.mem_filterMap.1 h1
    unfold duOf at e
    split at e
    · cases e
    · rename_i hd
      simp only [Option.some.injEq, hkv, Prod.mk.injEq] at e
      exact ⟨x, hx, hd, e.1.symm, e.2.symm⟩
  refine ⟨?_, fun y hy => ?_, fun s h1 h2 => ?_⟩
  · have h1 : (gs.map hkv).Pairwise fun a b => Op.bytesLess a.1.toList b.1.toList = true := by
      rw [h, List.pairwise_filterMap]
      refine hl.1.imp fun {a b} hab a' ha b' hb => ?_
      unfold duOf at ha hb
      split at ha
      · cases ha
      · split at hb
        · cases hb
        · simp only [Option.some.injEq] at ha hb
          subst ha
          subst hb
          exact hab
    rw [List.pairwise_map] at h1
    exact h1
  · obtain ⟨x, hx, hd, e1, e2⟩ := hin y hy
    have e3 := mOf_mem hl hx
    refine ⟨?_, ?_, ?_⟩
    · show y.vs = dmp (mOf hs y.key) k ns
      rw [e1, e3, e2]
    · show dmp (mOf hs y.key) k ns ≠ []
      rw [e1, e3]; exact hd
    · rw [e1, e3]; exact (hl.2 x hx).2.1
  · obtain ⟨x, hx, rfl⟩ := mOf_ne h1
    rw [mOf_mem hl hx] at h2
    have h3 : (x.key, dmp x.vs k ns) ∈ gs.map hkv := by
      rw [h]
      refine List.mem_filterMap.2 ⟨x, hx, ?_⟩
      unfold duOf
      rw [if_neg h2]
    obtain ⟨y, hy, e⟩ := List.mem_map.1 h3
    simp only [hkv, Prod.mk.injEq] at e
    exact ⟨y, hy, e.1⟩
/-- What a Scan has of one. -/
def scOf (key en : ByteArray) (k : Int) (x : Hd) : Option Pr := if inS key en x.key = true then (valAt x.vs k).map fun v => (x.key, v) else none
theorem scOf_is {hs : List Hd} (hl : LoOk hs) (key en : ByteArray) (k : Int) : Is (atMark (mOf hs) key en k) (hs.filterMap (scOf key en k)) := by
  have hone : ∀ x y : Pr, ∀ a : Hd, scOf key en k a = some x → x.1 = a.key ∧ inS key en a.key = true ∧ valAt a.vs k = some x.2 := fun x y a h => by
    unfold scOf at h
    split at h
    · rename_i hi
      cases hv : valAt a.vs k with
      | none => rw [hv] at h; cases h
      | some v =>
        rw [hv] at h
        simp only [Option.map_some, Option.some.injEq] at h
        subst h
        exact ⟨rfl, hi, rfl⟩
    · cases h
  refine ⟨?_, fun p => ?_⟩
  · unfold Inc
    rw [List.pairwise_filterMap]
    refine hl.1.imp fun {a b} hab a' ha b' hb => ?_
    rw [(hone a' a' a ha).1, (hone b' b' b hb).1]
    exact hab
  · rw [List.mem_filterMap]
    unfold atMark
    constructor
    · rintro ⟨x, hx, e⟩
      obtain ⟨e1, e2, e3⟩ := hone p p x e
      rw [e1, if_pos e2, mOf_mem hl hx]
      exact e3
    · intro h
      split at h
      · rename_i hi
        have hne : mOf hs p.1 ≠ [] := fun e => by rw [e, valAt_nil] at h; cases h
        obtain ⟨x, hx, e⟩ := mOf_ne hne
        refine ⟨x, hx, ?_⟩
        rw [← e, mOf_mem hl hx] at h
        unfold scOf
        rw [e, if_pos hi, h]
        rfl
      · cases h
end Go.Proofs.YtkplammapbiebaaGreatDoor

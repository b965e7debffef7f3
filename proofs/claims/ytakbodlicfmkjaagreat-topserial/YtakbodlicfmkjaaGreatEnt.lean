/- A map of entries by their keys, as a function; contract of apply. Conditions as each names them. -/
import Derived.Test.YtakbodlicfmkjaaGreatChd7
import Derived.Maps.OwnSet
namespace Go.Proofs.YtakbodlicfmkjaaGreat.Fo
open Go.ChangeShapes Go.WideShapes Go.ChangeAt Go.RowKit Go.Lib Go.Maps
set_option linter.unusedVariables false
set_option linter.unusedSimpArgs false

theorem Tryz.undMap : Tryz.prog.underlying 108 = some (.map 9 61) := by kernel_rfl
theorem Tryz.keyedStr : Keyed Tryz.prog 9 := string_keyed Tryz.undS7
theorem Tryz.zeroEn (w : World) : (zeroValue 61).run Tryz.prog w = .ok (.agg #[.string ⟨#[]⟩, .string ⟨#[]⟩]) w := by kernel_rfl
/-- How an entry reads. -/
def entD (k s : ByteArray) : DataW Unit := .agg [.lit (.string k.data.toList), .lit (.string s.data.toList)]
def entElem (v : Value) : Option (DataW Unit × List MemPlace) :=
  match v with
  | .agg cs => match cs.toList with
    | [.string k, .string s] => some (entD k s, [])
    | _ => none
  | _ => none
theorem entElem_mk (k s : ByteArray) : entElem (.agg #[.string k, .string s]) = some (entD k s, []) := rfl
theorem entElem_inv {v : Value} {y : DataW Unit × List MemPlace} (h : entElem v = some y) : ∃ k s, v = .agg #[.string k, .string s] ∧ y = (entD k s, []) := by
  unfold entElem at h
  split at h
  · rename_i cs
    split at h
    · rename_i k s hcs
      simp only [Option.some.injEq] at h
      exact ⟨k, s, by rw [← Array.toArray_toList (xs := cs), hcs], h.symm⟩
    · cases h
  · cases h
theorem bytes_eq {a b : ByteArray} (h : a.data.toList = b.data.toList) : a = b := by
  cases a; cases b
  simp only at h
  congr
  exact Array.toList_inj.1 h
theorem entD_inj {k s k' s' : ByteArray} (h : entD k s = entD k' s') : k = k' ∧ s = s' := by
  simp only [entD, DataW.agg.injEq, List.cons.injEq, DataW.lit.injEq, Lit.string.injEq, and_true] at h
  exact ⟨bytes_eq h.1, bytes_eq h.2⟩
def kl7 (s : ByteArray) : Lit := .string s.data.toList
theorem kl7_inj {s t : ByteArray} (h : kl7 s = kl7 t) : s = t := bytes_eq (by simpa [kl7] using h)
theorem keyOf_str7 (s : ByteArray) (hs : s.size ≤ maxLen) : keyOf Tryz.prog 9 (.string s) = some (kl7 s) := Go.WideMaps.keyOf_string_mk Tryz.undS7 hs
/-- Block b is a map of at most n entries that says at each key what E says. -/
def MapE (w : World) (b n : Nat) (E : ByteArray → Option ByteArray) : Prop :=
  ∃ D : DataW Unit, w.ownsMap Tryz.prog 9 entElem b n D ∧ (∀ s, has D (kl7 s) = (E s).isSome) ∧ ∀ s v, E s = some v → ∀ z, D.atKey (kl7 s) z = entD s v
theorem MapE.lt {w : World} {b n : Nat} {E : ByteArray → Option ByteArray} (h : MapE w b n E) : b < w.heap.size := by
  obtain ⟨D, hD, _⟩ := h
  exact hD.lt
theorem MapE.keep {S : List Nat} {w w' : World} {b n : Nat} {E : ByteArray → Option ByteArray} (h : MapE w b n E) (hf : Fr S w w') (hn : b ∉ S) : MapE w' b n E := by
  have hlt := h.lt
  obtain ⟨D, ⟨es, clock, hb, hr⟩, h2⟩ := h
  exact ⟨D, ⟨es, clock, (hf.block b hlt hn).trans hb, hr⟩, h2⟩
theorem MapE.mono {w : World} {b n m : Nat} {E : ByteArray → Option ByteArray} (h : MapE w b n E) (hn : n ≤ m) : MapE w b m E := by
  obtain ⟨D, hD, h2⟩ := h
  exact ⟨D, hD.mono hn, h2⟩
theorem MapE.made (w : World) : MapE (w.alloc (.map #[] 0)) w.heap.size 0 (fun _ => none) :=
  ⟨.map [], World.ownsMap_made w _ _ _, fun s => rfl, fun s v h => by cases h⟩
/-- What a write makes of it. -/
def applyE (E : ByteArray → Option ByteArray) (x : Wt) : ByteArray → Option ByteArray := fun s => if s = x.key then (if x.drop = true then none else some x.val) else E s
theorem MapE.store {w : World} {b n : Nat} {E : ByteArray → Option ByteArray} (h : MapE w b n E) (key val : ByteArray) (hs : key.size ≤ maxLen) (hn : n < maxLen) :
    ∃ w', (Instr.mapUpdate 108 (.map (some b)) (.string key) (.agg #[.string key, .string val])).run Tryz.prog w = .ok () w' ∧ MapE w' b (n + 1) (applyE E ⟨key, val, false⟩) ∧ Fr [b] w w' := by
  obtain ⟨D, hD, hH, hA⟩ := h
  have hk := keyOf_str7 key hs
  have hI := hD.isMap
  obtain ⟨w', hrun, hO, hg⟩ := hD.update Tryz.keyedStr Tryz.undMap hn hk (entElem_mk key val)
  refine ⟨w', hrun, ⟨_, hO, ?_, ?_⟩, Fr.grown hg (by intro k hk _; cases hk; simp)⟩
  · intro s
    unfold applyE
    by_cases he : s = key
    · subst he
      rw [if_pos rfl, has_put_same hI (Tryz.keyedStr.key hk)]
      rfl
    · rw [if_neg he, has_put_other (fun e => he (kl7_inj e)), hH s]
  · intro s v hv z
    unfold applyE at hv
    by_cases he : s = key
    · subst he
      rw [if_pos rfl] at hv
      simp only [Bool.false_eq_true, if_false, Option.some.injEq] at hv
      subst hv
      exact atKey_put_same hI (Tryz.keyedStr.key hk) _ _
    · rw [if_neg he] at hv
      rw [atKey_put_other (fun e => he (kl7_inj e))]
      exact hA s v hv z
theorem MapE.drop {w : World} {b n : Nat} {E : ByteArray → Option ByteArray} (h : MapE w b n E) (key val : ByteArray) (hs : key.size ≤ maxLen) (ty : TypeId) :
    ∃ w', (Builtin.delete_ #[108, 9] ty #[.map (some b), .string key]).run Tryz.prog w = .ok (.tuple #[]) w' ∧ MapE w' b n (applyE E ⟨key, val, true⟩) ∧ Fr [b] w w' := by
  obtain ⟨D, hD, hH, hA⟩ := h
  have hk := keyOf_str7 key hs
  obtain ⟨w', hrun, hO, ht⟩ := hD.drop Tryz.keyedStr Tryz.undMap hk ty
  refine ⟨w', hrun, ⟨_, hO, ?_, ?_⟩, Fr.grown ht.grown (by intro k hk _; cases hk; simp)⟩
  · intro s
    unfold applyE
    by_cases he : s = key
    · subst he
      rw [if_pos rfl, has_del_same]
      rfl
    · rw [if_neg he, has_del_other (fun e => he (kl7_inj e)), hH s]
  · intro s v hv z
    unfold applyE at hv
    by_cases he : s = key
    · rw [if_pos he] at hv
      cases hv
    · rw [if_neg he] at hv
      rw [atKey_del_other (fun e => he (kl7_inj e))]
      exact hA s v hv z
theorem MapE.look {w : World} {b n : Nat} {E : ByteArray → Option ByteArray} (h : MapE w b n E) (key : ByteArray) (hs : key.size ≤ maxLen) :
    (Instr.lookup 108 (.map (some b)) (.string key) true).run Tryz.prog w = .ok (.tuple #[(match E key with | some v => .agg #[.string key, .string v] | none => .agg #[.string ⟨#[]⟩, .string ⟨#[]⟩]), .bool (E key).isSome]) w := by
  obtain ⟨D, hD, hH, hA⟩ := h
  have hk := keyOf_str7 key hs
  obtain ⟨v, ps, hrun, hv⟩ := hD.look_ok Tryz.keyedStr Tryz.undMap (Tryz.zeroEn _) (entElem_mk _ _) hk
  rw [hrun, hH key]
  obtain ⟨k', s', rfl, e⟩ := entElem_inv hv
  simp only [Prod.mk.injEq] at e
  cases hE : E key with
  | some x =>
    rw [hA key x hE] at e
    obtain ⟨rfl, rfl⟩ := entD_inj e.1
    rfl
  | none =>
    have hh : has D (kl7 key) = false := by rw [hH key, hE]; rfl
    rw [atKey_of_not_has hh] at e
    obtain ⟨rfl, rfl⟩ := entD_inj e.1
    rfl

set_option maxHeartbeats 4000000 in
set_option maxRecDepth 100000 in
theorem apply_any (b n : Nat) (E : ByteArray → Option ByteArray) (key val : ByteArray) (drop : Bool) (w : World) (h : MapE w b n E) (hs : key.size ≤ 64) (hn : n < 9007199254740992) :
    Calls Tryz.prog 70 #[.map (some b), .agg #[.string key, .string val, .bool drop]] w fun e w' => e = .returned (.tuple #[]) ∧ MapE w' b (n + 1) (applyE E ⟨key, val, drop⟩) ∧ Fr [b] w w' := by
  have hsm : key.size ≤ maxLen := by unfold maxLen; omega
  obtain ⟨w0, HW0⟩ : ∃ w0, Hid (w.alloc (.cells #[.string key, .string val, .bool drop] 56) = w0) := ⟨_, rfl⟩
  have hF0 : Fr [] w w0 := by rw [← HW0.out]; exact Fr.alloc [] w _
  have hb0 : w0.heap[w.heap.size]? = some (.cells #[.string key, .string val, .bool drop] 56 (0, 0)) := by rw [← HW0.out]; exact heap_alloc_new w _
  have c0 : w0.cell? ⟨w.heap.size, 0, none⟩ = some (.string key) := by rw [cell_of_row _ _ _ _ _ _ hb0]; rfl
  have c1 : w0.cell? ⟨w.heap.size, 1, none⟩ = some (.string val) := by rw [cell_of_row _ _ _ _ _ _ hb0]; rfl
  have c2 : w0.cell? ⟨w.heap.size, 2, none⟩ = some (.bool drop) := by rw [cell_of_row _ _ _ _ _ _ hb0]; rfl
  have h0 := h.keep hF0 (by simp)
  cases drop with
  | true =>
    have hdr : ∀ ty, ∃ w', (Builtin.delete_ #[108, 9] ty #[.map (some b), .string key]).run Tryz.prog w0 = .ok (.tuple #[]) w' ∧ MapE w' b n (applyE E ⟨key, val, true⟩) ∧ Fr [b] w0 w' := fun ty => h0.drop key val hsm ty
    obtain ⟨w1, hr1, hM1, hG1⟩ := hdr 0
    have HR : Hid (MapE w1 b (n + 1) (applyE E ⟨key, val, true⟩) ∧ Fr [b] w w1) := ⟨hM1.mono (by omega), (hF0.mono (by simp)).then hG1⟩
    clear h h0 hM1 hG1 hb0 hdr
    go_enter Tryz.func70, Tryz.ntmps70
    go_upto_region 1 with fail
    rw [HW0.out]
    go_wp2
    refine bodyPost_ret (results_none rfl _ _ _) rfl ?_
    exact ⟨rfl, HR.out⟩
  | false =>
    obtain ⟨w1, hr1, hM1, hG1⟩ := h0.store key val hsm (by unfold maxLen; omega)
    have HR : Hid (MapE w1 b (n + 1) (applyE E ⟨key, val, false⟩) ∧ Fr [b] w w1) := ⟨hM1, (hF0.mono (by simp)).then hG1⟩
    clear h h0 hM1 hG1 hb0
    go_enter Tryz.func70, Tryz.ntmps70
    go_upto_region 1 with fail
    rw [HW0.out]
    go_wp2
    go_end0
    exact ⟨rfl, HR.out⟩
end Go.Proofs.YtakbodlicfmkjaaGreat.Fo

/- A store at a key that is there, in the round of a range over the map. Conditions as each names them. -/
import Derived.Test.YtakbodlicfmkjaaGreatHn9
namespace Go.Proofs.YtakbodlicfmkjaaGreat.O
open Go.ChangeShapes Go.WideShapes Go.ChangeAt Go.RowKit Go.Lib Go.Maps Go.MapKept
open Go.ChangeMaps (setBlock modify_eq_set)
open Go.WideElems (Fit rd rg rd_key rg_of rd_mk)
set_option linter.unusedVariables false
set_option linter.unusedSimpArgs false

section
variable {P : Program} {k : TypeId} {R : Value → Option (DataW Unit × List MemPlace)} {w : World} {b r n : Nat} {D : DataW Unit} {left : Lit → Bool} {cnt : Nat}
/-- An entry of that key is in the map. -/
def Ent (P : Program) (k : TypeId) (R : Value → Option (DataW Unit × List MemPlace)) (w : World) (b : Nat) (kl : Lit) : Prop := ∃ es clock x, w.heap[b]? = some (.map es clock) ∧ x ∈ es.toList ∧ (rg P k R x).1 = kl
theorem ranges_ent (h : w.ranges P k R b r n D left cnt) {kl : Lit} (hl : left kl = true) : Ent P k R w b kl := by
  obtain ⟨es, clock, since, seen, c0, hb, F, hs, rfl, hr, hold, hcnt, hl1, hl2, hsc, hsk⟩ := h
  obtain ⟨x, hx, e⟩ := hl2 kl hl
  exact ⟨es, clock, x, hb, hx, e⟩
theorem ranges_put {t e : TypeId} (h : w.ranges P k R b r n D left cnt) (K : Keyed P k) (ht : P.underlying t = some (.map k e)) {key val : Value} {kl : Lit} {d : DataW Unit} {ps : List MemPlace} (hkey : keyOf P k key = some kl) (hv : R val = some (d, ps)) (hent : Ent P k R w b kl) (hn : n < maxLen) :
    ∃ w', (Instr.mapUpdate t (.map (some b)) key val).run P w = .ok () w' ∧ w'.ranges P k R b r n (D.put kl d) left cnt ∧ w.grownBy w' (some b) := by
  have hne := h.ne
  obtain ⟨es, clock, since, seen, c0, hb, F, hs, rfl, hr, hold, hcnt, hl1, hl2, hsc, hsk⟩ := h
  obtain ⟨es1, clock1, x1, hb1, hx1, ex1⟩ := hent
  rw [hb] at hb1
  simp only [Option.some.injEq, Obj.map.injEq] at hb1
  obtain ⟨rfl, rfl⟩ := hb1
  have hxk : ∀ x ∈ es.toList, (rg P k R x).1 = kl ↔ x.key = key := by
    intro x hx
    obtain ⟨y, hy⟩ := F.reads x hx
    have hy2 := rd_key hy
    rw [rg_of hy]
    constructor
    · intro e
      rw [e] at hy2
      exact K.inj hy2 hkey
    · intro e
      rw [e, hkey] at hy2
      simpa using hy2.symm
  obtain ⟨es', clock', hrun, F', hput, _⟩ := Maps.fit_store (R' := R) K ht hb F (Nat.lt_of_le_of_lt hs hn) (fun _ _ _ _ hz => hz) hkey hv
  rcases K.find w hkey es.toList F.keys with ⟨h1, h2⟩ | ⟨j, e0, h1, h2, h3⟩
  · exact absurd ((hxk x1 hx1).1 ex1) (h2 x1 hx1)
  · have hj : es[j]? = some e0 := by simpa using h2
    have hrun1 : (Instr.mapUpdate t (.map (some b)) key val).run P w = .ok () (setBlock w b (.map (es.modify j (fun e' => { e' with key := key, val := val })) clock)) := by
      simp [Instr.mapUpdate, run_underlying ht, MapKept.run_getObj_map hb, K.check w false hkey, h1, hj, h3, K.stays w hkey, MapKept.run_setObj_map _ hb, Result.andThen, setBlock]
    have hlist : (es.modify j (fun e' => { e' with key := key, val := val })).toList = es.toList.set j { e0 with key := key, val := val } := by rw [Array.toList_modify, modify_eq_set _ _ _ _ h2]
    have heq : es' = es.modify j (fun e' => { e' with key := key, val := val }) ∧ clock' = clock := by
      rw [hrun1] at hrun
      injection hrun with _ hw
      have a1 := ChangeMaps.heap_setBlock_same hb (.map es' clock')
      have a2 := ChangeMaps.heap_setBlock_same hb (.map (es.modify j (fun e' => { e' with key := key, val := val })) clock)
      rw [hw] at a2
      rw [a1] at a2
      simp only [Option.some.injEq, Obj.map.injEq] at a2
      exact a2
    obtain ⟨rfl, rfl⟩ := heq
    have he0 : e0 ∈ es.toList := List.mem_of_getElem? h2
    have hjl : j < es.toList.length := (List.getElem?_eq_some_iff.1 h2).1
    have who : ∀ x ∈ es.toList.set j { e0 with key := key, val := val }, x = { e0 with key := key, val := val } ∨ x ∈ es.toList := fun x hx => by
      rcases List.mem_or_eq_of_mem_set hx with h | h
      · exact Or.inr h
      · exact Or.inl h
    have hnew : (rg P k R { e0 with key := key, val := val }).1 = kl := by rw [rg_of (rd_mk hkey hv)]
    have hborn : (es.modify j (fun e' => { e' with key := key, val := val })).toList.map (·.born) = es.toList.map (·.born) := by
      rw [hlist, List.map_set]
      apply List.ext_getElem?
      intro i
      rw [List.getElem?_set]
      split
      · rename_i hij
        subst hij
        have hjs : j < es.size := by simpa using hjl
        rw [List.getElem?_map, h2]
        simp [hjs]
      · rfl
    refine ⟨_, hrun1, ⟨_, _, since, seen, c0, ChangeMaps.heap_setBlock_same hb _, F', by simpa using hs, ?_, (ChangeMaps.heap_setBlock_other hb _ hne).trans hr, ?_, ?_, ?_, ?_, hsc, hsk⟩, ⟨rfl, rfl, rfl, by simp [setBlock], fun i _ hi => ChangeMaps.heap_setBlock_other hb _ (fun e => hi (by rw [e]))⟩⟩
    · rw [DataW.put_eq, hput]
    · intro x hx
      rw [hlist] at hx
      rcases who x hx with rfl | h
      · exact hold e0 he0
      · exact hold x h
    · rw [← hcnt]
      have e1 : ∀ a : Array MapEntry, (leftOf a seen).size = ((a.toList.map (·.born)).filter fun x => !seen.contains x).length := fun a => by
        unfold leftOf
        rw [← Array.length_toList, Array.toList_filter, List.filter_map, List.length_map]
        rfl
      rw [e1, e1, hborn]
    · intro x hx
      rw [hlist] at hx
      rcases who x hx with rfl | h
      · rw [hnew, ← hl1 e0 he0, (hxk e0 he0).2 h3]
      · exact hl1 x h
    · intro kl2 hk2
      obtain ⟨x, hx, e⟩ := hl2 kl2 hk2
      by_cases hk : x.key = key
      · refine ⟨{ e0 with key := key, val := val }, by rw [hlist]; exact List.mem_set hjl _, ?_⟩
        rw [hnew, ← e]
        exact ((hxk x hx).2 hk).symm
      · refine ⟨x, ?_, e⟩
        rw [hlist]
        obtain ⟨i, hi⟩ := List.getElem?_of_mem hx
        refine List.mem_of_getElem? (i := i) ?_
        rw [List.getElem?_set, if_neg ?_]
        · exact hi
        · rintro rfl
          rw [h2] at hi
          cases hi
          exact hk h3
end
end Go.Proofs.YtakbodlicfmkjaaGreat.O

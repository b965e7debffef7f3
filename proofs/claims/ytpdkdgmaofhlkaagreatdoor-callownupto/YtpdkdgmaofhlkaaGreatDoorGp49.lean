/- Texts of this claim laid together, one behind the other: contracts and plain lemmas; conditions as each names them. -/
import Derived.Test.YtpdkdgmaofhlkaaGreatDoorGp24
/- What a bound on the bulk of what came in says of asks. Conditions as each names them. -/
namespace Go.Proofs.YtpdkdgmaofhlkaaGreatDoor
open Go.ChangeShapes Go.WideShapes Go.ChangeAt Go.RowKit Go.Lib
set_option linter.unusedVariables false
set_option linter.unusedSimpArgs false
section
variable {H : Type} {enc : TypeId × Value → H} {w : World}
theorem bulk_one (d : DataW H) : 1 ≤ Rows.uptoBulk d := by
  cases d with
  | lit l => cases l <;> simp [Rows.uptoBulk]
  | _ => simp [Rows.uptoBulk]
theorem bulk_mem {d : DataW H} : ∀ {l : List (DataW H)}, d ∈ l → Rows.uptoBulk d ≤ Rows.uptoBulkAll l
  | [], h => by cases h
  | x :: r, h => by
    simp only [Rows.uptoBulkAll]
    rcases List.mem_cons.1 h with e | e
    · subst e; omega
    · have := bulk_mem e; omega
theorem bulk_len : ∀ l : List (DataW H), l.length ≤ Rows.uptoBulkAll l
  | [] => by simp [Rows.uptoBulkAll]
  | x :: r => by have := bulk_one x; have := bulk_len r; simp only [Rows.uptoBulkAll, List.length_cons]; omega
theorem bulk_part {t : TypeId} {fs : Array Field} {fuel : Nat} {cs : List Value} {x : DataW H × List MemPlace} (hu : Tryz.prog.underlying t = some (.struct fs)) (h : DataW.trod enc Tryz.prog w 0 (fun _ => true) true fuel t cs = some x) {i : Nat} {f : Field} (hi : fs[i]? = some f) :
    ∃ n y, DataW.trod enc Tryz.prog w 0 (fun _ => true) true n f.type ((cs.drop f.offset).take (Tryz.prog.cellsOf f.type)) = some y ∧ Rows.uptoBulk y.1 ≤ Rows.uptoBulk x.1 := by
  obtain ⟨ys, n, _, hx, hlen, hys, hf⟩ := DataW.trod_struct hu h
  have r := hf i f hi
  have hl : i < ys.length := by
    rw [hys]
    have := (Array.getElem?_eq_some_iff.1 hi).1
    simpa using this
  rw [List.getElem?_eq_getElem hl] at r
  refine ⟨n, ys[i], r, ?_⟩
  rw [hx]
  simp only [Rows.uptoBulk]
  have := bulk_mem (l := ys.map fun x => x.fst) (List.mem_map.2 ⟨ys[i], List.getElem_mem hl, rfl⟩)
  omega
theorem bulk_slice {t e : TypeId} {fuel : Nat} {ao : Option Addr} {L cap : Nat} {x : DataW H × List MemPlace} (ht : Tryz.prog.underlying t = some (.slice e)) (h : DataW.trod enc Tryz.prog w 0 (fun _ => true) true fuel t [.slice ao L cap] = some x) : L ≤ Rows.uptoBulk x.1 := by
  rcases Go.Deep.open_slice ht h with ⟨hcs, _⟩ | ⟨a, len, c, m, n, D, Pl, hcs, hb, hl, hm, hmm, hx, hE⟩
  · simp only [List.cons.injEq, Value.slice.injEq, and_true] at hcs
    omega
  · simp only [List.cons.injEq, Value.slice.injEq, and_true] at hcs
    rw [hx]
    simp only [Rows.uptoBulk]
    have := bulk_len ((List.range len).map D)
    simp only [List.length_map, List.length_range] at this
    omega
/-- The field number i of a struct. -/
theorem bulk_at {t ty : TypeId} {off i : Nat} {Ls : List (TypeId × Nat)} (hF : ∃ fs : Array Field, Tryz.prog.underlying t = some (.struct fs) ∧ fs.toList.map (fun f => (f.type, f.offset)) = Ls) (hi : Ls[i]? = some (ty, off)) {fuel : Nat} {cs : List Value} {x : DataW H × List MemPlace} (h : DataW.trod enc Tryz.prog w 0 (fun _ => true) true fuel t cs = some x) :
    ∃ n y, DataW.trod enc Tryz.prog w 0 (fun _ => true) true n ty ((cs.drop off).take (Tryz.prog.cellsOf ty)) = some y ∧ Rows.uptoBulk y.1 ≤ Rows.uptoBulk x.1 := by
  obtain ⟨fs, hu, rfl⟩ := hF
  rw [List.getElem?_map] at hi
  obtain ⟨f, hf, e⟩ := Option.map_eq_some_iff.1 hi
  simp only [Prod.mk.injEq] at e
  obtain ⟨n, y, hy, hb⟩ := bulk_part hu h (show fs[i]? = some f by simpa using hf)
  rw [e.1, e.2] at hy
  exact ⟨n, y, hy, hb⟩
theorem resp_fs : ∃ fs : Array Field, Tryz.prog.underlying 53 = some (.struct fs) ∧ fs.toList.map (fun f => (f.type, f.offset)) = [(3, 0), (4, 1), (50, 2), (51, 3), (3, 4)] := by
  have hF := Tryz.resp_openF
  cases hu : Tryz.prog.underlying 53 with
  | none => rw [hu] at hF; simp at hF
  | some u =>
    rw [hu] at hF
    cases u with
    | struct fs => exact ⟨fs, rfl, hF⟩
    | _ => simp at hF
theorem ask17_fs : ∃ fs : Array Field, Tryz.prog.underlying 55 = some (.struct fs) ∧ fs.toList.map (fun f => (f.type, f.offset)) = [(48, 0), (3, 1), (3, 2), (49, 3), (53, 4)] := by
  have hF := Tryz.ask17_openF
  cases hu : Tryz.prog.underlying 55 with
  | none => rw [hu] at hF; simp at hF
  | some u =>
    rw [hu] at hF
    cases u with
    | struct fs => exact ⟨fs, rfl, hF⟩
    | _ => simp at hF
theorem Tryz.undEnsB : Tryz.prog.underlying 50 = some (.slice 102) := by kernel_rfl
theorem bulk_resp {fuel : Nat} {r : Rp} {x : DataW H × List MemPlace} (h : DataW.trod enc Tryz.prog w 0 (fun _ => true) true fuel 53 r.c = some x) : r.el ≤ Rows.uptoBulk x.1 ∧ r.hl ≤ Rows.uptoBulk x.1 := by
  obtain ⟨n, y, hy, hb⟩ := bulk_at (i := 2) (ty := 50) (off := 2) resp_fs rfl h
  obtain ⟨n2, y2, hy2, hb2⟩ := bulk_at (i := 3) (ty := 51) (off := 3) resp_fs rfl h
  rw [Tryz.cEns17] at hy
  rw [Tryz.cHds17] at hy2
  simp only [Rp.c, List.drop_succ_cons, List.drop_zero, List.take_succ_cons, List.take_zero] at hy hy2
  have := bulk_slice Tryz.undEnsB hy
  have := bulk_slice Tryz.undHds9 hy2
  omega
theorem bulk_ask {fuel : Nat} {a : Aj} {x : DataW H × List MemPlace} (h : DataW.trod enc Tryz.prog w 0 (fun _ => true) true fuel 55 a.c = some x) : a.r.el ≤ Rows.uptoBulk x.1 ∧ a.r.hl ≤ Rows.uptoBulk x.1 := by
  obtain ⟨n, y, hy, hb⟩ := bulk_at (i := 4) (ty := 53) (off := 4) ask17_fs rfl h
  rw [Tryz.resp_openC] at hy
  have e : (a.c.drop 4).take 5 = a.r.c := rfl
  rw [e] at hy
  have := bulk_resp hy
  omega
theorem bulk_asks {fuel : Nat} {ao : Option Addr} {L cap : Nat} {x : DataW H × List MemPlace} (h : DataW.trod enc Tryz.prog w 0 (fun _ => true) true fuel 29 [.slice ao L cap] = some x) {os : List Aj} (hJ : JRs w ao os) (hL : L = os.length) : ∀ a ∈ os, a.r.el ≤ Rows.uptoBulk x.1 ∧ a.r.hl ≤ Rows.uptoBulk x.1 := by
  intro a ha
  obtain ⟨i, hi, e⟩ := List.getElem_of_mem ha
  obtain ⟨b, off, ea, _, hc⟩ := hJ.lies (by omega)
  have e4 : os.getD i Aj.zero = a := by simp [List.getD, hi, e]
  rcases Go.Deep.open_slice Tryz.undAjs h with ⟨hcs, _⟩ | ⟨a', len, c', m, n, D, Pl, hcs, hb, hl, hm, hmm, hx, hE⟩
  · simp only [List.cons.injEq, Value.slice.injEq, and_true] at hcs
    omega
  · simp only [List.cons.injEq, Value.slice.injEq, and_true] at hcs
    obtain ⟨e1, e2, e3⟩ := hcs
    rw [ea] at e1
    cases e1
    simp only [if_true] at hmm
    rw [Tryz.ask17_openC] at hE
    obtain ⟨cs', h1, h2⟩ := hE i (by omega)
    have hlen := (World.cells?_some h1).2.1
    have hcell := (World.cells?_some h1).2.2
    have hsame : cs' = a.c := by
      apply List.ext_getElem?
      intro j
      by_cases hj : j < 9
      · have h3 := hcell j hj
        have h4 := hc i hi j hj
        rw [e4] at h4
        rw [Addr.add_lit, Addr.add_lit] at h3
        rw [← h3, h4]
      · rw [List.getElem?_eq_none (by omega), List.getElem?_eq_none (by simp [Aj.c, Rp.c]; omega)]
    rw [hsame] at h2
    have := bulk_ask h2
    rw [hx]
    simp only [Rows.uptoBulk]
    have := bulk_mem (d := D i) (l := (List.range len).map D) (List.mem_map.2 ⟨i, by simp; omega, rfl⟩)
    simp only at *
    omega
theorem Tryz.undVnsB : Tryz.prog.underlying 95 = some (.slice 134) := by kernel_rfl
theorem bulk_hd {fuel : Nat} {cs : List Value} {x : DataW H × List MemPlace} (h : DataW.trod enc Tryz.prog w 0 (fun _ => true) true fuel 97 cs = some x) {vo : Option Addr} {M c : Nat} (hc : cs[1]? = some (.slice vo M c)) : M ≤ Rows.uptoBulk x.1 := by
  have hF := Tryz.hdFields9
  obtain ⟨fs, f, hu, hf, e1, e2⟩ : ∃ fs f, Tryz.prog.underlying 97 = some (.struct fs) ∧ fs[1]? = some f ∧ f.type = 95 ∧ f.offset = 1 := by
    cases hu : Tryz.prog.underlying 97 with
    | none => rw [hu] at hF; simp at hF
    | some u =>
      rw [hu] at hF
      cases u with
      | struct fs =>
        simp only at hF
        have hq : (fs.toList.map (fun f => (f.type, f.offset)))[1]? = some (95, 1) := by rw [hF]; rfl
        rw [List.getElem?_map] at hq
        obtain ⟨f, hf, e⟩ := Option.map_eq_some_iff.1 hq
        simp only [Prod.mk.injEq] at e
        exact ⟨fs, f, rfl, by simpa using hf, e.1, e.2⟩
      | _ => simp at hF
  obtain ⟨n, y, hy, hb⟩ := bulk_part hu h hf
  rw [e1, e2, Tryz.cVns9] at hy
  obtain ⟨hl, hg⟩ := List.getElem?_eq_some_iff.1 hc
  have e3 : (cs.drop 1).take 1 = [.slice vo M c] := by
    rw [List.drop_eq_getElem_cons hl, hg]
    rfl
  rw [e3] at hy
  have := bulk_slice Tryz.undVnsB hy
  omega
theorem bulk_hds {fuel : Nat} {ao : Option Addr} {L cap : Nat} {x : DataW H × List MemPlace} (h : DataW.trod enc Tryz.prog w 0 (fun _ => true) true fuel 51 [.slice ao L cap] = some x) :
    L ≤ Rows.uptoBulk x.1 ∧ ∀ a, ao = some a → ∀ i, i < L → ∀ vo M c, w.cell? ((a.add (i * 2)).add 1) = some (.slice vo M c) → M ≤ Rows.uptoBulk x.1 := by
  refine ⟨bulk_slice Tryz.undHds9 h, fun a ha i hi vo M c hc => ?_⟩
  rcases Go.Deep.open_slice Tryz.undHds9 h with ⟨hcs, _⟩ | ⟨a', len, c', m, n, D, Pl, hcs, hb, hl, hm, hmm, hx, hE⟩
  · simp only [List.cons.injEq, Value.slice.injEq, and_true] at hcs
    omega
  · simp only [List.cons.injEq, Value.slice.injEq, and_true] at hcs
    obtain ⟨e1, e2, e3⟩ := hcs
    rw [ha] at e1
    cases e1
    simp only [if_true] at hmm
    rw [Tryz.cellsHd9] at hE
    obtain ⟨cs', h1, h2⟩ := hE i (by omega)
    have h3 := (World.cells?_some h1).2.2 1 (by omega)
    rw [hc] at h3
    have h4 := bulk_hd h2 h3.symm
    rw [hx]
    simp only [Rows.uptoBulk]
    have := bulk_mem (d := D i) (l := (List.range len).map D) (List.mem_map.2 ⟨i, by simp; omega, rfl⟩)
    simp only at h4
    omega
theorem bulk_hold {fuel : Nat} {ao : Option Addr} {L cap : Nat} {x : DataW H × List MemPlace} (h : DataW.trod enc Tryz.prog w 0 (fun _ => true) true fuel 51 [.slice ao L cap] = some x) {os : List Hd} (hH : HRs w ao os) (hL : L = os.length) : ∀ t ∈ os, t.vs.length ≤ Rows.uptoBulk x.1 := by
  intro t ht
  obtain ⟨k1, k2⟩ := bulk_hds h
  obtain ⟨i, hi, e⟩ := List.getElem_of_mem ht
  obtain ⟨b, off, ea, _, hc⟩ := hH.lies (by omega)
  have h3 := (hc i hi).2
  have e4 : os.getD i Hd.zero = t := by simp [List.getD, hi, e]
  rw [e4] at h3
  have := k2 _ ea i (by omega) t.vo t.L t.cap (by rw [Addr.add_lit, Addr.add_lit]; exact h3)
  have := (hH.each t ht).len
  omega
theorem bulk_ask2 {fuel : Nat} {a : Aj} {x : DataW H × List MemPlace} (h : DataW.trod enc Tryz.prog w 0 (fun _ => true) true fuel 55 a.c = some x) (hA : AjB w a) : ∀ t ∈ a.hs, t.vs.length ≤ Rows.uptoBulk x.1 := by
  obtain ⟨n, y, hy, hb⟩ := bulk_at (i := 4) (ty := 53) (off := 4) ask17_fs rfl h
  rw [Tryz.resp_openC] at hy
  have e : (a.c.drop 4).take 5 = a.r.c := rfl
  rw [e] at hy
  obtain ⟨n2, y2, hy2, hb2⟩ := bulk_at (i := 3) (ty := 51) (off := 3) resp_fs rfl hy
  rw [Tryz.cHds17] at hy2
  simp only [Rp.c, List.drop_succ_cons, List.drop_zero, List.take_succ_cons, List.take_zero] at hy2
  intro t ht
  have := bulk_hold hy2 hA.rp.yh hA.rp.hl t ht
  omega
theorem bulkAll_append : ∀ a b : List (DataW H), Rows.uptoBulkAll (a ++ b) = Rows.uptoBulkAll a + Rows.uptoBulkAll b
  | [], b => by simp [Rows.uptoBulkAll]
  | x :: a, b => by have := bulkAll_append a b; simp only [List.cons_append, Rows.uptoBulkAll]; omega
theorem bulk_sum {D : Nat → DataW H} (f : Aj → Nat) (g : List Aj → Nat) (g0 : g [] = 0) (g1 : ∀ l a, g (l ++ [a]) = g l + f a) (os : List Aj) (hD : ∀ i, i < os.length → f (os.getD i Aj.zero) ≤ Rows.uptoBulk (D i)) : ∀ k, k ≤ os.length → g (os.take k) ≤ Rows.uptoBulkAll ((List.range k).map D)
  | 0, _ => by simp [g0]
  | k + 1, hk => by
    have ih := bulk_sum f g g0 g1 os hD k (by omega)
    have e : os.take (k + 1) = os.take k ++ [os.getD k Aj.zero] := by rw [List.take_succ_eq_append_getElem (by omega)]; simp [List.getD, show k < os.length by omega]
    have h1 := hD k (by omega)
    rw [e, g1, List.range_succ, List.map_append, bulkAll_append]
    simp only [List.map_cons, List.map_nil, Rows.uptoBulkAll]
    omega
theorem bulk_asks2 {fuel : Nat} {ao : Option Addr} {L cap : Nat} {x : DataW H × List MemPlace} (h : DataW.trod enc Tryz.prog w 0 (fun _ => true) true fuel 29 [.slice ao L cap] = some x) {os : List Aj} (hJ : JRs w ao os) (hL : L = os.length) : (os.flatMap Aj.es).length ≤ Rows.uptoBulk x.1 ∧ (os.flatMap Aj.hs).length ≤ Rows.uptoBulk x.1 ∧ ∀ a ∈ os, a.r.el ≤ Rows.uptoBulk x.1 ∧ a.r.hl ≤ Rows.uptoBulk x.1 ∧ ∀ t ∈ a.hs, t.vs.length ≤ Rows.uptoBulk x.1 := by
  by_cases h0 : os.length = 0
  · rw [List.length_eq_zero_iff.1 h0]; simp
  · obtain ⟨b, off, ea, _, hc⟩ := hJ.lies (by omega)
    rcases Go.Deep.open_slice Tryz.undAjs h with ⟨hcs, _⟩ | ⟨a', len, c', m, n, D, Pl, hcs, hb, hl, hm, hmm, hx, hE⟩
    · simp only [List.cons.injEq, Value.slice.injEq, and_true] at hcs
      omega
    · simp only [List.cons.injEq, Value.slice.injEq, and_true] at hcs
      obtain ⟨e1, e2, e3⟩ := hcs
      rw [ea] at e1
      cases e1
      simp only [if_true] at hmm
      rw [Tryz.ask17_openC] at hE
      have each : ∀ i, i < os.length → ∃ n P, DataW.trod enc Tryz.prog w 0 (fun _ => true) true n 55 (os.getD i Aj.zero).c = some (D i, P) := fun i hi => by
        obtain ⟨cs', h1, h2⟩ := hE i (by omega)
        have hlen := (World.cells?_some h1).2.1
        have hcell := (World.cells?_some h1).2.2
        have hsame : cs' = (os.getD i Aj.zero).c := by
          apply List.ext_getElem?
          intro j
          by_cases hj : j < 9
          · have h3 := hcell j hj
            have h4 := hc i hi j hj
            rw [Addr.add_lit, Addr.add_lit] at h3
            rw [← h3, h4]
          · rw [List.getElem?_eq_none (by omega), List.getElem?_eq_none (by simp [Aj.c, Rp.c]; omega)]
        rw [hsame] at h2
        exact ⟨_, _, h2⟩
      have bd : ∀ i, i < os.length → (os.getD i Aj.zero).r.el ≤ Rows.uptoBulk (D i) ∧ (os.getD i Aj.zero).r.hl ≤ Rows.uptoBulk (D i) ∧ ∀ t ∈ (os.getD i Aj.zero).hs, t.vs.length ≤ Rows.uptoBulk (D i) := fun i hi => by
        obtain ⟨n, P, h2⟩ := each i hi
        exact ⟨(bulk_ask h2).1, (bulk_ask h2).2, bulk_ask2 h2 (hJ.each _ (jgetD_mem os i hi))⟩
      have eb : Rows.uptoBulkAll ((List.range os.length).map D) ≤ Rows.uptoBulk x.1 := by
        rw [hx, show os.length = len by omega]
        simp only [Rows.uptoBulk]
        omega
      have s1 := bulk_sum (D := D) (fun a => a.es.length) (fun l => (l.flatMap Aj.es).length) rfl (fun l a => by simp) os (fun i hi => by have := (bd i hi).1; have := (hJ.each _ (jgetD_mem os i hi)).rp.el; omega) os.length (Nat.le_refl _)
      have s2 := bulk_sum (D := D) (fun a => a.hs.length) (fun l => (l.flatMap Aj.hs).length) rfl (fun l a => by simp) os (fun i hi => by have := (bd i hi).2.1; have := (hJ.each _ (jgetD_mem os i hi)).rp.hl; omega) os.length (Nat.le_refl _)
      rw [List.take_length] at s1 s2
      refine ⟨by omega, by omega, fun a ha => ?_⟩
      obtain ⟨i, hi, e⟩ := List.getElem_of_mem ha
      have e4 : os.getD i Aj.zero = a := by simp [List.getD, hi, e]
      have g := bulk_mem (d := D i) (l := (List.range os.length).map D) (List.mem_map.2 ⟨i, by simp; omega, rfl⟩)
      have g2 := bd i hi
      rw [e4] at g2
      exact ⟨by omega, by omega, fun t ht => by have := g2.2.2 t ht; omega⟩
end
end Go.Proofs.YtpdkdgmaofhlkaaGreatDoor

/- Texts of this claim laid together, one behind the other: contracts and plain lemmas; conditions as each names them. -/
import Derived.Test.YtpdkdgmaofhlkaaGp48
import Derived.Test.YtpdkdgmaofhlkaaGp28
import Derived.Test.YtpdkdgmaofhlkaaGp26
/- Both tasks, or neither. Conditions as named. -/
namespace Go.Proofs.Ytpdkdgmaofhlkaa
open Go.ChangeShapes Go.WideShapes Go.ChangeAt Go.RowKit Go.Lib Go.Sort
set_option linter.unusedVariables false
set_option linter.unusedSimpArgs false

/-- Neither is there, or both are and say the same. -/
def Pn (w0 w : World) (p q : Option Addr) : Prop := (p = none ∧ q = none ∧ Fr [] w0 w) ∨ ∃ t y, p = some ⟨t, 0, none⟩ ∧ q = some ⟨y, 0, none⟩ ∧ Pqx w0 w t y []
theorem Pn.fr {w0 w : World} {p q : Option Addr} (h : Pn w0 w p q) : Fr [] w0 w := by
  rcases h with ⟨_, _, hf⟩ | ⟨t, y, _, _, hq⟩
  · exact hf
  · exact hq.fr
theorem Pn.asks {w0 w : World} {p q : Option Addr} (h : Pn w0 w p q) (a : Aj) (hA0 : AjB w0 a) (me : a.r.el ≤ 4194304) (mh : a.r.hl ≤ 4194304) : Calls Try.prog 12 #[.pointer p, .pointer q, .agg a.v] w fun e w' => e = .returned (.bool true) ∧ Pn w0 w' p q := by
  rcases h with ⟨rfl, rfl, hf0⟩ | ⟨t, y, rfl, rfl, hq⟩
  · have hno : NoT (.pointer none) w := Or.inl rfl
    have hA := hA0.keep hf0
    have key : Calls Try.prog 12 #[.pointer none, .pointer none, .agg a.v] w fun e w' => e = .returned (.bool true) ∧ Fr [] w w' := by
      by_cases h0 : a.k = 0
      · exact asks_begin_no hno a hA h0
      · by_cases h2 : a.k = 2
        · exact asks_got_no hno a hA h2
        · exact asks_sent_no hno a (by simp [h0]) (by simp [h2])
    refine key.mono ?_
    rintro e w' ⟨rfl, hf⟩
    exact ⟨rfl, Or.inl ⟨rfl, rfl, hf0.then hf⟩⟩
  · have key : Calls Try.prog 12 #[.pointer (some ⟨t, 0, none⟩), .pointer (some ⟨y, 0, none⟩), .agg a.v] w fun e w' => e = .returned (.bool true) ∧ Pqx w0 w' t y [] := by
      by_cases h0 : a.k = 0
      · exact asks_beginP hq a hA0 h0
      · by_cases h2 : a.k = 2
        · exact asks_gotP hq a hA0 me mh h2
        · exact asks_sentP hq a (by simp [h0]) (by simp [h2])
    refine key.mono ?_
    rintro e w' ⟨rfl, hf⟩
    exact ⟨rfl, Or.inr ⟨t, y, rfl, rfl, hf⟩⟩
theorem Pn.stands {w0 w : World} {p q : Option Addr} (h : Pn w0 w p q) : Calls Try.prog 13 #[.pointer p, .pointer q] w fun e w' => e = .returned (.bool true) ∧ Pn w0 w' p q := by
  rcases h with ⟨rfl, rfl, hf0⟩ | ⟨t, y, rfl, rfl, hq⟩
  · refine (stands_no (Or.inl rfl)).mono ?_
    rintro e w' ⟨rfl, hf⟩
    exact ⟨rfl, Or.inl ⟨rfl, rfl, hf0.then hf⟩⟩
  · refine hq.stands.mono ?_
    rintro e w' ⟨rfl, hf⟩
    exact ⟨rfl, Or.inr ⟨t, y, rfl, rfl, hf⟩⟩
theorem new_all {n l s x q k : Int} {key en : ByteArray} (hnew : newE n l s x q k key en = 0) : n < 0 ∧ Cf.may ⟨l, s, x, q⟩ ∧ okC k key en := by
  unfold newE at hnew
  have a1 : ¬ 0 ≤ n := fun h => by rw [if_pos h] at hnew; cases hnew
  rw [if_neg a1] at hnew
  by_cases a2 : Cf.may ⟨l, s, x, q⟩
  · rw [if_neg (not_not_intro a2)] at hnew
    refine ⟨by omega, a2, ?_⟩
    by_cases a3 : okC k key en
    · exact a3
    · unfold ckE at hnew; rw [if_neg a3] at hnew; cases hnew
  · rw [if_pos a2] at hnew; cases hnew
/-- Both as they are made. -/
theorem Pn.new {w w1 w2 : World} {t y : Nat} {n l s x q k : Int} {key en : ByteArray} (hnew : newE n l s x q k key en = 0) (ht : w.heap.size ≤ t) (hT : TkM w1 t (Tk.new n l s x q k key en)) (hf1 : Fr [] w w1) (hy : w1.heap.size ≤ y) (hY : YtM w2 y (Yt.new n l s x q k key en)) (hf2 : Fr [] w1 w2) : Pn w w2 (some ⟨t, 0, none⟩) (some ⟨y, 0, none⟩) := by
  obtain ⟨a1, a2, a3⟩ := new_all hnew
  have hlt := hT.lt
  have hsz := hf1.size
  refine Or.inr ⟨t, y, rfl, rfl, [], [], _, _, 0, [], [], [], [], [], ⟨PM.new (hT.keep hf2 (by simp)), DM.new hY, fun b hb hm => ?_, fun b hb => ?_, fun b hb => ?_, hf1.then hf2⟩, ⟨a1, a2, a3, rfl, rfl, rfl, rfl, rfl, rfl, rfl, rfl, rfl, rfl, rfl, Nat.zero_le _, Nat.le_refl _, fun _ => ⟨rfl, rfl, rfl, rfl, rfl, rfl, rfl, rfl, rfl, rfl, rfl, rfl⟩, fun h => by cases h⟩, by simp, by simp⟩
  · have e1 := List.mem_singleton.1 hb
    have e2 := List.mem_singleton.1 hm
    omega
  · have e1 := List.mem_singleton.1 hb
    omega
  · have e1 := List.mem_singleton.1 hb
    omega
end Go.Proofs.Ytpdkdgmaofhlkaa
/- What a bound on the bulk of what came in says of asks. Conditions as each names them. -/
namespace Go.Proofs.Ytpdkdgmaofhlkaa
open Go.ChangeShapes Go.WideShapes Go.ChangeAt Go.RowKit Go.Lib
set_option linter.unusedVariables false
set_option linter.unusedSimpArgs false
section
variable {H : Type} {enc : TypeId × Value → H} {w : World}
theorem bulk_one (d : DataW H) : 1 ≤ Rows.uptoBulk d := by
  cases d with
  | lit l => cases l <;> simp [Rows.uptoBulk]
  | _ => simp [Rows.uptoBulk]
theorem bulk_mem {d : DataW H} : ∀ {l : List (DataW H)}, d ∈ l → Rows.uptoBulk d ≤ Rows.uptoBulkAll l
  | [], h => by cases h
  | x :: r, h => by
    simp only [Rows.uptoBulkAll]
    rcases List.mem_cons.1 h with e | e
    · subst e; omega
    · have := bulk_mem e; omega
theorem bulk_len : ∀ l : List (DataW H), l.length ≤ Rows.uptoBulkAll l
  | [] => by simp [Rows.uptoBulkAll]
  | x :: r => by have := bulk_one x; have := bulk_len r; simp only [Rows.uptoBulkAll, List.length_cons]; omega
theorem bulk_part {t : TypeId} {fs : Array Field} {fuel : Nat} {cs : List Value} {x : DataW H × List MemPlace} (hu : Try.prog.underlying t = some (.struct fs)) (h : DataW.trod enc Try.prog w 0 (fun _ => true) true fuel t cs = some x) {i : Nat} {f : Field} (hi : fs[i]? = some f) :
    ∃ n y, DataW.trod enc Try.prog w 0 (fun _ => true) true n f.type ((cs.drop f.offset).take (Try.prog.cellsOf f.type)) = some y ∧ Rows.uptoBulk y.1 ≤ Rows.uptoBulk x.1 := by
  obtain ⟨ys, n, _, hx, hlen, hys, hf⟩ := DataW.trod_struct hu h
  have r := hf i f hi
  have hl : i < ys.length := by
    rw [hys]
    have := (Array.getElem?_eq_some_iff.1 hi).1
    simpa using this
  rw [List.getElem?_eq_getElem hl] at r
  refine ⟨n, ys[i], r, ?_⟩
  rw [hx]
  simp only [Rows.uptoBulk]
  have := bulk_mem (l := ys.map fun x => x.fst) (List.mem_map.2 ⟨ys[i], List.getElem_mem hl, rfl⟩)
  omega
theorem bulk_slice {t e : TypeId} {fuel : Nat} {ao : Option Addr} {L cap : Nat} {x : DataW H × List MemPlace} (ht : Try.prog.underlying t = some (.slice e)) (h : DataW.trod enc Try.prog w 0 (fun _ => true) true fuel t [.slice ao L cap] = some x) : L ≤ Rows.uptoBulk x.1 := by
  rcases Go.Deep.open_slice ht h with ⟨hcs, _⟩ | ⟨a, len, c, m, n, D, Pl, hcs, hb, hl, hm, hmm, hx, hE⟩
  · simp only [List.cons.injEq, Value.slice.injEq, and_true] at hcs
    omega
  · simp only [List.cons.injEq, Value.slice.injEq, and_true] at hcs
    rw [hx]
    simp only [Rows.uptoBulk]
    have := bulk_len ((List.range len).map D)
    simp only [List.length_map, List.length_range] at this
    omega
/-- The field number i of a struct. -/
theorem bulk_at {t ty : TypeId} {off i : Nat} {Ls : List (TypeId × Nat)} (hF : ∃ fs : Array Field, Try.prog.underlying t = some (.struct fs) ∧ fs.toList.map (fun f => (f.type, f.offset)) = Ls) (hi : Ls[i]? = some (ty, off)) {fuel : Nat} {cs : List Value} {x : DataW H × List MemPlace} (h : DataW.trod enc Try.prog w 0 (fun _ => true) true fuel t cs = some x) :
    ∃ n y, DataW.trod enc Try.prog w 0 (fun _ => true) true n ty ((cs.drop off).take (Try.prog.cellsOf ty)) = some y ∧ Rows.uptoBulk y.1 ≤ Rows.uptoBulk x.1 := by
  obtain ⟨fs, hu, rfl⟩ := hF
  rw [List.getElem?_map] at hi
  obtain ⟨f, hf, e⟩ := Option.map_eq_some_iff.1 hi
  simp only [Prod.mk.injEq] at e
  obtain ⟨n, y, hy, hb⟩ := bulk_part hu h (show fs[i]? = some f by simpa using hf)
  rw [e.1, e.2] at hy
  exact ⟨n, y, hy, hb⟩
theorem resp_fs : ∃ fs : Array Field, Try.prog.underlying 46 = some (.struct fs) ∧ fs.toList.map (fun f => (f.type, f.offset)) = [(3, 0), (4, 1), (43, 2), (44, 3), (3, 4)] := by
  have hF := Try.resp_openF
  cases hu : Try.prog.underlying 46 with
  | none => rw [hu] at hF; simp at hF
  | some u =>
    rw [hu] at hF
    cases u with
    | struct fs => exact ⟨fs, rfl, hF⟩
    | _ => simp at hF
theorem ask17_fs : ∃ fs : Array Field, Try.prog.underlying 48 = some (.struct fs) ∧ fs.toList.map (fun f => (f.type, f.offset)) = [(41, 0), (3, 1), (3, 2), (42, 3), (46, 4)] := by
  have hF := Try.ask17_openF
  cases hu : Try.prog.underlying 48 with
  | none => rw [hu] at hF; simp at hF
  | some u =>
    rw [hu] at hF
    cases u with
    | struct fs => exact ⟨fs, rfl, hF⟩
    | _ => simp at hF
theorem Try.undEnsB : Try.prog.underlying 43 = some (.slice 85) := by kernel_rfl
theorem bulk_resp {fuel : Nat} {r : Rp} {x : DataW H × List MemPlace} (h : DataW.trod enc Try.prog w 0 (fun _ => true) true fuel 46 r.c = some x) : r.el ≤ Rows.uptoBulk x.1 ∧ r.hl ≤ Rows.uptoBulk x.1 := by
  obtain ⟨n, y, hy, hb⟩ := bulk_at (i := 2) (ty := 43) (off := 2) resp_fs rfl h
  obtain ⟨n2, y2, hy2, hb2⟩ := bulk_at (i := 3) (ty := 44) (off := 3) resp_fs rfl h
  rw [Try.cEns17] at hy
  rw [Try.cHds17] at hy2
  simp only [Rp.c, List.drop_succ_cons, List.drop_zero, List.take_succ_cons, List.take_zero] at hy hy2
  have := bulk_slice Try.undEnsB hy
  have := bulk_slice Try.undHds9 hy2
  omega
theorem bulk_ask {fuel : Nat} {a : Aj} {x : DataW H × List MemPlace} (h : DataW.trod enc Try.prog w 0 (fun _ => true) true fuel 48 a.c = some x) : a.r.el ≤ Rows.uptoBulk x.1 ∧ a.r.hl ≤ Rows.uptoBulk x.1 := by
  obtain ⟨n, y, hy, hb⟩ := bulk_at (i := 4) (ty := 46) (off := 4) ask17_fs rfl h
  rw [Try.resp_openC] at hy
  have e : (a.c.drop 4).take 5 = a.r.c := rfl
  rw [e] at hy
  have := bulk_resp hy
  omega
theorem bulk_asks {fuel : Nat} {ao : Option Addr} {L cap : Nat} {x : DataW H × List MemPlace} (h : DataW.trod enc Try.prog w 0 (fun _ => true) true fuel 33 [.slice ao L cap] = some x) {os : List Aj} (hJ : JRs w ao os) (hL : L = os.length) : ∀ a ∈ os, a.r.el ≤ Rows.uptoBulk x.1 ∧ a.r.hl ≤ Rows.uptoBulk x.1 := by
  intro a ha
  obtain ⟨i, hi, e⟩ := List.getElem_of_mem ha
  obtain ⟨b, off, ea, _, hc⟩ := hJ.lies (by omega)
  have e4 : os.getD i Aj.zero = a := by simp [List.getD, hi, e]
  rcases Go.Deep.open_slice Try.undAjs h with ⟨hcs, _⟩ | ⟨a', len, c', m, n, D, Pl, hcs, hb, hl, hm, hmm, hx, hE⟩
  · simp only [List.cons.injEq, Value.slice.injEq, and_true] at hcs
    omega
  · simp only [List.cons.injEq, Value.slice.injEq, and_true] at hcs
    obtain ⟨e1, e2, e3⟩ := hcs
    rw [ea] at e1
    cases e1
    simp only [if_true] at hmm
    rw [Try.ask17_openC] at hE
    obtain ⟨cs', h1, h2⟩ := hE i (by omega)
    have hlen := (World.cells?_some h1).2.1
    have hcell := (World.cells?_some h1).2.2
    have hsame : cs' = a.c := by
      apply List.ext_getElem?
      intro j
      by_cases hj : j < 9
      · have h3 := hcell j hj
        have h4 := hc i hi j hj
        rw [e4] at h4
        rw [Addr.add_lit, Addr.add_lit] at h3
        rw [← h3, h4]
      · rw [List.getElem?_eq_none (by omega), List.getElem?_eq_none (by simp [Aj.c, Rp.c]; omega)]
    rw [hsame] at h2
    have := bulk_ask h2
    rw [hx]
    simp only [Rows.uptoBulk]
    have := bulk_mem (d := D i) (l := (List.range len).map D) (List.mem_map.2 ⟨i, by simp; omega, rfl⟩)
    simp only at *
    omega
end
end Go.Proofs.Ytpdkdgmaofhlkaa

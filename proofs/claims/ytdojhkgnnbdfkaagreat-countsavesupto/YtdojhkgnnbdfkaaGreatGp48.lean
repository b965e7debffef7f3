/- Texts of this claim laid together, one behind the other: contracts and plain lemmas; conditions as each names them. -/
import Derived.Test.YtdojhkgnnbdfkaaGreatGp22
import Derived.Test.YtdojhkgnnbdfkaaGreatGp12
import Derived.SizedLaws
import Derived.ChangeMaps5
import Derived.Deep.CondSized
import Derived.JoinedCond
/- How much comes in with a checkpoint. No conditions. -/
namespace Go.Proofs.YtdojhkgnnbdfkaaGreat
open Go.ChangeShapes Go.WideShapes Go.ChangeAt Go.RowKit Go.Lib Go.ChangeMaps
set_option linter.unusedVariables false
set_option linter.unusedSimpArgs false

section
variable {H : Type} {enc : TypeId × Value → H} {w : World}
theorem bulk_one (d : DataW H) : 1 ≤ Rows.uptoBulk d := by
  cases d with
  | lit l => cases l <;> simp [Rows.uptoBulk]
  | _ => simp [Rows.uptoBulk]
theorem bulk_mem {d : DataW H} : ∀ {l : List (DataW H)}, d ∈ l → Rows.uptoBulk d ≤ Rows.uptoBulkAll l
  | [], h => by cases h
  | x :: r, h => by
    simp only [Rows.uptoBulkAll]
    rcases List.mem_cons.1 h with e | e
    · subst e; omega
    · have := bulk_mem e; omega
theorem bulk_len : ∀ l : List (DataW H), l.length ≤ Rows.uptoBulkAll l
  | [] => by simp [Rows.uptoBulkAll]
  | x :: r => by have := bulk_one x; have := bulk_len r; simp only [Rows.uptoBulkAll, List.length_cons]; omega
theorem bulk_part {t : TypeId} {fs : Array Field} {fuel : Nat} {cs : List Value} {x : DataW H × List MemPlace} (hu : Tryz.prog.underlying t = some (.struct fs)) (h : DataW.trod enc Tryz.prog w 0 (fun _ => true) true fuel t cs = some x) {i : Nat} {f : Field} (hi : fs[i]? = some f) :
    ∃ n y, DataW.trod enc Tryz.prog w 0 (fun _ => true) true n f.type ((cs.drop f.offset).take (Tryz.prog.cellsOf f.type)) = some y ∧ Rows.uptoBulk y.1 ≤ Rows.uptoBulk x.1 := by
  obtain ⟨ys, n, _, hx, hlen, hys, hf⟩ := DataW.trod_struct hu h
  have r := hf i f hi
  have hl : i < ys.length := by
    rw [hys]
    have := (Array.getElem?_eq_some_iff.1 hi).1
    simpa using this
  rw [List.getElem?_eq_getElem hl] at r
  refine ⟨n, ys[i], r, ?_⟩
  rw [hx]
  simp only [Rows.uptoBulk]
  have := bulk_mem (l := ys.map fun x => x.fst) (List.mem_map.2 ⟨ys[i], List.getElem_mem hl, rfl⟩)
  omega
theorem bulk_slice {t e : TypeId} {fuel : Nat} {ao : Option Addr} {L cap : Nat} {x : DataW H × List MemPlace} (ht : Tryz.prog.underlying t = some (.slice e)) (h : DataW.trod enc Tryz.prog w 0 (fun _ => true) true fuel t [.slice ao L cap] = some x) : L ≤ Rows.uptoBulk x.1 := by
  rcases Go.Deep.open_slice ht h with ⟨hcs, _⟩ | ⟨a, len, c, m, n, D, Pl, hcs, hb, hl, hm, hmm, hx, hE⟩
  · simp only [List.cons.injEq, Value.slice.injEq, and_true] at hcs
    omega
  · simp only [List.cons.injEq, Value.slice.injEq, and_true] at hcs
    rw [hx]
    simp only [Rows.uptoBulk]
    have := bulk_len ((List.range len).map D)
    simp only [List.length_map, List.length_range] at this
    omega
/-- The field number i of a struct. -/
theorem bulk_at {t ty : TypeId} {off i : Nat} {Ls : List (TypeId × Nat)} (hF : ∃ fs : Array Field, Tryz.prog.underlying t = some (.struct fs) ∧ fs.toList.map (fun f => (f.type, f.offset)) = Ls) (hi : Ls[i]? = some (ty, off)) {fuel : Nat} {cs : List Value} {x : DataW H × List MemPlace} (h : DataW.trod enc Tryz.prog w 0 (fun _ => true) true fuel t cs = some x) :
    ∃ n y, DataW.trod enc Tryz.prog w 0 (fun _ => true) true n ty ((cs.drop off).take (Tryz.prog.cellsOf ty)) = some y ∧ Rows.uptoBulk y.1 ≤ Rows.uptoBulk x.1 := by
  obtain ⟨fs, hu, rfl⟩ := hF
  rw [List.getElem?_map] at hi
  obtain ⟨f, hf, e⟩ := Option.map_eq_some_iff.1 hi
  simp only [Prod.mk.injEq] at e
  obtain ⟨n, y, hy, hb⟩ := bulk_part hu h (show fs[i]? = some f by simpa using hf)
  rw [e.1, e.2] at hy
  exact ⟨n, y, hy, hb⟩
/-- All fields of a struct. -/
theorem bulk_parts {t : TypeId} {Ls : List (TypeId × Nat)} (hF : ∃ fs : Array Field, Tryz.prog.underlying t = some (.struct fs) ∧ fs.toList.map (fun f => (f.type, f.offset)) = Ls) {fuel : Nat} {cs : List Value} {x : DataW H × List MemPlace} (h : DataW.trod enc Tryz.prog w 0 (fun _ => true) true fuel t cs = some x) :
    ∃ (n : Nat) (ys : List (DataW H × List MemPlace)), ys.length = Ls.length ∧ Rows.uptoBulk x.1 = Rows.uptoBulkAll (ys.map fun y => y.fst) + 1 ∧ ∀ (i : Nat) (ty : TypeId) (off : Nat), Ls[i]? = some (ty, off) → DataW.trod enc Tryz.prog w 0 (fun _ => true) true n ty ((cs.drop off).take (Tryz.prog.cellsOf ty)) = ys[i]? := by
  obtain ⟨fs, hu, rfl⟩ := hF
  obtain ⟨ys, n, _, hx, hlen, hys, hf⟩ := DataW.trod_struct hu h
  refine ⟨n, ys, by rw [hys]; simp, by rw [hx]; simp only [Rows.uptoBulk], fun i ty off hi => ?_⟩
  rw [List.getElem?_map] at hi
  obtain ⟨f, hf', e⟩ := Option.map_eq_some_iff.1 hi
  simp only [Prod.mk.injEq] at e
  have := hf i f (by simpa using hf')
  rw [e.1, e.2] at this
  exact this
theorem bulk_sum {α : Type} (f : α → Nat) (z : α) : ∀ (os : List α) (g : Nat → DataW H), (∀ i, i < os.length → f (os.getD i z) ≤ Rows.uptoBulk (g i)) → (os.map f).sum ≤ Rows.uptoBulkAll ((List.range os.length).map g)
  | [], g, _ => by simp
  | o :: r, g, h => by
    have h0 := h 0 (by simp)
    have ih := bulk_sum f z r (fun i => g (i + 1)) (fun i hi => by have := h (i + 1) (by simp; omega); simpa using this)
    simp only [List.length_cons, List.range_succ_eq_map, List.map_cons, List.map_map, List.sum_cons, Rows.uptoBulkAll]
    have e : (List.range r.length).map (g ∘ Nat.succ) = (List.range r.length).map (fun i => g (i + 1)) := rfl
    rw [e]
    simp at h0
    omega
theorem vn_fs : ∃ fs : Array Field, Tryz.prog.underlying 74 = some (.struct fs) ∧ fs.toList.map (fun f => (f.type, f.offset)) = [(3, 0), (9, 1), (4, 2)] := by
  have hF : (match Tryz.prog.underlying 74 with | some (.struct fs) => fs.toList.map (fun f => (f.type, f.offset)) | _ => []) = [(3, 0), (9, 1), (4, 2)] := by kernel_rfl
  cases hu : Tryz.prog.underlying 74 with
  | none => rw [hu] at hF; simp at hF
  | some u =>
    rw [hu] at hF
    cases u with
    | struct fs => exact ⟨fs, rfl, hF⟩
    | _ => simp at hF
theorem hd_fs : ∃ fs : Array Field, Tryz.prog.underlying 58 = some (.struct fs) ∧ fs.toList.map (fun f => (f.type, f.offset)) = [(9, 0), (56, 1)] := by
  have hF : (match Tryz.prog.underlying 58 with | some (.struct fs) => fs.toList.map (fun f => (f.type, f.offset)) | _ => []) = [(9, 0), (56, 1)] := by kernel_rfl
  cases hu : Tryz.prog.underlying 58 with
  | none => rw [hu] at hF; simp at hF
  | some u =>
    rw [hu] at hF
    cases u with
    | struct fs => exact ⟨fs, rfl, hF⟩
    | _ => simp at hF
theorem sv_fs : ∃ fs : Array Field, Tryz.prog.underlying 27 = some (.struct fs) ∧ fs.toList.map (fun f => (f.type, f.offset)) = [(3, 0), (24, 1), (25, 2)] := by
  have hF : (match Tryz.prog.underlying 27 with | some (.struct fs) => fs.toList.map (fun f => (f.type, f.offset)) | _ => []) = [(3, 0), (24, 1), (25, 2)] := by kernel_rfl
  cases hu : Tryz.prog.underlying 27 with
  | none => rw [hu] at hF; simp at hF
  | some u =>
    rw [hu] at hF
    cases u with
    | struct fs => exact ⟨fs, rfl, hF⟩
    | _ => simp at hF
theorem Tryz.cellsVn22 : Tryz.prog.cellsOf 74 = 3 := by kernel_rfl
theorem Tryz.undStr22 : Tryz.prog.underlying 9 = some .string := by kernel_rfl
theorem Tryz.cS22 : Tryz.prog.cellsOf 9 = 1 := by kernel_rfl
theorem Tryz.undVns22 : Tryz.prog.underlying 56 = some (.slice 74) := by kernel_rfl
theorem bulk_str {fuel : Nat} {s : ByteArray} {y : DataW H × List MemPlace} (h : DataW.trod enc Tryz.prog w 0 (fun _ => true) true fuel 9 [.string s] = some y) : Rows.uptoBulk y.1 = s.size + 1 := by
  obtain ⟨s0, e0, x0, _⟩ := DataW.trod_string Tryz.undStr22 h
  simp only [List.cons.injEq, Value.string.injEq, and_true] at e0
  subst e0
  rw [x0]
  simp [Rows.uptoBulk]
theorem bulk_vn {fuel : Nat} {n : Int} {s : ByteArray} {dr : Bool} {x : DataW H × List MemPlace} (h : DataW.trod enc Tryz.prog w 0 (fun _ => true) true fuel 74 [.int .i64 n, .string s, .bool dr] = some x) : 1 + s.size ≤ Rows.uptoBulk x.1 := by
  obtain ⟨k, y, hy, hb⟩ := bulk_at (i := 1) (ty := 9) (off := 1) vn_fs rfl h
  rw [Tryz.cS22] at hy
  simp only [List.drop_succ_cons, List.drop_zero, List.take_succ_cons, List.take_zero] at hy
  have := bulk_str hy
  omega
theorem bulk_vns {fuel : Nat} {ao : Option Addr} {L cap : Nat} {x : DataW H × List MemPlace} (h : DataW.trod enc Tryz.prog w 0 (fun _ => true) true fuel 56 [.slice ao L cap] = some x) {vs : List Vn} (hJ : VRs w ao vs) (hL : L = vs.length) : szXs vs ≤ Rows.uptoBulk x.1 := by
  rcases Go.Deep.open_slice Tryz.undVns22 h with ⟨hcs, _⟩ | ⟨a', len, c', m, n, D, Pl, hcs, hb, hl, hm, hmm, hx, hE⟩
  · simp only [List.cons.injEq, Value.slice.injEq, and_true] at hcs
    have : vs = [] := List.eq_nil_of_length_eq_zero (by omega)
    subst this
    simp [szXs]
  · simp only [List.cons.injEq, Value.slice.injEq, and_true] at hcs
    obtain ⟨e1, e2, e3⟩ := hcs
    subst e1
    have hlen2 : vs.length = len := by omega
    simp only [if_true] at hmm
    rw [Tryz.cellsVn22] at hE
    have key : ∀ i, i < vs.length → szX (vs.getD i Vn.zero) ≤ Rows.uptoBulk (D i) := fun i hi => by
      obtain ⟨b, off, ea, _, hc⟩ := hJ.lies (by omega)
      cases ea
      obtain ⟨cs', h1, h2⟩ := hE i (by omega)
      have hlen := (World.cells?_some h1).2.1
      have hcell := (World.cells?_some h1).2.2
      obtain ⟨q0, q1, q2⟩ := hc i hi
      have hsame : cs' = [.int .i64 (vs.getD i Vn.zero).num, .string (vs.getD i Vn.zero).val, .bool (vs.getD i Vn.zero).drop] := by
        apply List.ext_getElem?
        intro j
        by_cases hj : j < 3
        · have h3 := hcell j hj
          rw [Addr.add_lit, Addr.add_lit] at h3
          rw [← h3]
          have : j = 0 ∨ j = 1 ∨ j = 2 := by omega
          rcases this with rfl | rfl | rfl
          · exact q0
          · exact q1
          · exact q2
        · rw [List.getElem?_eq_none (by omega), List.getElem?_eq_none (by simp; omega)]
      rw [hsame] at h2
      exact bulk_vn h2
    have hs := bulk_sum szX Vn.zero vs D key
    rw [hx]
    simp only [Rows.uptoBulk]
    rw [hlen2] at hs
    unfold szXs
    omega
theorem bulk_hd {fuel : Nat} {o : Hd} {x : DataW H × List MemPlace} (h : DataW.trod enc Tryz.prog w 0 (fun _ => true) true fuel 58 [.string o.key, .slice o.vo o.L o.cap] = some x) (he : HEach w o) : szK o.kv ≤ Rows.uptoBulk x.1 := by
  obtain ⟨n, ys, hl, hb, hf⟩ := bulk_parts hd_fs h
  have r0 := hf 0 9 0 rfl
  have r1 := hf 1 56 1 rfl
  rw [Tryz.cS22] at r0
  rw [Tryz.cVns9] at r1
  simp only [List.drop_succ_cons, List.drop_zero, List.take_succ_cons, List.take_zero] at r0 r1
  match ys, hl with
  | [y0, y1], _ =>
    simp only [List.getElem?_cons_zero, List.getElem?_cons_succ] at r0 r1
    have b0 := bulk_str r0
    have b1 := bulk_vns r1 he.rs he.len
    simp only [List.map_cons, List.map_nil, Rows.uptoBulkAll] at hb
    show 1 + o.key.size + szXs o.vs ≤ _
    omega
theorem bulk_hds {fuel : Nat} {ao : Option Addr} {L cap : Nat} {x : DataW H × List MemPlace} (h : DataW.trod enc Tryz.prog w 0 (fun _ => true) true fuel 25 [.slice ao L cap] = some x) {hs : List Hd} (hJ : HRs w ao hs) (hL : L = hs.length) : szKs (hs.map Hd.kv) ≤ Rows.uptoBulk x.1 := by
  rcases Go.Deep.open_slice Tryz.undHds9 h with ⟨hcs, _⟩ | ⟨a', len, c', m, n, D, Pl, hcs, hb, hl, hm, hmm, hx, hE⟩
  · simp only [List.cons.injEq, Value.slice.injEq, and_true] at hcs
    have : hs = [] := List.eq_nil_of_length_eq_zero (by omega)
    subst this
    simp [szKs]
  · simp only [List.cons.injEq, Value.slice.injEq, and_true] at hcs
    obtain ⟨e1, e2, e3⟩ := hcs
    subst e1
    have hlen2 : hs.length = len := by omega
    simp only [if_true] at hmm
    rw [Tryz.cellsHd9] at hE
    have key : ∀ i, i < hs.length → (szK ∘ Hd.kv) (hs.getD i Hd.zero) ≤ Rows.uptoBulk (D i) := fun i hi => by
      obtain ⟨b, off, ea, _, hc⟩ := hJ.lies (by omega)
      cases ea
      obtain ⟨cs', h1, h2⟩ := hE i (by omega)
      have hlen := (World.cells?_some h1).2.1
      have hcell := (World.cells?_some h1).2.2
      obtain ⟨q0, q1⟩ := hc i hi
      have hsame : cs' = [.string (hs.getD i Hd.zero).key, .slice (hs.getD i Hd.zero).vo (hs.getD i Hd.zero).L (hs.getD i Hd.zero).cap] := by
        apply List.ext_getElem?
        intro j
        by_cases hj : j < 2
        · have h3 := hcell j hj
          rw [Addr.add_lit, Addr.add_lit] at h3
          rw [← h3]
          have : j = 0 ∨ j = 1 := by omega
          rcases this with rfl | rfl
          · exact q0
          · exact q1
        · rw [List.getElem?_eq_none (by omega), List.getElem?_eq_none (by simp; omega)]
      rw [hsame] at h2
      have hm : hs.getD i Hd.zero ∈ hs := by simp [List.getD, hi]
      exact bulk_hd h2 (hJ.each _ hm)
    have hq := bulk_sum (szK ∘ Hd.kv) Hd.zero hs D key
    rw [hx]
    simp only [Rows.uptoBulk]
    rw [hlen2] at hq
    unfold szKs
    rw [List.map_map]
    omega
theorem bulk_sv {fuel : Nat} {m : Int} {bo ho : Option Addr} {Lb cb Lh ch : Nat} {x : DataW H × List MemPlace} (h : DataW.trod enc Tryz.prog w 0 (fun _ => true) true fuel 27 [.int .i64 m, .slice bo Lb cb, .slice ho Lh ch] = some x) {bs : List Int} {hs : List Hd} (hLb : Lb = bs.length) (hJ : HRs w ho hs) (hL : Lh = hs.length) : bs.length + szKs (hs.map Hd.kv) ≤ Rows.uptoBulk x.1 := by
  obtain ⟨n, ys, hl, hb, hf⟩ := bulk_parts sv_fs h
  have r1 := hf 1 24 1 rfl
  have r2 := hf 2 25 2 rfl
  rw [Tryz.cIs9] at r1
  rw [Tryz.cHds15] at r2
  simp only [List.drop_succ_cons, List.drop_zero, List.take_succ_cons, List.take_zero] at r1 r2
  match ys, hl with
  | [y0, y1, y2], _ =>
    simp only [List.getElem?_cons_zero, List.getElem?_cons_succ] at r1 r2
    have b1 := bulk_slice Tryz.undIs9 r1
    have b2 := bulk_hds r2 hJ hL
    simp only [List.map_cons, List.map_nil, Rows.uptoBulkAll] at hb
    omega
end
end Go.Proofs.YtdojhkgnnbdfkaaGreat

/- How much comes in with a log and with a row of numbers, and rows of numbers as they come in. No conditions. -/
import Derived.Test.YtdojhkgnnbdfkaaIr17
import Derived.Test.YtdojhkgnnbdfkaaTwT
import Derived.Test.YtdojhkgnnbdfkaaTxs
import Derived.SizedLaws
import Derived.ChangeMaps5
import Derived.Deep.CondSized
import Derived.JoinedCond
namespace Go.Proofs.Ytdojhkgnnbdfkaa
open Go.ChangeShapes Go.WideShapes Go.ChangeAt Go.RowKit Go.Lib Go.ChangeMaps
set_option linter.unusedVariables false
set_option linter.unusedSimpArgs false

section
variable {H : Type} {enc : TypeId × Value → H} {w : World}
theorem bulk_one (d : DataW H) : 1 ≤ Rows.uptoBulk d := by
  cases d with
  | lit l => cases l <;> simp [Rows.uptoBulk]
  | _ => simp [Rows.uptoBulk]
theorem bulk_mem {d : DataW H} : ∀ {l : List (DataW H)}, d ∈ l → Rows.uptoBulk d ≤ Rows.uptoBulkAll l
  | [], h => by cases h
  | x :: r, h => by
    simp only [Rows.uptoBulkAll]
    rcases List.mem_cons.1 h with e | e
    · subst e; omega
    · have := bulk_mem e; omega
theorem bulk_len : ∀ l : List (DataW H), l.length ≤ Rows.uptoBulkAll l
  | [] => by simp [Rows.uptoBulkAll]
  | x :: r => by have := bulk_one x; have := bulk_len r; simp only [Rows.uptoBulkAll, List.length_cons]; omega
theorem bulk_part {t : TypeId} {fs : Array Field} {fuel : Nat} {cs : List Value} {x : DataW H × List MemPlace} (hu : Try.prog.underlying t = some (.struct fs)) (h : DataW.trod enc Try.prog w 0 (fun _ => true) true fuel t cs = some x) {i : Nat} {f : Field} (hi : fs[i]? = some f) :
    ∃ n y, DataW.trod enc Try.prog w 0 (fun _ => true) true n f.type ((cs.drop f.offset).take (Try.prog.cellsOf f.type)) = some y ∧ Rows.uptoBulk y.1 ≤ Rows.uptoBulk x.1 := by
  obtain ⟨ys, n, _, hx, hlen, hys, hf⟩ := DataW.trod_struct hu h
  have r := hf i f hi
  have hl : i < ys.length := by
    rw [hys]
    have := (Array.getElem?_eq_some_iff.1 hi).1
    simpa using this
  rw [List.getElem?_eq_getElem hl] at r
  refine ⟨n, ys[i], r, ?_⟩
  rw [hx]
  simp only [Rows.uptoBulk]
  have := bulk_mem (l := ys.map fun x => x.fst) (List.mem_map.2 ⟨ys[i], List.getElem_mem hl, rfl⟩)
  omega
theorem bulk_slice {t e : TypeId} {fuel : Nat} {ao : Option Addr} {L cap : Nat} {x : DataW H × List MemPlace} (ht : Try.prog.underlying t = some (.slice e)) (h : DataW.trod enc Try.prog w 0 (fun _ => true) true fuel t [.slice ao L cap] = some x) : L ≤ Rows.uptoBulk x.1 := by
  rcases Go.Deep.open_slice ht h with ⟨hcs, _⟩ | ⟨a, len, c, m, n, D, Pl, hcs, hb, hl, hm, hmm, hx, hE⟩
  · simp only [List.cons.injEq, Value.slice.injEq, and_true] at hcs
    omega
  · simp only [List.cons.injEq, Value.slice.injEq, and_true] at hcs
    rw [hx]
    simp only [Rows.uptoBulk]
    have := bulk_len ((List.range len).map D)
    simp only [List.length_map, List.length_range] at this
    omega
/-- The field number i of a struct. -/
theorem bulk_at {t ty : TypeId} {off i : Nat} {Ls : List (TypeId × Nat)} (hF : ∃ fs : Array Field, Try.prog.underlying t = some (.struct fs) ∧ fs.toList.map (fun f => (f.type, f.offset)) = Ls) (hi : Ls[i]? = some (ty, off)) {fuel : Nat} {cs : List Value} {x : DataW H × List MemPlace} (h : DataW.trod enc Try.prog w 0 (fun _ => true) true fuel t cs = some x) :
    ∃ n y, DataW.trod enc Try.prog w 0 (fun _ => true) true n ty ((cs.drop off).take (Try.prog.cellsOf ty)) = some y ∧ Rows.uptoBulk y.1 ≤ Rows.uptoBulk x.1 := by
  obtain ⟨fs, hu, rfl⟩ := hF
  rw [List.getElem?_map] at hi
  obtain ⟨f, hf, e⟩ := Option.map_eq_some_iff.1 hi
  simp only [Prod.mk.injEq] at e
  obtain ⟨n, y, hy, hb⟩ := bulk_part hu h (show fs[i]? = some f by simpa using hf)
  rw [e.1, e.2] at hy
  exact ⟨n, y, hy, hb⟩
theorem is21_open {fuel : Nat} {v : Value} {x : DataW H × List MemPlace} (h : DataW.trod enc Try.prog w 0 (fun _ => true) true fuel 31 [v] = some x) (hsz : ∀ n ∈ x.1.weights Try.prog 31, n ≤ reachBytes) :
    ∃ ao L cap ns, v = .slice ao L cap ∧ IRs w ao ns ∧ L = ns.length ∧ L ≤ cap := by
  rcases open_ints Try.undIsW Try.undI Try.cI h with ⟨hcs, _⟩ | ⟨a, l, c, zs, hcs, _, hl, hm, hz, hx, hcell, hwz⟩
  · simp only [List.cons.injEq, and_true] at hcs
    exact ⟨none, 0, 0, [], hcs, ⟨fun h => by simp at h, by simp⟩, rfl, Nat.le_refl _⟩
  · simp only [List.cons.injEq, and_true] at hcs
    simp only [if_true] at hz
    have hw : zs.length * Try.prog.bytesOf 3 ≤ reachBytes := by
      apply hsz
      rw [hx]
      simp only [DataW.weights, Try.undIsW, lits, List.length_map]
      rw [show (zs.take l).length + (zs.drop l).length = zs.length by rw [← List.length_append, List.take_append_drop]]
      exact List.mem_cons_self
    rw [show Try.prog.bytesOf 3 = 8 from by kernel_rfl] at hw
    have hr := reachBytes_lt
    exact ⟨some a, l, c, zs.take l, hcs, IRs.of_open hl hz hcell (by omega), by rw [List.length_take]; omega, by omega⟩
theorem tx_fs : ∃ fs : Array Field, Try.prog.underlying 24 = some (.struct fs) ∧ fs.toList.map (fun f => (f.type, f.offset)) = [(3, 0), (22, 1)] := by
  have hF := Try.tFields
  cases hu : Try.prog.underlying 24 with
  | none => rw [hu] at hF; simp at hF
  | some u =>
    rw [hu] at hF
    cases u with
    | struct fs => exact ⟨fs, rfl, hF⟩
    | _ => simp at hF
theorem bulk_txn {fuel : Nat} {n : Int} {ao : Option Addr} {L cap : Nat} {x : DataW H × List MemPlace} (h : DataW.trod enc Try.prog w 0 (fun _ => true) true fuel 24 [.int .i64 n, .slice ao L cap] = some x) : L ≤ Rows.uptoBulk x.1 := by
  obtain ⟨n, y, hy, hb⟩ := bulk_at (i := 1) (ty := 22) (off := 1) tx_fs rfl h
  rw [Try.cWs] at hy
  simp only [List.drop_succ_cons, List.drop_zero, List.take_succ_cons, List.take_zero] at hy
  have := bulk_slice Try.undWs' hy
  omega
theorem bulk_txs {fuel : Nat} {ao : Option Addr} {L cap : Nat} {x : DataW H × List MemPlace} (h : DataW.trod enc Try.prog w 0 (fun _ => true) true fuel 30 [.slice ao L cap] = some x) {ts : List Tm} (hJ : TRs w ao ts) (hL : L = ts.length) : ∀ t ∈ ts, t.L ≤ Rows.uptoBulk x.1 := by
  intro a ha
  obtain ⟨i, hi, e⟩ := List.getElem_of_mem ha
  obtain ⟨b, off, ea, _, hc⟩ := hJ.lies (by omega)
  have e4 : ts.getD i Tm.zero = a := by simp [List.getD, hi, e]
  rcases Go.Deep.open_slice Try.undTs' h with ⟨hcs, _⟩ | ⟨a', len, c', m, n, D, Pl, hcs, hb, hl, hm, hmm, hx, hE⟩
  · simp only [List.cons.injEq, Value.slice.injEq, and_true] at hcs
    omega
  · simp only [List.cons.injEq, Value.slice.injEq, and_true] at hcs
    obtain ⟨e1, e2, e3⟩ := hcs
    rw [ea] at e1
    cases e1
    simp only [if_true] at hmm
    rw [Try.cellsT] at hE
    obtain ⟨cs', h1, h2⟩ := hE i (by omega)
    have hlen := (World.cells?_some h1).2.1
    have hcell := (World.cells?_some h1).2.2
    have hsame : cs' = [.int .i64 a.n, .slice a.ao a.L a.cap] := by
      obtain ⟨q0, q1⟩ := hc i hi
      rw [e4] at q0 q1
      apply List.ext_getElem?
      intro j
      by_cases hj : j < 2
      · have h3 := hcell j hj
        rw [Addr.add_lit, Addr.add_lit] at h3
        rw [← h3]
        have : j = 0 ∨ j = 1 := by omega
        rcases this with rfl | rfl
        · exact q0
        · exact q1
      · rw [List.getElem?_eq_none (by omega), List.getElem?_eq_none (by simp; omega)]
    rw [hsame] at h2
    have := bulk_txn h2
    rw [hx]
    simp only [Rows.uptoBulk]
    have := bulk_mem (d := D i) (l := (List.range len).map D) (List.mem_map.2 ⟨i, by simp; omega, rfl⟩)
    simp only at *
    omega
end
end Go.Proofs.Ytdojhkgnnbdfkaa

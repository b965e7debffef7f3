/- A lane's two states: none, and a transaction under way in memory (UwM): contracts of their methods. Conditions as each names them. -/
import Derived.Test.YtakbodlicfmkjaaGreatCq14
import Derived.Stop.Asserts
namespace Go.Proofs.YtakbodlicfmkjaaGreat
open Go.ChangeShapes Go.WideShapes Go.ChangeAt Go.RowKit Go.Lib Go.Maps
set_option linter.unusedVariables false
set_option linter.unusedSimpArgs false

theorem vrow_setCell {w : World} {b j : Nat} {cs : Array Value} {t : TypeId} (x : Value) (h : w.heap[b]? = some (.cells cs t (0, 0))) : (w.setCell ⟨b, j, none⟩ x).heap[b]? = some (.cells (cs.setIfInBounds j x) t (0, 0)) := by
  have hlt := lt_of_block h
  have h' : w.heap[b] = .cells cs t (0, 0) := by simpa [Array.getElem?_eq_getElem hlt] using h
  show (w.heap.modify b _)[b]? = _
  rw [Array.getElem?_eq_getElem (by simpa using hlt), Array.getElem_modify_self, h']
  rfl
/-- A transaction under way: its number, the writes that were not sent, how many are out. -/
structure Hl where
  n : Int
  l : List Wt
  out : Nat
/-- It lies in block ub, its writes at ao. -/
structure UwM (w : World) (ub : Nat) (n : Int) (ao : Option Addr) (N cp out : Nat) (l : List Wt) : Prop where
  box : w.heap[ub]? = some (.cells #[.int .i64 n, .slice ao N cp, .int .i64 (out : Int)] 392 (0, 0))
  len : N = l.length
  cap : N ≤ cp
  rs : WRs w ao l
  ne : 0 < l.length → ∀ a, ao = some a → a.block ≠ ub
  lid : out + l.length ≤ 1000000
theorem UwM.keep {S : List Nat} {w w' : World} {ub : Nat} {n : Int} {ao : Option Addr} {N cp out : Nat} {l : List Wt} (h : UwM w ub n ao N cp out l) (hf : Fr S w w') (h1 : ub ∉ S) (h2 : 0 < l.length → ∀ a, ao = some a → a.block ∉ S) : UwM w' ub n ao N cp out l :=
  ⟨hf.keep h.box h1, h.len, h.cap, h.rs.keepS hf h2, h.ne, h.lid⟩
section
variable {w : World} {ub : Nat} {n : Int} {ao : Option Addr} {N cp out : Nat} {l : List Wt}
theorem UwM.c0 (h : UwM w ub n ao N cp out l) : w.cell? ⟨ub, 0, none⟩ = some (.int .i64 n) := by rw [cell_of_row _ _ _ _ _ _ h.box]; rfl
theorem UwM.c1 (h : UwM w ub n ao N cp out l) : w.cell? ⟨ub, 1, none⟩ = some (.slice ao N cp) := by rw [cell_of_row _ _ _ _ _ _ h.box]; rfl
theorem UwM.c2 (h : UwM w ub n ao N cp out l) : w.cell? ⟨ub, 2, none⟩ = some (.int .i64 (out : Int)) := by rw [cell_of_row _ _ _ _ _ _ h.box]; rfl
theorem UwM.fz (h : UwM w ub n ao N cp out l) (j : Nat) : w.frozen? ⟨ub, j, none⟩ = false := by simp [World.frozen?, h.box]

theorem uwholds_any (h : UwM w ub n ao N cp out l) : Calls Tryz.prog 431 #[.pointer (some ⟨ub, 0, none⟩)] w fun e w' => e = .returned (.int .i64 n) ∧ w = w' := by
  have c0 := h.c0
  clear h
  go_enter Tryz.func431, Tryz.ntmps431
  go_wp2
  go_ret
  exact ⟨rfl, rfl⟩
theorem uwready_any (h : UwM w ub n ao N cp out l) (B : Bool) (hB : B = true ↔ l = [] ∧ out = 0) : Calls Tryz.prog 433 #[.pointer (some ⟨ub, 0, none⟩)] w fun e w' => e = .returned (.bool B) ∧ w = w' := by
  have c1 := h.c1
  have c2 := h.c2
  have hN := h.len
  have HB : Hid (B = true ↔ N = 0 ∧ out = 0) := by
    show _ ↔ _
    rw [hB, hN, List.length_eq_zero_iff]
  clear h hN hB
  by_cases h0 : N = 0
  · subst h0
    by_cases h1 : out = 0
    · subst h1
      have HR : Hid (B = true) := HB.out.2 ⟨rfl, rfl⟩
      go_enter Tryz.func433, Tryz.ntmps433
      go_wp2
      go_ret
      exact ⟨by rw [HR.out]; rfl, rfl⟩
    · have h1' : ((out : Int) == 0) = false := by rw [beq_eq_false_iff_ne]; omega
      have HR : Hid (B = false) := by show B = false; simpa using fun h : B = true => h1 (HB.out.1 h).2
      clear h1
      go_enter Tryz.func433, Tryz.ntmps433
      go_wp2
      go_ret
      exact ⟨by rw [HR.out]; simp [h1'], rfl⟩
  · have h0' : ((N : Int) == 0) = false := by rw [beq_eq_false_iff_ne]; omega
    have HR : Hid (B = false) := by show B = false; simpa using fun h : B = true => h0 (HB.out.1 h).1
    clear h0
    go_enter Tryz.func433, Tryz.ntmps433
    go_wp2
    go_ret
    exact ⟨by rw [HR.out]; simp [h0'], rfl⟩
/-- What next tells. -/
def nxW (l : List Wt) : Wt := l.headD Wt.zero
def nxB (l : List Wt) : Bool := !l.isEmpty
set_option maxHeartbeats 1000000 in
theorem uwnext_any (h : UwM w ub n ao N cp out l) : Calls Tryz.prog 432 #[.pointer (some ⟨ub, 0, none⟩)] w fun e w' => e = .returned (.tuple #[.agg #[.string (nxW l).key, .string (nxW l).val, .bool (nxW l).drop], .bool (nxB l)]) ∧ Fr [] w w' := by
  have hF0 : Fr [] w (w.alloc (.cells #[.string ⟨#[]⟩, .string ⟨#[]⟩, .bool false] 56)) := Fr.alloc [] w _
  have h1 := h.keep hF0 (by simp) (by simp)
  have c1 := h1.c1
  have hN := h.len
  have hlt := lt_of_block h.box
  cases l with
  | nil =>
    obtain rfl : N = 0 := hN
    clear h h1
    go_enter Tryz.func432, Tryz.ntmps432
    go_wp2_with fail
    refine bodyPost_ret (v := .tuple #[.agg #[.string ⟨#[]⟩, .string ⟨#[]⟩, .bool false], .bool false]) (by rw [results_cell_tmp rfl]; go_simp) rfl ⟨rfl, ?_⟩
    exact Fr.alloc [] w _
  | cons x r =>
    obtain ⟨b, off, rfl, hb, hc⟩ := h1.rs.lies (by simp)
    obtain ⟨d0, d1, d2⟩ := hc 0 (by simp)
    simp only [List.getD_cons_zero, Nat.zero_mul, Nat.add_zero] at d0 d1 d2
    obtain ⟨key, val, drop⟩ := x
    simp only at d0 d1 d2
    simp only [nxW, nxB, List.headD_cons, List.isEmpty_cons, Bool.not_false]
    have hN1 : ((N : Int) == 0) = false := by rw [beq_eq_false_iff_ne]; simp at hN; omega
    have hN2 : 0 < N := by simp at hN; omega
    clear h h1 hc hb hN
    go_enter Tryz.func432, Tryz.ntmps432
    go_wp2_with fail
    refine bodyPost_ret (v := .tuple #[.agg #[.string key, .string val, .bool drop], .bool true]) (by rw [results_cell_tmp rfl]; go_simp) rfl ⟨rfl, ?_⟩
    exact Fr.alloc [] w _
/-- The same block. -/
def SameB (ao ao' : Option Addr) : Prop := ∀ a', ao' = some a' → ∃ a, ao = some a ∧ a'.block = a.block
theorem SameB.refl (ao : Option Addr) : SameB ao ao := fun a h => ⟨a, h, rfl⟩
theorem uwsend_none (h : UwM w ub n ao N cp out []) : Calls Tryz.prog 434 #[.pointer (some ⟨ub, 0, none⟩)] w fun e w' => e = .returned (.bool false) ∧ w = w' := by
  have c1 := h.c1
  obtain rfl : N = 0 := h.len
  clear h
  go_enter Tryz.func434, Tryz.ntmps434
  go_wp2
  go_ret
  exact ⟨rfl, rfl⟩
/-- Cut at its head. -/
theorem UwM.cut {x : Wt} {b off : Nat} (h : UwM w ub n (some ⟨b, off, none⟩) (N + 1) cp out (x :: l)) (so : Option Addr) (hso : so = if cp = 1 then some ⟨b, off, none⟩ else some ⟨b, off + 3, none⟩) (u : Value) (hu : u = .int .i64 ((out + 1 : Nat) : Int)) :
    UwM ((w.setCell ⟨ub, 1, none⟩ (.slice so N (cp - 1))).setCell ⟨ub, 2, none⟩ u) ub n so N (cp - 1) (out + 1) l ∧ Fr [ub] w ((w.setCell ⟨ub, 1, none⟩ (.slice so N (cp - 1))).setCell ⟨ub, 2, none⟩ u) ∧ SameB (some ⟨b, off, none⟩) so ∧ (w.setCell ⟨ub, 1, none⟩ (.slice so N (cp - 1))).cell? ⟨ub, 2, none⟩ = some (.int .i64 (out : Int)) ∧ (w.setCell ⟨ub, 1, none⟩ (.slice so N (cp - 1))).frozen? ⟨ub, 2, none⟩ = false := by
  have f1 : Fr [ub] w (w.setCell ⟨ub, 1, none⟩ (.slice so N (cp - 1))) := Fr.set _ _ _ (by simp)
  have f2 : Fr [ub] (w.setCell ⟨ub, 1, none⟩ (.slice so N (cp - 1))) ((w.setCell ⟨ub, 1, none⟩ (.slice so N (cp - 1))).setCell ⟨ub, 2, none⟩ u) := Fr.set _ _ _ (by simp)
  have hF := f1.then f2
  have hb1 := vrow_setCell (j := 1) (.slice so N (cp - 1)) h.box
  have hb2 := vrow_setCell (j := 2) u hb1
  have hbu : b ≠ ub := h.ne (by simp) _ rfl
  have hsb : SameB (some ⟨b, off, none⟩) so := by
    intro a' ha
    refine ⟨_, rfl, ?_⟩
    rw [hso] at ha
    split at ha <;> (cases ha; rfl)
  have hlen : N = l.length := by have := h.len; simp at this; exact this
  have hcap := h.cap
  have hlid : out + 1 + l.length ≤ 1000000 := by have := h.lid; simp at this; omega
  refine ⟨⟨?_, hlen, by omega, ?_, ?_, hlid⟩, hF, hsb, ?_, ?_⟩
  · rw [hb2, hu]
    rfl
  · have hr := h.rs.keepS hF (by intro _ a ha; cases ha; simpa using hbu)
    obtain ⟨b', off', e, hb, hc⟩ := hr.lies (by simp)
    cases e
    refine ⟨fun h0 => ?_, by have := hr.few; simp at this; omega, fun y hy => hr.each y (List.mem_cons_of_mem _ hy)⟩
    have hne : cp ≠ 1 := by rintro rfl; omega
    rw [if_neg hne] at hso
    refine ⟨b, off + 3, hso, hb, fun i hi => ?_⟩
    have := hc (i + 1) (by simp; omega)
    simp only [List.getD_cons_succ] at this
    rw [show off + 3 + i * 3 = off + (i + 1) * 3 by omega]
    exact this
  · intro h0 a ha
    obtain ⟨a0, e0, e1⟩ := hsb a ha
    cases e0
    rw [e1]
    exact hbu
  · rw [cell_of_row _ _ _ _ _ _ hb1]; rfl
  · simp [World.frozen?, hb1]
set_option maxHeartbeats 2000000 in
theorem uwsend_any {x : Wt} (h : UwM w ub n ao N cp out (x :: l)) : Calls Tryz.prog 434 #[.pointer (some ⟨ub, 0, none⟩)] w fun e w' => e = .returned (.bool true) ∧ ∃ ao' N' cp', UwM w' ub n ao' N' cp' (out + 1) l ∧ Fr [ub] w w' ∧ SameB ao ao' := by
  obtain ⟨N, rfl⟩ : ∃ n', N = n' + 1 := ⟨l.length, by have := h.len; simpa using this⟩
  obtain ⟨b, off, rfl, _⟩ := h.rs.lies (by simp)
  have c1 := h.c1
  have c2 := h.c2
  have z1 := h.fz 1
  have hcap := h.cap
  have hfew := h.rs.few
  have hNl := h.len
  have hN63 : N ≤ 140737488355328 := by omega
  have ho : out < 1000000 := by have := h.lid; simp at this; omega
  have hN0 : (((N + 1 : Nat) : Int) == 0) = false := by rw [beq_eq_false_iff_ne]; omega
  have hu : Value.int .i64 ((out : Int) + 1) = .int .i64 ((out + 1 : Nat) : Int) := by simp
  by_cases h1 : cp = 1
  · subst h1
    have hn : N = 0 := by omega
    subst hn
    have HM : Hid (_ ∧ _ ∧ _ ∧ _ ∧ _) := h.cut (some ⟨b, off, none⟩) (by rw [if_pos rfl]) _ hu
    obtain ⟨_, _, _, y1, y2⟩ := HM.out
    clear h hfew hNl hu
    go_enter Tryz.func434, Tryz.ntmps434
    go_wp2
    go_ret
    obtain ⟨m1, m2, m3, _⟩ := HM.out
    exact ⟨rfl, _, _, _, m1, m2, m3⟩
  · have HM : Hid (_ ∧ _ ∧ _ ∧ _ ∧ _) := h.cut (some ⟨b, off + 3, none⟩) (by rw [if_neg h1]) _ hu
    obtain ⟨_, _, _, y1, y2⟩ := HM.out
    have hc1 : 1 ≤ cp := by omega
    clear h hfew hNl hu
    go_enter Tryz.func434, Tryz.ntmps434
    go_wp2
    go_ret
    obtain ⟨m1, m2, m3, _⟩ := HM.out
    exact ⟨rfl, _, _, _, m1, m2, m3⟩
theorem uwack_none (h : UwM w ub n ao N cp 0 l) : Calls Tryz.prog 430 #[.pointer (some ⟨ub, 0, none⟩)] w fun e w' => e = .returned (.bool false) ∧ w = w' := by
  have c2 := h.c2
  clear h
  go_enter Tryz.func430, Tryz.ntmps430
  go_wp2
  go_ret
  exact ⟨rfl, rfl⟩
theorem uwack_any (h : UwM w ub n ao N cp (out + 1) l) : Calls Tryz.prog 430 #[.pointer (some ⟨ub, 0, none⟩)] w fun e w' => e = .returned (.bool true) ∧ UwM w' ub n ao N cp out l ∧ Fr [ub] w w' := by
  have c2 := h.c2
  have z2 := h.fz 2
  have hl := h.lid
  have HM : Hid (UwM (w.setCell ⟨ub, 2, none⟩ (.int .i64 (out : Int))) ub n ao N cp out l ∧ Fr [ub] w (w.setCell ⟨ub, 2, none⟩ (.int .i64 (out : Int)))) := by
    have f1 : Fr [ub] w (w.setCell ⟨ub, 2, none⟩ (.int .i64 (out : Int))) := Fr.set _ _ _ (by simp)
    refine ⟨⟨?_, h.len, h.cap, h.rs.keepS f1 (fun h0 a ha => by simpa using h.ne h0 a ha), h.ne, by omega⟩, f1⟩
    rw [vrow_setCell _ h.box]
    rfl
  have h0 : ((((out + 1 : Nat) : Int)) == 0) = false := by rw [beq_eq_false_iff_ne]; omega
  clear h
  go_enter Tryz.func430, Tryz.ntmps430
  go_wp2
  go_ret
  exact ⟨rfl, HM.out.1, HM.out.2⟩
end
theorem noholds_any (w : World) : Calls Tryz.prog 247 #[.agg #[]] w fun e w' => e = .returned (.int .i64 0) ∧ Fr [] w w' := by
  go_enter Tryz.func247, Tryz.ntmps247
  go_wp2
  go_ret
  exact ⟨rfl, Fr.alloc _ _ _⟩
theorem noready_any (w : World) : Calls Tryz.prog 436 #[.agg #[]] w fun e w' => e = .returned (.bool false) ∧ Fr [] w w' := by
  go_enter Tryz.func436, Tryz.ntmps436
  go_wp2
  go_ret
  exact ⟨rfl, Fr.alloc _ _ _⟩
end Go.Proofs.YtakbodlicfmkjaaGreat

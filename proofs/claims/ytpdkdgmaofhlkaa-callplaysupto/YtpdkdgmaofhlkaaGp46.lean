/- Texts of this claim laid together, one behind the other: contracts and plain lemmas; conditions as each names them. -/
import Derived.Test.YtpdkdgmaofhlkaaGp28
/- Asks of both tasks, whatever they answer. Conditions as named. -/
namespace Go.Proofs.Ytpdkdgmaofhlkaa
open Go.ChangeShapes Go.WideShapes Go.ChangeAt Go.RowKit Go.Lib
set_option linter.unusedVariables false
set_option linter.unusedSimpArgs false

/-- What is old stands: only older blocks are written. -/
def Old (w W w' : World) : Prop := ∃ S, Fr S W w' ∧ ∀ z ∈ S, z < w.heap.size
theorem Old.keep {w W w' : World} (h : Old w W w') {b : Nat} {o : Obj} (hb : w.heap.size ≤ b) (ho : W.heap[b]? = some o) : w'.heap[b]? = some o := by
  obtain ⟨S, hf, hS⟩ := h
  exact hf.keep ho (fun hm => by have := hS b hm; omega)
theorem Old.size {w W w' : World} (h : Old w W w') : W.heap.size ≤ w'.heap.size := by
  obtain ⟨S, hf, _⟩ := h
  exact hf.size
set_option maxHeartbeats 4000000 in
set_option maxRecDepth 100000 in
theorem asks_sent_gen {w : World} (p q : Option Addr) (a : Aj) (h0 : (a.k == 0) = false) (h1 : (a.k == 2) = false) (E : Int) (QA QB : World → Prop)
    (hP : ∀ W, Fr [] w W → Calls Try.prog 18 #[.pointer p] W fun e w' => e = .returned (.int .i64 E) ∧ QA w')
    (hD : ∀ W, QA W → Calls Try.prog 31 #[.pointer q] W fun e w' => e = .returned (.int .i64 E) ∧ QB w') :
    Calls Try.prog 12 #[.pointer p, .pointer q, .agg a.v] w fun e w' => e = .returned (.bool true) ∧ QB w' := by
  obtain ⟨ak, ma, le, bo, bl, bc, ns, ⟨rt, rk, eo, el, ec, ho, hl, hc, ct⟩, es, hs⟩ := a
  simp only [Aj.v] at h0 h1 ⊢
  have HAc : Hid (∀ W, Fr [] (w.alloc (.cells #[.int .u8 ak, .int .i64 ma, .int .i64 le, .slice bo bl bc, .int .i64 rt, .bool rk, .slice eo el ec, .slice ho hl hc, .int .i64 ct] 48)) W → W.cell? ⟨w.heap.size, 0, none⟩ = some (.int .u8 ak) ∧ W.cell? ⟨w.heap.size, 1, none⟩ = some (.int .i64 ma) ∧ W.cell? ⟨w.heap.size, 2, none⟩ = some (.int .i64 le) ∧ W.cell? ⟨w.heap.size, 3, none⟩ = some (.slice bo bl bc) ∧ W.cell? ⟨w.heap.size, 4, none⟩ = some (.int .i64 rt) ∧ W.cell? ⟨w.heap.size, 5, none⟩ = some (.bool rk) ∧ W.cell? ⟨w.heap.size, 6, none⟩ = some (.slice eo el ec) ∧ W.cell? ⟨w.heap.size, 7, none⟩ = some (.slice ho hl hc) ∧ W.cell? ⟨w.heap.size, 8, none⟩ = some (.int .i64 ct)) := fun W hW => by
    have := rq_cells (hW.keep (heap_alloc_new w (.cells #[.int .u8 ak, .int .i64 ma, .int .i64 le, .slice bo bl bc, .int .i64 rt, .bool rk, .slice eo el ec, .slice ho hl hc, .int .i64 ct] 48)) (by simp))
    exact this
  have HF0 : Hid (Fr [] w (w.alloc (.cells #[.int .u8 ak, .int .i64 ma, .int .i64 le, .slice bo bl bc, .int .i64 rt, .bool rk, .slice eo el ec, .slice ho hl hc, .int .i64 ct] 48))) := Fr.alloc [] w _
  have HS : Hid (∀ W, Fr [] w W → Calls Try.prog 18 #[.pointer p] W fun e w' => e = .returned (.int .i64 E) ∧ QA w') := hP
  have HY : Hid (∀ W, QA W → Calls Try.prog 31 #[.pointer q] W fun e w' => e = .returned (.int .i64 E) ∧ QB w') := hD
  clear hP hD
  go_enter Try.func12, Try.ntmps12
  go_wp2_with fail
  refine (HS.out _ HF0.out).mono ?_
  rintro e w1 ⟨rfl, hA⟩
  have HA : Hid (QA w1) := hA
  clear hA
  go_wp2_with fail
  refine (HY.out _ HA.out).mono ?_
  rintro e w2 ⟨rfl, hB⟩
  have HB : Hid (QB w2) := hB
  clear hB
  go_wp2
  go_ret
  exact ⟨by simp, HB.out⟩
set_option maxHeartbeats 4000000 in
set_option maxRecDepth 100000 in
theorem asks_begin_gen {w : World} (p q : Option Addr) (a : Aj) (hA : AjB w a) (h0 : a.k = 0) (E : Int) (QA QB : Nat → World → Prop) (QC : World → Prop)
    (hP : ∀ W b, Fr [] w W → w.heap.size ≤ b → W.heap[b]? = some (.cells (intsT (a.ns ++ [7777])).toArray 3 (0, 0)) → Calls Try.prog 14 #[.pointer p, .int .i64 a.ma, .int .i64 a.le, .slice (some ⟨b, 0, none⟩) a.bl (a.bl + 1)] W fun e w' => e = .returned (.int .i64 E) ∧ QA b w' ∧ Old w W w')
    (hD : ∀ W b, QA b W → Calls Try.prog 26 #[.pointer q, .int .i64 a.ma, .int .i64 a.le, .slice a.bo a.bl a.bc] W fun e w' => e = .returned (.int .i64 E) ∧ QB b w' ∧ Old w W w')
    (hI : ∀ W b, QB b W → IRs W a.bo a.ns) (hC : ∀ W W' b, QB b W → Fr [b] W W' → QC W') :
    Calls Try.prog 12 #[.pointer p, .pointer q, .agg a.v] w fun e w' => e = .returned (.bool true) ∧ QC w' := by
  obtain ⟨ak, ma, le, bo, bl, bc, ns, ⟨rt, rk, eo, el, ec, ho, hl, hc, ct⟩, es, hs⟩ := a
  simp only [Aj.v] at h0 hP hD hI ⊢
  have HAc : Hid (∀ W : World, W.heap[w.heap.size]? = some (.cells #[.int .u8 ak, .int .i64 ma, .int .i64 le, .slice bo bl bc, .int .i64 rt, .bool rk, .slice eo el ec, .slice ho hl hc, .int .i64 ct] 48 (0, 0)) → W.cell? ⟨w.heap.size, 0, none⟩ = some (.int .u8 ak) ∧ W.cell? ⟨w.heap.size, 1, none⟩ = some (.int .i64 ma) ∧ W.cell? ⟨w.heap.size, 2, none⟩ = some (.int .i64 le) ∧ W.cell? ⟨w.heap.size, 3, none⟩ = some (.slice bo bl bc) ∧ W.cell? ⟨w.heap.size, 4, none⟩ = some (.int .i64 rt) ∧ W.cell? ⟨w.heap.size, 5, none⟩ = some (.bool rk) ∧ W.cell? ⟨w.heap.size, 6, none⟩ = some (.slice eo el ec) ∧ W.cell? ⟨w.heap.size, 7, none⟩ = some (.slice ho hl hc) ∧ W.cell? ⟨w.heap.size, 8, none⟩ = some (.int .i64 ct)) := fun W hW => by
    have := rq_cells hW
    exact this
  have HF0 : Hid (Fr [] w (w.alloc (.cells #[.int .u8 ak, .int .i64 ma, .int .i64 le, .slice bo bl bc, .int .i64 rt, .bool rk, .slice eo el ec, .slice ho hl hc, .int .i64 ct] 48))) := Fr.alloc [] w _
  have HTI : Hid (∀ W, Fr [] w W → Calls Try.prog 25 #[.slice bo bl bc] W fun e w' => ∃ b, e = .returned (.slice (some ⟨b, 0, none⟩) bl (bl + 1)) ∧ W.heap.size ≤ b ∧ w'.heap[b]? = some (.cells (intsT (ns ++ [7777])).toArray 3 (0, 0)) ∧ Fr [] W w') := fun W hW => twinIs_any bo bl bc ns W (hA.is.keep hW) hA.bl (by have := hA.is.few; have := hA.bl; simp only at *; omega)
  have HLf : Hid (∀ W b, IRs W bo ns → W.heap[b]? = some (.cells (intsT (ns ++ [7777])).toArray 3 (0, 0)) → Calls Try.prog 27 #[.slice (some ⟨b, 0, none⟩) bl (bl + 1), .slice bo bl bc] W fun e w' => e = .returned (.bool true) ∧ Fr [] W w') := fun W b hI hr => leftIs_any b bo bl bc ns W hI hA.bl (by have := hA.is.few; have := hA.bl; simp only at *; omega) hr
  have HB : Hid (∀ W b, Fr [] w W → w.heap.size ≤ b → W.heap[b]? = some (.cells (intsT (ns ++ [7777])).toArray 3 (0, 0)) → Calls Try.prog 14 #[.pointer p, .int .i64 ma, .int .i64 le, .slice (some ⟨b, 0, none⟩) bl (bl + 1)] W fun e w' => e = .returned (.int .i64 E) ∧ QA b w' ∧ Old w W w') := hP
  have HY : Hid (∀ W b, QA b W → Calls Try.prog 26 #[.pointer q, .int .i64 ma, .int .i64 le, .slice bo bl bc] W fun e w' => e = .returned (.int .i64 E) ∧ QB b w' ∧ Old w W w') := hD
  have HI : Hid (∀ W b, QB b W → IRs W bo ns) := hI
  have HC : Hid (∀ W W' b, QB b W → Fr [b] W W' → QC W') := hC
  have HBl : Hid (bl = ns.length) := hA.bl
  have hbl : bl ≤ 17592186044416 := by have := hA.is.few; have := hA.bl; simp only at *; omega
  subst h0
  clear hA hP hD hI hC
  go_enter Try.func12, Try.ntmps12
  go_wp2_with fail
  refine (HTI.out _ HF0.out).mono ?_
  rintro e w1 ⟨b, rfl, hb, hr, hf1⟩
  have HBb : Hid (w.heap.size ≤ b) := (by have h := hb; simp at h; omega : w.heap.size ≤ b)
  have HR1 : Hid (w1.heap[b]? = some (.cells (intsT (ns ++ [7777])).toArray 3 (0, 0))) := hr
  have HF1 : Hid (Fr [] w w1) := HF0.out.then hf1
  have HA1 : Hid (w1.heap[w.heap.size]? = some (.cells #[.int .u8 0, .int .i64 ma, .int .i64 le, .slice bo bl bc, .int .i64 rt, .bool rk, .slice eo el ec, .slice ho hl hc, .int .i64 ct] 48 (0, 0))) := hf1.keep (heap_alloc_new w _) (by simp)
  obtain ⟨a0, a1, a2, a3, a4, a5, a6, a7, a8⟩ := HAc.out w1 HA1.out
  clear hb hr hf1 HTI
  go_wp2_with fail
  refine (HB.out _ b HF1.out HBb.out HR1.out).mono ?_
  rintro e w2 ⟨rfl, hA, hO⟩
  have HQA : Hid (QA b w2) := hA
  have HR2 : Hid (w2.heap[b]? = some (.cells (intsT (ns ++ [7777])).toArray 3 (0, 0))) := hO.keep HBb.out HR1.out
  have HA2 : Hid (w2.heap[w.heap.size]? = some (.cells #[.int .u8 0, .int .i64 ma, .int .i64 le, .slice bo bl bc, .int .i64 rt, .bool rk, .slice eo el ec, .slice ho hl hc, .int .i64 ct] 48 (0, 0))) := hO.keep (Nat.le_refl _) HA1.out
  clear hA hO a0 a1 a2 a3 a4 a5 a6 a7 a8 HR1 HA1 HB HF1
  obtain ⟨a0, a1, a2, a3, a4, a5, a6, a7, a8⟩ := HAc.out w2 HA2.out
  go_wp2_with fail
  refine (HY.out _ b HQA.out).mono ?_
  rintro e w3 ⟨rfl, hB, hO⟩
  have HQB : Hid (QB b w3) := hB
  have HR3 : Hid (w3.heap[b]? = some (.cells (intsT (ns ++ [7777])).toArray 3 (0, 0))) := hO.keep HBb.out HR2.out
  have HA3 : Hid (w3.heap[w.heap.size]? = some (.cells #[.int .u8 0, .int .i64 ma, .int .i64 le, .slice bo bl bc, .int .i64 rt, .bool rk, .slice eo el ec, .slice ho hl hc, .int .i64 ct] 48 (0, 0))) := hO.keep (Nat.le_refl _) HA2.out
  clear hB hO a0 a1 a2 a3 a4 a5 a6 a7 a8 HR2 HA2 HY HQA
  obtain ⟨a0, a1, a2, a3, a4, a5, a6, a7, a8⟩ := HAc.out w3 HA3.out
  go_wp2_with fail
  refine (HLf.out _ b (HI.out _ _ HQB.out) HR3.out).mono ?_
  rintro e w4 ⟨rfl, hf2⟩
  have HR4 : Hid (w4.heap[b]? = some (.cells (intsT (ns ++ [7777])).toArray 3 (0, 0))) := hf2.keep HR3.out (by simp)
  have HF4 : Hid (Fr [b] w3 w4) := hf2.mono (by intro z hz; simp at hz)
  clear a0 a1 a2 a3 a4 a5 a6 a7 a8 hf2 HLf HR3 HAc HA3 HI HBb HF0
  go_wp2_with fail
  go_loopw [10] (fun ii wr => ∃ i : Nat, ii = .int .i64 i ∧ i ≤ bl ∧ Hid (∃ cs : Array Value, wr.heap[b]? = some (.cells cs 3 (0, 0)) ∧ cs.size = bl + 1) ∧ Hid (Fr [b] w3 wr)) (fun ii _ => bl - (RowKit.intOf ii).toNat)
  case atStart => exact ⟨0, rfl, Nat.zero_le _, ⟨_, HR4.out, by simp [intsT, HBl.out]⟩, HF4⟩
  case round =>
    obtain ⟨i, rfl, hiM, HCs, HFw⟩ := hrel
    by_cases hil : i < bl
    · obtain ⟨cs, hcs, hsz⟩ := HCs.out
      obtain ⟨u, hu⟩ : ∃ u, wr.cell? ⟨b, i, none⟩ = some u := by
        rw [cell_of_row _ _ _ _ _ _ hcs]
        exact ⟨cs[i]'(by omega), by rw [Array.getElem?_eq_getElem]⟩
      have hz : wr.frozen? ⟨b, i, none⟩ = false := by simp [World.frozen?, hcs]
      have HC2 : Hid (∃ cs : Array Value, (wr.setCell ⟨b, i, none⟩ (.int .i64 (-77))).heap[b]? = some (.cells cs 3 (0, 0)) ∧ cs.size = bl + 1) := ⟨_, row_put17 _ hcs, by simpa using hsz⟩
      have HF3 : Hid (Fr [b] w3 (wr.setCell ⟨b, i, none⟩ (.int .i64 (-77)))) := HFw.out.then (Fr.set _ _ _ (by simp))
      clear hcs hsz HCs
      go_wp2
      go_roundw
      case rel => exact ⟨i + 1, by simp, by omega, HC2, HF3⟩
      case measure => simp [RowKit.intOf]; omega
    · obtain rfl : i = bl := by omega
      go_wp2
      go_ret
      exact ⟨by simp, HC.out _ _ _ HQB.out HFw.out⟩
end Go.Proofs.Ytpdkdgmaofhlkaa

/- Asks of a task that is not there. No conditions. -/
import Derived.Test.YtpdkdgmaofhlkaaRs17
import Derived.Test.YtpdkdgmaofhlkaaNz17
namespace Go.Proofs.Ytpdkdgmaofhlkaa
open Go.ChangeShapes Go.WideShapes Go.ChangeAt Go.RowKit Go.Lib
set_option linter.unusedVariables false
set_option linter.unusedSimpArgs false

def Aj.v (a : Aj) : Array Value := #[.int .u8 a.k, .int .i64 a.ma, .int .i64 a.le, .slice a.bo a.bl a.bc, .int .i64 a.r.to_, .bool a.r.ok, .slice a.r.eo a.r.el a.r.ec, .slice a.r.ho a.r.hl a.r.hc, .int .i64 a.r.ct]
set_option maxHeartbeats 4000000 in
set_option maxRecDepth 100000 in
theorem asks_sent_no {p : Value} {w : World} (h : NoT p w) (a : Aj) (h0 : (a.k == 0) = false) (h1 : (a.k == 2) = false) : Calls Try.prog 12 #[p, .pointer none, .agg a.v] w fun e w' => e = .returned (.bool true) ∧ Fr [] w w' := by
  obtain ⟨ak, ma, le, bo, bl, bc, ns, ⟨rt, rk, eo, el, ec, ho, hl, hc, ct⟩, es, hs⟩ := a
  simp only [Aj.v] at h0 ⊢
  have HAc : Hid (∀ W, Fr [] (w.alloc (.cells #[.int .u8 ak, .int .i64 ma, .int .i64 le, .slice bo bl bc, .int .i64 rt, .bool rk, .slice eo el ec, .slice ho hl hc, .int .i64 ct] 48)) W → W.cell? ⟨w.heap.size, 0, none⟩ = some (.int .u8 ak) ∧ W.cell? ⟨w.heap.size, 1, none⟩ = some (.int .i64 ma) ∧ W.cell? ⟨w.heap.size, 2, none⟩ = some (.int .i64 le) ∧ W.cell? ⟨w.heap.size, 3, none⟩ = some (.slice bo bl bc) ∧ W.cell? ⟨w.heap.size, 4, none⟩ = some (.int .i64 rt) ∧ W.cell? ⟨w.heap.size, 5, none⟩ = some (.bool rk) ∧ W.cell? ⟨w.heap.size, 6, none⟩ = some (.slice eo el ec) ∧ W.cell? ⟨w.heap.size, 7, none⟩ = some (.slice ho hl hc) ∧ W.cell? ⟨w.heap.size, 8, none⟩ = some (.int .i64 ct)) := fun W hW => by
    have := rq_cells (hW.keep (heap_alloc_new w (.cells #[.int .u8 ak, .int .i64 ma, .int .i64 le, .slice bo bl bc, .int .i64 rt, .bool rk, .slice eo el ec, .slice ho hl hc, .int .i64 ct] 48)) (by simp))
    exact this
  have HF0 : Hid (Fr [] w (w.alloc (.cells #[.int .u8 ak, .int .i64 ma, .int .i64 le, .slice bo bl bc, .int .i64 rt, .bool rk, .slice eo el ec, .slice ho hl hc, .int .i64 ct] 48))) := Fr.alloc [] w _
  simp only at h1
  have HS : Hid (∀ W, Fr [] w W → Calls Try.prog 18 #[p] W fun e w' => e = .returned (.int .i64 2) ∧ W = w') := fun W hW => qSent_no (h.keep hW)
  have HY : Hid (∀ W, Calls Try.prog 31 #[.pointer none] W fun e w' => e = .returned (.int .i64 2) ∧ W = w') := fun W => ysent_nil W
  obtain ⟨o, rfl⟩ := h.ptr
  clear h
  go_enter Try.func12, Try.ntmps12
  go_wp2_with fail
  refine (HS.out _ HF0.out).mono ?_
  rintro e w1 ⟨rfl, rfl⟩
  go_wp2_with fail
  refine (HY.out _).mono ?_
  rintro e w1 ⟨rfl, rfl⟩
  go_wp2
  go_ret
  exact ⟨rfl, HF0.out⟩
set_option maxHeartbeats 4000000 in
set_option maxRecDepth 100000 in
theorem asks_begin_no {p : Value} {w : World} (h : NoT p w) (a : Aj) (hA : AjB w a) (h0 : a.k = 0) : Calls Try.prog 12 #[p, .pointer none, .agg a.v] w fun e w' => e = .returned (.bool true) ∧ Fr [] w w' := by
  obtain ⟨ak, ma, le, bo, bl, bc, ns, ⟨rt, rk, eo, el, ec, ho, hl, hc, ct⟩, es, hs⟩ := a
  simp only [Aj.v] at h0 ⊢
  have HAc : Hid (∀ W, Fr [] (w.alloc (.cells #[.int .u8 ak, .int .i64 ma, .int .i64 le, .slice bo bl bc, .int .i64 rt, .bool rk, .slice eo el ec, .slice ho hl hc, .int .i64 ct] 48)) W → W.cell? ⟨w.heap.size, 0, none⟩ = some (.int .u8 ak) ∧ W.cell? ⟨w.heap.size, 1, none⟩ = some (.int .i64 ma) ∧ W.cell? ⟨w.heap.size, 2, none⟩ = some (.int .i64 le) ∧ W.cell? ⟨w.heap.size, 3, none⟩ = some (.slice bo bl bc) ∧ W.cell? ⟨w.heap.size, 4, none⟩ = some (.int .i64 rt) ∧ W.cell? ⟨w.heap.size, 5, none⟩ = some (.bool rk) ∧ W.cell? ⟨w.heap.size, 6, none⟩ = some (.slice eo el ec) ∧ W.cell? ⟨w.heap.size, 7, none⟩ = some (.slice ho hl hc) ∧ W.cell? ⟨w.heap.size, 8, none⟩ = some (.int .i64 ct)) := fun W hW => by
    have := rq_cells (hW.keep (heap_alloc_new w (.cells #[.int .u8 ak, .int .i64 ma, .int .i64 le, .slice bo bl bc, .int .i64 rt, .bool rk, .slice eo el ec, .slice ho hl hc, .int .i64 ct] 48)) (by simp))
    exact this
  have HF0 : Hid (Fr [] w (w.alloc (.cells #[.int .u8 ak, .int .i64 ma, .int .i64 le, .slice bo bl bc, .int .i64 rt, .bool rk, .slice eo el ec, .slice ho hl hc, .int .i64 ct] 48))) := Fr.alloc [] w _
  have HTI : Hid (∀ W, Fr [] w W → Calls Try.prog 25 #[.slice bo bl bc] W fun e w' => ∃ b, e = .returned (.slice (some ⟨b, 0, none⟩) bl (bl + 1)) ∧ W.heap.size ≤ b ∧ w'.heap[b]? = some (.cells (intsT (ns ++ [7777])).toArray 3 (0, 0)) ∧ Fr [] W w') := fun W hW => twinIs_any bo bl bc ns W (hA.is.keep hW) hA.bl (by have := hA.is.few; have := hA.bl; simp only at *; omega)
  have HLf : Hid (∀ W b, Fr [] w W → W.heap[b]? = some (.cells (intsT (ns ++ [7777])).toArray 3 (0, 0)) → Calls Try.prog 27 #[.slice (some ⟨b, 0, none⟩) bl (bl + 1), .slice bo bl bc] W fun e w' => e = .returned (.bool true) ∧ Fr [] W w') := fun W b hW hr => leftIs_any b bo bl bc ns W (hA.is.keep hW) hA.bl (by have := hA.is.few; have := hA.bl; simp only at *; omega) hr
  have HB : Hid (∀ W v, Fr [] w W → Calls Try.prog 14 #[p, .int .i64 ma, .int .i64 le, v] W fun e w' => e = .returned (.int .i64 2) ∧ W = w') := fun W v hW => qbegin_no ma le v (h.keep hW)
  have HY : Hid (∀ W v, Calls Try.prog 26 #[.pointer none, .int .i64 ma, .int .i64 le, v] W fun e w' => e = .returned (.int .i64 2) ∧ W = w') := fun W v => ybegin_nil ma le v W
  have HBl : Hid (bl = ns.length) := hA.bl
  have hbl : bl ≤ 17592186044416 := by have := hA.is.few; have := hA.bl; simp only at *; omega
  obtain ⟨o, rfl⟩ := h.ptr
  subst h0
  clear h hA
  go_enter Try.func12, Try.ntmps12
  go_wp2_with fail
  refine (HTI.out _ HF0.out).mono ?_
  rintro e w1 ⟨b, rfl, hb, hr, hf1⟩
  have HBb : Hid (w.heap.size ≤ b) := (by have h := hb; simp at h; omega : w.heap.size ≤ b)
  have HR1 : Hid (w1.heap[b]? = some (.cells (intsT (ns ++ [7777])).toArray 3 (0, 0))) := hr
  have HF1 : Hid (Fr [] w w1) := HF0.out.then hf1
  obtain ⟨a0, a1, a2, a3, a4, a5, a6, a7, a8⟩ := HAc.out w1 hf1
  have HA1 : Hid (Fr [] (w.alloc (.cells #[.int .u8 0, .int .i64 ma, .int .i64 le, .slice bo bl bc, .int .i64 rt, .bool rk, .slice eo el ec, .slice ho hl hc, .int .i64 ct] 48)) w1) := hf1
  clear hb hr hf1 HTI
  go_wp2_with fail
  refine (HB.out _ _ HF1.out).mono ?_
  rintro e w2 ⟨rfl, rfl⟩
  go_wp2_with fail
  refine (HY.out _ _).mono ?_
  rintro e w2 ⟨rfl, rfl⟩
  go_wp2_with fail
  refine (HLf.out _ b HF1.out HR1.out).mono ?_
  rintro e w2 ⟨rfl, hf2⟩
  have HR2 : Hid (w2.heap[b]? = some (.cells (intsT (ns ++ [7777])).toArray 3 (0, 0))) := hf2.keep HR1.out (by simp)
  have HF2 : Hid (Fr [] w w2) := HF1.out.then hf2
  clear a0 a1 a2 a3 a4 a5 a6 a7 a8 hf2 HLf HB HY HR1 HF1 HAc HA1
  go_wp2_with fail
  go_loopw [10] (fun ii wr => ∃ i : Nat, ii = .int .i64 i ∧ i ≤ bl ∧ Hid (∃ cs : Array Value, wr.heap[b]? = some (.cells cs 3 (0, 0)) ∧ cs.size = bl + 1) ∧ Hid (Fr [b] w2 wr)) (fun ii _ => bl - (RowKit.intOf ii).toNat)
  case atStart => exact ⟨0, rfl, Nat.zero_le _, ⟨_, HR2.out, by simp [intsT, HBl.out]⟩, Fr.refl _ _⟩
  case round =>
    obtain ⟨i, rfl, hiM, HCs, HFw⟩ := hrel
    by_cases hil : i < bl
    · obtain ⟨cs, hcs, hsz⟩ := HCs.out
      obtain ⟨u, hu⟩ : ∃ u, wr.cell? ⟨b, i, none⟩ = some u := by
        rw [cell_of_row _ _ _ _ _ _ hcs]
        exact ⟨cs[i]'(by omega), by rw [Array.getElem?_eq_getElem]⟩
      have hz : wr.frozen? ⟨b, i, none⟩ = false := by simp [World.frozen?, hcs]
      have HC2 : Hid (∃ cs : Array Value, (wr.setCell ⟨b, i, none⟩ (.int .i64 (-77))).heap[b]? = some (.cells cs 3 (0, 0)) ∧ cs.size = bl + 1) := ⟨_, row_put17 _ hcs, by simpa using hsz⟩
      have HF3 : Hid (Fr [b] w2 (wr.setCell ⟨b, i, none⟩ (.int .i64 (-77)))) := HFw.out.then (Fr.set _ _ _ (by simp))
      clear hcs hsz HCs
      go_wp2
      go_roundw
      case rel => exact ⟨i + 1, by simp, by omega, HC2, HF3⟩
      case measure => simp [RowKit.intOf]; omega
    · obtain rfl : i = bl := by omega
      go_wp2
      go_ret
      exact ⟨rfl, HF2.out.on HFw.out (fun y hy => by simp at hy; have := HBb.out; omega)⟩
end Go.Proofs.Ytpdkdgmaofhlkaa

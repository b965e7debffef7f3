/- Parts of events: their stats, and their slices. Conditions as each names them. -/
import Derived.Test.YtfhfjplhfjlpaaaDoorLv26
namespace Go.Proofs.YtfhfjplhfjlpaaaDoor
open Go.ChangeShapes Go.WideShapes Go.ChangeAt Go.RowKit Go.Lib
set_option linter.unusedVariables false
set_option linter.unusedSimpArgs false

/-! ### Mathematics -/
theorem ev_take (es : List Ev) (k m : Nat) (h : m < k) : (es.take k).getD m Ev.no = es.getD m Ev.no := by simp [List.getD, List.getElem?_take_of_lt h]
theorem ev_drop (es : List Ev) (k m : Nat) : (es.drop k).getD m Ev.no = es.getD (k + m) Ev.no := by simp [List.getD, List.getElem?_drop]
theorem hold_take (es : List Ev) (k : Nat) (j : Int) : ∀ m, m ≤ k → hold (es.take k) j m = hold es j m
  | 0, _ => rfl
  | m + 1, h => by simp only [hold]; rw [ev_take es k m (by omega), hold_take es k j m (by omega)]
theorem hs_take (L : Nat) (es : List Ev) (k m : Nat) (h : m ≤ k) : hs L (es.take k) m = hs L es m := by
  unfold hs
  congr 1
  funext j
  exact hold_take es k _ m h
theorem sta_take (L : Nat) (es : List Ev) (k : Nat) : ∀ m, m ≤ k → sta L (es.take k) m = sta L es m
  | 0, _ => rfl
  | m + 1, h => by simp only [sta]; rw [ev_take es k m (by omega), hs_take L es k (m + 1) h, sta_take L es k m (by omega)]
theorem sta_sum (L : Nat) (es : List Ev) (k : Nat) : ∀ m, (sta L es (k + m)).n = (sta L es k).n + (sta L (es.drop k) m).n ∧ (sta L es (k + m)).i = (sta L es k).i + (sta L (es.drop k) m).i ∧ (sta L es (k + m)).r = (sta L es k).r + (sta L (es.drop k) m).r ∧ (sta L es (k + m)).g = max (sta L es k).g (sta L (es.drop k) m).g ∧ (sta L es k).b ≤ (sta L es (k + m)).b
  | 0 => by
    have := sta_g L es k
    simp only [sta, Nat.add_zero]
    omega
  | m + 1 => by
    obtain ⟨h1, h2, h3, h4, h5⟩ := sta_sum L es k m
    rw [show k + (m + 1) = (k + m) + 1 by omega]
    simp only [sta]
    rw [ev_drop]
    omega
/-! ### What Of answers of any configuration -/
def ofS (c : Cf) (es : List Ev) : Sst := if c.may then sta c.l.toNat es es.length else ⟨0, 0, 0, 0, 0⟩
theorem of_any (l s x q : Int) (eo : Option Addr) (en ec : Nat) (es : List Ev) (w : World) (hE : ERs w eo es) (hen : en = es.length) :
    Calls Tryd.prog 5 #[.agg #[.int .i64 l, .int .i64 s, .int .i64 x, .int .i64 q], .slice eo en ec] w fun e w' => e = .returned (.tuple #[.agg (ofS ⟨l, s, x, q⟩ es).a, .int .i64 (Cf.err ⟨l, s, x, q⟩)]) ∧ Fr [] w w' := by
  by_cases hc : Cf.may ⟨l, s, x, q⟩
  · obtain ⟨L, rfl⟩ : ∃ L : Nat, l = (L : Int) := ⟨l.toNat, by have := hc.1; simp only at this; omega⟩
    have := of_ok L s x q eo en ec es w hc hE hen
    unfold ofS Cf.err
    rw [if_pos hc, if_pos hc, ← hen]
    exact this
  · have := of_no l s x q eo en ec w hc
    unfold ofS Cf.err
    rw [if_neg hc, if_neg hc]
    exact this
/-! ### Slices -/
theorem Tryd.undEvsE : Tryd.prog.underlying 24 = some (.slice (Tryd.prog.elem 24)) := by kernel_rfl
theorem Tryd.elemEvs : Tryd.prog.elem 24 = 54 := by kernel_rfl
theorem Tryd.sizeOfEv (w : World) : (Go.sizeOf 54).run Tryd.prog w = .ok 6 w := by kernel_rfl
def fromE (ro : Option Addr) (rc K : Nat) : Option Addr := if rc = K then ro else ro.map (·.add (K * 6))
theorem slE_h (ro : Option Addr) (N rc i : Nat) (h1 : i ≤ rc) (w : World) : (Instr.sliceAt 24 (.slice ro N rc) none (some (.int .i64 (i : Int))) none).run Tryd.prog w = .ok (.slice ro i rc) w := by
  rw [run_sliceAt_slice w 24 _ _ _ _ Tryd.undEvsE, run_slice_h w 24 _ _ _ Tryd.undEvsE .i64 (i : Int) (by omega) (by omega), Tryd.elemEvs, Tryd.sizeOfEv]
  cases ro <;> simp [Result.andThen, sliced, Addr.add]
theorem slE_l (ro : Option Addr) (N rc K : Nat) (h1 : K ≤ N) (w : World) : (Instr.sliceAt 24 (.slice ro N rc) (some (.int .i64 (K : Int))) none none).run Tryd.prog w = .ok (.slice (fromE ro rc K) (N - K) (rc - K)) w := by
  rw [run_sliceAt_slice w 24 _ _ _ _ Tryd.undEvsE, run_slice_l w 24 _ _ _ Tryd.undEvsE .i64 (K : Int) (by omega) (by omega), Tryd.elemEvs, Tryd.sizeOfEv]
  simp [Result.andThen, sliced, fromE]
theorem ERs.from {w : World} {ao : Option Addr} {es : List Ev} (h : ERs w ao es) (rc K : Nat) (hrc : es.length ≤ rc) : ERs w (fromE ao rc K) (es.drop K) := by
  unfold fromE
  split
  · have : es.drop K = [] := List.eq_nil_of_length_eq_zero (by simp only [List.length_drop]; omega)
    rw [this]
    exact ERs.nil _ _
  · refine ⟨fun h0 => ?_, ?_, fun x hx => h.each x (List.mem_of_mem_drop hx)⟩
    · simp only [List.length_drop] at h0
      obtain ⟨b, off, e, hb, hc⟩ := h.lies (by omega)
      subst e
      refine ⟨b, off + K * 6, by simp [Addr.add], hb, fun i hi => ?_⟩
      simp only [List.length_drop] at hi
      rw [ev_drop, show off + K * 6 + i * 6 = off + (K + i) * 6 by omega]
      exact hc (K + i) (by omega)
    · have := h.few
      simp only [List.length_drop]
      omega
end Go.Proofs.YtfhfjplhfjlpaaaDoor

/- Rows of numbers that can be read; SameInts, TwinInts, LeftInts. Conditions as each names them. -/
import Derived.Test.YtfhfjplhfjlpaaaDoorRi11
import Derived.Deep.Slices
namespace Go.Proofs.YtfhfjplhfjlpaaaDoor
open Go.ChangeShapes Go.WideShapes Go.ChangeAt Go.RowKit Go.Lib Go.Maps
set_option linter.unusedVariables false
set_option linter.unusedSimpArgs false

/-- The slice at ao reads as the numbers ns. -/
structure IRs (w : World) (ao : Option Addr) (ns : List Int) : Prop where
  lies : 0 < ns.length → ∃ b off, ao = some ⟨b, off, none⟩ ∧ b < w.heap.size ∧ ∀ i, i < ns.length → w.cell? ⟨b, off + i, none⟩ = some (.int .i64 (ns.getD i 0))
  few : ns.length ≤ 17592186044416
theorem IRs.keepS {S : List Nat} {w w' : World} {ao : Option Addr} {ns : List Int} (h : IRs w ao ns) (hf : Fr S w w') (hn : 0 < ns.length → ∀ a, ao = some a → a.block ∉ S) : IRs w' ao ns := by
  refine ⟨fun h0 => ?_, h.few⟩
  obtain ⟨b, off, e, hb, hc⟩ := h.lies h0
  exact ⟨b, off, e, Nat.lt_of_lt_of_le hb hf.size, fun i hi => (World.cell?_of_block (hf.block b hb (hn h0 _ e))).trans (hc i hi)⟩
theorem IRs.keep {w w' : World} {ao : Option Addr} {ns : List Int} (h : IRs w ao ns) (hf : Fr [] w w') : IRs w' ao ns := h.keepS hf (by simp)
theorem itake_snoc (ns : List Int) (i : Nat) (h : i < ns.length) : ns.take (i + 1) = ns.take i ++ [ns.getD i 0] := by
  rw [List.take_add_one]
  simp [List.getD, h]
theorem IOw.rs {base : Nat} {w : World} {o : Option Addr} {n c : Nat} {xs : List Int} (h : IOw base w o n c xs) (hn : n ≤ 17592186044416) : IRs w o xs := by
  refine ⟨fun h0 => ?_, by rw [← h.len]; exact hn⟩
  obtain ⟨g, e, _, hg, hc⟩ := h.cells (by rw [h.len]; exact h0)
  exact ⟨g, 0, e, hg, fun j hj => by rw [Nat.zero_add]; exact hc j (by rw [h.len]; exact hj)⟩
set_option maxHeartbeats 2000000 in
set_option maxRecDepth 100000 in
theorem same12 (a b : Option Addr) (L ca cb : Nat) (xs : List Int) (w : World) (ha : IRs w a xs) (hb : IRs w b xs) (hL : L = xs.length) (hLl : L < 2 ^ 40) :
    Calls Tryd.prog 9 #[.slice a L ca, .slice b L cb] w fun e w' => e = .returned (.bool true) ∧ Fr [] w w' := by
  have HL : Hid (L = xs.length) := hL
  have hne : ((L : Int) != L) = false := by simp
  clear hL
  by_cases h0 : 0 < L
  · obtain ⟨ba, oa, rfl, _, hca⟩ := ha.lies (by rw [← HL.out]; exact h0)
    obtain ⟨bb, ob, rfl, _, hcb⟩ := hb.lies (by rw [← HL.out]; exact h0)
    rw [← HL.out] at hca hcb
    go_enter Tryd.func9, Tryd.ntmps9
    go_wp2_with fail
    go_loopw [5] (fun ii wr => ∃ (i q : Nat), ii = .int .i64 i ∧ i ≤ L ∧ wr = w.drewN q) (fun ii _ => L - (RowKit.intOf ii).toNat)
    case atStart => exact ⟨0, 0, rfl, Nat.zero_le _, rfl⟩
    case round =>
      obtain ⟨i, q, rfl, hiL, rfl⟩ := hrel
      by_cases hi : i < L
      · have hx := hca i hi
        have hy := hcb i hi
        obtain ⟨x, hxx⟩ : ∃ x, x = xs.getD i 0 := ⟨_, rfl⟩
        rw [← hxx] at hx hy
        clear hxx hca hcb
        have hb1 : (x != x) = false := by simp
        go_wp2_with fail
        go_quiet (fail)
        go_wp2
        go_roundw
        case rel => exact ⟨i + 1, q + nq, by simp, by omega, by simp⟩
        case measure => simp [RowKit.intOf]; omega
      · go_wp2
        go_ret
        exact ⟨rfl, Fr.drewN _ _ _⟩
  · obtain rfl : L = 0 := by omega
    go_enter Tryd.func9, Tryd.ntmps9
    go_wp2_with fail
    refine wp_loop_rounds 1 ?_
    rw [rounds_succ]
    go_wp2
    go_ret
    exact ⟨rfl, Fr.refl _ _⟩
def intsC (ns : List Int) : List Value := ns.map fun n => Value.int .i64 n
theorem intsC_length (xs : List Int) : (intsC xs).length = xs.length := by simp [intsC]
theorem intsC_get (xs : List Int) (j : Nat) (h : j < xs.length) : (intsC xs)[j]? = some (.int .i64 (xs.getD j 0)) := by simp [intsC, List.getD, h]
theorem Tryd.infoIW : (Tryd.prog.info? 3).map (fun i => (i.zero, i.size, i.bytes)) = some (some (.int .i64 0), 1, 8) := by kernel_rfl
theorem Tryd.undIsW : Tryd.prog.underlying 31 = some (.slice 3) := by kernel_rfl
theorem iown_full {w : World} {g n : Nat} {xs : List Value} (h : w.ownsRow 0 3 1 (.slice (some ⟨g, 0, none⟩) n n) n xs) : w.heap[g]? = some (.cells xs.toArray 3 (0, 0)) := by
  have hl := h.1
  rcases h.2 with ⟨hh, _⟩ | ⟨g', cap', cur, hh, _, hg, _, _, hcs, ht⟩
  · cases hh
  · cases hh
    rw [hg]
    congr 2
    rw [← Array.toList_inj]
    simp only
    rw [← ht, List.take_of_length_le (by simp [hcs])]
theorem IRs.of_open {w : World} {a : Addr} {len cap : Nat} {zs : List Int} (hl : len ≤ cap) (hz : zs.length = cap) (hc : ∀ i, i < zs.length → w.cell? (a.add i) = some (.int .i64 (zs.getD i 0))) (hb : len ≤ 17592186044416) : IRs w (some a) (zs.take len) := by
  refine ⟨fun h0 => ?_, by simp; omega⟩
  rw [List.length_take] at h0
  obtain ⟨b, off, spot⟩ := a
  have hspot : spot = none := by simpa [Addr.add] using World.cell?_spot (hc 0 (by omega))
  subst hspot
  refine ⟨b, off, rfl, ?_, fun j hj => ?_⟩
  · have := World.block_lt_of_cell? w _ (hc 0 (by omega))
    simpa [Addr.add] using this
  · rw [List.length_take] at hj
    have h1 := hc j (by omega)
    rw [show (⟨b, off, none⟩ : Addr).add j = ⟨b, off + j, none⟩ from by simp [Addr.add]] at h1
    rw [h1]
    congr 2
    simp only [List.getD]
    rw [List.getElem?_take_of_lt (by omega)]
end Go.Proofs.YtfhfjplhfjlpaaaDoor

/- Rows of bools; how many lanes hold one, and what an event changes of that. Conditions as each names them. -/
import Derived.Test.YtfhfjplhfjlpaaaDoorTo26
namespace Go.Proofs.YtfhfjplhfjlpaaaDoor
open Go.ChangeShapes Go.WideShapes Go.ChangeAt Go.RowKit Go.Lib
set_option linter.unusedVariables false
set_option linter.unusedSimpArgs false

theorem Tryd.infoBl : (Tryd.prog.info? 4).map (fun i => (i.zero, i.size, i.bytes)) = some (some (.bool false), 1, 1) := by kernel_rfl
theorem Tryd.undBools : Tryd.prog.underlying 57 = some (.slice 4) := by kernel_rfl
theorem made_bools (n : Nat) : (madeCells #[Value.bool false] n).toList = (List.replicate n false).map Value.bool := by
  apply List.ext_getElem?
  intro i
  by_cases h : i < n
  · simp [madeCells, h, Nat.mod_one]
  · simp [madeCells, h]
theorem bools_full {w : World} {g n : Nat} {xs : List Value} (h : w.ownsRow 0 4 1 (.slice (some ⟨g, 0, none⟩) n n) n xs) : w.heap[g]? = some (.cells xs.toArray 4 (0, 0)) := by
  have hl := h.1
  rcases h.2 with ⟨hh, _⟩ | ⟨g', cap', cur, hh, _, hg, _, _, hcs, ht⟩
  · cases hh
  · cases hh
    rw [hg]
    congr 2
    rw [← Array.toList_inj]
    simp only
    rw [← ht, List.take_of_length_le (by simp [hcs])]
theorem row_setB {w : World} {g j : Nat} {rs : List Bool} (x : Bool) (h : w.heap[g]? = some (.cells (rs.map Value.bool).toArray 4 (0, 0))) : (w.setCell ⟨g, j, none⟩ (.bool x)).heap[g]? = some (.cells ((rs.set j x).map Value.bool).toArray 4 (0, 0)) := by
  have hlt := lt_of_block h
  have h' : w.heap[g] = .cells (rs.map Value.bool).toArray 4 (0, 0) := by simpa [Array.getElem?_eq_getElem hlt] using h
  show (w.heap.modify g _)[g]? = _
  rw [Array.getElem?_eq_getElem (by simpa using hlt), Array.getElem_modify_self, h']
  simp [List.map_set]
/-- A row of bools that lies in block g. -/
def BR (w : World) (g : Nat) (rs : List Bool) : Prop := w.heap[g]? = some (.cells (rs.map Value.bool).toArray 4 (0, 0))
theorem BR.keep {S : List Nat} {w w' : World} {g : Nat} {rs : List Bool} (h : BR w g rs) (hf : Fr S w w') (hn : g ∉ S) : BR w' g rs := hf.keep h hn
theorem BR.cell {w : World} {g : Nat} {rs : List Bool} (h : BR w g rs) (i : Nat) (hi : i < rs.length) : w.cell? ⟨g, i, none⟩ = some (.bool (rs.getD i false)) := by
  rw [cell_of_row _ _ _ _ _ _ h]
  simp [List.getD, hi]
theorem BR.free {w : World} {g : Nat} {rs : List Bool} (h : BR w g rs) (i : Nat) : w.frozen? ⟨g, i, none⟩ = false := by
  unfold World.frozen?
  rw [h]
  rfl
theorem BR.put {w : World} {g : Nat} {rs : List Bool} (h : BR w g rs) (j : Nat) (x : Bool) : BR (w.setCell ⟨g, j, none⟩ (.bool x)) g (rs.set j x) := row_setB x h
theorem binfo_parts : ∃ i, Tryd.prog.info? 4 = some i ∧ i.zero = some (.bool false) ∧ i.size = 1 ∧ i.bytes = 1 := by
  have h := Tryd.infoBl
  cases hi : Tryd.prog.info? 4 with
  | none => rw [hi] at h; cases h
  | some i =>
    rw [hi] at h
    simp only [Option.map_some, Option.some.injEq, Prod.mk.injEq] at h
    exact ⟨i, rfl, h.1, h.2.1, h.2.2⟩
/-- How many hold one. -/
def busyL (h : List Bool) : Nat := h.countP id
theorem busyL_le (h : List Bool) : busyL h ≤ h.length := List.countP_le_length
theorem busy_snoc (h : List Bool) (i : Nat) (hi : i < h.length) : busyL (h.take (i + 1)) = busyL (h.take i) + (if h.getD i false = true then 1 else 0) := by
  rw [List.take_add_one]
  simp only [busyL, List.countP_append]
  simp [List.getD, hi]
set_option maxHeartbeats 4000000 in
set_option maxRecDepth 100000 in
theorem busy_any (g : Nat) (h : List Bool) (w : World) (H : BR w g h) (hL : h.length ≤ 16) : Calls Tryd.prog 59 #[.slice (some ⟨g, 0, none⟩) h.length h.length] w fun x w' => x = .returned (.int .i64 (busyL h : Nat)) ∧ Fr [] w w' := by
  have HH : Hid (∀ W, Fr [] w W → BR W g h) := fun W hf => H.keep hf (by simp)
  clear H
  obtain ⟨L, hLL⟩ : ∃ L, L = h.length := ⟨_, rfl⟩
  have HL : Hid (L = h.length) := hLL
  rw [← hLL] at hL ⊢
  clear hLL
  go_enter Tryd.func59, Tryd.ntmps59
  go_wp2_with fail
  go_loopw [3, 8] (fun mm ii wr => ∃ (i : Nat), mm = .int .i64 (busyL (h.take i) : Nat) ∧ ii = .int .i64 i ∧ i ≤ L ∧ Hid (Fr [] w wr)) (fun mm ii _ => L - (RowKit.intOf ii).toNat)
  case atStart => exact ⟨0, by simp [busyL], rfl, Nat.zero_le _, Fr.refl _ _⟩
  case round =>
    obtain ⟨i, rfl, rfl, hiL, HF⟩ := hrel
    by_cases hi : i < L
    · have c0 := (HH.out _ HF.out).cell i (by rw [← HL.out]; exact hi)
      have hs := busy_snoc h i (by rw [← HL.out]; exact hi)
      have hb := busyL_le (h.take i)
      rw [List.length_take] at hb
      have HS : Hid (_ = _) := hs
      obtain ⟨B, hB⟩ : ∃ B, B = busyL (h.take i) := ⟨_, rfl⟩
      rw [← hB] at HS hb ⊢
      have hb2 : B ≤ 16 := by omega
      clear hs hB hb
      cases hx : h.getD i false with
      | true =>
        rw [hx] at c0 HS
        have hw : IntKind.i64.wrap ((B : Int) + 1) = (B : Int) + 1 := by rw [IntKind.wrap_i64]; omega
        go_wp2_with fail
        go_roundw
        case rel => exact ⟨i + 1, by rw [HS.out]; rfl, by simp, by omega, HF⟩
        case measure => simp [intOf]; omega
      | false =>
        rw [hx] at c0 HS
        go_wp2_with fail
        go_roundw
        case rel => exact ⟨i + 1, by rw [HS.out]; rfl, by simp, by omega, HF⟩
        case measure => simp [intOf]; omega
    · obtain rfl : i = L := by omega
      have HE : Hid (busyL (h.take i) = busyL h) := by show _ = _; rw [HL.out, List.take_length]
      clear hi hiL
      go_wp2_with fail
      go_ret
      exact ⟨by rw [HE.out]; rfl, HF.out⟩
/-- What an event changes of the lanes. -/
def seeL (h : List Bool) (e : Ev) : List Bool := if 1 ≤ e.t ∧ e.t ≤ h.length then (if e.k = 4 then h.set (e.t - 1).toNat true else if e.k = 6 then h.set (e.t - 1).toNat false else h) else h
theorem seeL_length (h : List Bool) (e : Ev) : (seeL h e).length = h.length := by
  unfold seeL
  split
  · split
    · simp
    · split <;> simp
  · rfl
set_option maxHeartbeats 8000000 in
set_option maxRecDepth 100000 in
theorem see_any (g : Nat) (h : List Bool) (e : Ev) (w : World) (H : BR w g h) (hL : h.length ≤ 16) : Calls Tryd.prog 16 #[.slice (some ⟨g, 0, none⟩) h.length h.length, .agg (evA e.t e.k e.n e.s e.c e.m)] w fun x w' => x = .returned (.tuple #[]) ∧ BR w' g (seeL h e) ∧ Fr [g] w w' := by
  have HH : Hid (∀ W, Fr [] w W → BR W g h) := fun W hf => H.keep hf (by simp)
  have hgw : g < w.heap.size := lt_of_block H
  clear H
  obtain ⟨L, hLL⟩ : ∃ L, L = h.length := ⟨_, rfl⟩
  have HL : Hid (L = h.length) := hLL
  obtain ⟨s, hs⟩ : ∃ s, s = seeL h e := ⟨_, rfl⟩
  have HSe : Hid (s = seeL h e) := hs
  rw [← hs]
  rw [← hLL] at hL ⊢
  clear hLL hs
  obtain ⟨t, k, n, sx, c, m⟩ := e
  simp only [evA] at HSe ⊢
  have HE0 : Hid (∀ W, Fr [] w W → s = h → BR W g s ∧ Fr [g] w W) := fun W hf hh => ⟨by rw [hh]; exact HH.out W hf, hf.mono (by simp)⟩
  by_cases h1 : t < 1
  · have E : Hid (s = h) := by show _ = _; rw [HSe.out]; unfold seeL; rw [if_neg (by simp only; omega)]
    go_enter Tryd.func16, Tryd.ntmps16
    go_wp2_with fail
    refine bodyPost_ret (results_none rfl _ _ _) rfl ?_
    exact ⟨rfl, HE0.out _ (Fr.alloc _ _ _) E.out⟩
  · by_cases h2 : (L : Int) < t
    · have E : Hid (s = h) := by show _ = _; rw [HSe.out]; unfold seeL; rw [if_neg (by simp only; rw [← HL.out]; omega)]
      go_enter Tryd.func16, Tryd.ntmps16
      go_wp2_with fail
      refine bodyPost_ret (results_none rfl _ _ _) rfl ?_
      exact ⟨rfl, HE0.out _ (Fr.alloc _ _ _) E.out⟩
    · obtain ⟨j, rfl⟩ : ∃ j : Nat, t = (j : Int) + 1 := ⟨(t - 1).toNat, by omega⟩
      have hj : j < L := by omega
      have E0 : s = if k = 4 then h.set j true else if k = 6 then h.set j false else h := by
        rw [HSe.out]
        unfold seeL
        simp only
        rw [if_pos (by rw [← HL.out]; omega), show ((j : Int) + 1 - 1).toNat = j by omega]
      have hw : IntKind.i64.wrap ((j : Int) + 1 - 1) = (j : Int) := by rw [IntKind.wrap_i64]; omega
      have hB1 := HH.out _ (Fr.alloc [] w (.cells #[.int .i64 ((j : Int) + 1), .int .u8 k, .int .i64 n, .int .i64 sx, .int .i64 c, .int .i64 m] 54))
      have c0 := hB1.cell j (by rw [← HL.out]; exact hj)
      have c1 := hB1.free j
      generalize h.getD j false = old at c0
      by_cases h4 : k = 4
      · subst h4
        have HP2 : Hid (BR ((w.setCell ⟨g, j, none⟩ (.bool true)).alloc (.cells #[.int .i64 ((j : Int) + 1), .int .u8 4, .int .i64 n, .int .i64 sx, .int .i64 c, .int .i64 m] 54)) g s) := by rw [E0, if_pos rfl]; exact ((HH.out _ (Fr.refl _ _)).put j true).keep (Fr.alloc [] _ _) (by simp)
        clear hB1 E0 HSe HE0
        go_enter Tryd.func16, Tryd.ntmps16
        go_wp2_with fail
        refine bodyPost_end (results_none rfl _ _ _) rfl ?_
        exact ⟨rfl, HP2.out, (Fr.set w ⟨g, j, none⟩ _ (by simp)).then (Fr.alloc [g] _ _)⟩
      · by_cases h6 : k = 6
        · subst h6
          have HP2 : Hid (BR ((w.setCell ⟨g, j, none⟩ (.bool false)).alloc (.cells #[.int .i64 ((j : Int) + 1), .int .u8 6, .int .i64 n, .int .i64 sx, .int .i64 c, .int .i64 m] 54)) g s) := by rw [E0, if_neg (by decide), if_pos rfl]; exact ((HH.out _ (Fr.refl _ _)).put j false).keep (Fr.alloc [] _ _) (by simp)
          clear hB1 E0 HSe HE0
          go_enter Tryd.func16, Tryd.ntmps16
          go_wp2_with fail
          refine bodyPost_end (results_none rfl _ _ _) rfl ?_
          exact ⟨rfl, HP2.out, (Fr.set w ⟨g, j, none⟩ _ (by simp)).then (Fr.alloc [g] _ _)⟩
        · have E : Hid (s = h) := by show _ = _; rw [E0, if_neg h4, if_neg h6]
          clear c0 c1 hB1 E0
          go_enter Tryd.func16, Tryd.ntmps16
          go_wp2_with fail
          refine bodyPost_end (results_none rfl _ _ _) rfl ?_
          exact ⟨rfl, HE0.out _ (Fr.alloc _ _ _) E.out⟩
set_option maxHeartbeats 4000000 in
set_option maxRecDepth 100000 in
theorem stR4_any (a : Int) (e : Ev) (Q g : Nat) (h : List Bool) (w : World) (hQ : w.heap[Q]? = some (.cells #[.slice (some ⟨g, 0, none⟩) h.length h.length] 57 (0, 0))) (H : BR w g h) (hL : h.length ≤ 16) : Calls Tryd.prog 58 #[.int .i64 a, .agg (evA e.t e.k e.n e.s e.c e.m), .pointer (some ⟨Q, 0, none⟩)] w fun x w' => x = .returned (.int .i64 (max a (busyL h : Nat))) ∧ Fr [] w w' := by
  have HB : Hid (∀ W, Fr [] w W → Calls Tryd.prog 59 #[.slice (some ⟨g, 0, none⟩) h.length h.length] W fun x w' => x = .returned (.int .i64 (busyL h : Nat)) ∧ Fr [] W w') := fun W hf => busy_any g h W (H.keep hf (by simp)) hL
  have hq : ∀ W, Fr [] w W → W.cell? ⟨Q, 0, none⟩ = some (.slice (some ⟨g, 0, none⟩) h.length h.length) := fun W hf => by rw [cell_of_row _ _ _ _ _ _ (hf.keep hQ (by simp))]; rfl
  generalize busyL h = B at HB ⊢
  generalize h.length = L at HB hq
  obtain ⟨t, k, n, s, c, m⟩ := e
  simp only [evA]
  have hq1 := hq _ (Fr.alloc [] w (.cells #[.int .i64 t, .int .u8 k, .int .i64 n, .int .i64 s, .int .i64 c, .int .i64 m] 54))
  clear hq hQ H hL
  go_enter Tryd.func58, Tryd.ntmps58
  go_wp2_with fail
  with_reducible refine (HB.out _ (Fr.alloc _ _ _)).mono ?_
  rintro e w1 ⟨rfl, hF1⟩
  have HF1 : Hid (Fr [] _ w1) := hF1
  clear hF1 hq1 HB
  go_wp2_with fail
  · go_ret
    exact ⟨by rw [show max a (B : Int) = B by omega]; rfl, (Fr.alloc _ _ _).then HF1.out⟩
  · go_ret
    exact ⟨by rw [show max a (B : Int) = a by omega]; rfl, (Fr.alloc _ _ _).then HF1.out⟩
end Go.Proofs.YtfhfjplhfjlpaaaDoor

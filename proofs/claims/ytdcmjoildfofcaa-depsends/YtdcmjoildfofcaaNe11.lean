/- The statements' own helper near; rows of numbers that lie in a block. Conditions as each names them. -/
import Derived.Test.YtdcmjoildfofcaaLc11
namespace Go.Proofs.Ytdcmjoildfofcaa
open Go.ChangeShapes Go.WideShapes Go.ChangeAt Go.RowKit Go.Lib Go.Maps
set_option linter.unusedVariables false
set_option linter.unusedSimpArgs false

/-- A world that came out of w1 without a change of what lay there. -/
structure Wd (w1 : World) where
  W : World
  h : Fr [] w1 W
instance (w1 : World) : Nonempty (Wd w1) := ⟨⟨w1, Fr.refl _ _⟩⟩
theorem wp_region_wd {P : Program} {w1 wr : World} {id : Nat} {Q : Exit → Act → World → Prop} {a : Act} {l : List Oper} (hm : P.follows .mixedOrders = true) (hB : Region.lexB .any l.toArray = true) (hf : Fr [] w1 wr)
    (h : wpQuiet P l.toArray (fun w' => ∃ x : Wd w1, w' = x.W) (fun a' => ∀ w', (∃ x : Wd w1, w' = x.W) → Q .normal a' w') l a) : (Code.region id l.toArray true).wp P Q a wr :=
  wp_region_quiet (C := fun w' => ∃ x : Wd w1, w' = x.W) hm hB ⟨⟨_, hf.then (Fr.drew [] wr)⟩, rfl⟩ (by simpa using h)
/-- Some key is written by both. -/
def NearW (ws vs : List Wt) : Prop := ∃ x ∈ ws, ∃ y ∈ vs, x.key = y.key
theorem wgetD_mem' (ws : List Wt) (x : Wt) : x ∈ ws ↔ ∃ j, j < ws.length ∧ ws.getD j Wt.zero = x := by
  rw [List.mem_iff_getElem]
  constructor
  · rintro ⟨j, hj, e⟩; exact ⟨j, hj, by simpa [List.getD, hj] using e⟩
  · rintro ⟨j, hj, e⟩; exact ⟨j, hj, by simpa [List.getD, hj] using e⟩
theorem tl_inj11 (a b : ByteArray) : a.toList = b.toList ↔ a = b := by
  constructor
  · intro h
    rw [ByteArray.toList_eq, ByteArray.toList_eq] at h
    cases a
    cases b
    simp at h
    rw [h]
  · rintro rfl; rfl
set_option maxHeartbeats 4000000 in
set_option maxRecDepth 100000 in
theorem near_any (na nb : Int) (xo yo : Option Addr) (M cm K ck : Nat) (ws vs : List Wt) (R : Bool) (w : World) (hW : WRs w xo ws) (hM : M = ws.length) (hV : WRs w yo vs) (hK : K = vs.length) (hR : R = true ↔ NearW ws vs) :
    Calls Try.prog 14 #[.agg #[.int .i64 na, .slice xo M cm], .agg #[.int .i64 nb, .slice yo K ck]] w fun e w' => e = .returned (.bool R) ∧ Fr [] w w' := by
  have hMf : M ≤ 140737488355328 := by rw [hM]; exact hW.few
  have hKf : K ≤ 140737488355328 := by rw [hK]; exact hV.few
  obtain ⟨w1, HW1⟩ : ∃ w1, Hid ((w.alloc (.cells #[.int .i64 na, .slice xo M cm] 31)).alloc (.cells #[.int .i64 nb, .slice yo K ck] 31) = w1) := ⟨_, rfl⟩
  have hF1 : Fr [] w w1 := by rw [← HW1.out]; exact (Fr.alloc _ _ _).then (Fr.alloc _ _ _)
  have hb1 : w1.heap[w.heap.size + 1]? = some (.cells #[.int .i64 nb, .slice yo K ck] 31 (0, 0)) := by
    rw [← HW1.out, show w.heap.size + 1 = (w.alloc (.cells #[.int .i64 na, .slice xo M cm] 31)).heap.size from by simp]
    exact heap_alloc_new _ _
  have hb0 : w1.heap[w.heap.size]? = some (.cells #[.int .i64 na, .slice xo M cm] 31 (0, 0)) := by
    rw [← HW1.out]
    exact (Fr.alloc [] _ _).keep (heap_alloc_new w _) (by simp)
  have HC : Hid (∀ W, Fr [] w1 W → W.cell? ⟨w.heap.size, 1, none⟩ = some (.slice xo M cm) ∧ W.cell? ⟨w.heap.size + 1, 1, none⟩ = some (.slice yo K ck)) := fun W hf => by
    have e0 := hf.keep hb0 (by simp)
    have e1 := hf.keep hb1 (by simp)
    exact ⟨by rw [cell_of_row _ _ _ _ _ _ e0]; rfl, by rw [cell_of_row _ _ _ _ _ _ e1]; rfl⟩
  have HWs : Hid (∀ W, Fr [] w1 W → WRs W xo ws ∧ WRs W yo vs) := fun W hf => ⟨hW.keep (hF1.then hf), hV.keep (hF1.then hf)⟩
  have HM : Hid (M = ws.length) := hM
  have HK : Hid (K = vs.length) := hK
  have HR : Hid (R = true ↔ NearW ws vs) := hR
  clear hb0 hb1 hM hK hR hW hV
  go_enter Try.func14, Try.ntmps14
  go_wp2_with fail
  rw [HW1.out]
  clear HW1
  go_loopw [5] (fun ii wr => ∃ (i : Nat), ii = .int .i64 i ∧ i ≤ M ∧ Hid (∀ t, t < i → ∀ y ∈ vs, (ws.getD t Wt.zero).key ≠ y.key) ∧ Hid (Fr [] w1 wr)) (fun ii _ => M - (RowKit.intOf ii).toNat)
  case atStart => exact ⟨0, rfl, Nat.zero_le _, fun t ht => by omega, Fr.refl _ _⟩
  case round =>
    obtain ⟨i, rfl, hiM, HE, HF⟩ := hrel
    obtain ⟨wo, hwo⟩ : ∃ wo, wo = wr := ⟨_, rfl⟩
    subst hwo
    obtain ⟨c0, c1⟩ := HC.out _ HF.out
    by_cases hi : i < M
    · have hi' : i < ws.length := by rw [← HM.out]; exact hi
      go_wp2_with fail
      go_loopw [6] (fun ii wr => ∃ (k : Nat), ii = .int .i64 k ∧ k ≤ K ∧ Hid (∀ t, t < k → (ws.getD i Wt.zero).key ≠ (vs.getD t Wt.zero).key) ∧ Hid (Fr [] wo wr)) (fun ii _ => K - (RowKit.intOf ii).toNat)
      case atStart => exact ⟨0, rfl, Nat.zero_le _, fun t ht => by omega, Fr.refl _ _⟩
      case round =>
        obtain ⟨k, rfl, hkK, HJ, HFk⟩ := hrel
        have hG := HF.out.then HFk.out
        obtain ⟨d0, d1⟩ := HC.out _ hG
        by_cases hk : k < K
        · have hk' : k < vs.length := by rw [← HK.out]; exact hk
          obtain ⟨r1, r2⟩ := HWs.out _ hG
          obtain ⟨b1, o1, rfl, _, q1⟩ := r1.lies (by omega)
          obtain ⟨b2, o2, rfl, _, q2⟩ := r2.lies (by omega)
          have f1 := (q1 i hi').c0
          have f2 := (q2 k hk').c0
          obtain ⟨x, hx⟩ : ∃ x, x = (ws.getD i Wt.zero).key := ⟨_, rfl⟩
          obtain ⟨y, hy⟩ : ∃ y, y = (vs.getD k Wt.zero).key := ⟨_, rfl⟩
          rw [← hx] at f1
          rw [← hy] at f2
          have HX : Hid (x = (ws.getD i Wt.zero).key) := hx
          have HY : Hid (y = (vs.getD k Wt.zero).key) := hy
          clear q1 q2 r1 r2 hx hy
          by_cases he : x = y
          · have heq : (x.toList == y.toList) = true := by rw [he]; simp
            have hRt : R = true := HR.out.2 ⟨_, wgetD_mem11 ws i hi', _, wgetD_mem11 vs k hk', by rw [← HX.out, ← HY.out]; exact he⟩
            subst hRt
            clear he
            go_wp2_with fail
            go_quiet (fail)
            go_wp2
            go_ret
            exact ⟨rfl, (hF1.then hG).then (Fr.drewN _ _ _)⟩
          · have heq : (x.toList == y.toList) = false := by rw [beq_eq_false_iff_ne]; exact fun h => he ((tl_inj11 _ _).1 h)
            have HJ2 : Hid (∀ t, t < k + 1 → (ws.getD i Wt.zero).key ≠ (vs.getD t Wt.zero).key) := fun t ht => by
              by_cases e : t = k
              · rw [e, ← HX.out, ← HY.out]; exact he
              · exact HJ.out t (by omega)
            go_wp2_with fail
            go_quiet (fail)
            go_wp2
            go_roundw
            case rel => exact ⟨k + 1, by simp, by omega, HJ2.out, HFk.out.then (Fr.drewN _ _ _)⟩
            case measure => simp [RowKit.intOf]; omega
        · obtain rfl : K = k := by omega
          have HE2 : Hid (∀ t, t < i + 1 → ∀ y ∈ vs, (ws.getD t Wt.zero).key ≠ y.key) := fun t ht y hy => by
            by_cases e : t = i
            · obtain ⟨j, hj, rfl⟩ := (wgetD_mem' vs y).1 hy
              rw [e]
              exact HJ.out j (by rw [HK.out]; exact hj)
            · exact HE.out t (by omega) y hy
          go_wp2
          go_roundw
          case rel => exact ⟨i + 1, by simp, by omega, HE2.out, hG⟩
          case measure => simp [RowKit.intOf]; omega
    · have hRf : R = false := by
        cases hh : R with
        | false => rfl
        | true =>
          obtain ⟨x, hx, y, hy, e⟩ := HR.out.1 hh
          obtain ⟨j, hj, rfl⟩ := (wgetD_mem' ws x).1 hx
          exact absurd e (HE.out j (by have := HM.out; omega) y hy)
      subst hRf
      go_wp2
      go_ret
      exact ⟨rfl, hF1.then HF.out⟩
/-- A row of numbers that lies in block g. -/
def NR (w : World) (g : Nat) (ns : List Int) : Prop := w.heap[g]? = some (.cells (ns.map (Value.int .i64)).toArray 3 (0, 0))
theorem NR.keep {S : List Nat} {w w' : World} {g : Nat} {ns : List Int} (h : NR w g ns) (hf : Fr S w w') (hn : g ∉ S) : NR w' g ns := hf.keep h hn
theorem NR.cell {w : World} {g : Nat} {ns : List Int} (h : NR w g ns) (i : Nat) (hi : i < ns.length) : w.cell? ⟨g, i, none⟩ = some (.int .i64 (ns.getD i 0)) := by
  rw [cell_of_row _ _ _ _ _ _ h]
  simp [List.getD, hi]
theorem NR.free {w : World} {g : Nat} {ns : List Int} (h : NR w g ns) (i : Nat) : w.frozen? ⟨g, i, none⟩ = false := by
  unfold World.frozen?
  rw [h]
  rfl
theorem NR.put {w : World} {g j : Nat} {ns : List Int} (x : Int) (h : NR w g ns) : NR (w.setCell ⟨g, j, none⟩ (.int .i64 x)) g (ns.set j x) := by
  have h0 : w.heap[g]? = some (.cells (ns.map (Value.int .i64)).toArray 3 (0, 0)) := h
  have hlt := lt_of_block h0
  have h' : w.heap[g] = .cells (ns.map (Value.int .i64)).toArray 3 (0, 0) := by simpa [Array.getElem?_eq_getElem hlt] using h0
  show (w.heap.modify g _)[g]? = _
  rw [Array.getElem?_eq_getElem (by simpa using hlt), Array.getElem_modify_self, h']
  simp [List.map_set]
theorem ints_full {w : World} {g n : Nat} {xs : List Value} (h : w.ownsRow 0 3 1 (.slice (some ⟨g, 0, none⟩) n n) n xs) : w.heap[g]? = some (.cells xs.toArray 3 (0, 0)) := by
  have hl := h.1
  rcases h.2 with ⟨hh, _⟩ | ⟨g', cap', cur, hh, _, hg, _, _, hcs, ht⟩
  · cases hh
  · cases hh
    rw [hg]
    congr 2
    rw [← Array.toList_inj]
    simp only
    rw [← ht, List.take_of_length_le (by simp [hcs])]
end Go.Proofs.Ytdcmjoildfofcaa

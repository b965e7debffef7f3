/- Take: contracts. Conditions: the transaction is there; no longer than any machine holds. -/
import Derived.Test.YtakbodlicfmkjaaGreatLn14
namespace Go.Proofs.YtakbodlicfmkjaaGreat
open Go.ChangeShapes Go.WideShapes Go.ChangeAt Go.RowKit Go.Lib Go.Maps
set_option linter.unusedVariables false
set_option linter.unusedSimpArgs false

section
variable {w : World} {lb : Nat} {nm l s x q : Int} {v : Value} {st : Option Hl} {S : List Nat}
theorem ltake_no (p : Option Addr) (n : Int) (ao : Option Addr) (L cap : Nat) (h : NoL w p) : Calls Tryz.prog 277 #[.pointer p, .agg #[.int .i64 n, .slice ao L cap]] w fun e w' => e = .returned (.int .i64 2) ∧ Fr [] w w' := by
  have HT : Hid (Calls _ _ _ _ _) := lthere_no p (h.keep (Fr.alloc [] w (.cells #[.int .i64 n, .slice ao L cap] 59)) (by simp))
  clear h
  go_enter Tryz.func277, Tryz.ntmps277
  go_wp2_with fail
  refine Calls.mono HT.out ?_
  rintro e w1 ⟨rfl, rfl⟩
  go_wp2
  go_ret
  exact ⟨rfl, Fr.alloc _ _ _⟩
theorem ltake_busy {hl : Hl} (n : Int) (ao : Option Addr) (L cap : Nat) (h : LnM w lb nm l s x q (some hl) S) : Calls Tryz.prog 277 #[.pointer (some ⟨lb, 0, none⟩), .agg #[.int .i64 n, .slice ao L cap]] w fun e w' => e = .returned (.int .i64 10) ∧ Fr [] w w' := by
  have h1 := h.kept _ (Fr.alloc [] w (.cells #[.int .i64 n, .slice ao L cap] 59))
  have HT : Hid (Calls _ _ _ _ _) := lthere_any h1
  obtain ⟨ub, _, _, _, hb, _⟩ := h1
  have HD : Hid (Calls _ _ _ _ _) := ldoing_some hb
  clear hb h
  go_enter Tryz.func277, Tryz.ntmps277
  go_wp2_with fail
  refine Calls.mono HT.out ?_
  rintro e w1 ⟨rfl, rfl⟩
  go_wp2_with fail
  refine Calls.mono HD.out ?_
  rintro e w1 ⟨rfl, rfl⟩
  go_wp2
  go_ret
  exact ⟨rfl, Fr.alloc _ _ _⟩
theorem ltake_bad (n : Int) (ao : Option Addr) (L cap : Nat) (ws : List Wt) (h : LnM w lb nm l s x q none S) (hT : TArg w n ao L cap ws) (hno : ¬ okT n ws) : Calls Tryz.prog 277 #[.pointer (some ⟨lb, 0, none⟩), .agg #[.int .i64 n, .slice ao L cap]] w fun e w' => e = .returned (.int .i64 1) ∧ Fr [] w w' := by
  have hF0 := Fr.alloc [] w (.cells #[.int .i64 n, .slice ao L cap] 59)
  have h1 := h.kept _ hF0
  have HT : Hid (Calls _ _ _ _ _) := lthere_any h1
  have HD : Hid (Calls _ _ _ _ _) := ldoing_none h1
  have HC : Hid (Calls _ _ _ _ _) := check_any n ao L cap 1 ws _ (hT.rs.keep hF0) hT.len hT.n0 hT.n1 (.inr ⟨hno, rfl⟩)
  clear h h1 hT hno
  go_enter Tryz.func277, Tryz.ntmps277
  go_wp2_with fail
  refine Calls.mono HT.out ?_
  rintro e w1 ⟨rfl, rfl⟩
  go_wp2_with fail
  refine Calls.mono HD.out ?_
  rintro e w1 ⟨rfl, rfl⟩
  go_wp2_with fail
  refine Calls.mono HC.out ?_
  rintro e w1 ⟨rfl, hF1⟩
  have HF : Hid (Fr [] w w1) := hF0.then hF1
  clear hF1
  go_wp2
  go_ret
  exact ⟨rfl, HF.out⟩
set_option maxHeartbeats 4000000 in
set_option maxRecDepth 100000 in
theorem ltake_any (n : Int) (ao : Option Addr) (L cap : Nat) (ws : List Wt) (h : LnM w lb nm l s x q none S) (hT : TArg w n ao L cap ws) (hok : okT n ws) : Calls Tryz.prog 277 #[.pointer (some ⟨lb, 0, none⟩), .agg #[.int .i64 n, .slice ao L cap]] w fun e w' => ∃ S', e = .returned (.int .i64 0) ∧ LnM w' lb nm l s x q (some ⟨n, dd ws, 0⟩) S' ∧ (∀ k ∈ S', w.heap.size ≤ k ∧ k < w'.heap.size) ∧ Fr [lb] w w' := by
  have hF0 := Fr.alloc [] w (.cells #[.int .i64 n, .slice ao L cap] 59)
  have hrow0 : (w.alloc (.cells #[.int .i64 n, .slice ao L cap] 59)).heap[w.heap.size]? = some (.cells #[.int .i64 n, .slice ao L cap] 59 (0, 0)) := heap_alloc_new w _
  have h1 := h.kept _ hF0
  have HT : Hid (Calls _ _ _ _ _) := lthere_any h1
  have HD : Hid (Calls _ _ _ _ _) := ldoing_none h1
  have HC : Hid (Calls _ _ _ _ _) := check_any n ao L cap 0 ws _ (hT.rs.keep hF0) hT.len hT.n0 hT.n1 (.inl ⟨hok, rfl⟩)
  have hlen := hT.len
  have HQ : Hid (∀ W, Fr [] w W → Calls Tryz.prog 285 #[.slice ao L cap] W fun e w' => ∃ ro N rc, e = .returned (.slice ro N rc) ∧ WOw W w' ro N rc (dd ws) ∧ Fr [] W w') := fun W hf => counting_any ao L cap ws W (hT.rs.keep hf) hT.len (by have := hok.2.2.1; omega) (fun y hy => (hok.2.2.2 y hy).2.1)
  have HK : Hid (∀ W, Fr [] w W → LnB W lb nm l s x q noV) := fun W hf => LnB.keep h hf (by simp)
  have hlb := h.lt
  have HX : Hid (∀ W w4 ro N rc, Fr [] w W → w.heap.size < W.heap.size → WOw W w4 ro N rc (dd ws) → Fr [] W w4 →
      w4.cell? ⟨lb, 5, none⟩ = some noV ∧ w4.frozen? ⟨lb, 5, none⟩ = false ∧
      (w4.alloc (.cells #[.int .i64 n, .slice ro N rc, .int .i64 0] 392)).cell? ⟨lb, 5, none⟩ = some noV ∧ (w4.alloc (.cells #[.int .i64 n, .slice ro N rc, .int .i64 0] 392)).frozen? ⟨lb, 5, none⟩ = false ∧
      LnM ((w4.alloc (.cells #[.int .i64 n, .slice ro N rc, .int .i64 0] 392)).setCell ⟨lb, 5, none⟩ (.iface 389 (.pointer (some ⟨w4.heap.size, 0, none⟩)))) lb nm l s x q (some ⟨n, dd ws, 0⟩) (w4.heap.size :: (ro.map (·.block)).toList) ∧
      (∀ k ∈ w4.heap.size :: (ro.map (·.block)).toList, w.heap.size ≤ k ∧ k < ((w4.alloc (.cells #[.int .i64 n, .slice ro N rc, .int .i64 0] 392)).setCell ⟨lb, 5, none⟩ (.iface 389 (.pointer (some ⟨w4.heap.size, 0, none⟩)))).heap.size) ∧ Fr [lb] w ((w4.alloc (.cells #[.int .i64 n, .slice ro N rc, .int .i64 0] 392)).setCell ⟨lb, 5, none⟩ (.iface 389 (.pointer (some ⟨w4.heap.size, 0, none⟩)))) ∧ Fr [lb] W ((w4.alloc (.cells #[.int .i64 n, .slice ro N rc, .int .i64 0] 392)).setCell ⟨lb, 5, none⟩ (.iface 389 (.pointer (some ⟨w4.heap.size, 0, none⟩))))) := by
    intro W w4 ro N rc hf hsz hO hf4
    have hG4 := hf.then hf4
    have hb4 := HK.out _ hG4
    have fA : Fr [] w4 (w4.alloc (.cells #[.int .i64 n, .slice ro N rc, .int .i64 0] 392)) := Fr.alloc _ _ _
    have hb5 := HK.out _ (hG4.then fA)
    have fS : Fr [lb] (w4.alloc (.cells #[.int .i64 n, .slice ro N rc, .int .i64 0] 392)) ((w4.alloc (.cells #[.int .i64 n, .slice ro N rc, .int .i64 0] 392)).setCell ⟨lb, 5, none⟩ (.iface 389 (.pointer (some ⟨w4.heap.size, 0, none⟩)))) := Fr.set _ _ _ (by simp)
    have hrow : (w4.alloc (.cells #[.int .i64 n, .slice ro N rc, .int .i64 0] 392)).heap[w4.heap.size]? = some (.cells #[.int .i64 n, .slice ro N rc, .int .i64 0] 392 (0, 0)) := heap_alloc_new w4 _
    have hlb4 : lb < w4.heap.size := Nat.lt_of_lt_of_le hlb hG4.size
    have hmem : ∀ y ∈ dd ws, y.key.size ≤ 140737488355328 ∧ y.val.size ≤ 140737488355328 := fun y hy => hT.rs.each y (dd_mem ws y hy)
    have hdl : (dd ws).length ≤ 32 := by have := dd_len ws; have := hok.2.2.1; omega
    have hrs4 : WRs w4 ro (dd ws) := hO.rs (by omega) hmem
    have hnew := hO.new
    have hW := hf.size
    have hblk : 0 < (dd ws).length → ∀ a, ro = some a → a.block < w4.heap.size := by
      intro hp a ha
      obtain ⟨b, off, e, hb, _⟩ := hrs4.lies hp
      rw [e] at ha
      cases ha
      exact hb
    refine ⟨hb4.c5, hb4.fz 5, hb5.c5, hb5.fz 5, ⟨w4.heap.size, ro, N, rc, hb5.set _, ⟨fS.keep hrow (by simp; omega), hO.len, hO.cap, (hrs4.keep fA).keepS fS ?_, ?_, by simpa using by omega⟩, by omega, by simp, ?_⟩, ?_, ?_, ((hf4.then fA).mono (by simp)).then fS⟩
    · intro hp a ha
      have := hnew a ha
      simp
      omega
    · intro hp a ha
      have := hblk hp a ha
      omega
    · intro hp a ha
      have := hnew a ha
      refine ⟨?_, by omega⟩
      rw [ha]
      simp
    · intro k hk
      simp only [List.mem_cons, Option.mem_toList, Option.map_eq_some_iff] at hk
      have hs5 := fS.size
      have hs6 : (w4.alloc (.cells #[.int .i64 n, .slice ro N rc, .int .i64 0] 392)).heap.size = w4.heap.size + 1 := by simp
      rw [hs6] at hs5
      rcases hk with rfl | ⟨a, ha, rfl⟩
      · exact ⟨hG4.size, by omega⟩
      · have := hO.old a ha
        exact ⟨Nat.le_trans hW (hnew a ha), by omega⟩
    · exact ((hG4.then fA).mono (by simp)).then fS
  clear h h1 hok hlen hT
  go_enter Tryz.func277, Tryz.ntmps277
  go_wp2_with fail
  refine Calls.mono HT.out ?_
  rintro e w1 ⟨rfl, rfl⟩
  go_wp2_with fail
  refine Calls.mono HD.out ?_
  rintro e w1 ⟨rfl, rfl⟩
  go_wp2_with fail
  refine Calls.mono HC.out ?_
  rintro e w1 ⟨rfl, hF1⟩
  have hG1 : Fr [] w w1 := hF0.then hF1
  have hrow1 := hF1.keep hrow0 (by simp)
  have hs1 : w.heap.size < w1.heap.size := lt_of_block hrow1
  have c0 : w1.cell? ⟨w.heap.size, 0, none⟩ = some (.int .i64 n) := by rw [cell_of_row _ _ _ _ _ _ hrow1]; rfl
  have c1 : w1.cell? ⟨w.heap.size, 1, none⟩ = some (.slice ao L cap) := by rw [cell_of_row _ _ _ _ _ _ hrow1]; rfl
  have HR : Hid (∀ W, Fr [lb] w1 W → W.cell? ⟨w.heap.size, 0, none⟩ = some (.int .i64 n) ∧ W.cell? ⟨w.heap.size, 1, none⟩ = some (.slice ao L cap)) := fun W hf => by
    have := hf.keep hrow1 (by simp; omega)
    exact ⟨by rw [cell_of_row _ _ _ _ _ _ this]; rfl, by rw [cell_of_row _ _ _ _ _ _ this]; rfl⟩
  clear hF1 hrow0 hrow1 hF0 HT HD HC
  go_upto_region 9 with fail
  go_region_held3 (fun W => W.cell? ⟨w.heap.size, 0, none⟩ = some (.int .i64 n) ∧ W.cell? ⟨w.heap.size, 1, none⟩ = some (.slice ao L cap)) (go_keep)
    (first
      | (go_at_call 285; with_reducible refine Calls.mono (HQ.out _ (by first | exact hG1.then (Fr.drew [] _) | exact hG1.then (Fr.drewN [] _ _) | exact hG1)) ?_; rintro e w4 ⟨ro, N, rc, rfl, hO4, hF4⟩; obtain ⟨k0, k1, k2, k3, k4, k5, k6, k7⟩ := HX.out _ w4 ro N rc (by first | exact hG1.then (Fr.drew [] _) | exact hG1.then (Fr.drewN [] _ _) | exact hG1) (by first | exact hs1 | simpa using hs1) hO4 hF4; obtain ⟨j0, j1⟩ := HR.out w4 (by first | exact (Fr.drew _ _).then (hF4.mono (by simp)) | exact (Fr.drewN _ _ _).then (hF4.mono (by simp)) | exact hF4.mono (by simp)); obtain ⟨j2, j3⟩ := HR.out _ (by first | exact (Fr.drew _ _).then k7 | exact (Fr.drewN _ _ _).then k7 | exact k7)))
  all_goals (
    go_wp2
    go_ret
    exact ⟨_, rfl, k4, k5, k6⟩)
end
end Go.Proofs.YtakbodlicfmkjaaGreat

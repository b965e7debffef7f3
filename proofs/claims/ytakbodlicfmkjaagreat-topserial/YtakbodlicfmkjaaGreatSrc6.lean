/- A source of records: contracts of copied, there, New, Get, Asked, Last. Conditions as each names them. -/
import Derived.Test.YtakbodlicfmkjaaGreatRd6
import Derived.Deep.CutRange
namespace Go.Proofs.YtakbodlicfmkjaaGreat.F
open Go.ChangeShapes Go.WideShapes Go.ChangeAt Go.RowKit Go.Lib
set_option linter.unusedVariables false

theorem run_copy_big {P : Program} (w : World) (dT sT ty elem : TypeId) (size g L dCap : Nat) (a : Addr) (sCap : Nat) (cur : Array Value) (t : TypeId) (cs : List Value)
    (hu : P.underlying dT = some (.slice elem)) (hs : (P.info? elem).map (·.size) = some size) (hg : w.heap[g]? = some (.cells cur t (0, 0))) (hn : cs.length = L * size)
    (hsrc : ∀ j v, cs[j]? = some v → w.cell? (a.add j) = some v) (hfit : cs.length = cur.size) (h1 : ∀ v ∈ cs, v.oneCell' = true) :
    (Builtin.copy_ #[dT, sT] ty #[.slice (some ⟨g, 0, none⟩) L dCap, .slice (some a) L sCap]).run P w = .ok (goInt L) (w.setRow g cs.toArray) := by
  have hl := run_loadCells_list (P := P) w a cs hsrc
  have hst := run_storeCells_at P g 0 t cs 0 cur w hg (by omega) h1
  have hm : Nat.min L L = L := Nat.min_self L
  have hd : cur.toList.drop cs.length = [] := by rw [hfit]; simp
  cases hq : P.info? elem with
  | none => simp [hq] at hs
  | some i =>
    have hi : i.size = size := by simpa [hq] using hs
    simp [Builtin.copy_, run_underlying hu, Builtin.lenOf, Builtin.firstCells, sizeOf, typeInfo, hq, hi, ← hn, hl, hst, hd]
theorem run_copy_zero {P : Program} (w : World) (dT sT ty elem : TypeId) (size : Nat) (d a : Option Addr) (dCap sCap : Nat) (hu : P.underlying dT = some (.slice elem)) (hs : (P.info? elem).map (·.size) = some size) :
    (Builtin.copy_ #[dT, sT] ty #[.slice d 0 dCap, .slice a 0 sCap]).run P w = .ok (goInt 0) w := by
  cases hq : P.info? elem with
  | none => simp [hq] at hs
  | some i =>
    have hl : ∀ (x : Addr), (loadCells x 0).run P w = .ok #[] w := fun x => by simpa using run_loadCells_list (P := P) w x [] (by simp)
    cases d <;> cases a <;> simp [Builtin.copy_, run_underlying hu, Builtin.lenOf, Builtin.firstCells, sizeOf, typeInfo, hq, storeCells, hl]
theorem Tryz.sizeWt : (Tryz.prog.info? 56).map (·.size) = some 3 := by kernel_rfl
theorem res_cell1 {fn : Func} {p : Tmp} {t : TypeId} (h : fn.results = #[.cell p t]) (tmps : Array Value) (P : Program) (w : World) :
    (results fn tmps).run P w = ((asAddr (tmps.getD p undef)).run P w).andThen fun a w₁ => (loadVar t a).run P w₁ := by
  simp only [results, h]
  simp [Sem.run_bind, Result.andThen]
/-- The writes of a slice as cells of memory. -/
theorem _root_.Go.Proofs.YtakbodlicfmkjaaGreat.WRs.src {w : World} {b off : Nat} {ws : List Wt} (h : WRs w (some ⟨b, off, none⟩) ws) (h0 : 0 < ws.length) : ∀ j u, (wtsC ws)[j]? = some u → w.cell? ((⟨b, off, none⟩ : Addr).add j) = some u := by
  intro j u hj
  obtain ⟨b', off', e, _, hc⟩ := h.lies h0
  cases e
  have hlt : j < ws.length * 3 := by have := (List.getElem?_eq_some_iff.1 hj).1; rwa [wtsC_length] at this
  have hi : j / 3 < ws.length := by omega
  have hr : j % 3 < 3 := Nat.mod_lt _ (by omega)
  have hjj : j / 3 * 3 + j % 3 = j := by omega
  have h1 := wtsC_get ws (j / 3) (j % 3) hi hr
  rw [hjj, hj] at h1
  have hA := hc (j / 3) hi
  rw [Addr.add_lit]
  have hcase : j % 3 = 0 ∨ j % 3 = 1 ∨ j % 3 = 2 := by omega
  rcases hcase with h2 | h2 | h2
  · rw [h2] at h1
    have e1 : off + j = off + j / 3 * 3 := by omega
    rw [e1, hA.c0]
    simpa [wtC] using h1.symm
  · rw [h2] at h1
    have e1 : off + j = off + j / 3 * 3 + 1 := by omega
    rw [e1, hA.c1]
    simpa [wtC] using h1.symm
  · rw [h2] at h1
    have e1 : off + j = off + j / 3 * 3 + 2 := by omega
    rw [e1, hA.c2]
    simpa [wtC] using h1.symm

set_option maxHeartbeats 4000000 in
set_option maxRecDepth 100000 in
theorem copied_any (n : Int) (ao : Option Addr) (L cap : Nat) (ws : List Wt) (w : World) (ht : TArg w n ao L cap ws) (hL : L ≤ 32) :
    Calls Tryz.prog 27 #[.agg #[.int .i64 n, .slice ao L cap]] w fun e w' => ∃ k, e = .returned (.agg #[.int .i64 n, .slice (some ⟨k, 0, none⟩) L L]) ∧ w.heap.size ≤ k ∧ w'.heap[k]? = some (.cells (wtsC ws).toArray 56 (0, 0)) ∧ Fr [] w w' := by
  have HL : Hid (L = ws.length) := ht.len
  obtain ⟨iW, hiW, hzW, hsW⟩ := info_parts2 Tryz.infoWt
  have hbW : iW.bytes ≤ 64 := by have := Tryz.bytesWt; rw [hiW] at this; simpa using this
  obtain ⟨w0, HW0⟩ : ∃ w0, Hid ((w.alloc (.cells #[.int .i64 n, .slice ao L cap] 59)).alloc (.cells #[.int .i64 0, .slice none 0 0] 59) = w0) := ⟨_, rfl⟩
  have hF0 : Fr [] w w0 := by rw [← HW0.out]; exact (Fr.alloc [] w _).then (Fr.alloc [] _ _)
  have hP0 : B2 w0 w.heap.size (.int .i64 n) (.slice ao L cap) := ⟨by rw [← HW0.out]; exact (Below.heap_alloc _ _ _ (by simp)).trans (heap_alloc_new w _)⟩
  have hT0 : B2 w0 (w.heap.size + 1) (.int .i64 0) (.slice none 0 0) := ⟨by rw [← HW0.out]; have := heap_alloc_new (w.alloc (.cells #[.int .i64 n, .slice ao L cap] 59)) (.cells #[.int .i64 0, .slice none 0 0] 59); rw [World.size_alloc] at this; exact this⟩
  have hs0 : w.heap.size + 2 ≤ w0.heap.size := by rw [← HW0.out]; simp
  obtain ⟨p0, p1⟩ : _ ∧ _ := ⟨hP0.c0, hP0.c1⟩
  have hW0 := ht.rs.keep hF0
  go_enter Tryz.func27, Tryz.ntmps27
  go_upto_region 1 with fail
  rw [HW0.out]
  clear HW0
  go_wp2_with (at_make; refine wpList_make_full _ rfl (.tmp 6) (.tmp 6) 57 rfl 0 56 iW _ 3 Tryz.undWs hiW hzW hsW .i64 .i64 L L L rfl rfl rfl rfl ?b2 ?b3 ?b4 ?_)
  case b2 => have : iW.bytes * L ≤ 64 * 32 := Nat.mul_le_mul hbW hL; omega
  case b3 => unfold maxLen; omega
  case b4 => exact Nat.zero_le _
  intro w1 hown hgrow
  obtain ⟨R0, hR0, hM0⟩ := made_row hown
  have hF1 : Fr [] w0 w1 := Fr.grown (S := []) hgrow (by simp)
  obtain ⟨k, hk⟩ : ∃ k, k = w0.heap.size := ⟨_, rfl⟩
  have hk0 : w.heap.size + 2 ≤ k := by omega
  rw [← hk] at hM0 ⊢
  have hrow1 : w1.heap[k]? = some (.cells R0.toArray 56 (0, 0)) := by have := hM0.box; simpa [wtsC] using this
  have hP1 := hP0.keep hF1
  have hT1 := hT0.keep hF1
  have hW1 := hW0.keep hF1
  have hG1 := hF0.then hF1
  obtain ⟨q0, q1⟩ : _ ∧ _ := ⟨hP1.c0, hP1.c1⟩
  clear hown hgrow hM0 hk p0 p1 hP0 hT0 hW0 hF0 hF1
  by_cases h0 : 0 < L
  · obtain ⟨b, off, e1, _, _⟩ := hW1.lies (by have := HL.out; omega)
    subst e1
    have hcp := run_copy_big (P := Tryz.prog) w1 57 57 3 56 3 k L L ⟨b, off, none⟩ cap R0.toArray 56 (wtsC ws) Tryz.undWs Tryz.sizeWt hrow1 (by rw [wtsC_length, HL.out]) (hW1.src (by have := HL.out; omega)) (by rw [wtsC_length, ← HL.out]; simp [hR0]) (wtsC_oneCell ws)
    have hrow2 := setRow_heap w1 k R0.toArray (wtsC ws).toArray 56 (0, 0) hrow1
    have hF2 := Fr.setRow w1 k (wtsC ws).toArray
    obtain ⟨w2, HW2⟩ : ∃ w2, Hid (w1.setRow k (wtsC ws).toArray = w2) := ⟨_, rfl⟩
    rw [HW2.out] at hcp hrow2 hF2
    have hP2 := hP1.keepS hF2 (by simp; omega)
    have hT2 := hT1.keepS hF2 (by simp; omega)
    obtain ⟨r0, r1, s0, s1, s2, s3⟩ : _ ∧ _ ∧ _ ∧ _ ∧ _ ∧ _ := ⟨hP2.c0, hP2.c1, hT2.c0, hT2.c1, hT2.f0, hT2.f1⟩
    have hG2 := hG1.on hF2 (by intro x hx; simp at hx; omega)
    have hF3 := Fr.box2 w2 (w.heap.size + 1) (.int .i64 n) (.slice (some ⟨k, 0, none⟩) L L)
    have HF : Hid (_ ∧ _) := ⟨hF3.keep hrow2 (by simp; omega), hG2.on hF3 (by intro x hx; simp at hx; omega)⟩
    clear hP2 hT2 hG2 hF3 hrow2 hF2 HW2 hP1 hT1 hW1 hG1 hrow1
    go_wp2_with fail
    refine bodyPost_ret (v := .agg #[.int .i64 n, .slice (some ⟨k, 0, none⟩) L L]) (by rw [res_cell1 rfl]; go_simp) rfl ⟨k, rfl, by omega, HF.out⟩
  · have hL0 : L = 0 := by omega
    subst hL0
    have hws : ws = [] := List.eq_nil_of_length_eq_zero HL.out.symm
    subst hws
    have hR00 : R0 = [] := List.eq_nil_of_length_eq_zero (by omega)
    subst hR00
    have hcp := run_copy_zero (P := Tryz.prog) w1 57 57 3 56 3 (some ⟨k, 0, none⟩) ao 0 cap Tryz.undWs Tryz.sizeWt
    obtain ⟨s0, s1, s2, s3⟩ : _ ∧ _ ∧ _ ∧ _ := ⟨hT1.c0, hT1.c1, hT1.f0, hT1.f1⟩
    have hF3 := Fr.box2 w1 (w.heap.size + 1) (.int .i64 n) (.slice (some ⟨k, 0, none⟩) 0 0)
    have HF : Hid (_ ∧ _) := ⟨hF3.keep hrow1 (by simp; omega), hG1.on hF3 (by intro x hx; simp at hx; omega)⟩
    clear hF3 hP1 hT1 hW1 hG1 hrow1
    go_wp2_with fail
    refine bodyPost_ret (v := .agg #[.int .i64 n, .slice (some ⟨k, 0, none⟩) 0 0]) (by rw [res_cell1 rfl]; go_simp) rfl ⟨k, rfl, by omega, HF.out⟩
end Go.Proofs.YtakbodlicfmkjaaGreat.F

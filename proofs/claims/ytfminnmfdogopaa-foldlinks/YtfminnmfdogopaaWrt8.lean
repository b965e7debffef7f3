/- The document's Write to entries: its walk. Conditions as it names them. -/
import Derived.Test.YtfminnmfdogopaaWrt7
namespace Go.Proofs.Ytfminnmfdogopaa
open Go.ChangeShapes Go.WideShapes Go.ChangeAt Go.RowKit Go.Lib Go.Maps Go.Sort
set_option linter.unusedVariables false
set_option linter.unusedSimpArgs false

set_option maxHeartbeats 8000000 in
set_option maxRecDepth 100000 in
theorem zWrite_any (ro : Option Addr) (N rc : Nat) (ps : List Pr) (key val : ByteArray) (drop : Bool) (w : World) (hE : ERs w ro ps) (hN : N = ps.length) (hrc : N ≤ rc) (hInc : Inc ps) :
    Calls Try.prog 55 #[.slice ro N rc, .agg #[.string key, .string val, .bool drop]] w fun e w' => ∃ ro' N' rc', e = .returned (.slice ro' N' rc') ∧ EOut w w' ro' N' rc' (wrote ps ⟨key, val, drop⟩) ∧ Fr [] w w' := by
  have HN : Hid (N = ps.length) := hN
  have HI : Hid (Inc ps) := hInc
  have hNf : N < 1099511627776 := by rw [hN]; exact hE.few
  have HE : Hid (∀ W, Fr [] w W → ERs W ro ps) := fun W hf => hE.keep hf
  obtain ⟨w0, HW0⟩ : ∃ w0, Hid (w.alloc (.cells #[.string key, .string val, .bool drop] 53) = w0) := ⟨_, rfl⟩
  have hF0 : Fr [] w w0 := by rw [← HW0.out]; exact Fr.alloc [] w _
  have hb0 : w0.heap[w.heap.size]? = some (.cells #[.string key, .string val, .bool drop] 53 (0, 0)) := by rw [← HW0.out]; exact heap_alloc_new w _
  have hnil : ∀ W : World, W.ownsRow w.heap.size 47 2 (.slice none 0 0) ([] : List Pr).length (celsE []) := fun W => ⟨rfl, .inl ⟨rfl, rfl⟩⟩
  have HW : Hid (w0.heap[w.heap.size]? = some (.cells #[.string key, .string val, .bool drop] 53 (0, 0))) := hb0
  have c0 : w0.cell? ⟨w.heap.size, 0, none⟩ = some (.string key) := by rw [cell_of_row _ _ _ _ _ _ hb0]; rfl
  obtain ⟨kb, hkb⟩ : ∃ kb, kb = w.heap.size := ⟨_, rfl⟩
  clear hE hN hInc hb0
  go_enter Try.func55, Try.ntmps55
  go_upto_region 1 with fail
  rw [HW0.out]
  go_wp2_with fail
  refine (zplace_any ro N rc ps key _ (HE.out _ hF0) HN.out HI.out).mono ?_
  rintro e w1 ⟨i, ok, rfl, hP, hF1⟩
  have hG1 := hF0.then hF1
  have hiN : i ≤ N := by rw [HN.out]; exact hP.le
  have HP : Hid (PlT ps key i ok) := hP
  have hb1 := hF1.keep HW.out (by simp)
  have d0 : w1.cell? ⟨w.heap.size, 0, none⟩ = some (.string key) := by rw [cell_of_row _ _ _ _ _ _ hb1]; rfl
  have HB1 : Hid (w1.heap[w.heap.size]? = some (.cells #[.string key, .string val, .bool drop] 53 (0, 0))) := hb1
  have hs1 := slE_h ro N rc i (by omega)
  have hsz1 : w.heap.size ≤ w1.heap.size := hG1.size
  have HT1 : Hid (ESl w1 ro i (ps.take i)) := (HE.out _ hG1).take i hP.le
  have HQ : Hid (wrote ps ⟨key, val, drop⟩ = ps.take i ++ (if drop = true then [] else [(key, val)]) ++ ps.drop (if ok = true then i + 1 else i)) := by
    show wrote _ _ = _
    unfold wrote
    rw [filt_lo hP, filt_hi hP HI.out]
  have HOk : Hid (ok = true → i + 1 ≤ N) := fun h => by have := (hP.is.1 h).1; have := HN.out; omega
  clear hP hF1 c0 HW0 HW hb1
  cases drop <;> cases ok
  · have hKN : i ≤ N := hiN
    have hs2 := slE_l ro N rc (i) ((i : Int)) (by omega) hKN
    go_wp2_with (first
      | (at_builtin; refine wpList_appE _ rfl _ _ rfl w.heap.size (.slice none 0 0) [] rfl (hnil _) ro i rc (ps.take i) rfl HT1.out (by simp; omega) hsz1 ?_
         intro bo n1 cap1 w2 hn1 hO2 hF2
         have hG2 : Fr [] w w2 := hG1.then hF2
         have hb2 := hG2.size
         have hl1 : n1 ≤ N := by rw [hn1]; simp; have := HN.out; omega
         have hbx : w2.heap[w.heap.size]? = some (.cells #[.string key, .string val, .bool false] 53 (0, 0)) := Fr.keep hF2 HB1.out (by simp [Value.ownBlock])
         have g0 : w2.cell? ⟨w.heap.size, 0, none⟩ = some (.string key) := by rw [cell_of_row _ _ _ _ _ _ hbx]; rfl
         have g1 : w2.cell? ⟨w.heap.size, 1, none⟩ = some (.string val) := by rw [cell_of_row _ _ _ _ _ _ hbx]; rfl
         have g2 : w2.cell? ⟨w.heap.size, 2, none⟩ = some (.bool false) := by rw [cell_of_row _ _ _ _ _ _ hbx]; rfl
         go_frame)
      | (at_builtin; refine wpList_appE _ rfl _ _ rfl w.heap.size (.slice bo n1 cap1) ([] ++ ps.take i) rfl (by rw [← hn1]; exact owns_keepB hO2 (Fr.alloc [] w2 _) (by simp)) (some ⟨w2.heap.size, 0, none⟩) 1 1 [(key, val)] rfl (esl_new w2 (key, val)) (by rw [← hn1]; omega) (by simp; omega) ?_
         intro bo2 n2 cap2 w3 hn2 hO3 hF3
         have hG3 : Fr [] w w3 := (hG2.then (Fr.alloc [] w2 _)).on hF3 (fun y hy => (owns_cells hO2 (Option.mem_toList.1 hy)).1)
         have hb3 := hG3.size
         have hl2 : n2 ≤ N + 1 := by rw [hn2, List.length_append, ← hn1]; simp; omega
         go_frame)
      | (at_builtin; refine wpList_appE _ rfl _ _ rfl w.heap.size (.slice bo2 n2 cap2) (([] ++ ps.take i) ++ [(key, val)]) rfl (by rw [← hn2]; exact hO3) (fromA ro rc (i)) (N - (i)) (rc - (i)) (ps.drop (i)) rfl (by have h9 := (HE.out _ hG3).drop rc (i) (by rw [← HN.out]; exact hKN) (by rw [← HN.out]; exact hrc); rw [← HN.out] at h9; exact h9) (by rw [← hn2]; omega) hb3 ?_
         intro bo9 n9 cap9 w9 hn9 hO9 hF9
         have hG9 : Fr [] w w9 := (hG3).on hF9 (fun y hy => (owns_cells hO3 (Option.mem_toList.1 hy)).1)
         go_frame))
    go_ret
    refine ⟨bo9, n9, cap9, rfl, ⟨?_, ?_⟩, hG9⟩
    · rw [HQ.out, hn9]; simp
    · rw [HQ.out]; simpa using hO9
  · have hKN : i + 1 ≤ N := HOk.out rfl
    have hs2 := slE_l ro N rc (i + 1) ((i : Int) + 1) (by omega) hKN
    go_wp2_with (first
      | (at_builtin; refine wpList_appE _ rfl _ _ rfl w.heap.size (.slice none 0 0) [] rfl (hnil _) ro i rc (ps.take i) rfl HT1.out (by simp; omega) hsz1 ?_
         intro bo n1 cap1 w2 hn1 hO2 hF2
         have hG2 : Fr [] w w2 := hG1.then hF2
         have hb2 := hG2.size
         have hl1 : n1 ≤ N := by rw [hn1]; simp; have := HN.out; omega
         have hbx : w2.heap[w.heap.size]? = some (.cells #[.string key, .string val, .bool false] 53 (0, 0)) := Fr.keep hF2 HB1.out (by simp [Value.ownBlock])
         have g0 : w2.cell? ⟨w.heap.size, 0, none⟩ = some (.string key) := by rw [cell_of_row _ _ _ _ _ _ hbx]; rfl
         have g1 : w2.cell? ⟨w.heap.size, 1, none⟩ = some (.string val) := by rw [cell_of_row _ _ _ _ _ _ hbx]; rfl
         have g2 : w2.cell? ⟨w.heap.size, 2, none⟩ = some (.bool false) := by rw [cell_of_row _ _ _ _ _ _ hbx]; rfl
         go_frame)
      | (at_builtin; refine wpList_appE _ rfl _ _ rfl w.heap.size (.slice bo n1 cap1) ([] ++ ps.take i) rfl (by rw [← hn1]; exact owns_keepB hO2 (Fr.alloc [] w2 _) (by simp)) (some ⟨w2.heap.size, 0, none⟩) 1 1 [(key, val)] rfl (esl_new w2 (key, val)) (by rw [← hn1]; omega) (by simp; omega) ?_
         intro bo2 n2 cap2 w3 hn2 hO3 hF3
         have hG3 : Fr [] w w3 := (hG2.then (Fr.alloc [] w2 _)).on hF3 (fun y hy => (owns_cells hO2 (Option.mem_toList.1 hy)).1)
         have hb3 := hG3.size
         have hl2 : n2 ≤ N + 1 := by rw [hn2, List.length_append, ← hn1]; simp; omega
         go_frame)
      | (at_builtin; refine wpList_appE _ rfl _ _ rfl w.heap.size (.slice bo2 n2 cap2) (([] ++ ps.take i) ++ [(key, val)]) rfl (by rw [← hn2]; exact hO3) (fromA ro rc (i + 1)) (N - (i + 1)) (rc - (i + 1)) (ps.drop (i + 1)) rfl (by have h9 := (HE.out _ hG3).drop rc (i + 1) (by rw [← HN.out]; exact hKN) (by rw [← HN.out]; exact hrc); rw [← HN.out] at h9; exact h9) (by rw [← hn2]; omega) hb3 ?_
         intro bo9 n9 cap9 w9 hn9 hO9 hF9
         have hG9 : Fr [] w w9 := (hG3).on hF9 (fun y hy => (owns_cells hO3 (Option.mem_toList.1 hy)).1)
         go_frame))
    go_ret
    refine ⟨bo9, n9, cap9, rfl, ⟨?_, ?_⟩, hG9⟩
    · rw [HQ.out, hn9]; simp
    · rw [HQ.out]; simpa using hO9
  · have hKN : i ≤ N := hiN
    have hs2 := slE_l ro N rc (i) ((i : Int)) (by omega) hKN
    go_wp2_with (first
      | (at_builtin; refine wpList_appE _ rfl _ _ rfl w.heap.size (.slice none 0 0) [] rfl (hnil _) ro i rc (ps.take i) rfl HT1.out (by simp; omega) hsz1 ?_
         intro bo n1 cap1 w2 hn1 hO2 hF2
         have hG2 : Fr [] w w2 := hG1.then hF2
         have hb2 := hG2.size
         have hl1 : n1 ≤ N := by rw [hn1]; simp; have := HN.out; omega
         have hbx : w2.heap[w.heap.size]? = some (.cells #[.string key, .string val, .bool true] 53 (0, 0)) := Fr.keep hF2 HB1.out (by simp [Value.ownBlock])
         have g0 : w2.cell? ⟨w.heap.size, 0, none⟩ = some (.string key) := by rw [cell_of_row _ _ _ _ _ _ hbx]; rfl
         have g1 : w2.cell? ⟨w.heap.size, 1, none⟩ = some (.string val) := by rw [cell_of_row _ _ _ _ _ _ hbx]; rfl
         have g2 : w2.cell? ⟨w.heap.size, 2, none⟩ = some (.bool true) := by rw [cell_of_row _ _ _ _ _ _ hbx]; rfl
         go_frame)
      | (at_builtin; refine wpList_appE _ rfl _ _ rfl w.heap.size (.slice bo n1 cap1) ([] ++ ps.take i) rfl (by rw [← hn1]; exact hO2) (fromA ro rc (i)) (N - (i)) (rc - (i)) (ps.drop (i)) rfl (by have h9 := (HE.out _ hG2).drop rc (i) (by rw [← HN.out]; exact hKN) (by rw [← HN.out]; exact hrc); rw [← HN.out] at h9; exact h9) (by rw [← hn1]; omega) hb2 ?_
         intro bo9 n9 cap9 w9 hn9 hO9 hF9
         have hG9 : Fr [] w w9 := (hG2).on hF9 (fun y hy => (owns_cells hO2 (Option.mem_toList.1 hy)).1)
         go_frame))
    go_ret
    refine ⟨bo9, n9, cap9, rfl, ⟨?_, ?_⟩, hG9⟩
    · rw [HQ.out, hn9]; simp
    · rw [HQ.out]; simpa using hO9
  · have hKN : i + 1 ≤ N := HOk.out rfl
    have hs2 := slE_l ro N rc (i + 1) ((i : Int) + 1) (by omega) hKN
    go_wp2_with (first
      | (at_builtin; refine wpList_appE _ rfl _ _ rfl w.heap.size (.slice none 0 0) [] rfl (hnil _) ro i rc (ps.take i) rfl HT1.out (by simp; omega) hsz1 ?_
         intro bo n1 cap1 w2 hn1 hO2 hF2
         have hG2 : Fr [] w w2 := hG1.then hF2
         have hb2 := hG2.size
         have hl1 : n1 ≤ N := by rw [hn1]; simp; have := HN.out; omega
         have hbx : w2.heap[w.heap.size]? = some (.cells #[.string key, .string val, .bool true] 53 (0, 0)) := Fr.keep hF2 HB1.out (by simp [Value.ownBlock])
         have g0 : w2.cell? ⟨w.heap.size, 0, none⟩ = some (.string key) := by rw [cell_of_row _ _ _ _ _ _ hbx]; rfl
         have g1 : w2.cell? ⟨w.heap.size, 1, none⟩ = some (.string val) := by rw [cell_of_row _ _ _ _ _ _ hbx]; rfl
         have g2 : w2.cell? ⟨w.heap.size, 2, none⟩ = some (.bool true) := by rw [cell_of_row _ _ _ _ _ _ hbx]; rfl
         go_frame)
      | (at_builtin; refine wpList_appE _ rfl _ _ rfl w.heap.size (.slice bo n1 cap1) ([] ++ ps.take i) rfl (by rw [← hn1]; exact hO2) (fromA ro rc (i + 1)) (N - (i + 1)) (rc - (i + 1)) (ps.drop (i + 1)) rfl (by have h9 := (HE.out _ hG2).drop rc (i + 1) (by rw [← HN.out]; exact hKN) (by rw [← HN.out]; exact hrc); rw [← HN.out] at h9; exact h9) (by rw [← hn1]; omega) hb2 ?_
         intro bo9 n9 cap9 w9 hn9 hO9 hF9
         have hG9 : Fr [] w w9 := (hG2).on hF9 (fun y hy => (owns_cells hO2 (Option.mem_toList.1 hy)).1)
         go_frame))
    go_ret
    refine ⟨bo9, n9, cap9, rfl, ⟨?_, ?_⟩, hG9⟩
    · rw [HQ.out, hn9]; simp
    · rw [HQ.out]; simpa using hO9
end Go.Proofs.Ytfminnmfdogopaa

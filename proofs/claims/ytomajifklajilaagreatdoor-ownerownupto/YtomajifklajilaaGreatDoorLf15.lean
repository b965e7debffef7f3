/- The law's helper lives: true. No conditions. -/
import Derived.Test.YtomajifklajilaaGreatDoorOt15
namespace Go.Proofs.YtomajifklajilaaGreatDoor
open Go.ChangeShapes Go.WideShapes Go.ChangeAt Go.RowKit Go.Lib Go.Maps
set_option linter.unusedVariables false
set_option linter.unusedSimpArgs false
theorem hrs_nil (w : World) : HRs w none [] := ⟨fun h => by simp at h, by simp, by simp⟩
theorem lo_nil : LoOk [] := ⟨List.Pairwise.nil, by simp⟩
def lv1 : Rv := ⟨1, 1, 1, ⟨#[97]⟩, ⟨#[49]⟩, false, ⟨#[]⟩, ⟨#[]⟩, none, 0, 0⟩
def lv2 : Rv := ⟨2, -1, 1, ⟨#[]⟩, ⟨#[]⟩, false, ⟨#[97]⟩, ⟨#[]⟩, none, 0, 0⟩
theorem lv1_b (w : World) : RqB w lv1 [] := ⟨by decide, by decide, by decide, by decide, by decide, by decide, by decide, ⟨fun h => by simp at h, by simp⟩, rfl, Nat.le_refl _⟩
theorem lv2_b (w : World) : RqB w lv2 [] := ⟨by decide, by decide, by decide, by decide, by decide, by decide, by decide, ⟨fun h => by simp at h, by simp⟩, rfl, Nat.le_refl _⟩
theorem lv1_ok : okR (lv1.q []) := ⟨by decide, by decide, by decide, Or.inl ⟨rfl, ⟨rfl, rfl⟩, rfl, by decide, by decide, by decide⟩⟩
theorem lv2_ok : okR (lv2.q []) := ⟨by decide, by decide, by decide, Or.inr (Or.inl ⟨rfl, by decide, rfl, by decide, rfl⟩)⟩
theorem lv_put {M' : ByteArray → List Vn} {ok : Bool} {cc : Nat} (h : InTold (fun _ => []) ⟨1, ⟨#[97]⟩, ⟨#[49]⟩, false⟩ M' ok cc) : ok = true ∧ valAt (M' ⟨#[97]⟩) 1 = some ⟨#[49]⟩ := by
  have okp : okP ⟨1, ⟨#[97]⟩, ⟨#[49]⟩, false⟩ := ⟨by decide, by decide, by decide, by decide, by decide⟩
  rcases h with ⟨_, _, h, _⟩ | ⟨_, _, ⟨_, _, y, hy, _⟩ | ⟨rfl, _, us, rfl, h1, h2⟩⟩
  · exact absurd okp h
  · simp at hy
  · refine ⟨rfl, ?_⟩
    have e : us = [⟨1, ⟨#[49]⟩, false⟩] := ris_unique _ _ h1.2 (by simp [Ris]) (fun v => by rw [h2 v]; simp [Pt.v])
    rw [e]
    simp [updM, valAt, vAt, valOf]
set_option maxHeartbeats 8000000 in
set_option maxRecDepth 100000 in
theorem lives_any (w : World) : Calls Tryz.prog 5 #[] w fun e w' => e = .returned (.bool true) ∧ Fr [] w w' := by
  have HN : Hid (Calls _ _ _ _ _) := onew_any 0 2 none 0 0 [] w ⟨by decide, by decide, by decide, by decide⟩ (hrs_nil w) rfl
  go_enter Tryz.func5, Tryz.ntmps5
  go_wp2_with fail
  refine Calls.mono HN.out ?_
  rintro e w1 (⟨h, _⟩ | ⟨_, ob, sb, b, g, rfl, hO⟩)
  · exact absurd lo_nil h
  have HO : Hid (OwS w (fun _ => False) w1 ob sb b 0 g none 2 (fun _ => []) []) := hO
  have HA : Hid (Calls Tryz.prog 6 #[.pointer (some ⟨ob, 0, none⟩), .agg #[.int .u8 1, .int .i64 1, .int .i64 1, .string ⟨#[97]⟩, .string ⟨#[49]⟩, .bool false, .string ⟨#[]⟩, .string ⟨#[]⟩, .slice none 0 0]] w1 fun e w' => e = .returned (.tuple #[.bool true, .int .i64 0]) ∧ ∃ pb, OwS w (fun _ => False) w' ob sb b 0 g pb 2 (fun _ => []) [lv1.q []]) := by
    refine (os_ask hO (by simp) lv1 [] (lv1_b w1)).mono ?_
    rintro e w' (⟨h, _⟩ | ⟨_, h, _⟩ | ⟨_, _, rfl, pb, h, _⟩)
    · exact absurd lv1_ok h
    · simp at h
    · exact ⟨rfl, pb, h⟩
  clear hO HN HO
  go_wp2_with fail
  refine Calls.mono HA.out ?_
  rintro e w2 ⟨rfl, pb, hO⟩
  have HA2 : Hid (Calls Tryz.prog 6 #[.pointer (some ⟨ob, 0, none⟩), .agg #[.int .u8 2, .int .i64 (-1), .int .i64 1, .string ⟨#[]⟩, .string ⟨#[]⟩, .bool false, .string ⟨#[97]⟩, .string ⟨#[]⟩, .slice none 0 0]] w2 fun e w' => e = .returned (.tuple #[.bool true, .int .i64 0]) ∧ ∃ pb, OwS w (fun _ => False) w' ob sb b 0 g pb 2 (fun _ => []) [lv1.q [], lv2.q []]) := by
    refine (os_ask hO (by simp) lv2 [] (lv2_b w2)).mono ?_
    rintro e w' (⟨h, _⟩ | ⟨_, h, _⟩ | ⟨_, _, rfl, pb, h, _⟩)
    · exact absurd lv2_ok h
    · simp at h
    · exact ⟨rfl, pb, h⟩
  clear hO HA
  go_wp2_with fail
  refine Calls.mono HA2.out ?_
  rintro e w3 ⟨rfl, pb2, hO⟩
  have HA3 : Hid (Calls Tryz.prog 6 #[.pointer (some ⟨ob, 0, none⟩), .agg #[.int .u8 2, .int .i64 (-1), .int .i64 1, .string ⟨#[]⟩, .string ⟨#[]⟩, .bool false, .string ⟨#[97]⟩, .string ⟨#[]⟩, .slice none 0 0]] w3 fun e w' => e = .returned (.tuple #[.bool false, .int .i64 0]) ∧ OwS w (fun _ => False) w' ob sb b 0 g pb2 2 (fun _ => []) [lv1.q [], lv2.q []]) := by
    refine (os_ask hO (by simp) lv2 [] (lv2_b w3)).mono ?_
    rintro e w' (⟨h, _⟩ | ⟨_, _, rfl, h, _⟩ | ⟨_, h, _⟩)
    · exact absurd lv2_ok h
    · exact ⟨rfl, h⟩
    · simp at h
  clear hO HA2
  go_wp2_with fail
  refine Calls.mono HA3.out ?_
  rintro e w4 ⟨rfl, hO⟩
  have HS : Hid (Calls Tryz.prog 7 #[.pointer (some ⟨ob, 0, none⟩)] w4 fun e w' => e = .returned (.tuple #[.agg #[.int .i64 1, .bool true, .slice none 0 0, .slice none 0 0, .int .i64 0], .int .i64 0]) ∧ ∃ M', OwS w (fun _ => False) w' ob sb b 1 g pb2 2 M' [lv2.q []] ∧ valAt (M' ⟨#[97]⟩) 1 = some ⟨#[49]⟩) := by
    refine (os_serve hO (by omega)).mono ?_
    rintro e w' ⟨ok, eo, el, ec, ho, hl, hc, c, M', rfl, h1, _, h2⟩
    rcases h2 with ⟨_, ⟨rfl, rfl, rfl⟩, ⟨rfl, rfl, rfl⟩, rfl, cc, hI⟩ | ⟨h, _⟩ | ⟨h, _⟩ | ⟨h, _⟩ | ⟨h, _⟩
    · obtain ⟨rfl, hv⟩ := lv_put hI
      exact ⟨rfl, M', h1, hv⟩
    · simp [lv1, Rv.q] at h
    · simp [lv1, Rv.q] at h
    · simp [lv1, Rv.q] at h
    · simp [lv1, Rv.q] at h
  clear hO HA3
  go_wp2_with fail
  refine Calls.mono HS.out ?_
  rintro e w5 ⟨rfl, M', hO, hv⟩
  obtain ⟨w6, HW6⟩ : ∃ w6, Hid (w5.alloc (.cells #[.int .i64 1, .bool true, .slice none 0 0, .slice none 0 0, .int .i64 0] 51) = w6) := ⟨_, rfl⟩
  have hF6 : Fr [] w5 w6 := by rw [← HW6.out]; exact Fr.alloc _ _ _
  have hr6 : w6.heap[w5.heap.size]? = some (.cells #[.int .i64 1, .bool true, .slice none 0 0, .slice none 0 0, .int .i64 0] 51 (0, 0)) := by rw [← HW6.out]; exact heap_alloc_new _ _
  obtain ⟨Z8, HZ8⟩ : ∃ Z8, Hid (w5.heap.size = Z8) := ⟨_, rfl⟩
  rw [HZ8.out] at hr6
  have HS2 : Hid (Calls Tryz.prog 7 #[.pointer (some ⟨ob, 0, none⟩)] w6 fun e w' => ∃ E ec, e = .returned (.tuple #[.agg #[.int .i64 (-1), .bool true, .slice (some ⟨E, 0, none⟩) 1 ec, .slice none 0 0, .int .i64 0], .int .i64 0]) ∧ OwS w (fun _ => False) w' ob sb b 2 g pb2 2 M' [] ∧ w'.heap[Z8]? = some (.cells #[.int .i64 1, .bool true, .slice none 0 0, .slice none 0 0, .int .i64 0] 51 (0, 0)) ∧ ∃ cur, w'.heap[E]? = some (.cells cur 61 (0, 0)) ∧ cur.toList.take 2 = [.string ⟨#[97]⟩, .string ⟨#[49]⟩]) := by
    have h6 := hO.same hF6
    refine (os_serve h6 (by omega)).mono ?_
    rintro e w' ⟨ok, eo, el, ec, ho, hl, hc, c, M2, rfl, h1, hf, h2⟩
    obtain ⟨xs6, hq6, _⟩ := h6.q
    have hZ := hf.keep hq6.rg h6.sh.mb hr6 (by decide) (by decide) (by decide)
    rcases h2 with ⟨h, _⟩ | ⟨_, ⟨rfl, rfl, rfl⟩, rfl, rfl, h2⟩ | ⟨h, _⟩ | ⟨h, _⟩ | ⟨h, _⟩
    · simp [lv2, Rv.q] at h
    · rcases h2 with ⟨_, h, _⟩ | ⟨rfl, v, h, rfl, hE⟩
      · simp only [lv2, Rv.q] at h
        rw [hv] at h
        cases h
      · simp only [lv2, Rv.q] at h hE
        rw [hv] at h
        cases h
        rcases hE.row.2 with ⟨_, h⟩ | ⟨E, cap, cur, hv, _, hb, _, _, _, ht⟩
        · omega
        · cases hv
          exact ⟨E, _, rfl, h1, hZ, cur, hb, ht⟩
    · simp [lv2, Rv.q] at h
    · simp [lv2, Rv.q] at h
    · simp [lv2, Rv.q] at h
  clear hO HS hr6 hF6 hv
  go_upto_region 10 with fail
  rw [HW6.out, HZ8.out]
  clear HW6 HZ8
  go_wp2_with fail
  refine Calls.mono HS2.out ?_
  rintro e w7 ⟨E, ec, rfl, hO, hr8, cur, hEr, hEc⟩
  obtain ⟨w8, HW8⟩ : ∃ w8, Hid (w7.alloc (.cells #[.int .i64 (-1), .bool true, .slice (some ⟨E, 0, none⟩) 1 ec, .slice none 0 0, .int .i64 0] 51) = w8) := ⟨_, rfl⟩
  have hF8 : Fr [] w7 w8 := by rw [← HW8.out]; exact Fr.alloc _ _ _
  have hr9 : w8.heap[w7.heap.size]? = some (.cells #[.int .i64 (-1), .bool true, .slice (some ⟨E, 0, none⟩) 1 ec, .slice none 0 0, .int .i64 0] 51 (0, 0)) := by rw [← HW8.out]; exact heap_alloc_new _ _
  obtain ⟨Z9, HZ9⟩ : ∃ Z9, Hid (w7.heap.size = Z9) := ⟨_, rfl⟩
  rw [HZ9.out] at hr9
  have HS3 : Hid (Calls Tryz.prog 7 #[.pointer (some ⟨ob, 0, none⟩)] w8 fun e w' => e = .returned (.tuple #[.agg #[.int .i64 0, .bool false, .slice none 0 0, .slice none 0 0, .int .i64 0], .int .i64 9]) ∧ Fr [] w w' ∧ w'.cell? ⟨Z8, 0, none⟩ = some (.int .i64 1) ∧ w'.cell? ⟨Z8, 1, none⟩ = some (.bool true) ∧ w'.cell? ⟨Z9, 0, none⟩ = some (.int .i64 (-1)) ∧ w'.cell? ⟨Z9, 2, none⟩ = some (.slice (some ⟨E, 0, none⟩) 1 ec) ∧ w'.cell? ⟨E, 0, none⟩ = some (.string ⟨#[97]⟩) ∧ w'.cell? ⟨E, 1, none⟩ = some (.string ⟨#[49]⟩)) := by
    refine (os_idle (hO.same hF8)).mono ?_
    rintro e w' ⟨rfl, h, hF⟩
    have k8 := (hF8.then hF).keep hr8 (by simp)
    have k9 := hF.keep hr9 (by simp)
    have kE := (hF8.then hF).keep hEr (by simp)
    have hc0 : cur[0]? = some (.string ⟨#[97]⟩) := by
      have := congrArg (fun l => l[0]?) hEc
      simpa using this
    have hc1 : cur[1]? = some (.string ⟨#[49]⟩) := by
      have := congrArg (fun l => l[1]?) hEc
      simpa [List.getElem?_take] using this
    refine ⟨rfl, h.fr, ?_, ?_, ?_, ?_, ?_, ?_⟩
    · rw [cell_of_row _ _ _ _ _ _ k8]; rfl
    · rw [cell_of_row _ _ _ _ _ _ k8]; rfl
    · rw [cell_of_row _ _ _ _ _ _ k9]; rfl
    · rw [cell_of_row _ _ _ _ _ _ k9]; rfl
    · rw [cell_of_row _ _ _ _ _ _ kE]; exact hc0
    · rw [cell_of_row _ _ _ _ _ _ kE]; exact hc1
  clear hO HS2 hr8 hEr hEc hF8 hr9
  go_upto_region 11 with fail
  rw [HW8.out, HZ9.out]
  clear HW8 HZ9
  go_wp2_with fail
  refine Calls.mono HS3.out ?_
  rintro e w9 ⟨rfl, hF, c0, c1, c2, c3, c4, c5⟩
  have HF : Hid (Fr [] w w9) := hF
  clear HS3 hF
  have hq : ∀ W, (binOp .eql 61 (.agg #[.string ⟨#[97]⟩, .string ⟨#[49]⟩]) (.agg #[.string ⟨#[97]⟩, .string ⟨#[49]⟩])).run Tryz.prog W = .ok (.bool true) W := fun W => by kernel_rfl
  go_wp2
  go_ret
  exact ⟨rfl, HF.out⟩
end Go.Proofs.YtomajifklajilaaGreatDoor

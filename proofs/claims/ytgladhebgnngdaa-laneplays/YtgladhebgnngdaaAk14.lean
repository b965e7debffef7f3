/- The law's helper asked: of two lanes that are alike, there or not, it says yes, and leaves them alike. Conditions: the transaction came in, of at most 2^20 writes. -/
import Derived.Test.YtgladhebgnngdaaPp14
import Derived.Test.YtgladhebgnngdaaTwW
namespace Go.Proofs.Ytgladhebgnngdaa
open Go.ChangeShapes Go.WideShapes Go.ChangeAt Go.RowKit Go.Lib Go.Maps
set_option linter.unusedVariables false
set_option linter.unusedSimpArgs false

set_option maxHeartbeats 16000000 in
set_option maxRecDepth 100000 in
theorem asked14_look {p r : Option Addr} {c : Lc} {st : Option (Option Hl)} {O1 O2 : List Nat} (kd : Nat) (n : Int) (wo : Option Addr) (M mc : Nat) (w0 w : World) (P : Pp w0 w p r c st st O1 O2) (hk1 : kd ≠ 1) (hkd : kd ≤ 255) :
    Calls Try.prog 9 #[.pointer p, .pointer r, .agg #[.int .u8 (kd : Int), .int .i64 n, .slice wo M mc]] w fun e w' => AkT w0 w w' p r c O1 O2 e := by
  have f1 : Fr [] w (w.alloc (.cells #[.int .u8 (kd : Int), .int .i64 n, .slice wo M mc] 42)) := Fr.alloc _ _ _
  have hrow1 := heap_alloc_new w (.cells #[.int .u8 (kd : Int), .int .i64 n, .slice wo M mc] 42)
  have P1 : Hid _ := P.quiet f1
  obtain ⟨w1, HW1⟩ : ∃ w1, Hid (w.alloc (.cells #[.int .u8 (kd : Int), .int .i64 n, .slice wo M mc] 42) = w1) := ⟨_, rfl⟩
  obtain ⟨B, HB⟩ : ∃ B, Hid (w.heap.size = B) := ⟨_, rfl⟩
  rw [HW1.out] at f1 hrow1 P1
  rw [HB.out] at hrow1
  have c0 : w1.cell? ⟨B, 0, none⟩ = some (.int .u8 (kd : Int)) := by rw [cell_of_row _ _ _ _ _ _ hrow1]; rfl
  have hN0 : ∀ k ∈ O1 ++ O2, k ∈ O1 ++ O2 ∨ w.heap.size ≤ k := fun k hk => .inl hk
  have HN5 : Hid (∀ k ∈ O1 ++ O2, k ∈ O1 ++ O2 ∨ w.heap.size ≤ k) := hN0
  have g1 : ((kd : Int) == 1) = false := by rw [beq_eq_false_iff_ne]; omega
  have HW1f : Hid (Fr (O1 ++ O2) w w1) := f1.mono (by simp)
  clear P hrow1 f1 hN0 hk1
  go_enter Try.func9, Try.ntmps9
  go_upto_region 1 with fail
  rw [HW1.out, HB.out]
  clear HW1 HB
  by_cases h2 : kd = 2
  · subst h2
    have HA : Hid (Calls _ _ _ _ _) := ls_sent P1.out.l
    obtain ⟨ev, HEv⟩ : ∃ ev, Hid (sentE2 st = ev) := ⟨_, rfl⟩
    rw [HEv.out] at HA
    have hee : (ev == ev) = true := by simp
    go_wp2_with fail
    refine Calls.mono HA.out ?_
    rintro e w2 ⟨rfl, hL2, hF2⟩
    have P2 : Hid _ := P1.out.goL hF2 hL2
    have HA2 : Hid (Calls _ _ _ _ _) := rs_sent P2.out.r
    rw [HEv.out] at HA2
    clear HA HEv P1
    go_wp2_with fail
    refine Calls.mono HA2.out ?_
    rintro e w5 ⟨rfl, hL5, hF5⟩
    obtain ⟨t5, HT5⟩ : ∃ t5, Hid (Option.map sentS st = t5) := ⟨_, rfl⟩
    have P5 : Hid _ := P2.out.goR hF5 hL5
    rw [HT5.out] at P5
    have HW5 : Hid (Fr (O1 ++ O2) w w5) := HW1f.out.then ((hF2.mono (fun k hk _ => List.mem_append_left _ hk)).then (hF5.mono (fun k hk _ => List.mem_append_right _ hk)))
    clear HA2 P2 hL2 hF2 hL5 hF5 HT5 c0 HW1f
    obtain ⟨sv, HSv⟩ : ∃ sv, Hid (nextS2 c t5 = sv) := ⟨_, rfl⟩
    obtain ⟨bv, HBv⟩ : ∃ bv, Hid (nextB2 t5 = bv) := ⟨_, rfl⟩
    obtain ⟨rq, HRq⟩ : ∃ rq, Hid (nextR2 c t5 = rq) := ⟨_, rfl⟩
    obtain ⟨hv, HHv⟩ : ∃ hv, Hid (holds2 t5 = hv) := ⟨_, rfl⟩
    obtain ⟨rv, HRv⟩ : ∃ rv, Hid (ready2 t5 = rv) := ⟨_, rfl⟩
    obtain ⟨k, f, m, ky, vl, dp⟩ := rq
    have HXl : Hid (Calls _ _ _ _ _) := ls_next P5.out.l
    rw [HSv.out, HBv.out, HRq.out] at HXl
    simp only [Rq.v] at HXl
    have hss : (sv == sv) = true := by simp
    have hbb : (bv == bv) = true := by simp
    have hhh : (hv == hv) = true := by simp
    have hrr : (rv == rv) = true := by simp
    go_wp2_with fail
    refine Calls.mono HXl.out ?_
    rintro e wA ⟨rfl, hFA⟩
    have fA := Fr.alloc [] wA (.cells #[.int .u8 k, .int .i64 f, .int .i64 m, .string ky, .string vl, .bool dp, .string ⟨#[]⟩, .string ⟨#[]⟩, .slice none 0 0] 59)
    have hrowA := heap_alloc_new wA (.cells #[.int .u8 k, .int .i64 f, .int .i64 m, .string ky, .string vl, .bool dp, .string ⟨#[]⟩, .string ⟨#[]⟩, .slice none 0 0] 59)
    have P6 : Hid _ := P5.out.quiet (hFA.then fA)
    have HXr : Hid (Calls _ _ _ _ _) := rs_next P6.out.r
    rw [HSv.out, HBv.out, HRq.out] at HXr
    simp only [Rq.v] at HXr
    clear HXl HSv HBv HRq
    go_wp2_with fail
    refine Calls.mono HXr.out ?_
    rintro e wB ⟨rfl, hFB⟩
    have fB := Fr.alloc [] wB (.cells #[.int .u8 k, .int .i64 f, .int .i64 m, .string ky, .string vl, .bool dp, .string ⟨#[]⟩, .string ⟨#[]⟩, .slice none 0 0] 59)
    have hrowB := heap_alloc_new wB (.cells #[.int .u8 k, .int .i64 f, .int .i64 m, .string ky, .string vl, .bool dp, .string ⟨#[]⟩, .string ⟨#[]⟩, .slice none 0 0] 59)
    have hrowA7 := (hFB.then fB).keep hrowA (by simp)
    have P7 : Hid _ := P6.out.quiet (hFB.then fB)
    have hG7 := (hFA.then fA).then (hFB.then fB)
    obtain ⟨w7, HW7⟩ : ∃ w7, Hid (wB.alloc (.cells #[.int .u8 k, .int .i64 f, .int .i64 m, .string ky, .string vl, .bool dp, .string ⟨#[]⟩, .string ⟨#[]⟩, .slice none 0 0] 59) = w7) := ⟨_, rfl⟩
    obtain ⟨R1, HR1⟩ : ∃ R1, Hid (wA.heap.size = R1) := ⟨_, rfl⟩
    obtain ⟨R2, HR2⟩ : ∃ R2, Hid (wB.heap.size = R2) := ⟨_, rfl⟩
    rw [HW7.out] at hrowB hrowA7 P7 hG7
    rw [HR1.out] at hrowA7
    rw [HR2.out] at hrowB
    clear hFA fA hFB fB hrowA HXr P6 P5
    have a0 : w7.cell? ⟨R1, 0, none⟩ = some (.int .u8 k) := by rw [cell_of_row _ _ _ _ _ _ hrowA7]; rfl
    have a1 : w7.cell? ⟨R1, 1, none⟩ = some (.int .i64 f) := by rw [cell_of_row _ _ _ _ _ _ hrowA7]; rfl
    have a2 : w7.cell? ⟨R1, 2, none⟩ = some (.int .i64 m) := by rw [cell_of_row _ _ _ _ _ _ hrowA7]; rfl
    have a3 : w7.cell? ⟨R1, 3, none⟩ = some (.string ky) := by rw [cell_of_row _ _ _ _ _ _ hrowA7]; rfl
    have a4 : w7.cell? ⟨R1, 4, none⟩ = some (.string vl) := by rw [cell_of_row _ _ _ _ _ _ hrowA7]; rfl
    have a5 : w7.cell? ⟨R1, 5, none⟩ = some (.bool dp) := by rw [cell_of_row _ _ _ _ _ _ hrowA7]; rfl
    have a6 : w7.cell? ⟨R1, 6, none⟩ = some (.string ⟨#[]⟩) := by rw [cell_of_row _ _ _ _ _ _ hrowA7]; rfl
    have a7 : w7.cell? ⟨R1, 7, none⟩ = some (.string ⟨#[]⟩) := by rw [cell_of_row _ _ _ _ _ _ hrowA7]; rfl
    have a8 : w7.cell? ⟨R1, 8, none⟩ = some (.slice none 0 0) := by rw [cell_of_row _ _ _ _ _ _ hrowA7]; rfl
    have b0 : w7.cell? ⟨R2, 0, none⟩ = some (.int .u8 k) := by rw [cell_of_row _ _ _ _ _ _ hrowB]; rfl
    have b1 : w7.cell? ⟨R2, 1, none⟩ = some (.int .i64 f) := by rw [cell_of_row _ _ _ _ _ _ hrowB]; rfl
    have b2 : w7.cell? ⟨R2, 2, none⟩ = some (.int .i64 m) := by rw [cell_of_row _ _ _ _ _ _ hrowB]; rfl
    have b3 : w7.cell? ⟨R2, 3, none⟩ = some (.string ky) := by rw [cell_of_row _ _ _ _ _ _ hrowB]; rfl
    have b4 : w7.cell? ⟨R2, 4, none⟩ = some (.string vl) := by rw [cell_of_row _ _ _ _ _ _ hrowB]; rfl
    have b5 : w7.cell? ⟨R2, 5, none⟩ = some (.bool dp) := by rw [cell_of_row _ _ _ _ _ _ hrowB]; rfl
    have b6 : w7.cell? ⟨R2, 6, none⟩ = some (.string ⟨#[]⟩) := by rw [cell_of_row _ _ _ _ _ _ hrowB]; rfl
    have b7 : w7.cell? ⟨R2, 7, none⟩ = some (.string ⟨#[]⟩) := by rw [cell_of_row _ _ _ _ _ _ hrowB]; rfl
    have b8 : w7.cell? ⟨R2, 8, none⟩ = some (.slice none 0 0) := by rw [cell_of_row _ _ _ _ _ _ hrowB]; rfl
    have HQ7 : Calls Try.prog 24 #[.agg #[.int .u8 k, .int .i64 f, .int .i64 m, .string ky, .string vl, .bool dp, .string ⟨#[]⟩, .string ⟨#[]⟩, .slice none 0 0], .agg #[.int .u8 k, .int .i64 f, .int .i64 m, .string ky, .string vl, .bool dp, .string ⟨#[]⟩, .string ⟨#[]⟩, .slice none 0 0]] w7 fun e w' => e = .returned (.bool true) ∧ Fr [] w7 w' := sameReq_any ⟨k, f, m, ky, vl, dp⟩ w7
    go_upto_region 20 with fail
    rw [HW7.out, HR1.out, HR2.out]
    clear HW7 HR1 HR2 hrowA7 hrowB
    go_wp2_with fail
    refine HQ7.mono ?_
    rintro e w8 ⟨rfl, hF8⟩
    have P8 : Hid _ := P7.out.quiet hF8
    have HH8 : Hid (Calls _ _ _ _ _) := ls_holds P8.out.l
    rw [HHv.out] at HH8
    clear a0 b0 a1 b1 a2 b2 a3 b3 a4 b4 a5 b5 a6 b6 a7 b7 a8 b8 HQ7 P7
    go_wp2_with fail
    refine Calls.mono HH8.out ?_
    rintro e w9 ⟨rfl, hF9⟩
    have P9 : Hid _ := P8.out.quiet hF9
    have HH9 : Hid (Calls _ _ _ _ _) := rs_holds P9.out.r
    rw [HHv.out] at HH9
    clear P8 HH8
    go_wp2_with fail
    refine Calls.mono HH9.out ?_
    rintro e w10 ⟨rfl, hF10⟩
    have P10 : Hid _ := P9.out.quiet hF10
    have HH10 : Hid (Calls _ _ _ _ _) := ls_ready P10.out.l
    rw [HRv.out] at HH10
    clear P9 HH9
    go_wp2_with fail
    refine Calls.mono HH10.out ?_
    rintro e w11 ⟨rfl, hF11⟩
    have P11 : Hid _ := P10.out.quiet hF11
    have HH11 : Hid (Calls _ _ _ _ _) := rs_ready P11.out.r
    rw [HRv.out] at HH11
    clear P10 HH10
    go_wp2_with fail
    refine Calls.mono HH11.out ?_
    rintro e w12 ⟨rfl, hF12⟩
    have P12 : Hid _ := P11.out.quiet hF12
    have HFf : Hid (Fr (O1 ++ O2) w w12) := HW5.out.then ((hG7.then (hF8.then (hF9.then (hF10.then (hF11.then hF12))))).mono (by simp))
    clear P11 HH11
    go_wp2_with fail
    go_ret
    exact ⟨rfl, _, _, _, P12.out, HN5.out, HFf.out⟩
  by_cases h3 : kd = 3
  · subst h3
    have HA : Hid (Calls _ _ _ _ _) := ls_acked P1.out.l
    obtain ⟨ev, HEv⟩ : ∃ ev, Hid (ackE2 st = ev) := ⟨_, rfl⟩
    rw [HEv.out] at HA
    have hee : (ev == ev) = true := by simp
    go_wp2_with fail
    refine Calls.mono HA.out ?_
    rintro e w2 ⟨rfl, hL2, hF2⟩
    have P2 : Hid _ := P1.out.goL hF2 hL2
    have HA2 : Hid (Calls _ _ _ _ _) := rs_acked P2.out.r
    rw [HEv.out] at HA2
    clear HA HEv P1
    go_wp2_with fail
    refine Calls.mono HA2.out ?_
    rintro e w5 ⟨rfl, hL5, hF5⟩
    obtain ⟨t5, HT5⟩ : ∃ t5, Hid (Option.map ackS st = t5) := ⟨_, rfl⟩
    have P5 : Hid _ := P2.out.goR hF5 hL5
    rw [HT5.out] at P5
    have HW5 : Hid (Fr (O1 ++ O2) w w5) := HW1f.out.then ((hF2.mono (fun k hk _ => List.mem_append_left _ hk)).then (hF5.mono (fun k hk _ => List.mem_append_right _ hk)))
    clear HA2 P2 hL2 hF2 hL5 hF5 HT5 c0 HW1f
    obtain ⟨sv, HSv⟩ : ∃ sv, Hid (nextS2 c t5 = sv) := ⟨_, rfl⟩
    obtain ⟨bv, HBv⟩ : ∃ bv, Hid (nextB2 t5 = bv) := ⟨_, rfl⟩
    obtain ⟨rq, HRq⟩ : ∃ rq, Hid (nextR2 c t5 = rq) := ⟨_, rfl⟩
    obtain ⟨hv, HHv⟩ : ∃ hv, Hid (holds2 t5 = hv) := ⟨_, rfl⟩
    obtain ⟨rv, HRv⟩ : ∃ rv, Hid (ready2 t5 = rv) := ⟨_, rfl⟩
    obtain ⟨k, f, m, ky, vl, dp⟩ := rq
    have HXl : Hid (Calls _ _ _ _ _) := ls_next P5.out.l
    rw [HSv.out, HBv.out, HRq.out] at HXl
    simp only [Rq.v] at HXl
    have hss : (sv == sv) = true := by simp
    have hbb : (bv == bv) = true := by simp
    have hhh : (hv == hv) = true := by simp
    have hrr : (rv == rv) = true := by simp
    go_wp2_with fail
    refine Calls.mono HXl.out ?_
    rintro e wA ⟨rfl, hFA⟩
    have fA := Fr.alloc [] wA (.cells #[.int .u8 k, .int .i64 f, .int .i64 m, .string ky, .string vl, .bool dp, .string ⟨#[]⟩, .string ⟨#[]⟩, .slice none 0 0] 59)
    have hrowA := heap_alloc_new wA (.cells #[.int .u8 k, .int .i64 f, .int .i64 m, .string ky, .string vl, .bool dp, .string ⟨#[]⟩, .string ⟨#[]⟩, .slice none 0 0] 59)
    have P6 : Hid _ := P5.out.quiet (hFA.then fA)
    have HXr : Hid (Calls _ _ _ _ _) := rs_next P6.out.r
    rw [HSv.out, HBv.out, HRq.out] at HXr
    simp only [Rq.v] at HXr
    clear HXl HSv HBv HRq
    go_wp2_with fail
    refine Calls.mono HXr.out ?_
    rintro e wB ⟨rfl, hFB⟩
    have fB := Fr.alloc [] wB (.cells #[.int .u8 k, .int .i64 f, .int .i64 m, .string ky, .string vl, .bool dp, .string ⟨#[]⟩, .string ⟨#[]⟩, .slice none 0 0] 59)
    have hrowB := heap_alloc_new wB (.cells #[.int .u8 k, .int .i64 f, .int .i64 m, .string ky, .string vl, .bool dp, .string ⟨#[]⟩, .string ⟨#[]⟩, .slice none 0 0] 59)
    have hrowA7 := (hFB.then fB).keep hrowA (by simp)
    have P7 : Hid _ := P6.out.quiet (hFB.then fB)
    have hG7 := (hFA.then fA).then (hFB.then fB)
    obtain ⟨w7, HW7⟩ : ∃ w7, Hid (wB.alloc (.cells #[.int .u8 k, .int .i64 f, .int .i64 m, .string ky, .string vl, .bool dp, .string ⟨#[]⟩, .string ⟨#[]⟩, .slice none 0 0] 59) = w7) := ⟨_, rfl⟩
    obtain ⟨R1, HR1⟩ : ∃ R1, Hid (wA.heap.size = R1) := ⟨_, rfl⟩
    obtain ⟨R2, HR2⟩ : ∃ R2, Hid (wB.heap.size = R2) := ⟨_, rfl⟩
    rw [HW7.out] at hrowB hrowA7 P7 hG7
    rw [HR1.out] at hrowA7
    rw [HR2.out] at hrowB
    clear hFA fA hFB fB hrowA HXr P6 P5
    have a0 : w7.cell? ⟨R1, 0, none⟩ = some (.int .u8 k) := by rw [cell_of_row _ _ _ _ _ _ hrowA7]; rfl
    have a1 : w7.cell? ⟨R1, 1, none⟩ = some (.int .i64 f) := by rw [cell_of_row _ _ _ _ _ _ hrowA7]; rfl
    have a2 : w7.cell? ⟨R1, 2, none⟩ = some (.int .i64 m) := by rw [cell_of_row _ _ _ _ _ _ hrowA7]; rfl
    have a3 : w7.cell? ⟨R1, 3, none⟩ = some (.string ky) := by rw [cell_of_row _ _ _ _ _ _ hrowA7]; rfl
    have a4 : w7.cell? ⟨R1, 4, none⟩ = some (.string vl) := by rw [cell_of_row _ _ _ _ _ _ hrowA7]; rfl
    have a5 : w7.cell? ⟨R1, 5, none⟩ = some (.bool dp) := by rw [cell_of_row _ _ _ _ _ _ hrowA7]; rfl
    have a6 : w7.cell? ⟨R1, 6, none⟩ = some (.string ⟨#[]⟩) := by rw [cell_of_row _ _ _ _ _ _ hrowA7]; rfl
    have a7 : w7.cell? ⟨R1, 7, none⟩ = some (.string ⟨#[]⟩) := by rw [cell_of_row _ _ _ _ _ _ hrowA7]; rfl
    have a8 : w7.cell? ⟨R1, 8, none⟩ = some (.slice none 0 0) := by rw [cell_of_row _ _ _ _ _ _ hrowA7]; rfl
    have b0 : w7.cell? ⟨R2, 0, none⟩ = some (.int .u8 k) := by rw [cell_of_row _ _ _ _ _ _ hrowB]; rfl
    have b1 : w7.cell? ⟨R2, 1, none⟩ = some (.int .i64 f) := by rw [cell_of_row _ _ _ _ _ _ hrowB]; rfl
    have b2 : w7.cell? ⟨R2, 2, none⟩ = some (.int .i64 m) := by rw [cell_of_row _ _ _ _ _ _ hrowB]; rfl
    have b3 : w7.cell? ⟨R2, 3, none⟩ = some (.string ky) := by rw [cell_of_row _ _ _ _ _ _ hrowB]; rfl
    have b4 : w7.cell? ⟨R2, 4, none⟩ = some (.string vl) := by rw [cell_of_row _ _ _ _ _ _ hrowB]; rfl
    have b5 : w7.cell? ⟨R2, 5, none⟩ = some (.bool dp) := by rw [cell_of_row _ _ _ _ _ _ hrowB]; rfl
    have b6 : w7.cell? ⟨R2, 6, none⟩ = some (.string ⟨#[]⟩) := by rw [cell_of_row _ _ _ _ _ _ hrowB]; rfl
    have b7 : w7.cell? ⟨R2, 7, none⟩ = some (.string ⟨#[]⟩) := by rw [cell_of_row _ _ _ _ _ _ hrowB]; rfl
    have b8 : w7.cell? ⟨R2, 8, none⟩ = some (.slice none 0 0) := by rw [cell_of_row _ _ _ _ _ _ hrowB]; rfl
    have HQ7 : Calls Try.prog 24 #[.agg #[.int .u8 k, .int .i64 f, .int .i64 m, .string ky, .string vl, .bool dp, .string ⟨#[]⟩, .string ⟨#[]⟩, .slice none 0 0], .agg #[.int .u8 k, .int .i64 f, .int .i64 m, .string ky, .string vl, .bool dp, .string ⟨#[]⟩, .string ⟨#[]⟩, .slice none 0 0]] w7 fun e w' => e = .returned (.bool true) ∧ Fr [] w7 w' := sameReq_any ⟨k, f, m, ky, vl, dp⟩ w7
    go_upto_region 20 with fail
    rw [HW7.out, HR1.out, HR2.out]
    clear HW7 HR1 HR2 hrowA7 hrowB
    go_wp2_with fail
    refine HQ7.mono ?_
    rintro e w8 ⟨rfl, hF8⟩
    have P8 : Hid _ := P7.out.quiet hF8
    have HH8 : Hid (Calls _ _ _ _ _) := ls_holds P8.out.l
    rw [HHv.out] at HH8
    clear a0 b0 a1 b1 a2 b2 a3 b3 a4 b4 a5 b5 a6 b6 a7 b7 a8 b8 HQ7 P7
    go_wp2_with fail
    refine Calls.mono HH8.out ?_
    rintro e w9 ⟨rfl, hF9⟩
    have P9 : Hid _ := P8.out.quiet hF9
    have HH9 : Hid (Calls _ _ _ _ _) := rs_holds P9.out.r
    rw [HHv.out] at HH9
    clear P8 HH8
    go_wp2_with fail
    refine Calls.mono HH9.out ?_
    rintro e w10 ⟨rfl, hF10⟩
    have P10 : Hid _ := P9.out.quiet hF10
    have HH10 : Hid (Calls _ _ _ _ _) := ls_ready P10.out.l
    rw [HRv.out] at HH10
    clear P9 HH9
    go_wp2_with fail
    refine Calls.mono HH10.out ?_
    rintro e w11 ⟨rfl, hF11⟩
    have P11 : Hid _ := P10.out.quiet hF11
    have HH11 : Hid (Calls _ _ _ _ _) := rs_ready P11.out.r
    rw [HRv.out] at HH11
    clear P10 HH10
    go_wp2_with fail
    refine Calls.mono HH11.out ?_
    rintro e w12 ⟨rfl, hF12⟩
    have P12 : Hid _ := P11.out.quiet hF12
    have HFf : Hid (Fr (O1 ++ O2) w w12) := HW5.out.then ((hG7.then (hF8.then (hF9.then (hF10.then (hF11.then hF12))))).mono (by simp))
    clear P11 HH11
    go_wp2_with fail
    go_ret
    exact ⟨rfl, _, _, _, P12.out, HN5.out, HFf.out⟩
  by_cases h4 : kd = 4
  · subst h4
    have HA : Hid (Calls _ _ _ _ _) := ls_done P1.out.l
    obtain ⟨ev, HEv⟩ : ∃ ev, Hid (doneE2 st = ev) := ⟨_, rfl⟩
    obtain ⟨nv, HNv⟩ : ∃ nv, Hid (doneN2 st = nv) := ⟨_, rfl⟩
    rw [HEv.out, HNv.out] at HA
    have hee : (ev == ev) = true := by simp
    have hne : (nv == nv) = true := by simp
    go_wp2_with fail
    refine Calls.mono HA.out ?_
    rintro e w2 ⟨rfl, hL2, hF2⟩
    have P2 : Hid _ := P1.out.goL hF2 hL2
    have HA2 : Hid (Calls _ _ _ _ _) := rs_done P2.out.r
    rw [HEv.out, HNv.out] at HA2
    clear HA HEv HNv P1
    go_wp2_with fail
    refine Calls.mono HA2.out ?_
    rintro e w5 ⟨rfl, hL5, hF5⟩
    obtain ⟨t5, HT5⟩ : ∃ t5, Hid (Option.map doneS st = t5) := ⟨_, rfl⟩
    have P5 : Hid _ := P2.out.goR hF5 hL5
    rw [HT5.out] at P5
    have HW5 : Hid (Fr (O1 ++ O2) w w5) := HW1f.out.then ((hF2.mono (fun k hk _ => List.mem_append_left _ hk)).then (hF5.mono (fun k hk _ => List.mem_append_right _ hk)))
    clear HA2 P2 hL2 hF2 hL5 hF5 HT5 c0 HW1f
    obtain ⟨sv, HSv⟩ : ∃ sv, Hid (nextS2 c t5 = sv) := ⟨_, rfl⟩
    obtain ⟨bv, HBv⟩ : ∃ bv, Hid (nextB2 t5 = bv) := ⟨_, rfl⟩
    obtain ⟨rq, HRq⟩ : ∃ rq, Hid (nextR2 c t5 = rq) := ⟨_, rfl⟩
    obtain ⟨hv, HHv⟩ : ∃ hv, Hid (holds2 t5 = hv) := ⟨_, rfl⟩
    obtain ⟨rv, HRv⟩ : ∃ rv, Hid (ready2 t5 = rv) := ⟨_, rfl⟩
    obtain ⟨k, f, m, ky, vl, dp⟩ := rq
    have HXl : Hid (Calls _ _ _ _ _) := ls_next P5.out.l
    rw [HSv.out, HBv.out, HRq.out] at HXl
    simp only [Rq.v] at HXl
    have hss : (sv == sv) = true := by simp
    have hbb : (bv == bv) = true := by simp
    have hhh : (hv == hv) = true := by simp
    have hrr : (rv == rv) = true := by simp
    go_wp2_with fail
    refine Calls.mono HXl.out ?_
    rintro e wA ⟨rfl, hFA⟩
    have fA := Fr.alloc [] wA (.cells #[.int .u8 k, .int .i64 f, .int .i64 m, .string ky, .string vl, .bool dp, .string ⟨#[]⟩, .string ⟨#[]⟩, .slice none 0 0] 59)
    have hrowA := heap_alloc_new wA (.cells #[.int .u8 k, .int .i64 f, .int .i64 m, .string ky, .string vl, .bool dp, .string ⟨#[]⟩, .string ⟨#[]⟩, .slice none 0 0] 59)
    have P6 : Hid _ := P5.out.quiet (hFA.then fA)
    have HXr : Hid (Calls _ _ _ _ _) := rs_next P6.out.r
    rw [HSv.out, HBv.out, HRq.out] at HXr
    simp only [Rq.v] at HXr
    clear HXl HSv HBv HRq
    go_wp2_with fail
    refine Calls.mono HXr.out ?_
    rintro e wB ⟨rfl, hFB⟩
    have fB := Fr.alloc [] wB (.cells #[.int .u8 k, .int .i64 f, .int .i64 m, .string ky, .string vl, .bool dp, .string ⟨#[]⟩, .string ⟨#[]⟩, .slice none 0 0] 59)
    have hrowB := heap_alloc_new wB (.cells #[.int .u8 k, .int .i64 f, .int .i64 m, .string ky, .string vl, .bool dp, .string ⟨#[]⟩, .string ⟨#[]⟩, .slice none 0 0] 59)
    have hrowA7 := (hFB.then fB).keep hrowA (by simp)
    have P7 : Hid _ := P6.out.quiet (hFB.then fB)
    have hG7 := (hFA.then fA).then (hFB.then fB)
    obtain ⟨w7, HW7⟩ : ∃ w7, Hid (wB.alloc (.cells #[.int .u8 k, .int .i64 f, .int .i64 m, .string ky, .string vl, .bool dp, .string ⟨#[]⟩, .string ⟨#[]⟩, .slice none 0 0] 59) = w7) := ⟨_, rfl⟩
    obtain ⟨R1, HR1⟩ : ∃ R1, Hid (wA.heap.size = R1) := ⟨_, rfl⟩
    obtain ⟨R2, HR2⟩ : ∃ R2, Hid (wB.heap.size = R2) := ⟨_, rfl⟩
    rw [HW7.out] at hrowB hrowA7 P7 hG7
    rw [HR1.out] at hrowA7
    rw [HR2.out] at hrowB
    clear hFA fA hFB fB hrowA HXr P6 P5
    have a0 : w7.cell? ⟨R1, 0, none⟩ = some (.int .u8 k) := by rw [cell_of_row _ _ _ _ _ _ hrowA7]; rfl
    have a1 : w7.cell? ⟨R1, 1, none⟩ = some (.int .i64 f) := by rw [cell_of_row _ _ _ _ _ _ hrowA7]; rfl
    have a2 : w7.cell? ⟨R1, 2, none⟩ = some (.int .i64 m) := by rw [cell_of_row _ _ _ _ _ _ hrowA7]; rfl
    have a3 : w7.cell? ⟨R1, 3, none⟩ = some (.string ky) := by rw [cell_of_row _ _ _ _ _ _ hrowA7]; rfl
    have a4 : w7.cell? ⟨R1, 4, none⟩ = some (.string vl) := by rw [cell_of_row _ _ _ _ _ _ hrowA7]; rfl
    have a5 : w7.cell? ⟨R1, 5, none⟩ = some (.bool dp) := by rw [cell_of_row _ _ _ _ _ _ hrowA7]; rfl
    have a6 : w7.cell? ⟨R1, 6, none⟩ = some (.string ⟨#[]⟩) := by rw [cell_of_row _ _ _ _ _ _ hrowA7]; rfl
    have a7 : w7.cell? ⟨R1, 7, none⟩ = some (.string ⟨#[]⟩) := by rw [cell_of_row _ _ _ _ _ _ hrowA7]; rfl
    have a8 : w7.cell? ⟨R1, 8, none⟩ = some (.slice none 0 0) := by rw [cell_of_row _ _ _ _ _ _ hrowA7]; rfl
    have b0 : w7.cell? ⟨R2, 0, none⟩ = some (.int .u8 k) := by rw [cell_of_row _ _ _ _ _ _ hrowB]; rfl
    have b1 : w7.cell? ⟨R2, 1, none⟩ = some (.int .i64 f) := by rw [cell_of_row _ _ _ _ _ _ hrowB]; rfl
    have b2 : w7.cell? ⟨R2, 2, none⟩ = some (.int .i64 m) := by rw [cell_of_row _ _ _ _ _ _ hrowB]; rfl
    have b3 : w7.cell? ⟨R2, 3, none⟩ = some (.string ky) := by rw [cell_of_row _ _ _ _ _ _ hrowB]; rfl
    have b4 : w7.cell? ⟨R2, 4, none⟩ = some (.string vl) := by rw [cell_of_row _ _ _ _ _ _ hrowB]; rfl
    have b5 : w7.cell? ⟨R2, 5, none⟩ = some (.bool dp) := by rw [cell_of_row _ _ _ _ _ _ hrowB]; rfl
    have b6 : w7.cell? ⟨R2, 6, none⟩ = some (.string ⟨#[]⟩) := by rw [cell_of_row _ _ _ _ _ _ hrowB]; rfl
    have b7 : w7.cell? ⟨R2, 7, none⟩ = some (.string ⟨#[]⟩) := by rw [cell_of_row _ _ _ _ _ _ hrowB]; rfl
    have b8 : w7.cell? ⟨R2, 8, none⟩ = some (.slice none 0 0) := by rw [cell_of_row _ _ _ _ _ _ hrowB]; rfl
    have HQ7 : Calls Try.prog 24 #[.agg #[.int .u8 k, .int .i64 f, .int .i64 m, .string ky, .string vl, .bool dp, .string ⟨#[]⟩, .string ⟨#[]⟩, .slice none 0 0], .agg #[.int .u8 k, .int .i64 f, .int .i64 m, .string ky, .string vl, .bool dp, .string ⟨#[]⟩, .string ⟨#[]⟩, .slice none 0 0]] w7 fun e w' => e = .returned (.bool true) ∧ Fr [] w7 w' := sameReq_any ⟨k, f, m, ky, vl, dp⟩ w7
    go_upto_region 20 with fail
    rw [HW7.out, HR1.out, HR2.out]
    clear HW7 HR1 HR2 hrowA7 hrowB
    go_wp2_with fail
    refine HQ7.mono ?_
    rintro e w8 ⟨rfl, hF8⟩
    have P8 : Hid _ := P7.out.quiet hF8
    have HH8 : Hid (Calls _ _ _ _ _) := ls_holds P8.out.l
    rw [HHv.out] at HH8
    clear a0 b0 a1 b1 a2 b2 a3 b3 a4 b4 a5 b5 a6 b6 a7 b7 a8 b8 HQ7 P7
    go_wp2_with fail
    refine Calls.mono HH8.out ?_
    rintro e w9 ⟨rfl, hF9⟩
    have P9 : Hid _ := P8.out.quiet hF9
    have HH9 : Hid (Calls _ _ _ _ _) := rs_holds P9.out.r
    rw [HHv.out] at HH9
    clear P8 HH8
    go_wp2_with fail
    refine Calls.mono HH9.out ?_
    rintro e w10 ⟨rfl, hF10⟩
    have P10 : Hid _ := P9.out.quiet hF10
    have HH10 : Hid (Calls _ _ _ _ _) := ls_ready P10.out.l
    rw [HRv.out] at HH10
    clear P9 HH9
    go_wp2_with fail
    refine Calls.mono HH10.out ?_
    rintro e w11 ⟨rfl, hF11⟩
    have P11 : Hid _ := P10.out.quiet hF11
    have HH11 : Hid (Calls _ _ _ _ _) := rs_ready P11.out.r
    rw [HRv.out] at HH11
    clear P10 HH10
    go_wp2_with fail
    refine Calls.mono HH11.out ?_
    rintro e w12 ⟨rfl, hF12⟩
    have P12 : Hid _ := P11.out.quiet hF12
    have HFf : Hid (Fr (O1 ++ O2) w w12) := HW5.out.then ((hG7.then (hF8.then (hF9.then (hF10.then (hF11.then hF12))))).mono (by simp))
    clear P11 HH11
    go_wp2_with fail
    go_ret
    exact ⟨rfl, _, _, _, P12.out, HN5.out, HFf.out⟩
  have g2 : ((kd : Int) == 2) = false := by rw [beq_eq_false_iff_ne]; omega
  have g3 : ((kd : Int) == 3) = false := by rw [beq_eq_false_iff_ne]; omega
  have g4 : ((kd : Int) == 4) = false := by rw [beq_eq_false_iff_ne]; omega
  obtain ⟨t5, HT5⟩ : ∃ t5, Hid (st = t5) := ⟨_, rfl⟩
  rw [HT5.out] at P1
  have P5 : Hid _ := P1.out
  have HW5 : Hid (Fr (O1 ++ O2) w w1) := HW1f.out
  clear HT5 P1 HW1f h2 h3 h4
  obtain ⟨sv, HSv⟩ : ∃ sv, Hid (nextS2 c t5 = sv) := ⟨_, rfl⟩
  obtain ⟨bv, HBv⟩ : ∃ bv, Hid (nextB2 t5 = bv) := ⟨_, rfl⟩
  obtain ⟨rq, HRq⟩ : ∃ rq, Hid (nextR2 c t5 = rq) := ⟨_, rfl⟩
  obtain ⟨hv, HHv⟩ : ∃ hv, Hid (holds2 t5 = hv) := ⟨_, rfl⟩
  obtain ⟨rv, HRv⟩ : ∃ rv, Hid (ready2 t5 = rv) := ⟨_, rfl⟩
  obtain ⟨k, f, m, ky, vl, dp⟩ := rq
  have HXl : Hid (Calls _ _ _ _ _) := ls_next P5.out.l
  rw [HSv.out, HBv.out, HRq.out] at HXl
  simp only [Rq.v] at HXl
  have hss : (sv == sv) = true := by simp
  have hbb : (bv == bv) = true := by simp
  have hhh : (hv == hv) = true := by simp
  have hrr : (rv == rv) = true := by simp
  go_wp2_with fail
  refine Calls.mono HXl.out ?_
  rintro e wA ⟨rfl, hFA⟩
  have fA := Fr.alloc [] wA (.cells #[.int .u8 k, .int .i64 f, .int .i64 m, .string ky, .string vl, .bool dp, .string ⟨#[]⟩, .string ⟨#[]⟩, .slice none 0 0] 59)
  have hrowA := heap_alloc_new wA (.cells #[.int .u8 k, .int .i64 f, .int .i64 m, .string ky, .string vl, .bool dp, .string ⟨#[]⟩, .string ⟨#[]⟩, .slice none 0 0] 59)
  have P6 : Hid _ := P5.out.quiet (hFA.then fA)
  have HXr : Hid (Calls _ _ _ _ _) := rs_next P6.out.r
  rw [HSv.out, HBv.out, HRq.out] at HXr
  simp only [Rq.v] at HXr
  clear HXl HSv HBv HRq
  go_wp2_with fail
  refine Calls.mono HXr.out ?_
  rintro e wB ⟨rfl, hFB⟩
  have fB := Fr.alloc [] wB (.cells #[.int .u8 k, .int .i64 f, .int .i64 m, .string ky, .string vl, .bool dp, .string ⟨#[]⟩, .string ⟨#[]⟩, .slice none 0 0] 59)
  have hrowB := heap_alloc_new wB (.cells #[.int .u8 k, .int .i64 f, .int .i64 m, .string ky, .string vl, .bool dp, .string ⟨#[]⟩, .string ⟨#[]⟩, .slice none 0 0] 59)
  have hrowA7 := (hFB.then fB).keep hrowA (by simp)
  have P7 : Hid _ := P6.out.quiet (hFB.then fB)
  have hG7 := (hFA.then fA).then (hFB.then fB)
  obtain ⟨w7, HW7⟩ : ∃ w7, Hid (wB.alloc (.cells #[.int .u8 k, .int .i64 f, .int .i64 m, .string ky, .string vl, .bool dp, .string ⟨#[]⟩, .string ⟨#[]⟩, .slice none 0 0] 59) = w7) := ⟨_, rfl⟩
  obtain ⟨R1, HR1⟩ : ∃ R1, Hid (wA.heap.size = R1) := ⟨_, rfl⟩
  obtain ⟨R2, HR2⟩ : ∃ R2, Hid (wB.heap.size = R2) := ⟨_, rfl⟩
  rw [HW7.out] at hrowB hrowA7 P7 hG7
  rw [HR1.out] at hrowA7
  rw [HR2.out] at hrowB
  clear hFA fA hFB fB hrowA HXr P6 P5
  have a0 : w7.cell? ⟨R1, 0, none⟩ = some (.int .u8 k) := by rw [cell_of_row _ _ _ _ _ _ hrowA7]; rfl
  have a1 : w7.cell? ⟨R1, 1, none⟩ = some (.int .i64 f) := by rw [cell_of_row _ _ _ _ _ _ hrowA7]; rfl
  have a2 : w7.cell? ⟨R1, 2, none⟩ = some (.int .i64 m) := by rw [cell_of_row _ _ _ _ _ _ hrowA7]; rfl
  have a3 : w7.cell? ⟨R1, 3, none⟩ = some (.string ky) := by rw [cell_of_row _ _ _ _ _ _ hrowA7]; rfl
  have a4 : w7.cell? ⟨R1, 4, none⟩ = some (.string vl) := by rw [cell_of_row _ _ _ _ _ _ hrowA7]; rfl
  have a5 : w7.cell? ⟨R1, 5, none⟩ = some (.bool dp) := by rw [cell_of_row _ _ _ _ _ _ hrowA7]; rfl
  have a6 : w7.cell? ⟨R1, 6, none⟩ = some (.string ⟨#[]⟩) := by rw [cell_of_row _ _ _ _ _ _ hrowA7]; rfl
  have a7 : w7.cell? ⟨R1, 7, none⟩ = some (.string ⟨#[]⟩) := by rw [cell_of_row _ _ _ _ _ _ hrowA7]; rfl
  have a8 : w7.cell? ⟨R1, 8, none⟩ = some (.slice none 0 0) := by rw [cell_of_row _ _ _ _ _ _ hrowA7]; rfl
  have b0 : w7.cell? ⟨R2, 0, none⟩ = some (.int .u8 k) := by rw [cell_of_row _ _ _ _ _ _ hrowB]; rfl
  have b1 : w7.cell? ⟨R2, 1, none⟩ = some (.int .i64 f) := by rw [cell_of_row _ _ _ _ _ _ hrowB]; rfl
  have b2 : w7.cell? ⟨R2, 2, none⟩ = some (.int .i64 m) := by rw [cell_of_row _ _ _ _ _ _ hrowB]; rfl
  have b3 : w7.cell? ⟨R2, 3, none⟩ = some (.string ky) := by rw [cell_of_row _ _ _ _ _ _ hrowB]; rfl
  have b4 : w7.cell? ⟨R2, 4, none⟩ = some (.string vl) := by rw [cell_of_row _ _ _ _ _ _ hrowB]; rfl
  have b5 : w7.cell? ⟨R2, 5, none⟩ = some (.bool dp) := by rw [cell_of_row _ _ _ _ _ _ hrowB]; rfl
  have b6 : w7.cell? ⟨R2, 6, none⟩ = some (.string ⟨#[]⟩) := by rw [cell_of_row _ _ _ _ _ _ hrowB]; rfl
  have b7 : w7.cell? ⟨R2, 7, none⟩ = some (.string ⟨#[]⟩) := by rw [cell_of_row _ _ _ _ _ _ hrowB]; rfl
  have b8 : w7.cell? ⟨R2, 8, none⟩ = some (.slice none 0 0) := by rw [cell_of_row _ _ _ _ _ _ hrowB]; rfl
  have HQ7 : Calls Try.prog 24 #[.agg #[.int .u8 k, .int .i64 f, .int .i64 m, .string ky, .string vl, .bool dp, .string ⟨#[]⟩, .string ⟨#[]⟩, .slice none 0 0], .agg #[.int .u8 k, .int .i64 f, .int .i64 m, .string ky, .string vl, .bool dp, .string ⟨#[]⟩, .string ⟨#[]⟩, .slice none 0 0]] w7 fun e w' => e = .returned (.bool true) ∧ Fr [] w7 w' := sameReq_any ⟨k, f, m, ky, vl, dp⟩ w7
  go_upto_region 20 with fail
  rw [HW7.out, HR1.out, HR2.out]
  clear HW7 HR1 HR2 hrowA7 hrowB
  go_wp2_with fail
  refine HQ7.mono ?_
  rintro e w8 ⟨rfl, hF8⟩
  have P8 : Hid _ := P7.out.quiet hF8
  have HH8 : Hid (Calls _ _ _ _ _) := ls_holds P8.out.l
  rw [HHv.out] at HH8
  clear a0 b0 a1 b1 a2 b2 a3 b3 a4 b4 a5 b5 a6 b6 a7 b7 a8 b8 HQ7 P7
  go_wp2_with fail
  refine Calls.mono HH8.out ?_
  rintro e w9 ⟨rfl, hF9⟩
  have P9 : Hid _ := P8.out.quiet hF9
  have HH9 : Hid (Calls _ _ _ _ _) := rs_holds P9.out.r
  rw [HHv.out] at HH9
  clear P8 HH8
  go_wp2_with fail
  refine Calls.mono HH9.out ?_
  rintro e w10 ⟨rfl, hF10⟩
  have P10 : Hid _ := P9.out.quiet hF10
  have HH10 : Hid (Calls _ _ _ _ _) := ls_ready P10.out.l
  rw [HRv.out] at HH10
  clear P9 HH9
  go_wp2_with fail
  refine Calls.mono HH10.out ?_
  rintro e w11 ⟨rfl, hF11⟩
  have P11 : Hid _ := P10.out.quiet hF11
  have HH11 : Hid (Calls _ _ _ _ _) := rs_ready P11.out.r
  rw [HRv.out] at HH11
  clear P10 HH10
  go_wp2_with fail
  refine Calls.mono HH11.out ?_
  rintro e w12 ⟨rfl, hF12⟩
  have P12 : Hid _ := P11.out.quiet hF12
  have HFf : Hid (Fr (O1 ++ O2) w w12) := HW5.out.then ((hG7.then (hF8.then (hF9.then (hF10.then (hF11.then hF12))))).mono (by simp))
  clear P11 HH11
  go_wp2_with fail
  go_ret
  exact ⟨rfl, _, _, _, P12.out, HN5.out, HFf.out⟩
end Go.Proofs.Ytgladhebgnngdaa

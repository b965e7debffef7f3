/- The walk of the law LaneStill. Conditions: a configuration and a transaction that came in, bytes that came in. -/
import Derived.Test.YtgladhebgnngdaaLa14
import Derived.Test.YtgladhebgnngdaaSa
import Derived.Test.YtgladhebgnngdaaIn10
namespace Go.Proofs.Ytgladhebgnngdaa
open Go.ChangeShapes Go.WideShapes Go.ChangeAt Go.RowKit Go.Lib Go.Maps
set_option linter.unusedVariables false
set_option linter.unusedSimpArgs false

theorem nextS_o {c : Cf} (n : Int) (us : List Wt) (o p : Nat) : nextS c (some ⟨n, us, o⟩) = nextS c (some ⟨n, us, p⟩) := by cases us <;> rfl
theorem nextR_o {nm : Int} (n : Int) (us : List Wt) (o p : Nat) : nextR nm (some ⟨n, us, o⟩) = nextR nm (some ⟨n, us, p⟩) := by cases us <;> rfl
theorem nextB_o (n : Int) (us : List Wt) (o p : Nat) : nextB (some ⟨n, us, o⟩) = nextB (some ⟨n, us, p⟩) := by cases us <;> rfl

set_option maxHeartbeats 16000000 in
set_option maxRecDepth 100000 in
theorem still_walk (l s x q : Int) (n : Int) (ao : Option Addr) (L cap : Nat) (ws : List Wt) (bo : Option Addr) (Bn bc : Nat) (bs : List Nat) (w : World) (hC : Cf.ok ⟨l, s, x, q⟩) (hT : TArg w n ao L cap ws) (hB : BArg w bo Bn bc bs) (hBn : Bn ≤ 140737488351232) :
    Calls Try.prog 5 #[.agg #[.int .i64 l, .int .i64 s, .int .i64 x, .int .i64 q], .agg #[.int .i64 n, .slice ao L cap], .slice bo Bn bc] w fun e w' => e = .returned (.bool true) ∧ Fr [] w w' := by
  have hF0 : Fr [] w (w.alloc (.cells #[.int .i64 l, .int .i64 s, .int .i64 x, .int .i64 q] 23)) := Fr.alloc _ _ _
  have f1 : Fr [] (w.alloc (.cells #[.int .i64 l, .int .i64 s, .int .i64 x, .int .i64 q] 23)) ((w.alloc (.cells #[.int .i64 l, .int .i64 s, .int .i64 x, .int .i64 q] 23)).alloc (.cells #[.int .i64 n, .slice ao L cap] 40)) := Fr.alloc _ _ _
  have hrowT := heap_alloc_new (w.alloc (.cells #[.int .i64 l, .int .i64 s, .int .i64 x, .int .i64 q] 23)) (.cells #[.int .i64 n, .slice ao L cap] 40)
  have hCf := (CfM.new w l s x q 23).keep f1
  have hF1 := hF0.then f1
  obtain ⟨w1, HW1⟩ : ∃ w1, Hid ((w.alloc (.cells #[.int .i64 l, .int .i64 s, .int .i64 x, .int .i64 q] 23)).alloc (.cells #[.int .i64 n, .slice ao L cap] 40) = w1) := ⟨_, rfl⟩
  obtain ⟨B1, HB1⟩ : ∃ B1, Hid (w.heap.size + 1 = B1) := ⟨_, rfl⟩
  obtain ⟨B0, HB0⟩ : ∃ B0, Hid (w.heap.size = B0) := ⟨_, rfl⟩
  have hsz0 : (w.alloc (.cells #[.int .i64 l, .int .i64 s, .int .i64 x, .int .i64 q] 23)).heap.size = w.heap.size + 1 := by simp
  rw [hsz0, HB1.out] at hrowT
  rw [HW1.out] at hrowT hF1 hCf
  rw [HB0.out] at hCf
  have HCx : Hid (∀ W, Fr [] w1 W → CfM W B0 l s x q) := fun W hf => hCf.keep hf
  have HBx : Hid (∀ W, Fr [] w1 W → W.cell? ⟨B1, 0, none⟩ = some (.int .i64 n) ∧ W.cell? ⟨B1, 1, none⟩ = some (.slice ao L cap)) := fun W hf => by
    have := hf.keep hrowT (by simp)
    exact ⟨by rw [cell_of_row _ _ _ _ _ _ this]; rfl, by rw [cell_of_row _ _ _ _ _ _ this]; rfl⟩
  have HTx : Hid (∀ W, Fr [] w1 W → TArg W n ao L cap ws) := fun W hf => hT.keep (hF1.then hf)
  have HBs : Hid (∀ W, Fr [] w1 W → BArg W bo Bn bc bs) := fun W hf => hB.keep (hF1.then hf)
  have HAl : Hid (∀ W, Calls _ _ _ _ _) := fun W => alive14_any W
  have HF1 : Hid (Fr [] w w1) := hF1
  have hlen : L = ws.length := hT.len
  have hL47 : L ≤ 140737488355328 := by rw [hlen]; exact hT.rs.few
  have HL : Hid (L = ws.length) := hlen
  clear hF0 f1 hrowT hCf hF1 hsz0 hT hB hlen hC
  go_enter Try.func5, Try.ntmps5
  go_upto_region 1 with fail
  rw [HW1.out, HB1.out, HB0.out]
  clear HW1 HB1 HB0
  go_wp2_with fail
  refine Calls.mono (HAl.out _) ?_
  rintro e w2 ⟨rfl, hG2⟩
  obtain ⟨_, c0, c1, c2, c3⟩ := HCx.out _ hG2
  have HC2 := check_cells l s x q w2
  by_cases hm : ¬ Cf.may ⟨l, s, x, q⟩
  · have E : Cf.err ⟨l, s, x, q⟩ = 7 := if_neg hm
    rw [E] at HC2
    clear E hm
    go_wp2_with fail
    refine HC2.mono ?_
    rintro e w3 ⟨rfl, hF3⟩
    have hG3 := hG2.then hF3
    clear HC2 c0 c1 c2 c3 hG2 hF3
    go_wp2_with fail
    refine Calls.mono (HAl.out _) ?_
    rintro e w4 ⟨rfl, hF4⟩
    go_wp2
    go_ret
    exact ⟨rfl, HF1.out.then (hG3.then hF4)⟩
  have hm := Classical.not_not.1 hm
  have E : Cf.err ⟨l, s, x, q⟩ = 0 := if_pos hm
  rw [E] at HC2
  have hl1 : newE ⟨l, s, x, q⟩ 1 = 0 := by
    have := hm.1
    simp only [newE, hm]
    simp only [not_true, if_false]
    rw [if_pos]
    exact ⟨by decide, this.1⟩
  clear E hm
  go_wp2_with fail
  refine HC2.mono ?_
  rintro e w3 ⟨rfl, hF3⟩
  have hG3 := hG2.then hF3
  clear HC2 c0 c1 c2 c3 hG2 hF3
  obtain ⟨b0, b1⟩ := HBx.out _ hG3
  have hT3 := HTx.out _ hG3
  by_cases hok : ¬ okT n ws
  · have HK := check_any n ao L cap 1 ws w3 hT3.rs hT3.len hT3.n0 hT3.n1 (.inr ⟨hok, rfl⟩)
    clear hok hT3
    go_wp2_with fail
    refine HK.mono ?_
    rintro e w4 ⟨rfl, hF4⟩
    have hG4 := hG3.then hF4
    clear HK hF4 hG3 b0 b1
    go_wp2_with fail
    refine Calls.mono (HAl.out _) ?_
    rintro e w5 ⟨rfl, hF5⟩
    go_wp2
    go_ret
    exact ⟨rfl, HF1.out.then (hG4.then hF5)⟩
  have hok := Classical.not_not.1 hok
  have HOk : Hid (okT n ws) := hok
  have HK := check_any n ao L cap 0 ws w3 hT3.rs hT3.len hT3.n0 hT3.n1 (.inl ⟨hok, rfl⟩)
  clear hok hT3
  go_wp2_with fail
  refine HK.mono ?_
  rintro e w4 ⟨rfl, hF4⟩
  have hG4 := hG3.then hF4
  clear HK hF4 hG3 b0 b1
  obtain ⟨b0, b1⟩ := HBx.out _ hG4
  have hT4 := HTx.out _ hG4
  have HSz := txSize_any n ao L cap ws w4 hT4.rs hT4.len
  clear hT4
  go_wp2_with fail
  refine HSz.mono ?_
  rintro e w5 ⟨N0, rfl, hN, hF5⟩
  obtain ⟨N, hNN⟩ : ∃ N, N = N0 + 1 := ⟨_, rfl⟩
  rw [← hNN]
  have hG5 := (hG4.then hF5).then (Fr.alloc [] w5 (.cells #[.int .i64 (N : Int)] 3))
  have hN50 : N ≤ 9223372036854775807 := by have := hN.2.1; omega
  clear hNN
  clear HSz hF5 hG4 b0 b1 hN
  go_wp2_with fail
  refine (beyond_any w5.heap.size N _ hN50 (by simp)).mono ?_
  rintro e w6 ⟨rfl, rfl⟩
  obtain ⟨w6, HW6⟩ : ∃ w6, Hid (w5.alloc (.cells #[.int .i64 (N : Int)] 3) = w6) := ⟨_, rfl⟩
  rw [HW6.out] at hG5 ⊢
  obtain ⟨Bq, hBq⟩ : ∃ Bq, Bq = decide (1048576 < N) := ⟨_, rfl⟩
  rw [← hBq]
  clear HW6 hBq
  cases Bq with
  | true =>
    go_wp2_with fail
    refine Calls.mono (HAl.out _) ?_
    rintro e w7 ⟨rfl, hF7⟩
    go_wp2
    go_ret
    exact ⟨rfl, HF1.out.then (hG5.then hF7)⟩
  | false =>
    obtain ⟨_, c0, c1, c2, c3⟩ := HCx.out _ hG5
    go_wp2_with fail
    refine Calls.mono (lnew_any hl1 _) ?_
    rintro e w7 ⟨lb, rfl, hlb, hM7, hF7⟩
    have hG7 := hG5.then hF7
    have hlb1 : w1.heap.size ≤ lb := by have := hG5.size; omega
    clear c0 c1 c2 c3 hl1 hF7 hlb hG5
    obtain ⟨b0, b1⟩ := HBx.out _ hG7
    have HTk : Hid (Calls _ _ _ _ _) := ltake_any n ao L cap ws hM7 (HTx.out _ hG7) HOk.out
    have hlt7 := hM7.lt
    clear hM7
    go_wp2_with fail
    refine Calls.mono HTk.out ?_
    rintro e w8 ⟨S, rfl, hM8, hS8, hF8⟩
    have hG8 : Fr [] w1 w8 := hG7.on hF8 (by intro k hk; simp at hk; omega)
    have hs7 := hG7.size
    have hs8 := hF8.size
    have HO : Hid (∀ k ∈ lb :: S, w1.heap.size ≤ k ∧ k < w8.heap.size) := by
      intro k hk
      simp only [List.mem_cons] at hk
      rcases hk with rfl | hk
      · exact ⟨hlb1, by omega⟩
      · have := hS8 k hk
        exact ⟨by omega, this.2⟩
    have HM8 : Hid (LnM w8 lb 1 l s x q (some ⟨n, dd ws, 0⟩) S) := hM8
    have hdl : (dd ws).length ≤ L := by rw [HL.out]; exact dd_len ws
    have hL32 : L ≤ 32 := by rw [HL.out]; exact HOk.out.2.2.1
    have hn0 : n ≠ 0 := by have := HOk.out.1; omega
    obtain ⟨D, HD⟩ : ∃ D, Hid ((dd ws).length = D) := ⟨_, rfl⟩
    rw [HD.out] at hdl
    clear HTk hM8 hS8 hF8 hG7 b0 b1 hlt7 hs7
    go_wp2_with fail
    go_loopw [9, 10, 11] (fun oo aa ii wr => ∃ (O A i : Nat) (us : List Wt), oo = .int .i64 O ∧ aa = .int .i64 A ∧ ii = .int .i64 i ∧ i ≤ Bn ∧ O ≤ A ∧ Hid (us.length + A = D) ∧ Hid (LnM wr lb 1 l s x q (some ⟨n, us, O⟩) S) ∧ Fr [] w1 wr ∧ w8.heap.size ≤ wr.heap.size) (fun _ _ ii _ => Bn - (intOf ii).toNat)
    case atStart => exact ⟨0, 0, 0, dd ws, rfl, rfl, rfl, Nat.zero_le _, Nat.le_refl _, (by show _ = _; rw [← HD.out]; rfl), HM8, hG8, Nat.le_refl _⟩
    case round =>
      obtain ⟨O, A, i, us, rfl, rfl, rfl, hiB, hOA, HLn, HM, hFr, hsr⟩ := hrel
      have hAD : A ≤ 32 := by have := HLn.out; omega
      by_cases hrun : i < Bn ∧ i < 500
      · obtain ⟨hiB2, hi5⟩ := hrun
        have hBa := HBs.out _ hFr
        obtain ⟨bb, boff, rfl, _, _⟩ := hBa.lies (by omega)
        have HX : Hid (Calls _ _ _ _ _) := lnext_any HM.out
        obtain ⟨sv, HSv⟩ : ∃ sv, Hid (nextS ⟨l, s, x, q⟩ (some ⟨n, us, O⟩) = sv) := ⟨_, rfl⟩
        obtain ⟨bv, HBv⟩ : ∃ bv, Hid (nextB (some ⟨n, us, O⟩) = bv) := ⟨_, rfl⟩
        obtain ⟨rq, HRq⟩ : ∃ rq, Hid (nextR 1 (some ⟨n, us, O⟩) = rq) := ⟨_, rfl⟩
        rw [HSv.out, HBv.out, HRq.out] at HX
        obtain ⟨k, f, m, ky, vl, dp⟩ := rq
        simp only [Rq.v] at HX
        clear hBa
        go_wp2_with fail
        refine Calls.mono HX.out ?_
        rintro e wA ⟨rfl, hFA⟩
        have f3 := Fr.alloc [] wA (.cells #[.int .u8 k, .int .i64 f, .int .i64 m, .string ky, .string vl, .bool dp, .string ⟨#[]⟩, .string ⟨#[]⟩, .slice none 0 0] 59)
        have hrowR3 := heap_alloc_new wA (.cells #[.int .u8 k, .int .i64 f, .int .i64 m, .string ky, .string vl, .bool dp, .string ⟨#[]⟩, .string ⟨#[]⟩, .slice none 0 0] 59)
        have hM3 := HM.out.kept _ (hFA.then f3)
        have hG3 := hFr.then (hFA.then f3)
        have hsA := hFA.size
        have hs3 := (hFA.then f3).size
        obtain ⟨w3, HW3⟩ : ∃ w3, Hid (wA.alloc (.cells #[.int .u8 k, .int .i64 f, .int .i64 m, .string ky, .string vl, .bool dp, .string ⟨#[]⟩, .string ⟨#[]⟩, .slice none 0 0] 59) = w3) := ⟨_, rfl⟩
        obtain ⟨R1, HR1⟩ : ∃ R1, Hid (wA.heap.size = R1) := ⟨_, rfl⟩
        rw [HW3.out] at hrowR3 hM3 hG3 hs3
        rw [HR1.out] at hrowR3 hsA
        have hR1n : R1 ∉ lb :: S := fun hk => by have := (HO.out _ hk).2; omega
        have HM3 : Hid (LnM w3 lb 1 l s x q (some ⟨n, us, O⟩) S) := hM3
        have hs3' : w8.heap.size ≤ w3.heap.size := by omega
        have HOs : Hid (∀ k ∈ lb :: S, w1.heap.size ≤ k) := fun k hk => (HO.out k hk).1
        clear f3 hFA hM3 HX HM hFr hs3 hsA hsr
        obtain ⟨_, boff', e, _, hbc⟩ := (HBs.out _ hG3).lies (by omega)
        cases e
        have hcell := hbc i hiB2
        have hlow := (HBs.out _ hG3).low (bs.getD i 0) (by have := (HBs.out _ hG3).len; simp [List.getD, show i < bs.length by omega])
        obtain ⟨a, ha⟩ : ∃ a, a = bs.getD i 0 := ⟨_, rfl⟩
        rw [← ha] at hcell hlow
        obtain ⟨rm, hrm⟩ : ∃ rm : Int, rm = (a : Int) % 4 := ⟨_, rfl⟩
        have hrem : (a : Int).tmod 4 = rm := by rw [hrm]; exact Int.tmod_eq_emod_of_nonneg (by omega)
        have hr4 : rm = 0 ∨ rm = 1 ∨ rm = 2 ∨ rm = 3 := by omega
        clear ha hrm hbc
        go_upto_region 11 with fail
        rw [HW3.out, HR1.out]
        clear HW3 HR1
        rcases hr4 with rfl | rfl | rfl | rfl
        · have HA : Hid (Calls _ _ _ _ _) := lacked_any HM3.out
          cases O with
          | zero =>
            simp only [ackE, ackS] at HA
            go_wp2_with fail
            refine Calls.mono HA.out ?_
            rintro e w5 ⟨rfl, hM5, hF5⟩
            have HM5 : Hid (LnM w5 lb 1 l s x q (some ⟨n, us, 0⟩) S) := hM5
            have hrowR := hF5.keep hrowR3 hR1n
            have hG5 : Fr [] w1 w5 := hG3.on hF5 HOs.out
            have hs5 : w8.heap.size ≤ w5.heap.size := Nat.le_trans hs3' hF5.size
            clear hM5 hF5 HA HM3 hG3 hrowR3 hs3' hcell
            have HX5 : Hid (Calls _ _ _ _ _) := lnext_any HM5.out
            rw [nextS_o n us 0 0, nextR_o n us 0 0, nextB_o n us 0 0, HSv.out, HRq.out, HBv.out] at HX5
            simp only [Rq.v] at HX5
            have hM5l := HM5.out.lt
            go_wp2_with fail
            refine Calls.mono HX5.out ?_
            rintro e w6 ⟨rfl, hF6⟩
            have f7 := Fr.alloc [] w6 (.cells #[.int .u8 k, .int .i64 f, .int .i64 m, .string ky, .string vl, .bool dp, .string ⟨#[]⟩, .string ⟨#[]⟩, .slice none 0 0] 59)
            have hrow7 := heap_alloc_new w6 (.cells #[.int .u8 k, .int .i64 f, .int .i64 m, .string ky, .string vl, .bool dp, .string ⟨#[]⟩, .string ⟨#[]⟩, .slice none 0 0] 59)
            have hrowR7 := (hF6.then f7).keep hrowR (by simp)
            have HM7 : Hid (LnM _ lb 1 l s x q (some ⟨n, us, 0⟩) S) := HM5.out.kept _ (hF6.then f7)
            have hG7 := hG5.then (hF6.then f7)
            have hs7 : w8.heap.size ≤ _ := Nat.le_trans hs5 (hF6.then f7).size
            obtain ⟨w7, HW7⟩ : ∃ w7, Hid (w6.alloc (.cells #[.int .u8 k, .int .i64 f, .int .i64 m, .string ky, .string vl, .bool dp, .string ⟨#[]⟩, .string ⟨#[]⟩, .slice none 0 0] 59) = w7) := ⟨_, rfl⟩
            obtain ⟨R2, HR2⟩ : ∃ R2, Hid (w6.heap.size = R2) := ⟨_, rfl⟩
            rw [HW7.out] at hrow7 hrowR7 HM7 hG7 hs7
            rw [HR2.out] at hrow7
            clear hF6 f7 HX5 HM5 hG5 hrowR hs5
            go_upto_region 34 with fail
            rw [HW7.out, HR2.out]
            clear HW7 HR2
            have HH7 : ∀ y : Wd13 w7, Calls Try.prog 16 #[.pointer (some ⟨lb, 0, none⟩)] y.W fun e w' => e = .returned (.int .i64 n) ∧ Fr [] y.W w' := fun y => lholds_any (HM7.out.kept _ y.h)
            have HQ7 : ∀ W, Calls Try.prog 24 #[.agg #[.int .u8 k, .int .i64 f, .int .i64 m, .string ky, .string vl, .bool dp, .string ⟨#[]⟩, .string ⟨#[]⟩, .slice none 0 0], .agg #[.int .u8 k, .int .i64 f, .int .i64 m, .string ky, .string vl, .bool dp, .string ⟨#[]⟩, .string ⟨#[]⟩, .slice none 0 0]] W fun e w' => e = .returned (.bool true) ∧ Fr [] W w' := fun W => sameReq_any ⟨k, f, m, ky, vl, dp⟩ W
            have a0 : ∀ y : Wd13 w7, y.W.cell? ⟨R1, 0, none⟩ = some (.int .u8 k) := fun y => by rw [cell_of_row _ _ _ _ _ _ (y.h.keep hrowR7 (by simp))]; rfl
            have a1 : ∀ y : Wd13 w7, y.W.cell? ⟨R1, 1, none⟩ = some (.int .i64 f) := fun y => by rw [cell_of_row _ _ _ _ _ _ (y.h.keep hrowR7 (by simp))]; rfl
            have a2 : ∀ y : Wd13 w7, y.W.cell? ⟨R1, 2, none⟩ = some (.int .i64 m) := fun y => by rw [cell_of_row _ _ _ _ _ _ (y.h.keep hrowR7 (by simp))]; rfl
            have a3 : ∀ y : Wd13 w7, y.W.cell? ⟨R1, 3, none⟩ = some (.string ky) := fun y => by rw [cell_of_row _ _ _ _ _ _ (y.h.keep hrowR7 (by simp))]; rfl
            have a4 : ∀ y : Wd13 w7, y.W.cell? ⟨R1, 4, none⟩ = some (.string vl) := fun y => by rw [cell_of_row _ _ _ _ _ _ (y.h.keep hrowR7 (by simp))]; rfl
            have a5 : ∀ y : Wd13 w7, y.W.cell? ⟨R1, 5, none⟩ = some (.bool dp) := fun y => by rw [cell_of_row _ _ _ _ _ _ (y.h.keep hrowR7 (by simp))]; rfl
            have a6 : ∀ y : Wd13 w7, y.W.cell? ⟨R1, 6, none⟩ = some (.string ⟨#[]⟩) := fun y => by rw [cell_of_row _ _ _ _ _ _ (y.h.keep hrowR7 (by simp))]; rfl
            have a7 : ∀ y : Wd13 w7, y.W.cell? ⟨R1, 7, none⟩ = some (.string ⟨#[]⟩) := fun y => by rw [cell_of_row _ _ _ _ _ _ (y.h.keep hrowR7 (by simp))]; rfl
            have a8 : ∀ y : Wd13 w7, y.W.cell? ⟨R1, 8, none⟩ = some (.slice none 0 0) := fun y => by rw [cell_of_row _ _ _ _ _ _ (y.h.keep hrowR7 (by simp))]; rfl
            have b0 : ∀ y : Wd13 w7, y.W.cell? ⟨R2, 0, none⟩ = some (.int .u8 k) := fun y => by rw [cell_of_row _ _ _ _ _ _ (y.h.keep hrow7 (by simp))]; rfl
            have b1 : ∀ y : Wd13 w7, y.W.cell? ⟨R2, 1, none⟩ = some (.int .i64 f) := fun y => by rw [cell_of_row _ _ _ _ _ _ (y.h.keep hrow7 (by simp))]; rfl
            have b2 : ∀ y : Wd13 w7, y.W.cell? ⟨R2, 2, none⟩ = some (.int .i64 m) := fun y => by rw [cell_of_row _ _ _ _ _ _ (y.h.keep hrow7 (by simp))]; rfl
            have b3 : ∀ y : Wd13 w7, y.W.cell? ⟨R2, 3, none⟩ = some (.string ky) := fun y => by rw [cell_of_row _ _ _ _ _ _ (y.h.keep hrow7 (by simp))]; rfl
            have b4 : ∀ y : Wd13 w7, y.W.cell? ⟨R2, 4, none⟩ = some (.string vl) := fun y => by rw [cell_of_row _ _ _ _ _ _ (y.h.keep hrow7 (by simp))]; rfl
            have b5 : ∀ y : Wd13 w7, y.W.cell? ⟨R2, 5, none⟩ = some (.bool dp) := fun y => by rw [cell_of_row _ _ _ _ _ _ (y.h.keep hrow7 (by simp))]; rfl
            have b6 : ∀ y : Wd13 w7, y.W.cell? ⟨R2, 6, none⟩ = some (.string ⟨#[]⟩) := fun y => by rw [cell_of_row _ _ _ _ _ _ (y.h.keep hrow7 (by simp))]; rfl
            have b7 : ∀ y : Wd13 w7, y.W.cell? ⟨R2, 7, none⟩ = some (.string ⟨#[]⟩) := fun y => by rw [cell_of_row _ _ _ _ _ _ (y.h.keep hrow7 (by simp))]; rfl
            have b8 : ∀ y : Wd13 w7, y.W.cell? ⟨R2, 8, none⟩ = some (.slice none 0 0) := fun y => by rw [cell_of_row _ _ _ _ _ _ (y.h.keep hrow7 (by simp))]; rfl
            have t0 : ∀ y : Wd13 w7, y.W.cell? ⟨B1, 0, none⟩ = some (.int .i64 n) := fun y => (HBx.out _ (hG7.then y.h)).1
            have hnn : (n != n) = false := by simp
            have hvv : (sv != sv) = false := by simp
            have hbb : (bv != bv) = false := by simp
            refine wp_region_wd13 (w1 := w7) (by kernel_rfl) (by kernel_rfl) (Fr.refl _ _) ?_
            repeat (go_big_quiet_step (first
              | (go_at_call 24; with_reducible refine (HQ7 _).mono ?_; exact fun e w3 hh => ⟨hh.1, ⟨_, Fr.then (Wd13.h _) hh.2⟩, rfl⟩)
              | (go_at_call 16; with_reducible refine (HH7 _).mono ?_; exact fun e w3 hh => ⟨hh.1, ⟨_, Fr.then (Wd13.h _) hh.2⟩, rfl⟩)))
            refine wpQuiet_nil ?_
            rintro _ ⟨z, rfl⟩
            obtain ⟨wz, hz⟩ := z
            simp only
            have HMz : Hid (LnM wz lb 1 l s x q (some ⟨n, us, 0⟩) S) := HM7.out.kept _ hz
            have hGz := hG7.then hz
            have hsz : w8.heap.size ≤ wz.heap.size := Nat.le_trans hs7 hz.size
            clear a0 b0 a1 b1 a2 b2 a3 b3 a4 b4 a5 b5 a6 b6 a7 b7 a8 b8 t0 HH7 HQ7 HM7 hG7 hrow7 hrowR7
            go_wp2_with fail
            go_roundw
            case rel => exact ⟨0, A, i + 1, us, rfl, rfl, by simp, by omega, by omega, HLn, HMz, hGz, hsz⟩
            case measure => simp [intOf]; omega
          | succ O =>
            simp only [ackE, ackS] at HA
            have hO1 : (0 : Int) < ((O + 1 : Nat) : Int) := by omega
            go_wp2_with fail
            refine Calls.mono HA.out ?_
            rintro e w5 ⟨rfl, hM5, hF5⟩
            have HM5 : Hid (LnM w5 lb 1 l s x q (some ⟨n, us, O⟩) S) := hM5
            have hrowR := hF5.keep hrowR3 hR1n
            have hG5 : Fr [] w1 w5 := hG3.on hF5 HOs.out
            have hs5 : w8.heap.size ≤ w5.heap.size := Nat.le_trans hs3' hF5.size
            clear hM5 hF5 HA HM3 hG3 hrowR3 hs3' hcell
            have HX5 : Hid (Calls _ _ _ _ _) := lnext_any HM5.out
            rw [nextS_o n us O (O+1), nextR_o n us O (O+1), nextB_o n us O (O+1), HSv.out, HRq.out, HBv.out] at HX5
            simp only [Rq.v] at HX5
            have hM5l := HM5.out.lt
            go_wp2_with fail
            refine Calls.mono HX5.out ?_
            rintro e w6 ⟨rfl, hF6⟩
            have f7 := Fr.alloc [] w6 (.cells #[.int .u8 k, .int .i64 f, .int .i64 m, .string ky, .string vl, .bool dp, .string ⟨#[]⟩, .string ⟨#[]⟩, .slice none 0 0] 59)
            have hrow7 := heap_alloc_new w6 (.cells #[.int .u8 k, .int .i64 f, .int .i64 m, .string ky, .string vl, .bool dp, .string ⟨#[]⟩, .string ⟨#[]⟩, .slice none 0 0] 59)
            have hrowR7 := (hF6.then f7).keep hrowR (by simp)
            have HM7 : Hid (LnM _ lb 1 l s x q (some ⟨n, us, O⟩) S) := HM5.out.kept _ (hF6.then f7)
            have hG7 := hG5.then (hF6.then f7)
            have hs7 : w8.heap.size ≤ _ := Nat.le_trans hs5 (hF6.then f7).size
            obtain ⟨w7, HW7⟩ : ∃ w7, Hid (w6.alloc (.cells #[.int .u8 k, .int .i64 f, .int .i64 m, .string ky, .string vl, .bool dp, .string ⟨#[]⟩, .string ⟨#[]⟩, .slice none 0 0] 59) = w7) := ⟨_, rfl⟩
            obtain ⟨R2, HR2⟩ : ∃ R2, Hid (w6.heap.size = R2) := ⟨_, rfl⟩
            rw [HW7.out] at hrow7 hrowR7 HM7 hG7 hs7
            rw [HR2.out] at hrow7
            clear hF6 f7 HX5 HM5 hG5 hrowR hs5
            go_upto_region 34 with fail
            rw [HW7.out, HR2.out]
            clear HW7 HR2
            have HH7 : ∀ y : Wd13 w7, Calls Try.prog 16 #[.pointer (some ⟨lb, 0, none⟩)] y.W fun e w' => e = .returned (.int .i64 n) ∧ Fr [] y.W w' := fun y => lholds_any (HM7.out.kept _ y.h)
            have HQ7 : ∀ W, Calls Try.prog 24 #[.agg #[.int .u8 k, .int .i64 f, .int .i64 m, .string ky, .string vl, .bool dp, .string ⟨#[]⟩, .string ⟨#[]⟩, .slice none 0 0], .agg #[.int .u8 k, .int .i64 f, .int .i64 m, .string ky, .string vl, .bool dp, .string ⟨#[]⟩, .string ⟨#[]⟩, .slice none 0 0]] W fun e w' => e = .returned (.bool true) ∧ Fr [] W w' := fun W => sameReq_any ⟨k, f, m, ky, vl, dp⟩ W
            have a0 : ∀ y : Wd13 w7, y.W.cell? ⟨R1, 0, none⟩ = some (.int .u8 k) := fun y => by rw [cell_of_row _ _ _ _ _ _ (y.h.keep hrowR7 (by simp))]; rfl
            have a1 : ∀ y : Wd13 w7, y.W.cell? ⟨R1, 1, none⟩ = some (.int .i64 f) := fun y => by rw [cell_of_row _ _ _ _ _ _ (y.h.keep hrowR7 (by simp))]; rfl
            have a2 : ∀ y : Wd13 w7, y.W.cell? ⟨R1, 2, none⟩ = some (.int .i64 m) := fun y => by rw [cell_of_row _ _ _ _ _ _ (y.h.keep hrowR7 (by simp))]; rfl
            have a3 : ∀ y : Wd13 w7, y.W.cell? ⟨R1, 3, none⟩ = some (.string ky) := fun y => by rw [cell_of_row _ _ _ _ _ _ (y.h.keep hrowR7 (by simp))]; rfl
            have a4 : ∀ y : Wd13 w7, y.W.cell? ⟨R1, 4, none⟩ = some (.string vl) := fun y => by rw [cell_of_row _ _ _ _ _ _ (y.h.keep hrowR7 (by simp))]; rfl
            have a5 : ∀ y : Wd13 w7, y.W.cell? ⟨R1, 5, none⟩ = some (.bool dp) := fun y => by rw [cell_of_row _ _ _ _ _ _ (y.h.keep hrowR7 (by simp))]; rfl
            have a6 : ∀ y : Wd13 w7, y.W.cell? ⟨R1, 6, none⟩ = some (.string ⟨#[]⟩) := fun y => by rw [cell_of_row _ _ _ _ _ _ (y.h.keep hrowR7 (by simp))]; rfl
            have a7 : ∀ y : Wd13 w7, y.W.cell? ⟨R1, 7, none⟩ = some (.string ⟨#[]⟩) := fun y => by rw [cell_of_row _ _ _ _ _ _ (y.h.keep hrowR7 (by simp))]; rfl
            have a8 : ∀ y : Wd13 w7, y.W.cell? ⟨R1, 8, none⟩ = some (.slice none 0 0) := fun y => by rw [cell_of_row _ _ _ _ _ _ (y.h.keep hrowR7 (by simp))]; rfl
            have b0 : ∀ y : Wd13 w7, y.W.cell? ⟨R2, 0, none⟩ = some (.int .u8 k) := fun y => by rw [cell_of_row _ _ _ _ _ _ (y.h.keep hrow7 (by simp))]; rfl
            have b1 : ∀ y : Wd13 w7, y.W.cell? ⟨R2, 1, none⟩ = some (.int .i64 f) := fun y => by rw [cell_of_row _ _ _ _ _ _ (y.h.keep hrow7 (by simp))]; rfl
            have b2 : ∀ y : Wd13 w7, y.W.cell? ⟨R2, 2, none⟩ = some (.int .i64 m) := fun y => by rw [cell_of_row _ _ _ _ _ _ (y.h.keep hrow7 (by simp))]; rfl
            have b3 : ∀ y : Wd13 w7, y.W.cell? ⟨R2, 3, none⟩ = some (.string ky) := fun y => by rw [cell_of_row _ _ _ _ _ _ (y.h.keep hrow7 (by simp))]; rfl
            have b4 : ∀ y : Wd13 w7, y.W.cell? ⟨R2, 4, none⟩ = some (.string vl) := fun y => by rw [cell_of_row _ _ _ _ _ _ (y.h.keep hrow7 (by simp))]; rfl
            have b5 : ∀ y : Wd13 w7, y.W.cell? ⟨R2, 5, none⟩ = some (.bool dp) := fun y => by rw [cell_of_row _ _ _ _ _ _ (y.h.keep hrow7 (by simp))]; rfl
            have b6 : ∀ y : Wd13 w7, y.W.cell? ⟨R2, 6, none⟩ = some (.string ⟨#[]⟩) := fun y => by rw [cell_of_row _ _ _ _ _ _ (y.h.keep hrow7 (by simp))]; rfl
            have b7 : ∀ y : Wd13 w7, y.W.cell? ⟨R2, 7, none⟩ = some (.string ⟨#[]⟩) := fun y => by rw [cell_of_row _ _ _ _ _ _ (y.h.keep hrow7 (by simp))]; rfl
            have b8 : ∀ y : Wd13 w7, y.W.cell? ⟨R2, 8, none⟩ = some (.slice none 0 0) := fun y => by rw [cell_of_row _ _ _ _ _ _ (y.h.keep hrow7 (by simp))]; rfl
            have t0 : ∀ y : Wd13 w7, y.W.cell? ⟨B1, 0, none⟩ = some (.int .i64 n) := fun y => (HBx.out _ (hG7.then y.h)).1
            have hnn : (n != n) = false := by simp
            have hvv : (sv != sv) = false := by simp
            have hbb : (bv != bv) = false := by simp
            refine wp_region_wd13 (w1 := w7) (by kernel_rfl) (by kernel_rfl) (Fr.refl _ _) ?_
            repeat (go_big_quiet_step (first
              | (go_at_call 24; with_reducible refine (HQ7 _).mono ?_; exact fun e w3 hh => ⟨hh.1, ⟨_, Fr.then (Wd13.h _) hh.2⟩, rfl⟩)
              | (go_at_call 16; with_reducible refine (HH7 _).mono ?_; exact fun e w3 hh => ⟨hh.1, ⟨_, Fr.then (Wd13.h _) hh.2⟩, rfl⟩)))
            refine wpQuiet_nil ?_
            rintro _ ⟨z, rfl⟩
            obtain ⟨wz, hz⟩ := z
            simp only
            have HMz : Hid (LnM wz lb 1 l s x q (some ⟨n, us, O⟩) S) := HM7.out.kept _ hz
            have hGz := hG7.then hz
            have hsz : w8.heap.size ≤ wz.heap.size := Nat.le_trans hs7 hz.size
            clear a0 b0 a1 b1 a2 b2 a3 b3 a4 b4 a5 b5 a6 b6 a7 b7 a8 b8 t0 HH7 HQ7 HM7 hG7 hrow7 hrowR7
            go_wp2_with fail
            go_roundw
            case rel => exact ⟨O, A, i + 1, us, rfl, rfl, by simp, by omega, by omega, HLn, HMz, hGz, hsz⟩
            case measure => simp [intOf]; omega
        · have HA : Hid (Calls _ _ _ _ _) := ltake_busy n ao L cap HM3.out
          obtain ⟨b0, b1⟩ := HBx.out _ hG3
          go_wp2_with fail
          refine Calls.mono HA.out ?_
          rintro e w5 ⟨rfl, hF5⟩
          have HM5 : Hid (LnM w5 lb 1 l s x q (some ⟨n, us, O⟩) S) := HM3.out.kept _ hF5
          have hrowR := hF5.keep hrowR3 (by simp)
          have hG5 : Fr [] w1 w5 := hG3.then hF5
          have hs5 : w8.heap.size ≤ w5.heap.size := Nat.le_trans hs3' hF5.size
          clear hF5 HA HM3 hG3 hrowR3 hs3' hcell b0 b1
          have HX5 : Hid (Calls _ _ _ _ _) := lnext_any HM5.out
          rw [nextS_o n us O O, nextR_o n us O O, nextB_o n us O O, HSv.out, HRq.out, HBv.out] at HX5
          simp only [Rq.v] at HX5
          have hM5l := HM5.out.lt
          go_wp2_with fail
          refine Calls.mono HX5.out ?_
          rintro e w6 ⟨rfl, hF6⟩
          have f7 := Fr.alloc [] w6 (.cells #[.int .u8 k, .int .i64 f, .int .i64 m, .string ky, .string vl, .bool dp, .string ⟨#[]⟩, .string ⟨#[]⟩, .slice none 0 0] 59)
          have hrow7 := heap_alloc_new w6 (.cells #[.int .u8 k, .int .i64 f, .int .i64 m, .string ky, .string vl, .bool dp, .string ⟨#[]⟩, .string ⟨#[]⟩, .slice none 0 0] 59)
          have hrowR7 := (hF6.then f7).keep hrowR (by simp)
          have HM7 : Hid (LnM _ lb 1 l s x q (some ⟨n, us, O⟩) S) := HM5.out.kept _ (hF6.then f7)
          have hG7 := hG5.then (hF6.then f7)
          have hs7 : w8.heap.size ≤ _ := Nat.le_trans hs5 (hF6.then f7).size
          obtain ⟨w7, HW7⟩ : ∃ w7, Hid (w6.alloc (.cells #[.int .u8 k, .int .i64 f, .int .i64 m, .string ky, .string vl, .bool dp, .string ⟨#[]⟩, .string ⟨#[]⟩, .slice none 0 0] 59) = w7) := ⟨_, rfl⟩
          obtain ⟨R2, HR2⟩ : ∃ R2, Hid (w6.heap.size = R2) := ⟨_, rfl⟩
          rw [HW7.out] at hrow7 hrowR7 HM7 hG7 hs7
          rw [HR2.out] at hrow7
          clear hF6 f7 HX5 HM5 hG5 hrowR hs5
          go_upto_region 34 with fail
          rw [HW7.out, HR2.out]
          clear HW7 HR2
          have HH7 : ∀ y : Wd13 w7, Calls Try.prog 16 #[.pointer (some ⟨lb, 0, none⟩)] y.W fun e w' => e = .returned (.int .i64 n) ∧ Fr [] y.W w' := fun y => lholds_any (HM7.out.kept _ y.h)
          have HQ7 : ∀ W, Calls Try.prog 24 #[.agg #[.int .u8 k, .int .i64 f, .int .i64 m, .string ky, .string vl, .bool dp, .string ⟨#[]⟩, .string ⟨#[]⟩, .slice none 0 0], .agg #[.int .u8 k, .int .i64 f, .int .i64 m, .string ky, .string vl, .bool dp, .string ⟨#[]⟩, .string ⟨#[]⟩, .slice none 0 0]] W fun e w' => e = .returned (.bool true) ∧ Fr [] W w' := fun W => sameReq_any ⟨k, f, m, ky, vl, dp⟩ W
          have a0 : ∀ y : Wd13 w7, y.W.cell? ⟨R1, 0, none⟩ = some (.int .u8 k) := fun y => by rw [cell_of_row _ _ _ _ _ _ (y.h.keep hrowR7 (by simp))]; rfl
          have a1 : ∀ y : Wd13 w7, y.W.cell? ⟨R1, 1, none⟩ = some (.int .i64 f) := fun y => by rw [cell_of_row _ _ _ _ _ _ (y.h.keep hrowR7 (by simp))]; rfl
          have a2 : ∀ y : Wd13 w7, y.W.cell? ⟨R1, 2, none⟩ = some (.int .i64 m) := fun y => by rw [cell_of_row _ _ _ _ _ _ (y.h.keep hrowR7 (by simp))]; rfl
          have a3 : ∀ y : Wd13 w7, y.W.cell? ⟨R1, 3, none⟩ = some (.string ky) := fun y => by rw [cell_of_row _ _ _ _ _ _ (y.h.keep hrowR7 (by simp))]; rfl
          have a4 : ∀ y : Wd13 w7, y.W.cell? ⟨R1, 4, none⟩ = some (.string vl) := fun y => by rw [cell_of_row _ _ _ _ _ _ (y.h.keep hrowR7 (by simp))]; rfl
          have a5 : ∀ y : Wd13 w7, y.W.cell? ⟨R1, 5, none⟩ = some (.bool dp) := fun y => by rw [cell_of_row _ _ _ _ _ _ (y.h.keep hrowR7 (by simp))]; rfl
          have a6 : ∀ y : Wd13 w7, y.W.cell? ⟨R1, 6, none⟩ = some (.string ⟨#[]⟩) := fun y => by rw [cell_of_row _ _ _ _ _ _ (y.h.keep hrowR7 (by simp))]; rfl
          have a7 : ∀ y : Wd13 w7, y.W.cell? ⟨R1, 7, none⟩ = some (.string ⟨#[]⟩) := fun y => by rw [cell_of_row _ _ _ _ _ _ (y.h.keep hrowR7 (by simp))]; rfl
          have a8 : ∀ y : Wd13 w7, y.W.cell? ⟨R1, 8, none⟩ = some (.slice none 0 0) := fun y => by rw [cell_of_row _ _ _ _ _ _ (y.h.keep hrowR7 (by simp))]; rfl
          have b0 : ∀ y : Wd13 w7, y.W.cell? ⟨R2, 0, none⟩ = some (.int .u8 k) := fun y => by rw [cell_of_row _ _ _ _ _ _ (y.h.keep hrow7 (by simp))]; rfl
          have b1 : ∀ y : Wd13 w7, y.W.cell? ⟨R2, 1, none⟩ = some (.int .i64 f) := fun y => by rw [cell_of_row _ _ _ _ _ _ (y.h.keep hrow7 (by simp))]; rfl
          have b2 : ∀ y : Wd13 w7, y.W.cell? ⟨R2, 2, none⟩ = some (.int .i64 m) := fun y => by rw [cell_of_row _ _ _ _ _ _ (y.h.keep hrow7 (by simp))]; rfl
          have b3 : ∀ y : Wd13 w7, y.W.cell? ⟨R2, 3, none⟩ = some (.string ky) := fun y => by rw [cell_of_row _ _ _ _ _ _ (y.h.keep hrow7 (by simp))]; rfl
          have b4 : ∀ y : Wd13 w7, y.W.cell? ⟨R2, 4, none⟩ = some (.string vl) := fun y => by rw [cell_of_row _ _ _ _ _ _ (y.h.keep hrow7 (by simp))]; rfl
          have b5 : ∀ y : Wd13 w7, y.W.cell? ⟨R2, 5, none⟩ = some (.bool dp) := fun y => by rw [cell_of_row _ _ _ _ _ _ (y.h.keep hrow7 (by simp))]; rfl
          have b6 : ∀ y : Wd13 w7, y.W.cell? ⟨R2, 6, none⟩ = some (.string ⟨#[]⟩) := fun y => by rw [cell_of_row _ _ _ _ _ _ (y.h.keep hrow7 (by simp))]; rfl
          have b7 : ∀ y : Wd13 w7, y.W.cell? ⟨R2, 7, none⟩ = some (.string ⟨#[]⟩) := fun y => by rw [cell_of_row _ _ _ _ _ _ (y.h.keep hrow7 (by simp))]; rfl
          have b8 : ∀ y : Wd13 w7, y.W.cell? ⟨R2, 8, none⟩ = some (.slice none 0 0) := fun y => by rw [cell_of_row _ _ _ _ _ _ (y.h.keep hrow7 (by simp))]; rfl
          have t0 : ∀ y : Wd13 w7, y.W.cell? ⟨B1, 0, none⟩ = some (.int .i64 n) := fun y => (HBx.out _ (hG7.then y.h)).1
          have hnn : (n != n) = false := by simp
          have hvv : (sv != sv) = false := by simp
          have hbb : (bv != bv) = false := by simp
          refine wp_region_wd13 (w1 := w7) (by kernel_rfl) (by kernel_rfl) (Fr.refl _ _) ?_
          repeat (go_big_quiet_step (first
            | (go_at_call 24; with_reducible refine (HQ7 _).mono ?_; exact fun e w3 hh => ⟨hh.1, ⟨_, Fr.then (Wd13.h _) hh.2⟩, rfl⟩)
            | (go_at_call 16; with_reducible refine (HH7 _).mono ?_; exact fun e w3 hh => ⟨hh.1, ⟨_, Fr.then (Wd13.h _) hh.2⟩, rfl⟩)))
          refine wpQuiet_nil ?_
          rintro _ ⟨z, rfl⟩
          obtain ⟨wz, hz⟩ := z
          simp only
          have HMz : Hid (LnM wz lb 1 l s x q (some ⟨n, us, O⟩) S) := HM7.out.kept _ hz
          have hGz := hG7.then hz
          have hsz : w8.heap.size ≤ wz.heap.size := Nat.le_trans hs7 hz.size
          clear a0 b0 a1 b1 a2 b2 a3 b3 a4 b4 a5 b5 a6 b6 a7 b7 a8 b8 t0 HH7 HQ7 HM7 hG7 hrow7 hrowR7
          go_wp2_with fail
          go_roundw
          case rel => exact ⟨O, A, i + 1, us, rfl, rfl, by simp, by omega, by omega, HLn, HMz, hGz, hsz⟩
          case measure => simp [intOf]; omega
        · have HA : Hid (Calls _ _ _ _ _) := lsent_any HM3.out
          cases us with
          | nil =>
            simp only [sentE, sentS] at HA
            have hbv : bv = false := HBv.out.symm
            subst hbv
            go_wp2_with fail
            refine Calls.mono HA.out ?_
            rintro e w5 ⟨rfl, hM5, hF5⟩
            have HM5 : Hid (LnM w5 lb 1 l s x q (some ⟨n, [], O⟩) S) := hM5
            have hG5 : Fr [] w1 w5 := hG3.on hF5 HOs.out
            have hs5 : w8.heap.size ≤ w5.heap.size := Nat.le_trans hs3' hF5.size
            clear hM5 hF5 HA HM3 hG3 hrowR3 hs3' hcell
            go_wp2_with fail
            go_roundw
            case rel => exact ⟨O, A, i + 1, [], rfl, rfl, by simp, by omega, by omega, HLn, HM5, hG5, hs5⟩
            case measure => simp [intOf]; omega
          | cons y r =>
            simp only [sentE, sentS] at HA
            have hbv : bv = true := HBv.out.symm
            subst hbv
            have HLn2 : Hid (r.length + (A + 1) = D) := by have := HLn.out; simp at this; show _ = _; omega
            go_wp2_with fail
            refine Calls.mono HA.out ?_
            rintro e w5 ⟨rfl, hM5, hF5⟩
            have HM5 : Hid (LnM w5 lb 1 l s x q (some ⟨n, r, O + 1⟩) S) := hM5
            have hG5 : Fr [] w1 w5 := hG3.on hF5 HOs.out
            have hs5 : w8.heap.size ≤ w5.heap.size := Nat.le_trans hs3' hF5.size
            clear hM5 hF5 HA HM3 hG3 hrowR3 hs3' hcell HLn
            go_wp2_with fail
            go_roundw
            case rel => exact ⟨O + 1, A + 1, i + 1, r, by simp, by simp, by simp, by omega, by omega, HLn2, HM5, hG5, hs5⟩
            case measure => simp [intOf]; omega
        · have HA : Hid (Calls _ _ _ _ _) := lready_any HM3.out
          by_cases hrd : us = [] ∧ O = 0
          · obtain ⟨rfl, rfl⟩ := hrd
            simp only [readyB] at HA
            have hbv : bv = false := HBv.out.symm
            subst hbv
            go_wp2_with fail
            refine Calls.mono HA.out ?_
            rintro e w5 ⟨rfl, hF5⟩
            have HG5 : Hid (Fr [] w w5) := HF1.out.then (hG3.then hF5)
            clear hF5 HA HM3 hG3 hrowR3 hs3' hcell
            simp only [and_self, decide_true]
            go_wp2_with fail
            go_ret
            exact ⟨rfl, HG5.out⟩
          · have e0 : readyB (some ⟨n, us, O⟩) = false := by simp only [readyB, hrd]; rfl
            rw [e0] at HA
            have HDn : Hid (∀ W, LnM W lb 1 l s x q (some ⟨n, us, O⟩) S → Calls Try.prog 22 #[.pointer (some ⟨lb, 0, none⟩)] W fun e w' => e = .returned (.tuple #[.int .i64 0, .int .i64 10]) ∧ LnM w' lb 1 l s x q (some ⟨n, us, O⟩) S ∧ Fr (lb :: S) W w') := fun W h => by
              have := ldone_any h
              rw [show doneN (some ⟨n, us, O⟩) = 0 by simp [doneN, e0], show doneE (some ⟨n, us, O⟩) = 10 by simp [doneE, e0], show doneS (some ⟨n, us, O⟩) = some ⟨n, us, O⟩ by simp [doneS, e0]] at this
              exact this
            clear hrd e0
            go_wp2_with fail
            refine Calls.mono HA.out ?_
            rintro e w4 ⟨rfl, hF4⟩
            have HM4 : Hid (LnM w4 lb 1 l s x q (some ⟨n, us, O⟩) S) := HM3.out.kept _ hF4
            go_wp2_with fail
            refine Calls.mono (HDn.out _ HM4.out) ?_
            rintro e w5 ⟨rfl, hM5, hF5⟩
            have HM5 : Hid (LnM w5 lb 1 l s x q (some ⟨n, us, O⟩) S) := hM5
            have hrowR := hF5.keep (hF4.keep hrowR3 (by simp)) hR1n
            have hG5 : Fr [] w1 w5 := (hG3.then hF4).on hF5 HOs.out
            have hs5 : w8.heap.size ≤ w5.heap.size := Nat.le_trans (Nat.le_trans hs3' hF4.size) hF5.size
            clear hM5 hF5 HA HM3 HM4 hG3 hrowR3 hs3' hcell hF4 HDn
            have HX5 : Hid (Calls _ _ _ _ _) := lnext_any HM5.out
            rw [nextS_o n us O O, nextR_o n us O O, nextB_o n us O O, HSv.out, HRq.out, HBv.out] at HX5
            simp only [Rq.v] at HX5
            have hM5l := HM5.out.lt
            go_wp2_with fail
            refine Calls.mono HX5.out ?_
            rintro e w6 ⟨rfl, hF6⟩
            have f7 := Fr.alloc [] w6 (.cells #[.int .u8 k, .int .i64 f, .int .i64 m, .string ky, .string vl, .bool dp, .string ⟨#[]⟩, .string ⟨#[]⟩, .slice none 0 0] 59)
            have hrow7 := heap_alloc_new w6 (.cells #[.int .u8 k, .int .i64 f, .int .i64 m, .string ky, .string vl, .bool dp, .string ⟨#[]⟩, .string ⟨#[]⟩, .slice none 0 0] 59)
            have hrowR7 := (hF6.then f7).keep hrowR (by simp)
            have HM7 : Hid (LnM _ lb 1 l s x q (some ⟨n, us, O⟩) S) := HM5.out.kept _ (hF6.then f7)
            have hG7 := hG5.then (hF6.then f7)
            have hs7 : w8.heap.size ≤ _ := Nat.le_trans hs5 (hF6.then f7).size
            obtain ⟨w7, HW7⟩ : ∃ w7, Hid (w6.alloc (.cells #[.int .u8 k, .int .i64 f, .int .i64 m, .string ky, .string vl, .bool dp, .string ⟨#[]⟩, .string ⟨#[]⟩, .slice none 0 0] 59) = w7) := ⟨_, rfl⟩
            obtain ⟨R2, HR2⟩ : ∃ R2, Hid (w6.heap.size = R2) := ⟨_, rfl⟩
            rw [HW7.out] at hrow7 hrowR7 HM7 hG7 hs7
            rw [HR2.out] at hrow7
            clear hF6 f7 HX5 HM5 hG5 hrowR hs5
            go_upto_region 34 with fail
            rw [HW7.out, HR2.out]
            clear HW7 HR2
            have HH7 : ∀ y : Wd13 w7, Calls Try.prog 16 #[.pointer (some ⟨lb, 0, none⟩)] y.W fun e w' => e = .returned (.int .i64 n) ∧ Fr [] y.W w' := fun y => lholds_any (HM7.out.kept _ y.h)
            have HQ7 : ∀ W, Calls Try.prog 24 #[.agg #[.int .u8 k, .int .i64 f, .int .i64 m, .string ky, .string vl, .bool dp, .string ⟨#[]⟩, .string ⟨#[]⟩, .slice none 0 0], .agg #[.int .u8 k, .int .i64 f, .int .i64 m, .string ky, .string vl, .bool dp, .string ⟨#[]⟩, .string ⟨#[]⟩, .slice none 0 0]] W fun e w' => e = .returned (.bool true) ∧ Fr [] W w' := fun W => sameReq_any ⟨k, f, m, ky, vl, dp⟩ W
            have a0 : ∀ y : Wd13 w7, y.W.cell? ⟨R1, 0, none⟩ = some (.int .u8 k) := fun y => by rw [cell_of_row _ _ _ _ _ _ (y.h.keep hrowR7 (by simp))]; rfl
            have a1 : ∀ y : Wd13 w7, y.W.cell? ⟨R1, 1, none⟩ = some (.int .i64 f) := fun y => by rw [cell_of_row _ _ _ _ _ _ (y.h.keep hrowR7 (by simp))]; rfl
            have a2 : ∀ y : Wd13 w7, y.W.cell? ⟨R1, 2, none⟩ = some (.int .i64 m) := fun y => by rw [cell_of_row _ _ _ _ _ _ (y.h.keep hrowR7 (by simp))]; rfl
            have a3 : ∀ y : Wd13 w7, y.W.cell? ⟨R1, 3, none⟩ = some (.string ky) := fun y => by rw [cell_of_row _ _ _ _ _ _ (y.h.keep hrowR7 (by simp))]; rfl
            have a4 : ∀ y : Wd13 w7, y.W.cell? ⟨R1, 4, none⟩ = some (.string vl) := fun y => by rw [cell_of_row _ _ _ _ _ _ (y.h.keep hrowR7 (by simp))]; rfl
            have a5 : ∀ y : Wd13 w7, y.W.cell? ⟨R1, 5, none⟩ = some (.bool dp) := fun y => by rw [cell_of_row _ _ _ _ _ _ (y.h.keep hrowR7 (by simp))]; rfl
            have a6 : ∀ y : Wd13 w7, y.W.cell? ⟨R1, 6, none⟩ = some (.string ⟨#[]⟩) := fun y => by rw [cell_of_row _ _ _ _ _ _ (y.h.keep hrowR7 (by simp))]; rfl
            have a7 : ∀ y : Wd13 w7, y.W.cell? ⟨R1, 7, none⟩ = some (.string ⟨#[]⟩) := fun y => by rw [cell_of_row _ _ _ _ _ _ (y.h.keep hrowR7 (by simp))]; rfl
            have a8 : ∀ y : Wd13 w7, y.W.cell? ⟨R1, 8, none⟩ = some (.slice none 0 0) := fun y => by rw [cell_of_row _ _ _ _ _ _ (y.h.keep hrowR7 (by simp))]; rfl
            have b0 : ∀ y : Wd13 w7, y.W.cell? ⟨R2, 0, none⟩ = some (.int .u8 k) := fun y => by rw [cell_of_row _ _ _ _ _ _ (y.h.keep hrow7 (by simp))]; rfl
            have b1 : ∀ y : Wd13 w7, y.W.cell? ⟨R2, 1, none⟩ = some (.int .i64 f) := fun y => by rw [cell_of_row _ _ _ _ _ _ (y.h.keep hrow7 (by simp))]; rfl
            have b2 : ∀ y : Wd13 w7, y.W.cell? ⟨R2, 2, none⟩ = some (.int .i64 m) := fun y => by rw [cell_of_row _ _ _ _ _ _ (y.h.keep hrow7 (by simp))]; rfl
            have b3 : ∀ y : Wd13 w7, y.W.cell? ⟨R2, 3, none⟩ = some (.string ky) := fun y => by rw [cell_of_row _ _ _ _ _ _ (y.h.keep hrow7 (by simp))]; rfl
            have b4 : ∀ y : Wd13 w7, y.W.cell? ⟨R2, 4, none⟩ = some (.string vl) := fun y => by rw [cell_of_row _ _ _ _ _ _ (y.h.keep hrow7 (by simp))]; rfl
            have b5 : ∀ y : Wd13 w7, y.W.cell? ⟨R2, 5, none⟩ = some (.bool dp) := fun y => by rw [cell_of_row _ _ _ _ _ _ (y.h.keep hrow7 (by simp))]; rfl
            have b6 : ∀ y : Wd13 w7, y.W.cell? ⟨R2, 6, none⟩ = some (.string ⟨#[]⟩) := fun y => by rw [cell_of_row _ _ _ _ _ _ (y.h.keep hrow7 (by simp))]; rfl
            have b7 : ∀ y : Wd13 w7, y.W.cell? ⟨R2, 7, none⟩ = some (.string ⟨#[]⟩) := fun y => by rw [cell_of_row _ _ _ _ _ _ (y.h.keep hrow7 (by simp))]; rfl
            have b8 : ∀ y : Wd13 w7, y.W.cell? ⟨R2, 8, none⟩ = some (.slice none 0 0) := fun y => by rw [cell_of_row _ _ _ _ _ _ (y.h.keep hrow7 (by simp))]; rfl
            have t0 : ∀ y : Wd13 w7, y.W.cell? ⟨B1, 0, none⟩ = some (.int .i64 n) := fun y => (HBx.out _ (hG7.then y.h)).1
            have hnn : (n != n) = false := by simp
            have hvv : (sv != sv) = false := by simp
            have hbb : (bv != bv) = false := by simp
            refine wp_region_wd13 (w1 := w7) (by kernel_rfl) (by kernel_rfl) (Fr.refl _ _) ?_
            repeat (go_big_quiet_step (first
              | (go_at_call 24; with_reducible refine (HQ7 _).mono ?_; exact fun e w3 hh => ⟨hh.1, ⟨_, Fr.then (Wd13.h _) hh.2⟩, rfl⟩)
              | (go_at_call 16; with_reducible refine (HH7 _).mono ?_; exact fun e w3 hh => ⟨hh.1, ⟨_, Fr.then (Wd13.h _) hh.2⟩, rfl⟩)))
            refine wpQuiet_nil ?_
            rintro _ ⟨z, rfl⟩
            obtain ⟨wz, hz⟩ := z
            simp only
            have HMz : Hid (LnM wz lb 1 l s x q (some ⟨n, us, O⟩) S) := HM7.out.kept _ hz
            have hGz := hG7.then hz
            have hsz : w8.heap.size ≤ wz.heap.size := Nat.le_trans hs7 hz.size
            clear a0 b0 a1 b1 a2 b2 a3 b3 a4 b4 a5 b5 a6 b6 a7 b7 a8 b8 t0 HH7 HQ7 HM7 hG7 hrow7 hrowR7
            go_wp2_with fail
            go_roundw
            case rel => exact ⟨O, A, i + 1, us, rfl, rfl, by simp, by omega, by omega, HLn, HMz, hGz, hsz⟩
            case measure => simp [intOf]; omega
      · have HG5 : Hid (Fr [] w wr) := HF1.out.then hFr
        obtain ⟨b0, b1⟩ := HBx.out _ hFr
        have hAL : (A : Int) ≤ (L : Int) := by have := HLn.out; omega
        by_cases hi : i < Bn
        · have hi5 : ¬ ((i : Int) < 500) := by omega
          have hi' : (i : Int) < (Bn : Int) := by omega
          go_wp2_with fail
          go_ret
          exact ⟨by simp [hAL], HG5.out⟩
        · have hi' : ¬ ((i : Int) < (Bn : Int)) := by omega
          go_wp2_with fail
          go_ret
          exact ⟨by simp [hAL], HG5.out⟩
end Go.Proofs.Ytgladhebgnngdaa

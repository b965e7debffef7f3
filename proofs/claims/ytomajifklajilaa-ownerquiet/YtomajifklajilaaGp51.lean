/- Texts of this claim laid together, one behind the other: contracts and plain lemmas; conditions as each names them. -/
import Derived.Test.YtomajifklajilaaGp50
/- The walk of OwnerQuiet. Conditions as each names them. -/
namespace Go.Proofs.Ytomajifklajilaa
open Go.ChangeShapes Go.WideShapes Go.ChangeAt Go.RowKit Go.Lib Go.Maps
set_option linter.unusedVariables false
set_option linter.unusedSimpArgs false
theorem okP_of {xk xf xn : Int} {xa xb : ByteArray} {xd : Bool} {xc xe : ByteArray} {ns : List Int} (h : okR ⟨xk, xf, xn, xa, xb, xd, xc, xe, ns⟩) (hk : xk = 1) : okP ⟨xn, xa, xb, xd⟩ := by
  obtain ⟨_, h2, h3, h4⟩ := h
  simp only at h2 h3 h4
  rcases h4 with ⟨_, _, _, _, h5, h6⟩ | ⟨e, _⟩ | ⟨e, _⟩ | ⟨e, _⟩ | ⟨e, _⟩
  · refine ⟨h6.1, by simp only [Pt.v]; omega, by simp only [Pt.v]; omega, h6.2.1, fun hd => ?_⟩
    simp only [Pt.v] at hd ⊢
    rcases h6.2.2 with q | q
    · exact (tl_inj _ _).1 (((tl_nil _).2 q).trans eNil.symm)
    · rw [q] at hd; cases hd
  · omega
  · omega
  · omega
  · omega
set_option maxHeartbeats 16000000 in
set_option maxRecDepth 100000 in
theorem quiet_walk (ao : Option Addr) (L cap : Nat) (os : List Hd) (x : Rv) (ns : List Int) (w : World) (hH : HRs w ao os) (hL : L = os.length) (hM : L ≤ 3518437208780) (hR : RqB w x ns) :
    Calls Try.prog 4 #[.slice ao L cap, x.v] w fun e w' => e = .returned (.bool true) ∧ Fr [] w w' := by
  obtain ⟨xk, xf, xn, xa, xb, xd, xc, xe, xo, xl, xm⟩ := x
  obtain ⟨wz, HWz⟩ : ∃ wz, Hid (w.alloc (.cells #[.int .u8 xk, .int .i64 xf, .int .i64 xn, .string xa, .string xb, .bool xd, .string xc, .string xe, .slice xo xl xm] 33) = wz) := ⟨_, rfl⟩
  have hF0 : Fr [] w wz := by rw [← HWz.out]; exact Fr.alloc [] w _
  have hr3 : wz.heap[w.heap.size]? = some (.cells #[.int .u8 xk, .int .i64 xf, .int .i64 xn, .string xa, .string xb, .bool xd, .string xc, .string xe, .slice xo xl xm] 33 (0, 0)) := by rw [← HWz.out]; exact heap_alloc_new w _
  obtain ⟨Z3, HZ3⟩ : ∃ Z, Hid (w.heap.size = Z) := ⟨_, rfl⟩
  rw [HZ3.out] at hr3
  have HN : Hid (Calls _ _ _ _ _) := onew_any 3 4 ao L cap os wz ⟨by decide, by decide, by decide, by decide⟩ (hH.keep hF0) hL
  have HF0 : Hid (Fr [] w wz) := hF0
  have HR3 : Hid (∀ W, Fr [] wz W → RvAt W Z3 0 ⟨xk, xf, xn, xa, xb, xd, xc, xe, xo, xl, xm⟩) := fun W hf => RvAt.ofRow (hf.keep hr3 (by simp))
  have HRq : Hid (∀ W, Fr [] wz W → RqB W ⟨xk, xf, xn, xa, xb, xd, xc, xe, xo, xl, xm⟩ ns) := fun W hf => hR.keep (hF0.then hf)
  clear hH hL hF0 hr3 hR
  simp only [Rv.v]
  go_enter Try.func4, Try.ntmps4
  go_wp2_with fail
  rw [HWz.out, HZ3.out]
  clear HWz HZ3
  refine Calls.mono HN.out ?_
  rintro e w1 (⟨_, rfl, hF1⟩ | ⟨_, ob, sb, b, g, rfl, hO⟩)
  · clear HN
    go_wp2_with fail
    refine (lives_any _).mono ?_
    rintro e w2 ⟨rfl, hF2⟩
    go_wp2
    go_ret
    exact ⟨rfl, HF0.out.then (hF1.then hF2)⟩
  obtain ⟨M, hMe⟩ : ∃ M, M = mOf os := ⟨_, rfl⟩
  rw [← hMe] at hO
  have HO : Hid (OwS wz none w1 ob sb b L g none 4 M []) := hO
  have HAll : Hid (Calls _ _ _ _ _) := os_all hO (by omega)
  clear hO HN hMe
  go_wp2_with fail
  refine Calls.mono HAll.out ?_
  rintro e w2 ⟨r0, N0, rc0, h0, rfl, hO0, hN0, hP0, hF2⟩
  have HO2 : Hid (OwS wz none w2 ob sb b L g none 4 M [] ∧ HK b w1 w2.heap.size w2 r0 N0 rc0 h0 ∧ PkT M M h0 ∧ N0 ≤ L) := ⟨HO.out.same hF2, HK.new hO0 (HO.out.row_lt hF2), hP0, hN0⟩
  clear hO0 hN0 hP0 hF2 HAll HO
  obtain ⟨z0, z1, z2, z3, z4, z5, z6, z7, z8⟩ := HR3.out _ HO2.out.1.fr
  simp only [Nat.zero_add] at z0 z1 z2 z3 z4 z5 z6 z7 z8
  by_cases hB : okR ⟨xk, xf, xn, xa, xb, xd, xc, xe, ns⟩
  rotate_left
  · have HA : Hid (Calls Try.prog 9 #[.pointer (some ⟨ob, 0, none⟩), .agg #[.int .u8 xk, .int .i64 xf, .int .i64 xn, .string xa, .string xb, .bool xd, .string xc, .string xe, .slice xo xl xm]] w2 fun e w' => e = .returned (.tuple #[.bool false, .int .i64 1]) ∧ Fr [] wz w') := by
      refine (os_ask HO2.out.1 (by simp) ⟨xk, xf, xn, xa, xb, xd, xc, xe, xo, xl, xm⟩ ns (HRq.out _ HO2.out.1.fr)).mono ?_
      rintro e w' (⟨_, rfl, h, _⟩ | ⟨h, _⟩ | ⟨h, _⟩)
      · exact ⟨rfl, h.fr⟩
      · exact absurd h hB
      · exact absurd h hB
    clear hB
    go_wp2_with fail
    refine Calls.mono HA.out ?_
    rintro e w3 ⟨rfl, hF3⟩
    clear z0 z1 z2 z3 z4 z5 z6 z7 z8
    go_wp2_with fail
    refine (lives_any _).mono ?_
    rintro e w4 ⟨rfl, hF4⟩
    go_wp2
    go_ret
    exact ⟨rfl, HF0.out.then (hF3.then hF4)⟩
  have HBk : Hid (okR ⟨xk, xf, xn, xa, xb, xd, xc, xe, ns⟩) := hB
  clear hB
  have HA : Hid (Calls Try.prog 9 #[.pointer (some ⟨ob, 0, none⟩), .agg #[.int .u8 xk, .int .i64 xf, .int .i64 xn, .string xa, .string xb, .bool xd, .string xc, .string xe, .slice xo xl xm]] w2 fun e w' => e = .returned (.tuple #[.bool true, .int .i64 0]) ∧ ∃ pb, OwS wz none w' ob sb b L g pb 4 M [⟨xk, xf, xn, xa, xb, xd, xc, xe, ns⟩] ∧ HK b w1 w2.heap.size w' r0 N0 rc0 h0) := by
    refine (os_ask HO2.out.1 (by simp) ⟨xk, xf, xn, xa, xb, xd, xc, xe, xo, xl, xm⟩ ns (HRq.out _ HO2.out.1.fr)).mono ?_
    rintro e w' (⟨h, _⟩ | ⟨_, h, _⟩ | ⟨_, _, rfl, pb, h, hf⟩)
    · exact absurd HBk.out h
    · simp at h
    · exact ⟨rfl, pb, h, HO2.out.2.1.move hf HO2.out.1.sh.mb⟩
  go_wp2_with fail
  refine Calls.mono HA.out ?_
  rintro e w3 ⟨rfl, pb, hO3, hK3⟩
  have HA2 : Hid (Calls Try.prog 9 #[.pointer (some ⟨ob, 0, none⟩), .agg #[.int .u8 xk, .int .i64 xf, .int .i64 xn, .string xa, .string xb, .bool xd, .string xc, .string xe, .slice xo xl xm]] w3 fun e w' => e = .returned (.tuple #[.bool true, .int .i64 0]) ∧ ∃ pb, OwS wz none w' ob sb b L g pb 4 M [⟨xk, xf, xn, xa, xb, xd, xc, xe, ns⟩, ⟨xk, xf, xn, xa, xb, xd, xc, xe, ns⟩] ∧ HK b w1 w2.heap.size w' r0 N0 rc0 h0) := by
    refine (os_ask hO3 (by simp) ⟨xk, xf, xn, xa, xb, xd, xc, xe, xo, xl, xm⟩ ns (HRq.out _ hO3.fr)).mono ?_
    rintro e w' (⟨h, _⟩ | ⟨_, h, _⟩ | ⟨_, _, rfl, pb, h, hf⟩)
    · exact absurd HBk.out h
    · simp at h
    · exact ⟨rfl, pb, h, hK3.move hf hO3.sh.mb⟩
  clear z0 z1 z2 z3 z4 z5 z6 z7 z8 HA
  obtain ⟨z0, z1, z2, z3, z4, z5, z6, z7, z8⟩ := HR3.out _ hO3.fr
  simp only [Nat.zero_add] at z0 z1 z2 z3 z4 z5 z6 z7 z8
  clear hO3 hK3
  go_wp2_with fail
  refine Calls.mono HA2.out ?_
  rintro e w4 ⟨rfl, pb2, hO4, hK4⟩
  have HS : Hid (Calls _ _ _ _ _) := os_serve hO4 (by omega)
  have HO4 : Hid (OwS wz none w4 ob sb b L g pb2 4 M [⟨xk, xf, xn, xa, xb, xd, xc, xe, ns⟩, ⟨xk, xf, xn, xa, xb, xd, xc, xe, ns⟩] ∧ HK b w1 w2.heap.size w4 r0 N0 rc0 h0) := ⟨hO4, hK4⟩
  clear z0 z1 z2 z3 z4 z5 z6 z7 z8 HA2 hO4 hK4
  go_wp2_with fail
  refine Calls.mono HS.out ?_
  rintro e w5 ⟨ok1, eo1, el1, ec1, ho1, hl1, hc1, c1, M1, rfl, hO5, hF5, hRep1⟩
  simp only
  obtain ⟨w6, HW6⟩ : ∃ w6, Hid (w5.alloc (.cells #[.int .i64 xf, .bool ok1, .slice eo1 el1 ec1, .slice ho1 hl1 hc1, .int .i64 c1] 39) = w6) := ⟨_, rfl⟩
  have hF6 : Fr [] w5 w6 := by rw [← HW6.out]; exact Fr.alloc [] _ _
  have hr9 : w6.heap[w5.heap.size]? = some (.cells #[.int .i64 xf, .bool ok1, .slice eo1 el1 ec1, .slice ho1 hl1 hc1, .int .i64 c1] 39 (0, 0)) := by rw [← HW6.out]; exact heap_alloc_new _ _
  obtain ⟨Z9, HZ9⟩ : ∃ Z, Hid (w5.heap.size = Z) := ⟨_, rfl⟩
  rw [HZ9.out] at hr9
  have HO6 : Hid (OwS wz none w6 ob sb b (L + 1) g pb2 4 M1 [⟨xk, xf, xn, xa, xb, xd, xc, xe, ns⟩] ∧ HK b w1 w2.heap.size w6 r0 N0 rc0 h0 ∧ w6.heap[Z9]? = some (.cells #[.int .i64 xf, .bool ok1, .slice eo1 el1 ec1, .slice ho1 hl1 hc1, .int .i64 c1] 39 (0, 0))) := ⟨hO5.same hF6, (HO4.out.2.move hF5 HO4.out.1.sh.mb).same hF6 hO5.sh.mb, hr9⟩
  have HRp1 : Hid (OwF b w4 w5 ∧ Fr [] w5 w6 ∧ Rep b M ⟨xk, xf, xn, xa, xb, xd, xc, xe, ns⟩ M1 L ok1 eo1 el1 ec1 ho1 hl1 hc1 c1 w4 w5 ∧ OwS wz none w5 ob sb b (L + 1) g pb2 4 M1 [⟨xk, xf, xn, xa, xb, xd, xc, xe, ns⟩]) := ⟨hF5, hF6, hRep1, hO5⟩
  have HAll : Hid (Calls _ _ _ _ _) := os_all HO6.out.1 (by omega)
  clear hO5 hF5 hRep1 hF6 hr9 HS
  go_upto_region 10 with fail
  rw [HW6.out, HZ9.out]
  clear HW6 HZ9
  go_wp2_with fail
  refine Calls.mono HAll.out ?_
  rintro e w7 ⟨r1, N1, rc1, h1, rfl, hO1, hN1, hP1, hF7⟩
  have HO7 : Hid (OwS wz none w7 ob sb b (L + 1) g pb2 4 M1 [⟨xk, xf, xn, xa, xb, xd, xc, xe, ns⟩] ∧ HK b w1 w2.heap.size w7 r0 N0 rc0 h0 ∧ w7.heap[Z9]? = some (.cells #[.int .i64 xf, .bool ok1, .slice eo1 el1 ec1, .slice ho1 hl1 hc1, .int .i64 c1] 39 (0, 0)) ∧ HK b w6 w7.heap.size w7 r1 N1 rc1 h1 ∧ PkT M1 M1 h1 ∧ N1 ≤ L + 1 ∧ Fr [] w6 w7) := ⟨HO6.out.1.same hF7, HO6.out.2.1.same hF7 HO6.out.1.sh.mb, hF7.keep HO6.out.2.2 (by simp), HK.new hO1 (HO6.out.1.row_lt hF7), hP1, hN1, hF7⟩
  have HS : Hid (Calls _ _ _ _ _) := os_serve HO7.out.1 (by omega)
  clear hO1 hN1 hP1 hF7 HAll
  go_wp2_with fail
  refine Calls.mono HS.out ?_
  rintro e w8 ⟨ok2, eo2, el2, ec2, ho2, hl2, hc2, c2, M2, rfl, hO8, hF8, hRep2⟩
  simp only
  obtain ⟨w9, HW9⟩ : ∃ w9, Hid (w8.alloc (.cells #[.int .i64 xf, .bool ok2, .slice eo2 el2 ec2, .slice ho2 hl2 hc2, .int .i64 c2] 39) = w9) := ⟨_, rfl⟩
  have hF9 : Fr [] w8 w9 := by rw [← HW9.out]; exact Fr.alloc [] _ _
  have hr11 : w9.heap[w8.heap.size]? = some (.cells #[.int .i64 xf, .bool ok2, .slice eo2 el2 ec2, .slice ho2 hl2 hc2, .int .i64 c2] 39 (0, 0)) := by rw [← HW9.out]; exact heap_alloc_new _ _
  obtain ⟨Z11, HZ11⟩ : ∃ Z, Hid (w8.heap.size = Z) := ⟨_, rfl⟩
  rw [HZ11.out] at hr11
  have HO9 : Hid (OwS wz none w9 ob sb b (L + 1 + 1) g pb2 4 M2 [] ∧ HK b w1 w2.heap.size w9 r0 N0 rc0 h0 ∧ w9.heap[Z9]? = some (.cells #[.int .i64 xf, .bool ok1, .slice eo1 el1 ec1, .slice ho1 hl1 hc1, .int .i64 c1] 39 (0, 0)) ∧ HK b w6 w7.heap.size w9 r1 N1 rc1 h1 ∧ w9.heap[Z11]? = some (.cells #[.int .i64 xf, .bool ok2, .slice eo2 el2 ec2, .slice ho2 hl2 hc2, .int .i64 c2] 39 (0, 0))) := ⟨hO8.same hF9, (HO7.out.2.1.move hF8 HO7.out.1.sh.mb).same hF9 hO8.sh.mb, hF9.keep (hF8.keep HO7.out.1.sh.mb HO7.out.2.2.1 (by decide) (by decide) (by decide)) (by simp), (HO7.out.2.2.2.1.move hF8 HO7.out.1.sh.mb).same hF9 hO8.sh.mb, hr11⟩
  have HRp2 : Hid (OwF b w7 w8 ∧ Fr [] w8 w9 ∧ Rep b M1 ⟨xk, xf, xn, xa, xb, xd, xc, xe, ns⟩ M2 (L + 1) ok2 eo2 el2 ec2 ho2 hl2 hc2 c2 w7 w8 ∧ Sh wz w8 sb b (L + 1 + 1) M2) := ⟨hF8, hF9, hRep2, hO8.sh⟩
  have HAll : Hid (Calls _ _ _ _ _) := os_all HO9.out.1 (by omega)
  clear hO8 hF8 hRep2 hF9 hr11 HS
  go_upto_region 12 with fail
  rw [HW9.out, HZ11.out]
  clear HW9 HZ11
  -- what both replies come to
  have HM2 : Hid (M2 = M1) := by
    obtain ⟨_, _, q1, _⟩ := HRp1.out
    obtain ⟨_, _, q2, _⟩ := HRp2.out
    rcases q2 with ⟨e, _, _, _, cc2, i2⟩ | ⟨_, _, _, e, _⟩ | ⟨_, _, _, _, e, _⟩ | ⟨e, _, _, _, e4, _⟩ | ⟨_, _, _, _, e, _⟩
    · rcases q1 with ⟨_, _, _, _, cc1, i1⟩ | ⟨e', _⟩ | ⟨e', _⟩ | ⟨e', _⟩ | ⟨e', _⟩
      · exact (inst_twice (okP_of HBk.out e) i1 i2).2.1
      · simp only at e e'; omega
      · simp only at e e'; omega
      · simp only at e e'; omega
      · simp only at e e'; omega
    · exact e
    · exact e
    · rcases q1 with ⟨e', _⟩ | ⟨e', _⟩ | ⟨e', _⟩ | ⟨_, _, _, _, e5, _⟩ | ⟨e', _⟩
      · simp only at e e'; omega
      · simp only at e e'; omega
      · simp only at e e'; omega
      · show M2 = M1
        rw [e4]
        funext s
        rw [e5]
        simp only
        exact colV_idem (HO4.out.1.sh.ok s) _
      · simp only at e e'; omega
    · exact e
  have HL1 : Hid (LoOk h1 ∧ N1 ≤ 3518437208882) := ⟨HO7.out.1.sh.lo HO7.out.2.2.2.2.1, by have := HO7.out.2.2.2.2.2.1; omega⟩
  have HL0 : Hid (LoOk h0 ∧ N0 ≤ 3518437208882) := ⟨HO4.out.1.sh.lo HO2.out.2.2.1, by have := HO2.out.2.2.2; omega⟩
  go_wp2_with fail
  refine Calls.mono HAll.out ?_
  rintro e w10 ⟨r2, N2, rc2, h2, rfl, hO10, hN10, hP10, hF10⟩
  obtain rfl : N1 = N2 := by
    have e1 := HO9.out.2.2.2.1.o.len
    have e2 := hO10.len
    rw [HM2.out] at hP10
    have := congrArg List.length (HO7.out.2.2.2.2.1.one hP10)
    simp only [List.length_map] at this
    omega
  have HSm : Hid (Calls _ _ _ _ _) := sameHelds_any r1 r2 N1 rc1 rc2 h1 h2 w10 ((HO9.out.2.2.2.1.same hF10 HO9.out.1.sh.mb).reads HL1.out.1 HL1.out.2) (hO10.rs (HO9.out.1.sh.lo hP10) (by omega)) HO9.out.2.2.2.1.o.len (by rw [HM2.out] at hP10; exact HO7.out.2.2.2.2.1.one hP10)
  have HF10 : Hid (Fr [] w9 w10) := hF10
  clear hO10 hN10 hP10 hF10 HAll
  go_wp2_with fail
  refine Calls.mono HSm.out ?_
  rintro e w11 ⟨rfl, hF11⟩
  have HF11 : Hid (Fr [] w9 w11) := HF10.out.then hF11
  clear hF11 HSm HF10
  have HG11 : Hid (Fr [] wz w11) := HO9.out.1.fr.then HF11.out
  -- the lists was and mid at any later world
  have HWM : Hid (M1 = M → ∀ W, Fr [] w11 W → Calls Try.prog 13 #[.slice r0 N0 rc0, .slice r1 N1 rc1] W fun e w' => e = .returned (.bool true) ∧ Fr [] W w') := fun he W hf => by
    have hp := HO7.out.2.2.2.2.1
    rw [he] at hp
    have ee := HO2.out.2.2.1.one hp
    have len0 := HO9.out.2.1.o.len
    have len1 := HO9.out.2.2.2.1.o.len
    obtain rfl : N0 = N1 := by
      have := congrArg List.length ee
      simp only [List.length_map] at this
      omega
    exact sameHelds_any r0 r1 N0 rc0 rc1 h0 h1 W ((HO9.out.2.1.same (HF11.out.then hf) HO9.out.1.sh.mb).reads HL0.out.1 HL0.out.2) ((HO9.out.2.2.2.1.same (HF11.out.then hf) HO9.out.1.sh.mb).reads HL1.out.1 HL1.out.2) len0 ee
  have HZ : Hid (∀ W, Fr [] w11 W → W.heap[Z9]? = some (.cells #[.int .i64 xf, .bool ok1, .slice eo1 el1 ec1, .slice ho1 hl1 hc1, .int .i64 c1] 39 (0, 0)) ∧ W.heap[Z11]? = some (.cells #[.int .i64 xf, .bool ok2, .slice eo2 el2 ec2, .slice ho2 hl2 hc2, .int .i64 c2] 39 (0, 0)) ∧ W.cell? ⟨Z3, 0, none⟩ = some (.int .u8 xk)) := fun W hf => ⟨(HF11.out.then hf).keep HO9.out.2.2.1 (by simp), (HF11.out.then hf).keep HO9.out.2.2.2.2 (by simp), (HR3.out _ (HG11.out.then hf)).c0⟩
  obtain ⟨q9, q11, z0⟩ := HZ.out _ (Fr.refl _ _)
  have b0 : w11.cell? ⟨Z9, 0, none⟩ = some (.int .i64 xf) := by rw [cell_of_row _ _ _ _ _ _ q9]; rfl
  have b1 : w11.cell? ⟨Z9, 1, none⟩ = some (.bool ok1) := by rw [cell_of_row _ _ _ _ _ _ q9]; rfl
  have b2 : w11.cell? ⟨Z9, 2, none⟩ = some (.slice eo1 el1 ec1) := by rw [cell_of_row _ _ _ _ _ _ q9]; rfl
  have b3 : w11.cell? ⟨Z9, 3, none⟩ = some (.slice ho1 hl1 hc1) := by rw [cell_of_row _ _ _ _ _ _ q9]; rfl
  have b4 : w11.cell? ⟨Z9, 4, none⟩ = some (.int .i64 c1) := by rw [cell_of_row _ _ _ _ _ _ q9]; rfl
  have d0 : w11.cell? ⟨Z11, 0, none⟩ = some (.int .i64 xf) := by rw [cell_of_row _ _ _ _ _ _ q11]; rfl
  have d1 : w11.cell? ⟨Z11, 1, none⟩ = some (.bool ok2) := by rw [cell_of_row _ _ _ _ _ _ q11]; rfl
  have d2 : w11.cell? ⟨Z11, 2, none⟩ = some (.slice eo2 el2 ec2) := by rw [cell_of_row _ _ _ _ _ _ q11]; rfl
  have d3 : w11.cell? ⟨Z11, 3, none⟩ = some (.slice ho2 hl2 hc2) := by rw [cell_of_row _ _ _ _ _ _ q11]; rfl
  have d4 : w11.cell? ⟨Z11, 4, none⟩ = some (.int .i64 c2) := by rw [cell_of_row _ _ _ _ _ _ q11]; rfl
  clear q9 q11
  by_cases hk1 : xk = 1
  · have hok2 : ok2 = false ∧ (ok1 = false → M1 = M) := by
      obtain ⟨_, _, q1, _⟩ := HRp1.out
      obtain ⟨_, _, q2, _⟩ := HRp2.out
      rcases q2 with ⟨e, _, _, _, cc2, i2⟩ | ⟨e, _⟩ | ⟨e, _⟩ | ⟨e, _⟩ | ⟨e, _⟩
      · rcases q1 with ⟨_, _, _, _, cc1, i1⟩ | ⟨e', _⟩ | ⟨e', _⟩ | ⟨e', _⟩ | ⟨e', _⟩
        · obtain ⟨a1, _, a3⟩ := inst_twice (okP_of HBk.out e) i1 i2
          exact ⟨a1, a3⟩
        · simp only at e'; omega
        · simp only at e'; omega
        · simp only at e'; omega
        · simp only at e'; omega
      · simp only at e; omega
      · simp only at e; omega
      · simp only at e; omega
      · simp only at e; omega
    obtain ⟨rfl, hok1⟩ := hok2
    subst hk1
    cases ok1 with
    | true =>
      clear hok1
      go_wp2_with fail
      refine (lives_any _).mono ?_
      rintro e w13 ⟨rfl, hF13⟩
      go_wp2
      go_ret
      exact ⟨rfl, HF0.out.then (HG11.out.then (hF13))⟩
    | false =>
      have HC := (show Hid _ from HWM.out (hok1 rfl) w11 (Fr.refl _ _))
      clear hok1
      go_wp2_with fail
      refine Calls.mono HC.out ?_
      rintro e w12 ⟨rfl, hF12⟩
      clear b0 b1 b2 b3 b4 d0 d1 d2 d3 d4 z0
      go_wp2_with fail
      refine (lives_any _).mono ?_
      rintro e w13 ⟨rfl, hF13⟩
      go_wp2
      go_ret
      exact ⟨rfl, HF0.out.then (HG11.out.then (hF12.then hF13))⟩
  by_cases hk4 : xk = 4
  · subst hk4
    clear hk1
    go_wp2_with fail
    refine (lives_any _).mono ?_
    rintro e w13 ⟨rfl, hF13⟩
    go_wp2
    go_ret
    exact ⟨rfl, HF0.out.then (HG11.out.then (hF13))⟩
  · obtain ⟨hM1, hc1, ps1, hs1, B1, hi1, v1, e1, l1, k1, lo1, n1⟩ := rep_read HO4.out.1 (by omega) HRp1.out.1 HRp1.out.2.2.1 hk1 hk4
    have hM1' : M1 = M := hM1
    obtain ⟨_, hc2, ps2, hs2, B2, hi2, v2, e2, l2, k2, lo2, n2⟩ := rep_read HO7.out.1 (by omega) HRp2.out.1 HRp2.out.2.2.1 hk1 hk4
    rw [hM1'] at v2
    obtain ⟨eok, eps, ekv⟩ := v1.one v2
    subst eok eps hc1 hc2
    have el : el1 = el2 := by rw [l1, l2]
    subst el
    have hle : hl1 = hl2 := by
      rw [k1.o.len, k2.o.len]
      have := congrArg List.length ekv
      simpa using this
    subst hle
    have HC := (show Hid _ from HWM.out hM1' w11 (Fr.refl _ _))
    have HSR : Hid (∀ W, Fr [] w11 W → Calls Try.prog 14 #[.agg #[.int .i64 xf, .bool ok1, .slice eo1 el1 ec1, .slice ho1 hl1 hc1, .int .i64 0], .agg #[.int .i64 xf, .bool ok1, .slice eo2 el1 ec2, .slice ho2 hl1 hc2, .int .i64 0]] W fun e w' => e = .returned (.bool true) ∧ Fr [] W w') := fun W hf => by
      have m4 := HO4.out.1.sh.mb
      have m7 := HO7.out.1.sh.mb
      have m5 := HRp1.out.2.2.2.sh.mb
      have m6 := HO6.out.1.sh.mb
      have m8 := HRp2.out.2.2.2.mb
      have m9 := HO9.out.1.sh.mb
      have E1 := ((((e1.keep HRp1.out.2.1).keep HO7.out.2.2.2.2.2.2).moveF HRp2.out.1 m7).keep HRp2.out.2.1).keep (HF11.out.then hf)
      have E2 := (e2.keep HRp2.out.2.1).keep (HF11.out.then hf)
      have K1 := ((((k1.same HRp1.out.2.1 m5).same HO7.out.2.2.2.2.2.2 m6).move HRp2.out.1 m7).same HRp2.out.2.1 m8).same (HF11.out.then hf) m9
      have K2 := (k2.same HRp2.out.2.1 m8).same (HF11.out.then hf) m9
      exact sameResp_any xf ok1 eo1 eo2 ho1 ho2 el1 ec1 ec2 hl1 hc1 hc2 0 ps1 hs1 hs2 W E1 E2 l1 (K1.reads lo1 (by omega)) (K2.reads lo2 (by omega)) K1.o.len ekv
    clear hM1 hM1' v1 e1 l1 k1 lo1 n1 v2 e2 l2 k2 lo2 n2 ekv
    go_wp2_with fail
    refine Calls.mono HC.out ?_
    rintro e w12 ⟨rfl, hF12⟩
    obtain ⟨q9, q11, _⟩ := HZ.out _ hF12
    clear b0 b1 b2 b3 b4 d0 d1 d2 d3 d4 z0
    have b0 : w12.cell? ⟨Z9, 0, none⟩ = some (.int .i64 xf) := by rw [cell_of_row _ _ _ _ _ _ q9]; rfl
    have b1 : w12.cell? ⟨Z9, 1, none⟩ = some (.bool ok1) := by rw [cell_of_row _ _ _ _ _ _ q9]; rfl
    have b2 : w12.cell? ⟨Z9, 2, none⟩ = some (.slice eo1 el1 ec1) := by rw [cell_of_row _ _ _ _ _ _ q9]; rfl
    have b3 : w12.cell? ⟨Z9, 3, none⟩ = some (.slice ho1 hl1 hc1) := by rw [cell_of_row _ _ _ _ _ _ q9]; rfl
    have b4 : w12.cell? ⟨Z9, 4, none⟩ = some (.int .i64 0) := by rw [cell_of_row _ _ _ _ _ _ q9]; rfl
    have d0 : w12.cell? ⟨Z11, 0, none⟩ = some (.int .i64 xf) := by rw [cell_of_row _ _ _ _ _ _ q11]; rfl
    have d1 : w12.cell? ⟨Z11, 1, none⟩ = some (.bool ok1) := by rw [cell_of_row _ _ _ _ _ _ q11]; rfl
    have d2 : w12.cell? ⟨Z11, 2, none⟩ = some (.slice eo2 el1 ec2) := by rw [cell_of_row _ _ _ _ _ _ q11]; rfl
    have d3 : w12.cell? ⟨Z11, 3, none⟩ = some (.slice ho2 hl1 hc2) := by rw [cell_of_row _ _ _ _ _ _ q11]; rfl
    have d4 : w12.cell? ⟨Z11, 4, none⟩ = some (.int .i64 0) := by rw [cell_of_row _ _ _ _ _ _ q11]; rfl
    clear q9 q11
    go_wp2_with fail
    refine Calls.mono (HSR.out _ hF12) ?_
    rintro e w14 ⟨rfl, hF14⟩
    clear b0 b1 b2 b3 b4 d0 d1 d2 d3 d4
    go_wp2_with fail
    refine (lives_any _).mono ?_
    rintro e w13 ⟨rfl, hF13⟩
    go_wp2
    go_ret
    exact ⟨rfl, HF0.out.then (HG11.out.then (hF12.then (hF14.then hF13)))⟩
end Go.Proofs.Ytomajifklajilaa

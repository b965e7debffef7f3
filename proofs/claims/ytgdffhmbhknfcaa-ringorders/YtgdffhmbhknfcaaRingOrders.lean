/- For every capacity and every row of turns the law RingOrders returns true, and the turns read as they did. No conditions. -/
import Derived.Test.YtgdffhmbhknfcaaAl10
import Derived.Test.YtgdffhmbhknfcaaIn10
namespace Go.Proofs.Ytgdffhmbhknfcaa.ringOrders
open Go.ChangeShapes Go.WideShapes Go.ChangeAt Go.RowKit Go.Lib
set_option linter.unusedVariables false
set_option linter.unusedSimpArgs false

/-- Numbers that follow one another. -/
def seg (t n : Nat) : List Int := (List.range' t n).map fun (k : Nat) => (k : Int)
theorem seg_length (t n : Nat) : (seg t n).length = n := by simp [seg]
theorem seg_snoc (t n : Nat) : seg t n ++ [((t + n : Nat) : Int)] = seg t (n + 1) := by simp [seg, List.range'_1_concat]
theorem seg_cons (t n : Nat) : seg t (n + 1) = ((t : Nat) : Int) :: seg (t + 1) n := by simp [seg, List.range'_succ]

set_option maxHeartbeats 16000000 in
set_option maxRecDepth 100000 in
theorem walk (m : Nat) (hm : m ≤ 255) (ao : Option Addr) (L cap : Nat) (xs : List Nat) (w : World) (hB : BArg w ao L cap xs) (hL : L ≤ 140737488351232) :
    Calls Try.prog 4 #[.int .u8 (m : Int), .slice ao L cap] w fun e w' => e = .returned (.bool true) ∧ Fr [] w w' := by
  have HB : Hid (BArg w ao L cap xs) := hB
  have HAl : Hid (∀ W, Calls _ _ _ _ _) := fun W => alive10_any W
  clear hB
  by_cases hbig : 3000 < L
  · go_enter Try.func4, Try.ntmps4
    go_wp2_with fail
    refine Calls.mono (HAl.out _) ?_
    rintro e w1 ⟨rfl, hF1⟩
    go_wp2_with fail
    refine Calls.mono (HAl.out _) ?_
    rintro e w2 ⟨rfl, hF2⟩
    go_wp2
    go_ret
    exact ⟨rfl, hF1.then hF2⟩
  · have hsm : L ≤ 3000 := by omega
    obtain ⟨C, hC⟩ : ∃ C : Nat, C = 1 + m % 40 := ⟨_, rfl⟩
    have hC1 : 1 ≤ C ∧ C ≤ 40 := by omega
    have HC : Hid (C = 1 + m % 40) := hC
    clear hbig
    have hq1 : (1 : Int) + ((m % 40 : Nat) : Int) = (C : Int) := by omega
    have hq2 : (1 : Int) + ((m : Int) % 40) = (C : Int) := by omega
    clear hC
    have hdd : decide ((3000 : Int) < (L : Int)) = false := by simp; omega
    have hdd' : ¬ (3000 : Int) < (L : Int) := by omega
    go_enter Try.func4, Try.ntmps4
    go_wp2_with fail
    refine Calls.mono (HAl.out _) ?_
    rintro e w1 ⟨rfl, hF1⟩
    have HN : Hid (Calls _ _ _ _ _) := rn_new (w := w) (C : Int) w1 hF1 (by omega)
    go_wp2_with fail
    refine Calls.mono HN.out ?_
    rintro e w2 ⟨g, rfl, hR2⟩
    rw [show ((C : Int)).toNat = C by omega] at hR2
    have HR2 : Hid (RN w w2 g C (seg 0 (0 - 0)) false) := hR2
    clear hR2 HN
    go_wp2_with fail
    go_loopw [8, 9, 10] (fun pp tt ii wr => ∃ (p t i : Nat), pp = .int .i64 p ∧ tt = .int .i64 t ∧ ii = .int .i64 i ∧ i ≤ L ∧ t ≤ p ∧ p ≤ 50 * i ∧ Hid (RN w wr g C (seg t (p - t)) false)) (fun _ _ ii _ => L - (intOf ii).toNat)
    case atStart => exact ⟨0, 0, 0, rfl, rfl, rfl, Nat.zero_le _, Nat.le_refl _, Nat.le_refl _, HR2⟩
    case round =>
      obtain ⟨p, t, i, rfl, rfl, rfl, hiL, htp, hpi, HR⟩ := hrel
      by_cases hi : i < L
      · obtain ⟨b, off, rfl, hbl, hat⟩ := HB.out.lies (by omega)
        obtain ⟨x, hx⟩ : ∃ x : Nat, x = xs.getD i 0 := ⟨_, rfl⟩
        have hx255 : x < 256 := by rw [hx]; exact HB.out.low _ (by have := HB.out.len; simp [List.getD]; rw [List.getElem?_eq_getElem (by omega)]; simp)
        have HX : Hid (∀ W, Fr [] w W → W.cell? ⟨b, off + i, none⟩ = some (.int .u8 (x : Int))) := fun W hf => by rw [hx]; exact (World.cell?_of_block (hf.block b hbl (by simp))).trans (hat i hi)
        clear hat hx
        obtain ⟨wo, hwo⟩ : ∃ wo, wo = wr := ⟨_, rfl⟩
        rw [← hwo] at HR ⊢
        clear hwo
        go_wp2_with fail
        go_loopw [8, 11] (fun pp kk wr => ∃ (p k : Nat), pp = .int .i64 p ∧ kk = .int .i64 k ∧ k ≤ x % 50 ∧ t ≤ p ∧ p ≤ 50 * i + k ∧ Hid (RN w wr g C (seg t (p - t)) false)) (fun _ kk _ => x % 50 - (intOf kk).toNat)
        case atStart => exact ⟨p, 0, rfl, rfl, Nat.zero_le _, htp, by omega, HR⟩
        case round =>
          clear HR htp hpi
          obtain ⟨p, k, rfl, rfl, hkx, htp, hpi, HR⟩ := hrel
          have c0 := HX.out _ HR.out.fr
          by_cases hk : k < x % 50
          · have hkz : (k : Int) < (x : Int) % 50 := by omega
            by_cases hfull : p - t < C
            · have HP : Hid (Calls _ _ _ _ _) := rn_put (p : Int) HR.out (by rw [seg_length]; exact hfull)
              have hlt : (p : Int) - (t : Int) < (C : Int) := by omega
              go_wp2_with fail
              refine Calls.mono HP.out ?_
              rintro e w3 ⟨rfl, hR3⟩
              have HR3 : Hid (RN w w3 g C (seg t (p + 1 - t)) false) := by
                have e : seg t (p - t) ++ [(p : Int)] = seg t (p + 1 - t) := by
                  rw [show p + 1 - t = (p - t) + 1 by omega, ← seg_snoc, show t + (p - t) = p by omega]
                rw [e] at hR3
                exact hR3
              clear HP HR hR3 c0
              go_wp2
              exact ⟨⟨p + 1, k + 1, by simp, by simp, by omega, by omega, by omega, HR3⟩, by simp [intOf]; omega⟩
            · have hfe : p - t = C := by have := HR.out.few; rw [seg_length] at this; omega
              have HP : Hid (Calls _ _ _ _ _) := rn_full (p : Int) HR.out (Or.inr (by rw [seg_length]; exact hfe))
              have hlt : ¬ (p : Int) - (t : Int) < (C : Int) := by omega
              clear hfe
              go_wp2_with fail
              refine Calls.mono HP.out ?_
              rintro e w3 ⟨rfl, hR3⟩
              have HR3 : Hid (RN w w3 g C (seg t (p - t)) false) := hR3
              clear HP HR hR3 c0
              go_wp2
              exact ⟨⟨p, k + 1, by simp, by simp, by omega, by omega, by omega, HR3⟩, by simp [intOf]; omega⟩
          · have hkz : ¬ (k : Int) < (x : Int) % 50 := by omega
            have hp50 : p ≤ 50 * i + 49 := by omega
            go_wp2_with fail
            obtain ⟨wp, hwp⟩ : ∃ wp, wp = wr := ⟨_, rfl⟩
            rw [← hwp] at HR ⊢
            clear hwp c0 hkz hk hkx hpi
            go_loopw [9, 13] (fun tt kk wr => ∃ (t k : Nat), tt = .int .i64 t ∧ kk = .int .i64 k ∧ k ≤ x / 5 ∧ t ≤ p ∧ Hid (RN w wr g C (seg t (p - t)) false)) (fun _ kk _ => x / 5 - (intOf kk).toNat)
            case atStart => exact ⟨t, 0, rfl, rfl, Nat.zero_le _, htp, HR⟩
            case round =>
              clear HR htp
              obtain ⟨t, k, rfl, rfl, hkx, htp, HR⟩ := hrel
              have c0 := HX.out _ HR.out.fr
              by_cases hk : k < x / 5
              · have hkz : (k : Int) < (x : Int) / 5 := by omega
                by_cases hz : t < p
                · have hzz : (t : Int) < (p : Int) := by omega
                  have hS : seg t (p - t) = (t : Int) :: seg (t + 1) (p - (t + 1)) := by
                    rw [show p - t = (p - (t + 1)) + 1 by omega, seg_cons]
                  have HRs := HR.out
                  rw [hS] at HRs
                  have HP : Hid (Calls _ _ _ _ _) := rn_take (t : Int) HRs
                  clear HRs hS
                  go_wp2_with fail
                  refine Calls.mono HP.out ?_
                  rintro e w3 ⟨rfl, hR3⟩
                  have HR3 : Hid (RN w w3 g C (seg (t + 1) (p - (t + 1))) false) := hR3
                  clear HP HR hR3 c0
                  go_wp2
                  exact ⟨⟨t + 1, k + 1, by simp, by simp, by omega, by omega, HR3⟩, by simp [intOf]; omega⟩
                · obtain rfl : t = p := by omega
                  have hS : seg t (t - t) = [] := by rw [Nat.sub_self]; rfl
                  have HRs := HR.out
                  rw [hS] at HRs
                  have HP : Hid (Calls _ _ _ _ _) := rn_none HRs
                  clear HRs hz
                  go_wp2_with fail
                  refine Calls.mono HP.out ?_
                  rintro e w3 ⟨rfl, hR3⟩
                  have HR3 : Hid (RN w w3 g C (seg t (t - t)) false) := by rw [hS]; exact hR3
                  clear HP HR hR3 c0 hS
                  go_wp2
                  exact ⟨⟨t, k + 1, by simp, by simp, by omega, by omega, HR3⟩, by simp [intOf]; omega⟩
              · have hkz : ¬ (k : Int) < (x : Int) / 5 := by omega
                obtain ⟨K, hK⟩ : ∃ K, K = p - t := ⟨_, rfl⟩
                obtain ⟨R, hR⟩ : ∃ R, R = C - K := ⟨_, rfl⟩
                have hKC : K ≤ C := by have := HR.out.few; rw [seg_length] at this; omega
                have HRs := HR.out
                rw [← hK] at HRs
                have HRS : Hid (RN w wr g C (seg t K) false) := HRs
                have hpt : (p : Int) - (t : Int) = (K : Int) := by omega
                have hKR : (K : Int) + (R : Int) = (C : Int) := by omega
                have HKp : Hid (K = p - t) := hK
                have HL1 : Hid (Calls _ _ _ _ _) := rn_len K HRs (seg_length _ _)
                have HRR : Hid (R = C - K) := hR
                clear hK hR HRs HR
                go_wp2_with fail
                refine Calls.mono HL1.out ?_
                rintro e w3 ⟨rfl, hR3⟩
                have HL2 : Hid (Calls _ _ _ _ _) := rn_len K hR3 (seg_length _ _)
                clear HL1 HRS hR3
                go_wp2_with fail
                refine Calls.mono HL2.out ?_
                rintro e w4 ⟨rfl, hR4⟩
                have HL3 : Hid (Calls _ _ _ _ _) := rn_room R hR4 (by rw [seg_length]; simpa using HRR.out)
                clear HL2 hR4
                go_wp2_with fail
                refine Calls.mono HL3.out ?_
                rintro e w5 ⟨rfl, hR5⟩
                have HR5 : Hid (RN w w5 g C (seg t (p - t)) false) := by rw [← HKp.out]; exact hR5
                clear HL3 hR5 c0
                go_wp2
                exact ⟨⟨p, t, i + 1, by simp, by simp, by simp, by omega, htp, by omega, HR5⟩, by simp [intOf]; omega⟩
      · have HP : Hid (Calls _ _ _ _ _) := rn_close HR.out
        have hp : p ≤ 150000 := by omega
        go_wp2_with fail
        refine Calls.mono HP.out ?_
        rintro e w3 ⟨⟨v, rfl⟩, hR3⟩
        have HR3 : Hid (RN w w3 g C (seg t (p - t)) true) := hR3
        clear HP HR hR3
        go_wp2_with fail
        go_loopw [9] (fun tt wr => ∃ (t : Nat), tt = .int .i64 t ∧ t ≤ p ∧ Hid (RN w wr g C (seg t (p - t)) true)) (fun tt _ => p - (intOf tt).toNat)
        case atStart => exact ⟨t, rfl, htp, HR3⟩
        case round =>
          clear HR3 htp
          obtain ⟨t, rfl, htp, HR⟩ := hrel
          by_cases hz : t < p
          · have hzz : (t : Int) < (p : Int) := by omega
            have hS : seg t (p - t) = (t : Int) :: seg (t + 1) (p - (t + 1)) := by
              rw [show p - t = (p - (t + 1)) + 1 by omega, seg_cons]
            have HRs := HR.out
            rw [hS] at HRs
            have HP : Hid (Calls _ _ _ _ _) := rn_take (t : Int) HRs
            clear HRs hS
            go_wp2_with fail
            refine Calls.mono HP.out ?_
            rintro e w4 ⟨rfl, hR4⟩
            have HP2 : Hid (Calls _ _ _ _ _) := rn_room 0 hR4 (by simp)
            rw [show ((0 : Nat) : Int) = 0 from rfl] at HP2
            clear HP hR4 HR
            go_wp2_with fail
            refine Calls.mono HP2.out ?_
            rintro e w5 ⟨rfl, hR5⟩
            have HR5 : Hid (RN w w5 g C (seg (t + 1) (p - (t + 1))) true) := hR5
            clear HP2 hR5
            go_wp2
            exact ⟨⟨t + 1, by simp, by omega, HR5⟩, by simp [intOf]; omega⟩
          · obtain rfl : t = p := by omega
            have hS : seg t (t - t) = [] := by rw [Nat.sub_self]; rfl
            have HRs := HR.out
            rw [hS] at HRs
            have HP : Hid (Calls _ _ _ _ _) := rn_none HRs
            clear HRs hz hS HR
            go_wp2_with fail
            refine Calls.mono HP.out ?_
            rintro e w4 ⟨rfl, hR4⟩
            have HP2 : Hid (Calls _ _ _ _ _) := rn_over true hR4 (by simp)
            clear HP hR4
            go_wp2_with fail
            refine Calls.mono HP2.out ?_
            rintro e w5 ⟨rfl, hR5⟩
            have HF : Hid (Fr [] w w5) := hR5.fr
            clear hR5 HP2
            go_wp2
            go_ret
            exact ⟨rfl, HF.out⟩

theorem own : ownKnob Try.prog.godebug = none := by kernel_rfl
theorem laidOut : laidOutB Try.prog = true := by kernel_rfl
set_option maxHeartbeats 4000000 in
set_option maxRecDepth 100000 in
theorem lifted (os : Os) (started : os.Started) (H : Type) (enc : TypeId × Value → H) :
    ReturnsInHanded {} Try.checked os 4 .any (Rows.ringOrdersSpec.pre6 enc Try.prog Try.f4 Rows.ringOrdersRow.domain false) (Rows.ringOrdersSpec.post enc Try.prog Try.f4 false true false false) := by
  refine returnsInHanded_of_change_sized (C := Try.checked) own started (by kernel_rfl) Try.func4
    (ChangeSpec.witness6 (enc := enc) (C := Try.checked) false ⟨#[], #[.int .u8 0, .slice none 0 0], []⟩ 8 (by kernel_rfl) (by kernel_rfl) (by kernel_rfl) (by kernel_rfl)) ?_
  intro W base args ds gs before hval0 hW hcnd hsz0 _
  have hval : ∀ (j : Nat) t v, Try.f4.params[j]? = some t → args[j]? = some v → Value.okWide Try.prog W .any base t v := hval0
  have hsz : (DataW.weightsEach Try.prog (Try.f4.params.toList ++ Rows.ringOrdersSpec.plain.varTypes Try.prog) (ds ++ gs)).all (· ≤ reachBytes) = true := hsz0
  have hW' := hW
  obtain ⟨p, q, hA0, hV, rfl, hfz, hnd⟩ := hW
  have hA : DataW.TrodAll enc Try.prog W 0 (fun _ => true) true Try.f4.params.toList args.toList ds p := hA0
  rw [Try.params4] at hA hval hsz
  obtain ⟨v0, vs0, d0, ds0, p0, q0, hargs, rfl, rfl, h0, r0⟩ := trodAll_cons hA
  obtain ⟨v1, vs1, d1, ds1, p1, q1, rfl, rfl, rfl, h1, r1⟩ := trodAll_cons r0
  obtain ⟨rfl, rfl, rfl⟩ := trodAll_nil r1
  obtain rfl : args = #[v0, v1] := by cases args; simp_all
  obtain ⟨rfl, rfl⟩ := trodVars_none hV
  obtain ⟨n0, rfl, rfl, rfl, w0⟩ := open_int Try.underlying5 (hval 0 5 v0 rfl rfl) h0
  have b0 := bounds_u8 w0
  obtain ⟨m0, rfl⟩ : ∃ m : Nat, n0 = (m : Int) := ⟨n0.toNat, by omega⟩
  obtain ⟨a1, len1, cap1, rfl⟩ := okWide_slice Try.undBs (hval 1 41 v1 rfl rfl)
  have k1 := h1
  have lt1 : ∀ x ∈ p1, x.block < W.heap.size := by obtain ⟨m, hm⟩ := k1; exact DataW.trod_lt m _ _ _ hm
  obtain ⟨z1, w1⟩ : ∃ zs, IsRow .u8 W a1 len1 cap1 zs := by
    obtain ⟨fuel, hf⟩ := h1
    rcases open_ints Try.undBs Try.underlying5 (by kernel_rfl) hf with ⟨hcs, _⟩ | ⟨x, l, c, zs, hcs, _, hl, hm, hz, _, hcell, hwz⟩
    · simp [Value.cells] at hcs
      obtain ⟨rfl, rfl, rfl⟩ := hcs
      exact ⟨[], .inl ⟨rfl, rfl, rfl, rfl⟩⟩
    · simp [Value.cells] at hcs
      obtain ⟨rfl, rfl, rfl⟩ := hcs
      exact ⟨zs, .inr ⟨_, rfl, hl, hm, by simpa using hz, hcell, hwz⟩⟩
  have hc1 : len1 ≤ 140737488351232 := by
    obtain ⟨fuel, hf⟩ := k1
    rcases open_ints Try.undBs Try.underlying5 (by kernel_rfl) hf with ⟨hcs, _⟩ | ⟨x, l, c, zs, hcs, _, hl, hm, hz, hx, hcell, hwz⟩
    · simp [Value.cells] at hcs
      omega
    · simp [Value.cells] at hcs
      obtain ⟨rfl, rfl, rfl⟩ := hcs
      have hd := congrArg Prod.fst hx
      simp only at hd
      have := sized_slice (j := 1) hsz rfl (by rw [hd]; rfl) Try.undBs
      rw [show Try.prog.bytesOf 5 = 1 from by kernel_rfl] at this
      simp [lits, reachBytes] at this hz
      omega
  obtain ⟨xs1, hB1⟩ := BArg.of_row w1
  clear hA0 hval0
  refine (walk m0 (by omega) a1 len1 cap1 xs1 W hB1 hc1).mono fun e W' ⟨he, hf⟩ => ?_
  subst he
  have bel : Below W.heap.size W W' := hf.below (Nat.le_refl _) (by simp)
  exact ⟨_, rfl, _, _, _, [], _, [], hW', trodAll_mk1 (shut_bool Try.underlying4 _), (trodAll_cons_mk (shut_int Try.underlying5 w0) (trodAll_cons_mk (Below.trod laidOut (by kernel_rfl) (of_decide_eq_true (by kernel_rfl)) k1 bel lt1) trodAll_mk0)), rfl, bel.frame _, fun h => by cases h⟩

theorem over : Rows.ringOrdersRow.holds Try.pinned (OpenSpec.ofChange Rows.ringOrdersSpec) :=
  OpenClaim.holds_of_wide 4 Try.f4 rfl rfl rfl rfl rfl rfl rfl ⟨rfl, rfl, rfl, rfl, rfl⟩ rfl rfl rfl rfl rfl (by kernel_rfl) Try.func4 (by kernel_rfl)
    (of_decide_eq_true (by kernel_rfl)) (by unfold Func.isWrapper; first | (rw [if_pos (by decide +kernel)]; kernel_rfl) | (rw [if_neg (by decide +kernel)]; exact ⟨rfl, rfl⟩))
    (fun os started H enc _ => lifted os started H enc)
end Go.Proofs.Ytgdffhmbhknfcaa.ringOrders
namespace Go.Proofs.Ytgdffhmbhknfcaa
theorem ringorders_holds : Rows.RingOrdersSaid := ringOrders.over
#print axioms ringorders_holds
end Go.Proofs.Ytgdffhmbhknfcaa

/- The walk of the law CodecBack. Conditions: how the script lies in memory. -/
import Derived.Test.YtcajoihfdeoikaaBackKit
namespace Go.Proofs.Ytcajoihfdeoikaa.codecBack
open Go.ChangeShapes Go.WideShapes Go.ChangeAt Go.RowKit Go.Lib
set_option linter.unusedVariables false
set_option maxHeartbeats 16000000 in
set_option maxRecDepth 100000 in
theorem walk (so : Option Addr) (M sc : Nat) (os : List OpV) (w : World) (hs : SArg w so M sc os) (hT : total os ≤ 1048576) :
    Calls Try.prog 4 #[.slice so M sc] w fun e w' => e = .returned (.bool true) ∧ Fr [] w w' := by
  have HM : Hid (M = os.length) := hs.len
  have hSm := hs.most
  obtain ⟨iO, hiO, hOz⟩ : ∃ i, Try.prog.info? 37 = some i ∧ i.zero = some (.agg #[.int .u8 0, .int .u64 0, .int .i64 0, .string ⟨#[]⟩, .int .i64 0]) ∧ i.size = 5 ∧ i.bytes ≤ 64 := by
    have h1 := Try.infoOp
    have h2 := Try.bytesOp
    cases hi : Try.prog.info? 37 with
    | none => rw [hi] at h1; simp at h1
    | some i =>
      rw [hi] at h1 h2
      simp at h1 h2
      exact ⟨i, rfl, h1.1, h1.2, h2⟩
  obtain ⟨hO1, hO2, hO3⟩ := hOz
  go_enter Try.func4, Try.ntmps4
  go_wp2_with fail
  refine (alive_any _).mono ?_
  rintro e w1 ⟨rfl, hF1⟩
  have hs1 := hs.keep hF1
  go_wp2_with fail
  refine (script_any so M sc os _ hs1).mono ?_
  rintro e w2 ⟨rfl, rfl⟩
  rw [show decide (1048576 < total os) = false by simpa using hT]
  go_wp2_with fail
  refine (newWriter_wr w w1 hF1).mono ?_
  rintro e w3 ⟨gw, rfl, hgw, hW3, hF3⟩
  clear hs1 hF1 hF3
  go_wp2_with fail
  go_loopw [4, 5] (fun vp ii wr => ∃ (i : Nat) (ps : List OpV) (vw : Value), ii = .int .i64 i ∧ i ≤ M ∧ WB w wr gw vw (opsB ps) ∧ wr.ownsRow 0 37 5 vp ps.length (opsC ps) ∧ (∀ k, vp.ownBlock = some k → w.heap.size ≤ k) ∧ total ps ≤ total (os.take i) ∧ (∀ v ∈ ps, v ∈ os ∧ opOK v)) (fun _ ii _ => M - (intOf ii).toNat)
  case atStart => exact ⟨0, [], _, rfl, Nat.zero_le _, hW3, World.ownsRow_nil _ _ _ _, fun k hk => by simp [Value.ownBlock] at hk, by simp [total], by simp⟩
  case round =>
    obtain ⟨i, ps, vw, rfl, hiM, hWi, hPi, hPb, hTi, hPs⟩ := hrel
    have hFi := hWi.fr
    by_cases hi : i < M
    · obtain ⟨sb, soff, e, _, hcells⟩ := (hs.keep hFi).lies (by omega)
      subst e
      have hO := hcells i hi
      obtain ⟨v, hv⟩ : ∃ v, v = os.getD i OpV.zero := ⟨_, rfl⟩
      have hmem : v ∈ os := by rw [hv]; exact getD_mem os i (by rw [← HM.out]; exact hi)
      have hok := hs.each v hmem
      have hTn : total (os.take (i + 1)) = total (os.take i) + 10 + v.text.size := by rw [take_snoc os i (by rw [← HM.out]; exact hi), ← hv, total_snoc]
      have hTle : total (os.take (i + 1)) ≤ 1048576 := by have := total_take_le os (i + 1); omega
      have HTn : Hid _ := hTn
      rw [← hv] at hO
      have c0 := hO.c0
      have c1 := hO.c1
      have c2 := hO.c2
      have c3 := hO.c3
      have c4 := hO.c4
      obtain ⟨k, n, wd, tx, ms⟩ := v
      simp only at c0 c1 c2 c3 c4
      clear hO hv hcells hTn
      have hbl : (opsB ps).length ≤ 1048576 := by have := opsB_length ps (fun v hv => (hPs v hv).2); have := HTn.out; omega
      have htx : tx.size ≤ 1048576 := by have := HTn.out; simp only at this; omega
      have hpl : ps.length ≤ 1048576 := by have := total_len ps; have := HTn.out; omega
      have hoa : Hid ((wr.alloc (.cells #[.int .u8 k, .int .u64 n, .int .i64 wd, .string tx, .int .i64 ms] 37)).heap[wr.heap.size]? = some (.cells #[.int .u8 k, .int .u64 n, .int .i64 wd, .string tx, .int .i64 ms] 37 (0, 0))) := heap_alloc_new wr _
      have hWa := hWi.quiet (Fr.alloc [] wr (.cells #[.int .u8 k, .int .u64 n, .int .i64 wd, .string tx, .int .i64 ms] 37))
      have hPa := hPi.alloc (.cells #[.int .u8 k, .int .u64 n, .int .i64 wd, .string tx, .int .i64 ms] 37)
      obtain ⟨lp, hlp⟩ : ∃ lp, lp = ps.length := ⟨_, rfl⟩
      rw [← hlp] at hPa hpl
      have HLP : Hid (lp = ps.length) := hlp
      clear hlp hPi hFi
      have hn0 := hok.n0
      have hn1 := hok.n1
      simp only at hn0 hn1
      rcases (show k = 1 ∨ k = 3 ∨ k = 4 ∨ (k ≠ 1 ∧ k ≠ 3 ∧ k ≠ 4) from by omega) with hkk | hkk | hkk | hkk
      · by_cases hwd : wd < 1 ∨ 8 < wd
        · have hk1 : (k == 1) = true := by rw [beq_iff_eq]; exact hkk
          clear hkk
          go_wp2_with fail
          refine (fixed_arg gw _ _ n wd _ hWa.wr hwd).mono ?_
          rintro e w9 ⟨rfl, rfl⟩
          have hTo : total ps ≤ total (os.take (i + 1)) := by have := HTn.out; omega
          clear hoa hWi c0 c1 c2 c3 c4
          rw [HLP.out] at hPa
          go_wp2
          go_roundw
          case rel => exact ⟨i + 1, ps, _, by simp, by omega, hWa, hPa, hPb, hTo, hPs⟩
          case measure => simp [intOf]; omega
        · have hw1 : 1 ≤ wd := by omega
          have hw8 : wd ≤ 8 := by omega
          by_cases hfit : n / 2 ^ (8 * wd).toNat = 0
          · have hk1 : (k == 1) = true := by rw [beq_iff_eq]; exact hkk
            have HFit : Hid (n / 2 ^ (8 * wd).toNat = 0) := hfit
            clear hfit
            have HKK : Hid _ := hkk
            clear hkk
            go_wp2_with fail
            refine (fixed_any gw _ _ n wd _ hWa.wr hn0 (by omega) hw1 hw8 HFit.out (by omega)).mono ?_
            rintro e w9 ⟨rfl, v9, hw9, hF9, hM9⟩
            obtain ⟨hW9, hP9, hob9⟩ := put_step hWa hPa hoa.out hw9 hF9 hM9
            obtain ⟨d0, d1, d2, d3, d4⟩ := five hob9
            clear hw9 hF9 hM9 hWa hPa hoa hWi c0 c1 c2 c3 c4 hob9
            go_wp2_with (at_builtin; refine wpList_app1 _ rfl (.tmp 57) (.tmp 59) 23 rfl 37 iO (.agg #[.int .u8 0, .int .u64 0, .int .i64 0, .string ⟨#[]⟩, .int .i64 0]) 5 iO.bytes Try.undOps hiO hO1 hO2 rfl rfl (by decide) _ lp _ rfl (hP9.alloc _) ⟨w9.heap.size, 0, none⟩ 1 (opC ⟨k, n, wd, tx, ms⟩) rfl rfl ?c1 ?c2 ?c3 ?c4 ?_)
            case c1 => exact opC_cells (heap_alloc_new w9 _)
            case c2 => exact opC_one _
            case c3 => exact Nat.le_trans (Nat.mul_le_mul_left _ hO3) (by omega)
            case c4 => unfold maxLen; omega
            intro gp capp w10 hown hgrow hmov
            obtain ⟨hW10, hb10⟩ := app_step hW9 hP9 hPb hgrow hmov (by simp)
            clear hgrow hmov hP9 hW9 d0 d1 d2 d3 d4
            have HB : Hid (opsB (ps ++ [⟨k, n, wd, tx, ms⟩]) = opsB ps ++ leB wd.toNat n.toNat) := by
              show _ = _
              rw [opsB_append]
              simp only [opsB, List.append_nil]
              congr 1
              have := HKK.out
              simp [opB, this]
            have HC : Hid (opsC (ps ++ [⟨k, n, wd, tx, ms⟩]) = opsC ps ++ opC ⟨k, n, wd, tx, ms⟩) := by show _ = _; rw [opsC_append]; simp [opsC]
            have HL : Hid ((ps ++ [(⟨k, n, wd, tx, ms⟩ : OpV)]).length = lp + 1) := by show _ = _; rw [List.length_append, HLP.out]; rfl
            have hPs' : ∀ v ∈ ps ++ [(⟨k, n, wd, tx, ms⟩ : OpV)], v ∈ os ∧ opOK v := by
              intro v hv
              rcases List.mem_append.1 hv with hv | hv
              · exact hPs v hv
              · have : v = ⟨k, n, wd, tx, ms⟩ := by simpa using hv
                rw [this]
                refine ⟨hmem, ?_⟩
                exact fun _ => ⟨hw1, hw8, HFit.out⟩
            have hTo : total (ps ++ [(⟨k, n, wd, tx, ms⟩ : OpV)]) ≤ total (os.take (i + 1)) := total_snoc_le hTi HTn.out
            rw [← HB.out] at hW10
            rw [← HC.out, ← HL.out] at hown
            clear HTn hPs hTi
            go_wp2
            go_roundw
            case rel =>
              rw [← HL.out]
              exact ⟨i + 1, ps ++ [⟨k, n, wd, tx, ms⟩], _, by simp, by omega, hW10, hown, hb10, hTo, hPs'⟩
            case measure => simp [intOf]; omega
          · have hk1 : (k == 1) = true := by rw [beq_iff_eq]; exact hkk
            have HFit : Hid (n / 2 ^ (8 * wd).toNat ≠ 0) := hfit
            clear hfit
            clear hkk
            go_wp2_with fail
            refine (fixed_limit gw _ _ n wd _ hWa.wr hn0 (by omega) hw1 hw8 HFit.out).mono ?_
            rintro e w9 ⟨rfl, rfl⟩
            have hTo : total ps ≤ total (os.take (i + 1)) := by have := HTn.out; omega
            clear hoa hWi c0 c1 c2 c3 c4
            rw [HLP.out] at hPa
            go_wp2
            go_roundw
            case rel => exact ⟨i + 1, ps, _, by simp, by omega, hWa, hPa, hPb, hTo, hPs⟩
            case measure => simp [intOf]; omega
      · have hk1 : (k == 1) = false := by rw [hkk]; decide
        have hk3 : (k == 3) = true := by rw [beq_iff_eq]; exact hkk
        have HKK : Hid _ := hkk
        clear hkk
        go_wp2_with fail
        refine (int_any gw _ _ (wrap64 n) _ hWa.wr (sgn_bd n).1 (sgn_bd n).2 (by omega)).mono ?_
        rintro e w9 ⟨rfl, v9, hw9, hF9, hM9⟩
        obtain ⟨hW9, hP9, hob9⟩ := put_step hWa hPa hoa.out hw9 hF9 hM9
        obtain ⟨d0, d1, d2, d3, d4⟩ := five hob9
        clear hw9 hF9 hM9 hWa hPa hoa hWi c0 c1 c2 c3 c4 hob9
        go_wp2_with (at_builtin; refine wpList_app1 _ rfl (.tmp 57) (.tmp 59) 23 rfl 37 iO (.agg #[.int .u8 0, .int .u64 0, .int .i64 0, .string ⟨#[]⟩, .int .i64 0]) 5 iO.bytes Try.undOps hiO hO1 hO2 rfl rfl (by decide) _ lp _ rfl (hP9.alloc _) ⟨w9.heap.size, 0, none⟩ 1 (opC ⟨k, n, wd, tx, ms⟩) rfl rfl ?c1 ?c2 ?c3 ?c4 ?_)
        case c1 => exact opC_cells (heap_alloc_new w9 _)
        case c2 => exact opC_one _
        case c3 => exact Nat.le_trans (Nat.mul_le_mul_left _ hO3) (by omega)
        case c4 => unfold maxLen; omega
        intro gp capp w10 hown hgrow hmov
        obtain ⟨hW10, hb10⟩ := app_step hW9 hP9 hPb hgrow hmov (by simp)
        clear hgrow hmov hP9 hW9 d0 d1 d2 d3 d4
        have HB : Hid (opsB (ps ++ [⟨k, n, wd, tx, ms⟩]) = opsB ps ++ enc (zig (wrap64 n)).toNat) := by
          show _ = _
          rw [opsB_append]
          simp only [opsB, List.append_nil]
          congr 1
          have := HKK.out
          simp [opB, this, sgn]
        have HC : Hid (opsC (ps ++ [⟨k, n, wd, tx, ms⟩]) = opsC ps ++ opC ⟨k, n, wd, tx, ms⟩) := by show _ = _; rw [opsC_append]; simp [opsC]
        have HL : Hid ((ps ++ [(⟨k, n, wd, tx, ms⟩ : OpV)]).length = lp + 1) := by show _ = _; rw [List.length_append, HLP.out]; rfl
        have hPs' : ∀ v ∈ ps ++ [(⟨k, n, wd, tx, ms⟩ : OpV)], v ∈ os ∧ opOK v := by
          intro v hv
          rcases List.mem_append.1 hv with hv | hv
          · exact hPs v hv
          · have : v = ⟨k, n, wd, tx, ms⟩ := by simpa using hv
            rw [this]
            refine ⟨hmem, ?_⟩
            exact (fun h1 => absurd h1 (by have := HKK.out; simp only; omega))
        have hTo : total (ps ++ [(⟨k, n, wd, tx, ms⟩ : OpV)]) ≤ total (os.take (i + 1)) := total_snoc_le hTi HTn.out
        rw [← HB.out] at hW10
        rw [← HC.out, ← HL.out] at hown
        clear HTn hPs hTi
        go_wp2
        go_roundw
        case rel =>
          rw [← HL.out]
          exact ⟨i + 1, ps ++ [⟨k, n, wd, tx, ms⟩], _, by simp, by omega, hW10, hown, hb10, hTo, hPs'⟩
        case measure => simp [intOf]; omega
      · have hk1 : (k == 1) = false := by rw [hkk]; decide
        have hk3 : (k == 3) = false := by rw [hkk]; decide
        have hk4 : (k == 4) = true := by rw [beq_iff_eq]; exact hkk
        have HKK : Hid _ := hkk
        clear hkk
        go_wp2_with fail
        refine (text_any gw _ _ tx _ hWa.wr (by omega) (by omega)).mono ?_
        rintro e w9 ⟨rfl, v9, hw9, hF9, hM9⟩
        obtain ⟨hW9, hP9, hob9⟩ := put_step hWa hPa hoa.out hw9 hF9 hM9
        obtain ⟨d0, d1, d2, d3, d4⟩ := five hob9
        clear hw9 hF9 hM9 hWa hPa hoa hWi c0 c1 c2 c3 c4 hob9
        go_wp2_with (at_builtin; refine wpList_app1 _ rfl (.tmp 57) (.tmp 59) 23 rfl 37 iO (.agg #[.int .u8 0, .int .u64 0, .int .i64 0, .string ⟨#[]⟩, .int .i64 0]) 5 iO.bytes Try.undOps hiO hO1 hO2 rfl rfl (by decide) _ lp _ rfl (hP9.alloc _) ⟨w9.heap.size, 0, none⟩ 1 (opC ⟨k, n, wd, tx, ms⟩) rfl rfl ?c1 ?c2 ?c3 ?c4 ?_)
        case c1 => exact opC_cells (heap_alloc_new w9 _)
        case c2 => exact opC_one _
        case c3 => exact Nat.le_trans (Nat.mul_le_mul_left _ hO3) (by omega)
        case c4 => unfold maxLen; omega
        intro gp capp w10 hown hgrow hmov
        obtain ⟨hW10, hb10⟩ := app_step hW9 hP9 hPb hgrow hmov (by simp)
        clear hgrow hmov hP9 hW9 d0 d1 d2 d3 d4
        have HB : Hid (opsB (ps ++ [⟨k, n, wd, tx, ms⟩]) = opsB ps ++ (enc tx.size ++ strNs tx)) := by
          show _ = _
          rw [opsB_append]
          simp only [opsB, List.append_nil]
          congr 1
          have := HKK.out
          simp [opB, this]
        have HC : Hid (opsC (ps ++ [⟨k, n, wd, tx, ms⟩]) = opsC ps ++ opC ⟨k, n, wd, tx, ms⟩) := by show _ = _; rw [opsC_append]; simp [opsC]
        have HL : Hid ((ps ++ [(⟨k, n, wd, tx, ms⟩ : OpV)]).length = lp + 1) := by show _ = _; rw [List.length_append, HLP.out]; rfl
        have hPs' : ∀ v ∈ ps ++ [(⟨k, n, wd, tx, ms⟩ : OpV)], v ∈ os ∧ opOK v := by
          intro v hv
          rcases List.mem_append.1 hv with hv | hv
          · exact hPs v hv
          · have : v = ⟨k, n, wd, tx, ms⟩ := by simpa using hv
            rw [this]
            refine ⟨hmem, ?_⟩
            exact (fun h1 => absurd h1 (by have := HKK.out; simp only; omega))
        have hTo : total (ps ++ [(⟨k, n, wd, tx, ms⟩ : OpV)]) ≤ total (os.take (i + 1)) := total_snoc_le hTi HTn.out
        rw [← HB.out] at hW10
        rw [← HC.out, ← HL.out] at hown
        clear HTn hPs hTi
        go_wp2
        go_roundw
        case rel =>
          rw [← HL.out]
          exact ⟨i + 1, ps ++ [⟨k, n, wd, tx, ms⟩], _, by simp, by omega, hW10, hown, hb10, hTo, hPs'⟩
        case measure => simp [intOf]; omega
      · have hk1 : (k == 1) = false := by rw [beq_eq_false_iff_ne]; exact hkk.1
        have hk3 : (k == 3) = false := by rw [beq_eq_false_iff_ne]; exact hkk.2.1
        have hk4 : (k == 4) = false := by rw [beq_eq_false_iff_ne]; exact hkk.2.2
        have HKK : Hid _ := hkk
        clear hkk
        go_wp2_with fail
        refine (var_any gw _ _ n _ hWa.wr hn0 (by omega) (by omega)).mono ?_
        rintro e w9 ⟨rfl, v9, hw9, hF9, hM9⟩
        obtain ⟨hW9, hP9, hob9⟩ := put_step hWa hPa hoa.out hw9 hF9 hM9
        obtain ⟨d0, d1, d2, d3, d4⟩ := five hob9
        clear hw9 hF9 hM9 hWa hPa hoa hWi c0 c1 c2 c3 c4 hob9
        go_wp2_with (at_builtin; refine wpList_app1 _ rfl (.tmp 57) (.tmp 59) 23 rfl 37 iO (.agg #[.int .u8 0, .int .u64 0, .int .i64 0, .string ⟨#[]⟩, .int .i64 0]) 5 iO.bytes Try.undOps hiO hO1 hO2 rfl rfl (by decide) _ lp _ rfl (hP9.alloc _) ⟨w9.heap.size, 0, none⟩ 1 (opC ⟨k, n, wd, tx, ms⟩) rfl rfl ?c1 ?c2 ?c3 ?c4 ?_)
        case c1 => exact opC_cells (heap_alloc_new w9 _)
        case c2 => exact opC_one _
        case c3 => exact Nat.le_trans (Nat.mul_le_mul_left _ hO3) (by omega)
        case c4 => unfold maxLen; omega
        intro gp capp w10 hown hgrow hmov
        obtain ⟨hW10, hb10⟩ := app_step hW9 hP9 hPb hgrow hmov (by simp)
        clear hgrow hmov hP9 hW9 d0 d1 d2 d3 d4
        have HB : Hid (opsB (ps ++ [⟨k, n, wd, tx, ms⟩]) = opsB ps ++ enc n.toNat) := by
          show _ = _
          rw [opsB_append]
          simp only [opsB, List.append_nil]
          congr 1
          have := HKK.out
          simp [opB, this.1, this.2.1, this.2.2]
        have HC : Hid (opsC (ps ++ [⟨k, n, wd, tx, ms⟩]) = opsC ps ++ opC ⟨k, n, wd, tx, ms⟩) := by show _ = _; rw [opsC_append]; simp [opsC]
        have HL : Hid ((ps ++ [(⟨k, n, wd, tx, ms⟩ : OpV)]).length = lp + 1) := by show _ = _; rw [List.length_append, HLP.out]; rfl
        have hPs' : ∀ v ∈ ps ++ [(⟨k, n, wd, tx, ms⟩ : OpV)], v ∈ os ∧ opOK v := by
          intro v hv
          rcases List.mem_append.1 hv with hv | hv
          · exact hPs v hv
          · have : v = ⟨k, n, wd, tx, ms⟩ := by simpa using hv
            rw [this]
            refine ⟨hmem, ?_⟩
            exact fun h1 => absurd h1 HKK.out.1
        have hTo : total (ps ++ [(⟨k, n, wd, tx, ms⟩ : OpV)]) ≤ total (os.take (i + 1)) := total_snoc_le hTi HTn.out
        rw [← HB.out] at hW10
        rw [← HC.out, ← HL.out] at hown
        clear HTn hPs hTi
        go_wp2
        go_roundw
        case rel =>
          rw [← HL.out]
          exact ⟨i + 1, ps ++ [⟨k, n, wd, tx, ms⟩], _, by simp, by omega, hW10, hown, hb10, hTo, hPs'⟩
        case measure => simp [intOf]; omega
    · have hiM' : (M : Int) ≤ i := by omega
      obtain ⟨lp, hlp⟩ : ∃ lp, lp = ps.length := ⟨_, rfl⟩
      have HLP : Hid (lp = ps.length) := hlp
      rw [← hlp] at hPi
      clear hlp
      obtain ⟨ao4, cap4, hu4⟩ : ∃ ao4 cap4, u4 = .slice ao4 lp cap4 := by
        rcases hPi.2 with ⟨hh, h0⟩ | ⟨g', c', _, hh, _⟩
        · exact ⟨none, 0, by rw [hh, h0]⟩
        · exact ⟨_, c', hh⟩
      subst hu4
      have hbl : (opsB ps).length ≤ 1048576 := by have := opsB_length ps (fun v hv => (hPs v hv).2); have := total_take_le os i; omega
      have hpl : lp ≤ 1048576 := by have := total_len ps; have := total_take_le os i; have := HLP.out; omega
      have hlow := opsB_low ps
      go_wp2_with fail
      refine (done_src gw _ (opsB ps) _ hWi.wr (by omega)).mono ?_
      rintro e w9 ⟨aoD, LD, capD, rfl, hLD, hsrc, hF9⟩
      have HLD : Hid (LD = (opsB ps).length) := hLD
      have hLDb : LD < 2^41 := by omega
      have HSrc : Hid _ := hsrc
      clear hLD hsrc
      go_wp2_with fail
      refine (newReader_any aoD LD capD (opsB ps) _ HLD.out HSrc.out hlow (by omega)).mono ?_
      rintro e wq ⟨gr, rfl, hgr, hRq, hFq⟩
      have hF0q : Fr [] w wq := (hWi.fr.then hF9).then hFq
      have hPq : wq.ownsRow 0 37 5 (.slice ao4 lp cap4) lp (opsC ps) := owns_keep (owns_keep hPi hF9 (by simp)) hFq (by simp)
      obtain ⟨r, hrw, hrg, hRq⟩ : ∃ r, w.heap.size ≤ r ∧ r < gr ∧ Rd wq gr r (opsB ps) 0 (some ⟨r, 0, none⟩) (opsB ps).length := ⟨w9.heap.size, by have := (hWi.fr.then hF9).size; omega, hgr, hRq⟩
      have hgrw : w.heap.size ≤ gr := by omega
      have hP39 : ∀ k, (Value.slice ao4 lp cap4).ownBlock = some k → k ∉ [gr] := by
        intro k hk hx
        simp at hx
        subst hx
        exact owns_type hPq hRq.box (by decide) hk
      clear hWi hPi hF9 hFq HSrc hgr hPb hTi hW3
      go_wp2_with fail
      go_loopw [8] (fun ii wr => ∃ (j : Nat) (ao : Option Addr) (cap : Nat), ii = .int .i64 j ∧ j ≤ lp ∧ Rd wr gr r (opsB (ps.drop j)) 0 ao cap ∧ Fr [] w wr ∧ wr.ownsRow 0 37 5 (.slice ao4 lp cap4) lp (opsC ps)) (fun ii _ => lp - (intOf ii).toNat)
      case atStart => exact ⟨0, _, _, rfl, Nat.zero_le _, hRq, hF0q, hPq⟩
      case round =>
        obtain ⟨j, aoj, capj, rfl, hj, hRj, hFj, hPj⟩ := hrel
        clear hRq hF0q hPq
        by_cases hjl : j < lp
        · obtain ⟨gp, e, hgp⟩ : ∃ gp, ao4 = some ⟨gp, 0, none⟩ ∧ ∀ jj u, (opsC ps)[jj]? = some u → wr.cell? ((⟨gp, 0, none⟩ : Addr).add jj) = some u := by
            rcases hPj.2 with ⟨hh, h0⟩ | ⟨g', c', _, hh, _⟩
            · omega
            · cases hh; exact ⟨g', rfl, fun jj u hu => hPj.cells (g := g') rfl jj u hu⟩
          subst e
          obtain ⟨v, hv⟩ : ∃ v, v = ps.getD j OpV.zero := ⟨_, rfl⟩
          have hjp : j < ps.length := by rw [← HLP.out]; exact hjl
          have hmv : v ∈ ps := by rw [hv]; exact getD_mem ps j hjp
          have hopk := (hPs v hmv).2
          have hokv := hs.each v (hPs v hmv).1
          have hcell : ∀ c, c < 5 → ∀ u, (opC v)[c]? = some u → wr.cell? ⟨gp, j * 5 + c, none⟩ = some u := by
            intro c hc u hu
            have h1 := hgp (j * 5 + c) u (by rw [opsC_get ps j c hjp hc, ← hv]; exact hu)
            rw [Addr.add_lit, Nat.zero_add] at h1
            exact h1
          have hdrop : opsB (ps.drop j) = opB v ++ opsB (ps.drop (j + 1)) := by
            rw [List.drop_eq_getElem_cons hjp]
            simp only [opsB]
            congr 2
            rw [hv]; simp [List.getD, hjp]
          have hn0 := hokv.n0
          have hn1 := hokv.n1
          have ht1 := hokv.t1
          obtain ⟨k, n, wd, tx, ms⟩ := v
          simp only at hn0 hn1 ht1
          obtain ⟨N, rfl⟩ := Int.eq_ofNat_of_zero_le hn0
          have c0 := hcell 0 (by omega) _ rfl
          have c1 := hcell 1 (by omega) _ rfl
          have c2 := hcell 2 (by omega) _ rfl
          have c3 := hcell 3 (by omega) _ rfl
          have c4 := hcell 4 (by omega) _ rfl
          simp only [Nat.add_zero] at c0
          have hRa := hRj.keep (Fr.alloc [] wr (.cells #[.int .u8 k, .int .u64 (N : Int), .int .i64 wd, .string tx, .int .i64 ms] 37)) (by simp) (by simp)
          have hobne : wr.heap.size ∉ [gr] := by have := hRj.lt; simp; omega
          have hPne := hP39
          clear hcell hgp hmv hv hRj
          rcases (show k = 1 ∨ k = 3 ∨ k = 4 ∨ (k ≠ 1 ∧ k ≠ 3 ∧ k ≠ 4) from by omega) with hkk | hkk | hkk | hkk
          · have hk1 : (k == 1) = true := by rw [beq_iff_eq]; exact hkk
            have HRD : Hid (rdBy (fixF wd) 0 (opsB (ps.drop j)) 0 = (N, opsB (ps.drop (j + 1)), 0)) := by
              show _ = _
              rw [hdrop]
              have := back_fix ⟨k, (N : Int), wd, tx, ms⟩ (opsB (ps.drop (j + 1))) hokv hkk hopk
              simp only [Int.toNat_natCast] at this
              simpa [opB, hkk] using this
            obtain ⟨ys, hys⟩ : ∃ ys, ys = opsB (ps.drop j) := ⟨_, rfl⟩
            obtain ⟨zs, hzs⟩ : ∃ zs, zs = opsB (ps.drop (j + 1)) := ⟨_, rfl⟩
            rw [← hys] at hRa HRD
            rw [← hzs] at HRD
            have HZS : Hid (zs = opsB (ps.drop (j + 1))) := hzs
            clear hdrop hys hzs hkk
            have hRd : Rd (wr.alloc (.cells #[.int .u8 k, .int .u64 (N : Int), .int .i64 wd, .string tx, .int .i64 ms] 37)).drew gr r ys 0 aoj capj := hRa.keep (Fr.drew [] _) (by simp) (by simp)
            go_wp2_with fail
            first
              | go_region_with (first
                  | (go_at_call 25; refine (rFixed_any gr r ys 0 _ _ wd _ hRd).mono ?_; rintro e w9 ⟨rfl, ao9, cap9, hR9, hF9⟩; rw [HRD.out] at hR9 ⊢; simp only at hR9 ⊢; have d1' := (five (hF9.keep (b := wr.heap.size) (heap_alloc_new wr _) hobne)).2.1; have d3' := (five (hF9.keep (b := wr.heap.size) (heap_alloc_new wr _) hobne)).2.2.2.1))
              | fail
            all_goals (
              have hF0 : Fr [] w w9 := ((hFj.then (Fr.alloc [] wr _)).then (Fr.drew [] _)).on hF9 (by intro x hx; simp at hx; omega)
              have hP9 := owns_keep (hPj.alloc (.cells #[.int .u8 k, .int .u64 (N : Int), .int .i64 wd, .string tx, .int .i64 ms] 37)).drew hF9 hPne
              clear hF9 hRd hRa hPj hFj d1' d3'
              obtain ⟨lz, hlz⟩ : ∃ lz, lz = zs.length := ⟨_, rfl⟩
              have HLZ : Hid (lz = zs.length) := hlz
              clear hlz
              by_cases hz0 : 0 < lz
              · go_wp2_with fail
                refine (end_any gr r zs 0 _ _ _ hR9).mono ?_
                rintro e w10 ⟨rfl, rfl⟩
                rw [← HLZ.out, show endOf 0 lz = 4 by simp [endOf, hz0]]
                go_wp2_with fail
                refine (left_any gr r zs 0 _ _ _ hR9).mono ?_
                rintro e w10 ⟨rfl, rfl⟩
                rw [← HLZ.out]
                have hlz0 : ((lz : Int) == 0) = false := by rw [beq_eq_false_iff_ne]; omega
                rw [HZS.out] at hR9
                go_wp2
                go_roundw
                case rel => exact ⟨j + 1, _, _, by simp, by omega, hR9, hF0, hP9⟩
                case measure => simp [intOf]; omega
              · go_wp2_with fail
                refine (end_any gr r zs 0 _ _ _ hR9).mono ?_
                rintro e w10 ⟨rfl, rfl⟩
                rw [← HLZ.out, show endOf 0 lz = 0 by simp [endOf, hz0]]
                rw [HZS.out] at hR9
                go_wp2
                go_roundw
                case rel => exact ⟨j + 1, _, _, by simp, by omega, hR9, hF0, hP9⟩
                case measure => simp [intOf]; omega)
          · have hk1 : (k == 1) = false := by rw [hkk]; decide
            have hk3 : (k == 3) = true := by rw [beq_iff_eq]; exact hkk
            have HRD : Hid (rdBy intF 0 (opsB (ps.drop j)) 0 = (wrap64 (N : Int), opsB (ps.drop (j + 1)), 0)) := by
              show _ = _
              rw [hdrop]
              have := back_int (sgn (N : Int)) (opsB (ps.drop (j + 1))) (sgn_bd _).1 (sgn_bd _).2
              simpa [opB, hkk, sgn] using this
            obtain ⟨ys, hys⟩ : ∃ ys, ys = opsB (ps.drop j) := ⟨_, rfl⟩
            obtain ⟨zs, hzs⟩ : ∃ zs, zs = opsB (ps.drop (j + 1)) := ⟨_, rfl⟩
            rw [← hys] at hRa HRD
            rw [← hzs] at HRD
            have HZS : Hid (zs = opsB (ps.drop (j + 1))) := hzs
            clear hdrop hys hzs hkk
            have hRd : Rd (wr.alloc (.cells #[.int .u8 k, .int .u64 (N : Int), .int .i64 wd, .string tx, .int .i64 ms] 37)).drew gr r ys 0 aoj capj := hRa.keep (Fr.drew [] _) (by simp) (by simp)
            go_wp2_with fail
            first
              | go_region_with (first
                  | (go_at_call 26; refine (rInt_any gr r ys 0 _ _ _ hRd).mono ?_; rintro e w9 ⟨rfl, ao9, cap9, hR9, hF9⟩; rw [HRD.out] at hR9 ⊢; simp only at hR9 ⊢; have d1' := (five (hF9.keep (b := wr.heap.size) (heap_alloc_new wr _) hobne)).2.1; have d3' := (five (hF9.keep (b := wr.heap.size) (heap_alloc_new wr _) hobne)).2.2.2.1))
              | fail
            all_goals (
              have hF0 : Fr [] w w9 := ((hFj.then (Fr.alloc [] wr _)).then (Fr.drew [] _)).on hF9 (by intro x hx; simp at hx; omega)
              have hP9 := owns_keep (hPj.alloc (.cells #[.int .u8 k, .int .u64 (N : Int), .int .i64 wd, .string tx, .int .i64 ms] 37)).drew hF9 hPne
              clear hF9 hRd hRa hPj hFj d1' d3'
              obtain ⟨lz, hlz⟩ : ∃ lz, lz = zs.length := ⟨_, rfl⟩
              have HLZ : Hid (lz = zs.length) := hlz
              clear hlz
              by_cases hz0 : 0 < lz
              · go_wp2_with fail
                refine (end_any gr r zs 0 _ _ _ hR9).mono ?_
                rintro e w10 ⟨rfl, rfl⟩
                rw [← HLZ.out, show endOf 0 lz = 4 by simp [endOf, hz0]]
                go_wp2_with fail
                refine (left_any gr r zs 0 _ _ _ hR9).mono ?_
                rintro e w10 ⟨rfl, rfl⟩
                rw [← HLZ.out]
                have hlz0 : ((lz : Int) == 0) = false := by rw [beq_eq_false_iff_ne]; omega
                rw [HZS.out] at hR9
                go_wp2
                go_roundw
                case rel => exact ⟨j + 1, _, _, by simp, by omega, hR9, hF0, hP9⟩
                case measure => simp [intOf]; omega
              · go_wp2_with fail
                refine (end_any gr r zs 0 _ _ _ hR9).mono ?_
                rintro e w10 ⟨rfl, rfl⟩
                rw [← HLZ.out, show endOf 0 lz = 0 by simp [endOf, hz0]]
                rw [HZS.out] at hR9
                go_wp2
                go_roundw
                case rel => exact ⟨j + 1, _, _, by simp, by omega, hR9, hF0, hP9⟩
                case measure => simp [intOf]; omega)
          · have hk1 : (k == 1) = false := by rw [hkk]; decide
            have hk3 : (k == 3) = false := by rw [hkk]; decide
            have hk4 : (k == 4) = true := by rw [beq_iff_eq]; exact hkk
            have HRD : Hid (rdBy (textF (tx.size : Int)) ⟨#[]⟩ (opsB (ps.drop j)) 0 = (tx, opsB (ps.drop (j + 1)), 0)) := by
              show _ = _
              rw [hdrop]
              have := back_text tx (opsB (ps.drop (j + 1))) (by omega)
              simpa [opB, hkk] using this
            obtain ⟨ys, hys⟩ : ∃ ys, ys = opsB (ps.drop j) := ⟨_, rfl⟩
            obtain ⟨zs, hzs⟩ : ∃ zs, zs = opsB (ps.drop (j + 1)) := ⟨_, rfl⟩
            rw [← hys] at hRa HRD
            rw [← hzs] at HRD
            have HZS : Hid (zs = opsB (ps.drop (j + 1))) := hzs
            clear hdrop hys hzs hkk
            have hRd : Rd (wr.alloc (.cells #[.int .u8 k, .int .u64 (N : Int), .int .i64 wd, .string tx, .int .i64 ms] 37)).drew gr r ys 0 aoj capj := hRa.keep (Fr.drew [] _) (by simp) (by simp)
            go_wp2_with fail
            first
              | go_region_with (first
                  | (go_at_call 27; refine (rText_any gr r ys 0 _ _ _ _ hRd (by omega) (by omega)).mono ?_; rintro e w9 ⟨rfl, ao9, cap9, hR9, hF9⟩; rw [HRD.out] at hR9 ⊢; simp only at hR9 ⊢; have d1' := (five (hF9.keep (b := wr.heap.size) (heap_alloc_new wr _) hobne)).2.1; have d3' := (five (hF9.keep (b := wr.heap.size) (heap_alloc_new wr _) hobne)).2.2.2.1))
              | fail
            all_goals (
              have hF0 : Fr [] w w9 := ((hFj.then (Fr.alloc [] wr _)).then (Fr.drew [] _)).on hF9 (by intro x hx; simp at hx; omega)
              have hP9 := owns_keep (hPj.alloc (.cells #[.int .u8 k, .int .u64 (N : Int), .int .i64 wd, .string tx, .int .i64 ms] 37)).drew hF9 hPne
              clear hF9 hRd hRa hPj hFj d1' d3'
              obtain ⟨lz, hlz⟩ : ∃ lz, lz = zs.length := ⟨_, rfl⟩
              have HLZ : Hid (lz = zs.length) := hlz
              clear hlz
              by_cases hz0 : 0 < lz
              · go_wp2_with fail
                refine (end_any gr r zs 0 _ _ _ hR9).mono ?_
                rintro e w10 ⟨rfl, rfl⟩
                rw [← HLZ.out, show endOf 0 lz = 4 by simp [endOf, hz0]]
                go_wp2_with fail
                refine (left_any gr r zs 0 _ _ _ hR9).mono ?_
                rintro e w10 ⟨rfl, rfl⟩
                rw [← HLZ.out]
                have hlz0 : ((lz : Int) == 0) = false := by rw [beq_eq_false_iff_ne]; omega
                rw [HZS.out] at hR9
                go_wp2
                go_roundw
                case rel => exact ⟨j + 1, _, _, by simp, by omega, hR9, hF0, hP9⟩
                case measure => simp [intOf]; omega
              · go_wp2_with fail
                refine (end_any gr r zs 0 _ _ _ hR9).mono ?_
                rintro e w10 ⟨rfl, rfl⟩
                rw [← HLZ.out, show endOf 0 lz = 0 by simp [endOf, hz0]]
                rw [HZS.out] at hR9
                go_wp2
                go_roundw
                case rel => exact ⟨j + 1, _, _, by simp, by omega, hR9, hF0, hP9⟩
                case measure => simp [intOf]; omega)
          · have hk1 : (k == 1) = false := by rw [beq_eq_false_iff_ne]; exact hkk.1
            have hk3 : (k == 3) = false := by rw [beq_eq_false_iff_ne]; exact hkk.2.1
            have hk4 : (k == 4) = false := by rw [beq_eq_false_iff_ne]; exact hkk.2.2
            have HRD : Hid (rdBy (shortF 0 0) 0 (opsB (ps.drop j)) 0 = (N, opsB (ps.drop (j + 1)), 0)) := by
              show _ = _
              rw [hdrop]
              have := back_var ⟨k, (N : Int), wd, tx, ms⟩ (opsB (ps.drop (j + 1))) hokv
              simp only [Int.toNat_natCast] at this
              simpa [opB, hkk.1, hkk.2.1, hkk.2.2] using this
            obtain ⟨ys, hys⟩ : ∃ ys, ys = opsB (ps.drop j) := ⟨_, rfl⟩
            obtain ⟨zs, hzs⟩ : ∃ zs, zs = opsB (ps.drop (j + 1)) := ⟨_, rfl⟩
            rw [← hys] at hRa HRD
            rw [← hzs] at HRD
            have HZS : Hid (zs = opsB (ps.drop (j + 1))) := hzs
            clear hdrop hys hzs hkk
            have hRd : Rd (wr.alloc (.cells #[.int .u8 k, .int .u64 (N : Int), .int .i64 wd, .string tx, .int .i64 ms] 37)).drew gr r ys 0 aoj capj := hRa.keep (Fr.drew [] _) (by simp) (by simp)
            go_wp2_with fail
            first
              | go_region_with (first
                  | (go_at_call 28; refine (rVar_any gr r ys 0 _ _ _ hRd).mono ?_; rintro e w9 ⟨rfl, ao9, cap9, hR9, hF9⟩; rw [HRD.out] at hR9 ⊢; simp only at hR9 ⊢; have d1' := (five (hF9.keep (b := wr.heap.size) (heap_alloc_new wr _) hobne)).2.1; have d3' := (five (hF9.keep (b := wr.heap.size) (heap_alloc_new wr _) hobne)).2.2.2.1))
              | fail
            all_goals (
              have hF0 : Fr [] w w9 := ((hFj.then (Fr.alloc [] wr _)).then (Fr.drew [] _)).on hF9 (by intro x hx; simp at hx; omega)
              have hP9 := owns_keep (hPj.alloc (.cells #[.int .u8 k, .int .u64 (N : Int), .int .i64 wd, .string tx, .int .i64 ms] 37)).drew hF9 hPne
              clear hF9 hRd hRa hPj hFj d1' d3'
              obtain ⟨lz, hlz⟩ : ∃ lz, lz = zs.length := ⟨_, rfl⟩
              have HLZ : Hid (lz = zs.length) := hlz
              clear hlz
              by_cases hz0 : 0 < lz
              · go_wp2_with fail
                refine (end_any gr r zs 0 _ _ _ hR9).mono ?_
                rintro e w10 ⟨rfl, rfl⟩
                rw [← HLZ.out, show endOf 0 lz = 4 by simp [endOf, hz0]]
                go_wp2_with fail
                refine (left_any gr r zs 0 _ _ _ hR9).mono ?_
                rintro e w10 ⟨rfl, rfl⟩
                rw [← HLZ.out]
                have hlz0 : ((lz : Int) == 0) = false := by rw [beq_eq_false_iff_ne]; omega
                rw [HZS.out] at hR9
                go_wp2
                go_roundw
                case rel => exact ⟨j + 1, _, _, by simp, by omega, hR9, hF0, hP9⟩
                case measure => simp [intOf]; omega
              · go_wp2_with fail
                refine (end_any gr r zs 0 _ _ _ hR9).mono ?_
                rintro e w10 ⟨rfl, rfl⟩
                rw [← HLZ.out, show endOf 0 lz = 0 by simp [endOf, hz0]]
                rw [HZS.out] at hR9
                go_wp2
                go_roundw
                case rel => exact ⟨j + 1, _, _, by simp, by omega, hR9, hF0, hP9⟩
                case measure => simp [intOf]; omega)
        · have hjl' : (lp : Int) ≤ j := by omega
          have hnil : opsB (ps.drop j) = [] := by rw [List.drop_eq_nil_of_le (by rw [← HLP.out]; omega)]; rfl
          rw [hnil] at hRj
          clear hnil
          go_wp2_with fail
          refine (end_any gr r [] 0 _ _ _ hRj).mono ?_
          rintro e w10 ⟨rfl, rfl⟩
          rw [show endOf 0 ([] : List Nat).length = 0 from rfl]
          go_wp2_with fail
          refine (left_any gr r [] 0 _ _ _ hRj).mono ?_
          rintro e w10 ⟨rfl, rfl⟩
          go_wp2
          go_ret
          exact ⟨rfl, hFj⟩
end Go.Proofs.Ytcajoihfdeoikaa.codecBack

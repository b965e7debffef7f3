/- The walks of the law CodecOne where the kind's remainder is 0. Conditions: what is taken, as each theorem names it. -/
import Derived.Test.YtcajoihfdeoikaaOneKit
namespace Go.Proofs.Ytcajoihfdeoikaa.codecOne
open Go.ChangeShapes Go.WideShapes Go.ChangeAt Go.RowKit Go.Lib
set_option linter.unusedVariables false

set_option maxHeartbeats 16000000 in
set_option maxRecDepth 100000 in
theorem walk0_ok (b off cap : Nat) (ao : Option Addr) (Z M : Nat) (xs : List Nat) (k n : Int) (w : World) (h : BArg w (some ⟨b, off, none⟩) (Z + M) cap xs) (hZ : 0 < Z) (hk0 : 0 ≤ k) (hk1 : k < 256) (hn0 : 0 ≤ n) (hn1 : n < 18446744073709551616) (hkb : (k % 3 == 0) = true) (hsm : Z + M ≤ 1048576) (V : Nat) (hV : V < 2 ^ 64) (HF : Hid (enc V = xs.take Z)) (HRD : Hid (rdBy (shortF 0 0) 0 xs 0 = (V, xs.drop Z, 0))) :
    Calls Try.prog 5 #[.slice (some ⟨b, off, none⟩) (Z + M) cap, .int .u8 k, .int .u64 n] w fun e w' => e = .returned (.bool true) ∧ Fr [] w w' := by
  have HL : Hid (Z + M = xs.length) := h.len
  have hcap := h.fits
  obtain ⟨D, hD⟩ : ∃ D, D = (enc n.toNat).length := ⟨_, rfl⟩
  have hDb := enc_length n.toNat
  rw [← hD] at hDb
  have HDD : Hid (D = (enc n.toNat).length) := hD
  clear hD
  go_enter Try.func5, Try.ntmps5
  go_wp2_with fail
  refine (alive_any _).mono ?_
  rintro e w1 ⟨rfl, hF1⟩
  have h1 := h.keep hF1
  go_wp2_with fail
  refine (beyond_any w1.heap.size (Z + M) _ h.most (by simp [cell_of_row _ _ _ _ _ _ (heap_alloc_new w1 (.cells #[.int .i64 (↑Z + ↑M)] 3))])).mono ?_
  rintro e w2 ⟨rfl, rfl⟩
  have hF2 := hF1.then (Fr.alloc [] w1 (.cells #[.int .i64 (↑Z + ↑M)] 3))
  have h2 := h.keep hF2
  rw [show decide (1048576 < Z + M) = false by simp; omega]
  obtain ⟨w2, hw2⟩ : ∃ w2, w2 = w1.alloc (.cells #[.int .i64 (↑Z + ↑M)] 3) := ⟨_, rfl⟩
  rw [← hw2] at hF2 h2 ⊢
  clear hw2 h1 hF1
  go_wp2_with fail
  refine (newReader_any _ (Z + M) cap xs _ h2.len h2.src h2.low (by rw [← HL.out]; omega)).mono ?_
  rintro e w3 ⟨gr, rfl, hgr, hR3, hF3⟩
  have hr : w.heap.size ≤ w2.heap.size := hF2.size
  obtain ⟨r, hr2, hR3⟩ : ∃ r, w.heap.size ≤ r ∧ r < gr ∧ Rd w3 gr r xs 0 (some ⟨r, 0, none⟩) xs.length := ⟨_, hr, hgr, hR3⟩
  obtain ⟨hrg, hR3⟩ := hR3
  have hgr2 : w.heap.size ≤ gr := by omega
  clear hgr hr
  go_wp2_with fail
  refine (newWriter_wr w w3 (hF2.then hF3)).mono ?_
  rintro e w4 ⟨gw, rfl, hgw, hW4, hF4⟩
  have hR4 := hR3.keep hF4 (by simp) (by simp)
  have hne : gr < gw := by have := hR3.lt; omega
  clear hR3 hF3 hF2 hgw
  go_wp2_with fail
  refine (rVar_any gr r xs 0 _ _ _ hR4).mono ?_
  rintro e w5 ⟨rfl, ao5, cap5, hR5, hF5⟩
  rw [HRD.out] at hR5 ⊢
  simp only at hR5 ⊢
  have hW5 : WB w w5 gw _ [] := hW4.keep hF5 (by intro x hx; simp at hx; omega) (by simp; omega) (by intro k hk; simp [Value.ownBlock] at hk)
  clear hR4 hW4 hF5
  go_wp2_with fail
  refine (var_any gw _ _ _ _ hW5.wr (by omega) (by omega) (by decide)).mono ?_
  rintro e w6 ⟨rfl, v6, hw6, hF6, hm6⟩
  rw [Int.toNat_natCast, List.nil_append, HF.out] at hw6
  have hW6 := hW5.next hw6 hF6 hm6
  have hR6 := hR5.keep hF6 (by rw [own_nil]; omega) (by rw [own_nil]; omega)
  clear hR5 hW5 hw6 hF6 hm6
  go_wp2_with fail
  refine (left_any gr r _ 0 _ _ _ hR6).mono ?_
  rintro e w7 ⟨rfl, rfl⟩
  rw [show (xs.drop Z).length = M by rw [List.length_drop, ← HL.out]; omega]
  have HZl : Hid (Z = (xs.take Z).length) := by show _ = _; rw [List.length_take, ← HL.out]; omega
  have hWd : Wr w6.drew gw v6 (xs.take Z) := hW6.wr.keep (Fr.drew [] w6) (by simp) (by simp)
  obtain ⟨yy, hyy⟩ : ∃ yy, yy = xs.take Z := ⟨_, rfl⟩
  rw [← hyy] at hWd HZl
  have HD : Dn gw w6 Z yy := done_dn hWd HZl.out (by omega) (by omega)
  have HS : Hid (∀ w8, Fr [] w6.drew w8 → w8.heap[w6.heap.size]? = some (.cells (bts yy).toArray 5 (0, 0)) → Calls Try.prog 29 #[.slice (some ⟨w6.heap.size, 0, none⟩) Z Z, .slice (some ⟨b, off, none⟩) Z cap] w8 fun e w' => e = .returned (.bool true) ∧ ∃ q, w' = w8.drewN q) := by
    intro w8 hF8 hrow
    have hA : BArg w8 (some ⟨b, off, none⟩) (Z + M) cap xs := h.keep ((hW6.fr.then (Fr.drew [] w6)).then hF8)
    exact same_yes _ _ Z Z Z cap yy (xs.take Z) w8 (Rs.of_row hrow (by rw [← HZl.out]; omega)) ((hA.rs (by omega)).take Z) HZl.out (by rw [← hyy]; exact HZl.out) hyy
  have h06 := hW6.fr
  clear hyy hWd
  have hZi : (0 : Int) < Z := by omega
  have hZb : ((Z : Int) == 0) = false := by rw [beq_eq_false_iff_ne]; omega
  go_wp2_with fail
  have hundef : undef = Value.tuple #[] := rfl
  first
    | go_loud (go_region_with (first
        | (go_at_call 24; refine (Dn.calls HD).mono ?_; rintro e w8 ⟨rfl, hrow8, hF8⟩)
        | (go_at_call 29; refine Calls.mono (HS.out w8 hF8 hrow8) ?_; rintro e w9 ⟨rfl, q9, rfl⟩)))
    | fail
  all_goals (
    have h09 : Fr [] w (w8.drewN q9) := ((h06.then (Fr.drew [] w6)).then hF8).then (Fr.drewN [] w8 q9)
    clear hrow8 hF8 HS HD hW6 hR6 h06
    obtain ⟨w9, hw9⟩ : ∃ w9, w9 = w8.drewN q9 := ⟨_, rfl⟩
    rw [← hw9] at h09 ⊢
    clear hw9)
  all_goals (
    go_wp2_with fail
    refine (newWriter_wr w w9 h09).mono ?_
    rintro e wa ⟨ga, rfl, _, hWa, _⟩
    go_wp2_with fail
    refine (var_any ga _ _ _ _ hWa.wr hn0 hn1 (by decide)).mono ?_
    rintro e wb ⟨rfl, vb, hwb, hFb, hmb⟩
    rw [List.nil_append] at hwb
    have hWb := hWa.next hwb hFb hmb
    clear hWa hwb hFb hmb
    go_wp2_with fail
    refine (done_some ga _ (enc n.toNat) _ hWb.wr (by rw [← HDD.out]; omega) (by rw [← HDD.out]; omega)).mono ?_
    rintro e wc ⟨rfl, hrc, hFc⟩
    rw [← HDD.out]
    have h0c := hWb.fr.then hFc
    obtain ⟨rb, hrb⟩ : ∃ rb, rb = wb.heap.size := ⟨_, rfl⟩
    rw [← hrb] at hrc ⊢
    have hrb0 : w.heap.size ≤ rb := by rw [hrb]; exact hWb.fr.size
    clear hFc hWb hrb
    go_wp2_with fail
    go_loopw [12] (fun ii wr => ∃ i : Nat, ii = .int .i64 i ∧ i ≤ D ∧ Fr [] w wr ∧ Hid (wr.heap[rb]? = some (.cells (bts (enc n.toNat)).toArray 5 (0, 0)))) (fun ii _ => D - (intOf ii).toNat)
    case atStart => exact ⟨0, rfl, Nat.zero_le _, h0c, hrc⟩
    case round =>
      obtain ⟨i, rfl, hiD, hFr, hrow⟩ := hrel
      by_cases hi : i < D
      · have hi' : (i : Int) < D := by omega
        have hRs : Rs wr (some ⟨rb, 0, none⟩) ((enc n.toNat).take i) := (Rs.of_row hrow.out (by rw [← HDD.out]; omega)).take i
        have HI : Hid (i = ((enc n.toNat).take i).length) := by show _ = _; rw [List.length_take, ← HDD.out]; omega
        have HC : Hid (rdBy (shortF 0 0) 0 ((enc n.toNat).take i) 0 = (0, (enc n.toNat).take i, 5)) := rd_cut _ _ (by omega) (by rw [← HDD.out]; exact hi)
        have hlow : ∀ x ∈ (enc n.toNat).take i, x < 256 := fun x hx => enc_lt _ x (List.mem_of_mem_take hx)
        obtain ⟨ys, hys⟩ : ∃ ys, ys = (enc n.toNat).take i := ⟨_, rfl⟩
        rw [← hys] at hRs HI HC hlow
        clear hys
        have hsrc := hRs.src
        rw [← HI.out] at hsrc
        have HSrc : Hid _ := hsrc
        clear hsrc
        go_wp2_with fail
        refine (newReader_any _ i _ ys _ HI.out HSrc.out hlow (by rw [← HI.out]; omega)).mono ?_
        rintro e wd ⟨gd, rfl, hgd, hRd, hFd⟩
        go_wp2_with fail
        refine (rVar_any gd _ ys 0 _ _ _ hRd).mono ?_
        rintro e we ⟨rfl, aoe, cape, hRe, hFe⟩
        rw [HC.out] at hRe ⊢
        simp only at hRe ⊢
        go_wp2_with fail
        refine (end_any gd _ _ 5 _ _ _ hRe).mono ?_
        rintro e wf ⟨rfl, rfl⟩
        have hFre : Fr [] w we := (hFr.then hFd).on hFe (by intro x hx; simp at hx; have := hFr.size; omega)
        have hrowe : Hid (we.heap[rb]? = some (.cells (bts (enc n.toNat)).toArray 5 (0, 0))) := hFe.keep (hFd.keep hrow.out (by simp)) (by have := lt_of_block hrow.out; simp; omega)
        rw [show endOf 5 ys.length = 5 from rfl]
        clear hrow hRd hFd hRe hFe hFr HSrc HC hRs
        go_wp2
        go_roundw
        case rel => exact ⟨i + 1, by simp, by omega, hFre, hrowe⟩
        case measure => simp [intOf]; omega
      · have hi' : (D : Int) ≤ i := by omega
        have hD1 : (1 : Int) ≤ D := by omega
        have hD2 : (D : Int) ≤ 10 := by omega
        go_wp2
        go_ret
        exact ⟨by simp, hFr⟩)

set_option maxHeartbeats 16000000 in
set_option maxRecDepth 100000 in
theorem walk0_no (b off cap : Nat) (ao : Option Addr) (Z M : Nat) (xs : List Nat) (k n : Int) (w : World) (h : BArg w ao M cap xs) (er : Nat) (her : er ≠ 0) (hk0 : 0 ≤ k) (hk1 : k < 256) (hn0 : 0 ≤ n) (hn1 : n < 18446744073709551616) (hkb : (k % 3 == 0) = true) (hsm : M ≤ 1048576) (hr3 : er ≠ 3) (HRD : Hid (rdBy (shortF 0 0) 0 xs 0 = (0, xs, er))) :
    Calls Try.prog 5 #[.slice ao M cap, .int .u8 k, .int .u64 n] w fun e w' => e = .returned (.bool true) ∧ Fr [] w w' := by
  have HL : Hid (M = xs.length) := h.len
  have hcap := h.fits
  obtain ⟨D, hD⟩ : ∃ D, D = (enc n.toNat).length := ⟨_, rfl⟩
  have hDb := enc_length n.toNat
  rw [← hD] at hDb
  have HDD : Hid (D = (enc n.toNat).length) := hD
  clear hD
  go_enter Try.func5, Try.ntmps5
  go_wp2_with fail
  refine (alive_any _).mono ?_
  rintro e w1 ⟨rfl, hF1⟩
  have h1 := h.keep hF1
  go_wp2_with fail
  refine (beyond_any w1.heap.size M _ h.most (by simp [cell_of_row _ _ _ _ _ _ (heap_alloc_new w1 (.cells #[.int .i64 ↑M] 3))])).mono ?_
  rintro e w2 ⟨rfl, rfl⟩
  have hF2 := hF1.then (Fr.alloc [] w1 (.cells #[.int .i64 ↑M] 3))
  have h2 := h.keep hF2
  rw [show decide (1048576 < M) = false by simp; omega]
  obtain ⟨w2, hw2⟩ : ∃ w2, w2 = w1.alloc (.cells #[.int .i64 ↑M] 3) := ⟨_, rfl⟩
  rw [← hw2] at hF2 h2 ⊢
  clear hw2 h1 hF1
  go_wp2_with fail
  refine (newReader_any _ M cap xs _ h2.len h2.src h2.low (by rw [← HL.out]; omega)).mono ?_
  rintro e w3 ⟨gr, rfl, hgr, hR3, hF3⟩
  have hr : w.heap.size ≤ w2.heap.size := hF2.size
  obtain ⟨r, hr2, hR3⟩ : ∃ r, w.heap.size ≤ r ∧ r < gr ∧ Rd w3 gr r xs 0 (some ⟨r, 0, none⟩) xs.length := ⟨_, hr, hgr, hR3⟩
  obtain ⟨hrg, hR3⟩ := hR3
  have hgr2 : w.heap.size ≤ gr := by omega
  clear hgr hr
  go_wp2_with fail
  refine (newWriter_wr w w3 (hF2.then hF3)).mono ?_
  rintro e w4 ⟨gw, rfl, hgw, hW4, hF4⟩
  have hR4 := hR3.keep hF4 (by simp) (by simp)
  have hne : gr < gw := by have := hR3.lt; omega
  clear hR3 hF3 hF2 hgw
  go_wp2_with fail
  refine (rVar_any gr r xs 0 _ _ _ hR4).mono ?_
  rintro e w5 ⟨rfl, ao5, cap5, hR5, hF5⟩
  rw [HRD.out] at hR5 ⊢
  simp only at hR5 ⊢
  have hW5 : WB w w5 gw _ [] := hW4.keep hF5 (by intro x hx; simp at hx; omega) (by simp; omega) (by intro k hk; simp [Value.ownBlock] at hk)
  clear hR4 hW4 hF5
  go_wp2_with fail
  refine (var_any gw _ _ 0 _ hW5.wr (by decide) (by decide) (by decide)).mono ?_
  rintro e w6 ⟨rfl, v6, hw6, hF6, hm6⟩
  have hW6 := hW5.next hw6 hF6 hm6
  have hR6 := hR5.keep hF6 (by rw [own_nil]; omega) (by rw [own_nil]; omega)
  clear hR5 hW5 hw6 hF6 hm6
  go_wp2_with fail
  refine (left_any gr r _ _ _ _ _ hR6).mono ?_
  rintro e w7 ⟨rfl, rfl⟩
  rw [← HL.out]
  have h06 := hW6.fr
  have HE : Hid (∀ q, Calls Try.prog 16 #[.pointer (some ⟨gr, 0, none⟩)] (w6.drewN q) fun e w' => e = .returned (.int .i64 (er : Int)) ∧ w' = w6.drewN q) := by
    intro q
    refine (end_any gr r xs er ao5 cap5 (w6.drewN q) (hR6.keep (Fr.drewN [] w6 q) (by simp) (by simp))).mono ?_
    rintro e w' ⟨rfl, rfl⟩
    exact ⟨by simp [endOf, her], rfl⟩
  clear hW6 hR6
  have he0 : ((er : Int) == 0) = false := by rw [beq_eq_false_iff_ne]; omega
  have he3 : ((er : Int) == 3) = false := by rw [beq_eq_false_iff_ne]; omega
  go_wp2_with fail
  go_quiet ((go_at_call 16; exact Calls.quiet_of_same (HE.out _)))
  have h09 : Fr [] w (w6.drewN nq) := h06.then (Fr.drewN [] w6 nq)
  clear HE h06
  obtain ⟨w9, hw9⟩ : ∃ w9, w9 = w6.drewN nq := ⟨_, rfl⟩
  rw [← hw9] at h09 ⊢
  clear hw9
  all_goals (
    go_wp2_with fail
    refine (newWriter_wr w w9 h09).mono ?_
    rintro e wa ⟨ga, rfl, _, hWa, _⟩
    go_wp2_with fail
    refine (var_any ga _ _ _ _ hWa.wr hn0 hn1 (by decide)).mono ?_
    rintro e wb ⟨rfl, vb, hwb, hFb, hmb⟩
    rw [List.nil_append] at hwb
    have hWb := hWa.next hwb hFb hmb
    clear hWa hwb hFb hmb
    go_wp2_with fail
    refine (done_some ga _ (enc n.toNat) _ hWb.wr (by rw [← HDD.out]; omega) (by rw [← HDD.out]; omega)).mono ?_
    rintro e wc ⟨rfl, hrc, hFc⟩
    rw [← HDD.out]
    have h0c := hWb.fr.then hFc
    obtain ⟨rb, hrb⟩ : ∃ rb, rb = wb.heap.size := ⟨_, rfl⟩
    rw [← hrb] at hrc ⊢
    have hrb0 : w.heap.size ≤ rb := by rw [hrb]; exact hWb.fr.size
    clear hFc hWb hrb
    go_wp2_with fail
    go_loopw [12] (fun ii wr => ∃ i : Nat, ii = .int .i64 i ∧ i ≤ D ∧ Fr [] w wr ∧ Hid (wr.heap[rb]? = some (.cells (bts (enc n.toNat)).toArray 5 (0, 0)))) (fun ii _ => D - (intOf ii).toNat)
    case atStart => exact ⟨0, rfl, Nat.zero_le _, h0c, hrc⟩
    case round =>
      obtain ⟨i, rfl, hiD, hFr, hrow⟩ := hrel
      by_cases hi : i < D
      · have hi' : (i : Int) < D := by omega
        have hRs : Rs wr (some ⟨rb, 0, none⟩) ((enc n.toNat).take i) := (Rs.of_row hrow.out (by rw [← HDD.out]; omega)).take i
        have HI : Hid (i = ((enc n.toNat).take i).length) := by show _ = _; rw [List.length_take, ← HDD.out]; omega
        have HC : Hid (rdBy (shortF 0 0) 0 ((enc n.toNat).take i) 0 = (0, (enc n.toNat).take i, 5)) := rd_cut _ _ (by omega) (by rw [← HDD.out]; exact hi)
        have hlow : ∀ x ∈ (enc n.toNat).take i, x < 256 := fun x hx => enc_lt _ x (List.mem_of_mem_take hx)
        obtain ⟨ys, hys⟩ : ∃ ys, ys = (enc n.toNat).take i := ⟨_, rfl⟩
        rw [← hys] at hRs HI HC hlow
        clear hys
        have hsrc := hRs.src
        rw [← HI.out] at hsrc
        have HSrc : Hid _ := hsrc
        clear hsrc
        go_wp2_with fail
        refine (newReader_any _ i _ ys _ HI.out HSrc.out hlow (by rw [← HI.out]; omega)).mono ?_
        rintro e wd ⟨gd, rfl, hgd, hRd, hFd⟩
        go_wp2_with fail
        refine (rVar_any gd _ ys 0 _ _ _ hRd).mono ?_
        rintro e we ⟨rfl, aoe, cape, hRe, hFe⟩
        rw [HC.out] at hRe ⊢
        simp only at hRe ⊢
        go_wp2_with fail
        refine (end_any gd _ _ 5 _ _ _ hRe).mono ?_
        rintro e wf ⟨rfl, rfl⟩
        have hFre : Fr [] w we := (hFr.then hFd).on hFe (by intro x hx; simp at hx; have := hFr.size; omega)
        have hrowe : Hid (we.heap[rb]? = some (.cells (bts (enc n.toNat)).toArray 5 (0, 0))) := hFe.keep (hFd.keep hrow.out (by simp)) (by have := lt_of_block hrow.out; simp; omega)
        rw [show endOf 5 ys.length = 5 from rfl]
        clear hrow hRd hFd hRe hFe hFr HSrc HC hRs
        go_wp2
        go_roundw
        case rel => exact ⟨i + 1, by simp, by omega, hFre, hrowe⟩
        case measure => simp [intOf]; omega
      · have hi' : (D : Int) ≤ i := by omega
        have hD1 : (1 : Int) ≤ D := by omega
        have hD2 : (D : Int) ≤ 10 := by omega
        go_wp2
        go_ret
        exact ⟨by simp, hFr⟩)
end Go.Proofs.Ytcajoihfdeoikaa.codecOne

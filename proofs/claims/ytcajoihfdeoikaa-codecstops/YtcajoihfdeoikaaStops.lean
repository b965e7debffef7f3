/- The walk of the law CodecStops. Conditions: how the two arguments lie in memory. -/
import Derived.Test.YtcajoihfdeoikaaScript
import Derived.Deep.LoopGhost
namespace Go.Proofs.Ytcajoihfdeoikaa.codecStops
open Go.ChangeShapes Go.WideShapes Go.ChangeAt Go.RowKit Go.Lib
set_option linter.unusedVariables false

theorem rdBy_gone {α : Type} (f : List Nat → α × Nat × Nat) (z : α) (xs : List Nat) (er : Nat) (h : er ≠ 0) : rdBy f z xs er = (z, xs, er) := by simp [rdBy, h]

set_option maxHeartbeats 4000000 in
set_option maxRecDepth 100000 in
theorem walk_big (ao so : Option Addr) (L cap M sc : Nat) (xs : List Nat) (os : List OpV) (w : World) (h : BArg w ao L cap xs) (hs : SArg w so M sc os) (hbig : 1048576 < total os ∨ 1048576 < L) :
    Calls Try.prog 7 #[.slice ao L cap, .slice so M sc] w fun e w' => e = .returned (.bool true) ∧ Fr [] w w' := by
  go_enter Try.func7, Try.ntmps7
  go_wp2_with fail
  refine (alive_any _).mono ?_
  rintro e w1 ⟨rfl, hF1⟩
  have h1 := h.keep hF1
  have hs1 := hs.keep hF1
  go_wp2_with fail
  refine (script_any so M sc os _ hs1).mono ?_
  rintro e w2 ⟨rfl, rfl⟩
  by_cases hT : 1048576 < total os
  · rw [show decide (1048576 < total os) = true by simpa using hT]
    clear hT hbig
    go_wp2_with fail
    refine (alive_any _).mono ?_
    rintro e w3 ⟨rfl, hF3⟩
    go_wp2
    go_ret
    exact ⟨rfl, hF1.then hF3⟩
  · have hL : 1048576 < L := by rcases hbig with hh | hh <;> omega
    rw [show decide (1048576 < total os) = false by simpa using hT]
    clear hT hbig
    go_wp2_with fail
    refine (beyond_any w1.heap.size L _ h.most (cell_of_row _ _ _ _ _ _ (heap_alloc_new w1 _))).mono ?_
    rintro e w3 ⟨rfl, rfl⟩
    rw [show decide (1048576 < L) = true by simpa using hL]
    go_wp2_with fail
    refine (alive_any _).mono ?_
    rintro e w4 ⟨rfl, hF4⟩
    go_wp2
    go_ret
    exact ⟨rfl, (hF1.then (Fr.alloc [] w1 _)).then hF4⟩

set_option maxHeartbeats 16000000 in
set_option maxRecDepth 100000 in
theorem walk (ao so : Option Addr) (L cap M sc : Nat) (xs : List Nat) (os : List OpV) (w : World) (h : BArg w ao L cap xs) (hs : SArg w so M sc os) (hT : total os ≤ 1048576) (hL : L ≤ 1048576) :
    Calls Try.prog 7 #[.slice ao L cap, .slice so M sc] w fun e w' => e = .returned (.bool true) ∧ Fr [] w w' := by
  have HL : Hid (L = xs.length) := h.len
  have hSm := hs.most
  go_enter Try.func7, Try.ntmps7
  go_wp2_with fail
  refine (alive_any _).mono ?_
  rintro e w1 ⟨rfl, hF1⟩
  have hs1 := hs.keep hF1
  go_wp2_with fail
  refine (script_any so M sc os _ hs1).mono ?_
  rintro e w2 ⟨rfl, rfl⟩
  rw [show decide (1048576 < total os) = false by simpa using hT]
  go_wp2_with fail
  refine (beyond_any w1.heap.size L _ h.most (cell_of_row _ _ _ _ _ _ (heap_alloc_new w1 _))).mono ?_
  rintro e w3 ⟨rfl, rfl⟩
  rw [show decide (1048576 < L) = false by simpa using hL]
  have hF2 := hF1.then (Fr.alloc [] w1 (.cells #[.int .i64 (L : Int)] 3))
  have h2 := h.keep hF2
  obtain ⟨w2, hw2⟩ : ∃ w2, w2 = w1.alloc (.cells #[.int .i64 (L : Int)] 3) := ⟨_, rfl⟩
  rw [← hw2] at hF2 h2 ⊢
  clear hw2 hF1 hs1 hT
  go_wp2_with fail
  refine (newReader_any _ L cap xs _ h2.len h2.src h2.low (by rw [← HL.out]; omega)).mono ?_
  rintro e w3 ⟨gr, rfl, hgr, hR3, hF3⟩
  have hr : w.heap.size ≤ w2.heap.size := hF2.size
  obtain ⟨r, hr2, hrg, hR3⟩ : ∃ r, w.heap.size ≤ r ∧ r < gr ∧ Rd w3 gr r xs 0 (some ⟨r, 0, none⟩) xs.length := ⟨_, hr, hgr, hR3⟩
  have hgr2 : w.heap.size ≤ gr := by omega
  have h03 : Fr [] w w3 := hF2.then hF3
  clear hgr hr h2 hF2 hF3
  go_wp2_with fail
  go_loopg [6] L (fun k v6 wr => ∃ ys ao cap, k = List.length ys ∧ Rd wr gr r ys 0 ao cap ∧ Fr [] w wr)
  case atStart => exact ⟨xs, _, _, HL.out, hR3, h03⟩
  case round =>
    obtain ⟨ys, ao5, cap5, hk, hR5, h05⟩ := hrel
    clear hR3 h03
    have HK : Hid (gk = ys.length) := hk
    clear hk
    go_wp2_with fail
    refine (left_any gr r ys 0 _ _ _ hR5).mono ?_
    rintro e w6 ⟨rfl, rfl⟩
    rw [← HK.out]
    have hys := hR5.sl.len
    rw [← HK.out] at hys
    by_cases hpos : 0 < gk
    · have hpos' : (0 : Int) < gk := by omega
      go_wp2_with fail
      refine (left_any gr r ys 0 _ _ _ hR5).mono ?_
      rintro e w7 ⟨rfl, rfl⟩
      rw [← HK.out]
      go_wp2_with fail
      refine (rVar_any gr r ys 0 _ _ _ hR5).mono ?_
      rintro e w8 ⟨rfl, ao8, cap8, hR8, hF8⟩
      have h08 : Fr [] w w8 := h05.on hF8 (by intro x hx; simp at hx; omega)
      have hsz := shortF_size ys 0 0
      by_cases hc : (shortF 0 0 ys).2.2 = 0
      · have e1 : rdBy (shortF 0 0) 0 ys 0 = ((shortF 0 0 ys).1, ys.drop (shortF 0 0 ys).2.1, 0) := by simp [rdBy, hc]
        have hs2 := hsz hc
        rw [e1] at hR8
        simp only at hR8
        obtain ⟨zs, hzs⟩ : ∃ zs, zs = ys.drop (shortF 0 0 ys).2.1 := ⟨_, rfl⟩
        rw [← hzs] at hR8
        have hlz : zs.length < gk := by rw [hzs, List.length_drop, HK.out]; omega
        clear e1 hs2 hsz hc hzs hF8 hR5 h05
        obtain ⟨V, hV⟩ : ∃ V, V = (rdBy (shortF 0 0) 0 ys 0).1 := ⟨_, rfl⟩
        rw [← hV]
        clear hV
        go_wp2_with fail
        refine (left_any gr r zs 0 _ _ _ hR8).mono ?_
        rintro e w9 ⟨rfl, rfl⟩
        obtain ⟨lz, hlz2⟩ : ∃ lz, lz = zs.length := ⟨_, rfl⟩
        rw [← hlz2] at hlz ⊢
        have HZ : Hid (lz = zs.length) := hlz2
        clear hlz2
        have hneq : ((lz : Int) == gk) = false := by rw [beq_eq_false_iff_ne]; omega
        go_wp2
        go_roundg lz
        case measure => exact hlz
        case rel => exact ⟨zs, _, _, HZ.out, hR8, h08⟩
      · have e1 : rdBy (shortF 0 0) 0 ys 0 = (0, ys, (shortF 0 0 ys).2.2) := by simp [rdBy, hc]
        rw [e1] at hR8 ⊢
        simp only at hR8 ⊢
        obtain ⟨er, her⟩ : ∃ er, er = (shortF 0 0 ys).2.2 := ⟨_, rfl⟩
        rw [← her] at hR8 hc
        clear e1 hsz her hF8 hR5 h05
        go_wp2_with fail
        refine (left_any gr r ys er _ _ _ hR8).mono ?_
        rintro e w9 ⟨rfl, rfl⟩
        rw [← HK.out]
        have heq : ((gk : Int) == gk) = true := by simp
        have hne0 : ((gk : Int) == 0) = false := by rw [beq_eq_false_iff_ne]; omega
        go_wp2_with fail
        refine (left_any gr r ys er _ _ _ hR8).mono ?_
        rintro e w9 ⟨rfl, rfl⟩
        rw [← HK.out]
        go_wp2_with fail
        refine (left_any gr r ys er _ _ _ hR8).mono ?_
        rintro e w9 ⟨rfl, rfl⟩
        rw [← HK.out]
        go_wp2_with fail
        refine (end_any gr r ys er _ _ _ hR8).mono ?_
        rintro e w9 ⟨rfl, rfl⟩
        rw [show endOf er ys.length = er by simp [endOf, hc]]
        have herb : ((er : Int) == 0) = false := by rw [beq_eq_false_iff_ne]; omega
        go_wp2_with fail
        go_loopw [9] (fun ii wr => ∃ (i : Nat) (ao : Option Addr) (cap : Nat), ii = .int .i64 i ∧ i ≤ M ∧ Rd wr gr r ys er ao cap ∧ Fr [] w wr) (fun ii _ => M - (intOf ii).toNat)
        case atStart => exact ⟨0, _, _, rfl, Nat.zero_le _, hR8, h08⟩
        case round =>
          obtain ⟨i, aoi, capi, rfl, hi, hRi, hFi⟩ := hrel
          clear hR8 h08 hR3
          by_cases hiM : i < M
          · obtain ⟨sb, soff, e, _, hcells⟩ := (hs.keep hFi).lies (by omega)
            subst e
            have hO := hcells i hiM
            obtain ⟨v, hv⟩ : ∃ v, v = os.getD i OpV.zero := ⟨_, rfl⟩
            have hok := hs.each v (by rw [hv]; exact getD_mem os i (by rw [← hs.len]; exact hiM))
            rw [← hv] at hO
            have c0 := hO.c0
            have c1 := hO.c1
            have c2 := hO.c2
            have c3 := hO.c3
            have c4 := hO.c4
            have hm0 := hok.m0
            have hm1 := hok.m1
            obtain ⟨k, n, wd, tx, ms⟩ := v
            simp only at c0 c1 c2 c3 c4 hm0 hm1
            clear hO hv hcells hok
            rcases (show k = 1 ∨ k = 3 ∨ k = 4 ∨ (k ≠ 1 ∧ k ≠ 3 ∧ k ≠ 4) from by omega) with hkk | hkk | hkk | hkk
            · have hk1 : (k == 1) = true := by rw [beq_iff_eq]; exact hkk
              clear hkk
              go_wp2_with fail
              refine (rFixed_any gr r ys er _ _ wd _ (hRi.keep (Fr.alloc [] wr _) (by simp) (by simp))).mono ?_
              rintro e w9 ⟨rfl, aoj, capj, hRj, hFj⟩
              rw [rdBy_gone _ _ _ _ hc] at hRj ⊢
              simp only at hRj ⊢
              have hF0j : Fr [] w w9 := (hFi.then (Fr.alloc [] wr _)).on hFj (by intro x hx; simp at hx; omega)
              clear hFj hRi hFi c0 c1 c2 c3 c4
              go_wp2_with fail
              refine (left_any gr r ys er _ _ _ hRj).mono ?_
              rintro e w10 ⟨rfl, rfl⟩
              rw [← HK.out]
              go_wp2_with fail
              refine (end_any gr r ys er _ _ _ hRj).mono ?_
              rintro e w10 ⟨rfl, rfl⟩
              rw [show endOf er ys.length = er by simp [endOf, hc]]
              go_wp2
              go_roundw
              case rel => exact ⟨i + 1, _, _, by simp, by omega, hRj, hF0j⟩
              case measure => simp [intOf]; omega
            · have hk1 : (k == 1) = false := by rw [hkk]; decide
              have hk3 : (k == 3) = true := by rw [beq_iff_eq]; exact hkk
              clear hkk
              go_wp2_with fail
              refine (rInt_any gr r ys er _ _ _ (hRi.keep (Fr.alloc [] wr _) (by simp) (by simp))).mono ?_
              rintro e w9 ⟨rfl, aoj, capj, hRj, hFj⟩
              rw [rdBy_gone _ _ _ _ hc] at hRj ⊢
              simp only at hRj ⊢
              have hF0j : Fr [] w w9 := (hFi.then (Fr.alloc [] wr _)).on hFj (by intro x hx; simp at hx; omega)
              clear hFj hRi hFi c0 c1 c2 c3 c4
              go_wp2_with fail
              refine (left_any gr r ys er _ _ _ hRj).mono ?_
              rintro e w10 ⟨rfl, rfl⟩
              rw [← HK.out]
              go_wp2_with fail
              refine (end_any gr r ys er _ _ _ hRj).mono ?_
              rintro e w10 ⟨rfl, rfl⟩
              rw [show endOf er ys.length = er by simp [endOf, hc]]
              go_wp2
              go_roundw
              case rel => exact ⟨i + 1, _, _, by simp, by omega, hRj, hF0j⟩
              case measure => simp [intOf]; omega
            · have hk1 : (k == 1) = false := by rw [hkk]; decide
              have hk3 : (k == 3) = false := by rw [hkk]; decide
              have hk4 : (k == 4) = true := by rw [beq_iff_eq]; exact hkk
              clear hkk
              go_wp2_with fail
              refine (rText_any gr r ys er _ _ ms _ (hRi.keep (Fr.alloc [] wr _) (by simp) (by simp)) hm0 hm1).mono ?_
              rintro e w9 ⟨rfl, aoj, capj, hRj, hFj⟩
              rw [rdBy_gone _ _ _ _ hc] at hRj ⊢
              simp only at hRj ⊢
              have hF0j : Fr [] w w9 := (hFi.then (Fr.alloc [] wr _)).on hFj (by intro x hx; simp at hx; omega)
              clear hFj hRi hFi c0 c1 c2 c3 c4
              go_wp2_with fail
              refine (left_any gr r ys er _ _ _ hRj).mono ?_
              rintro e w10 ⟨rfl, rfl⟩
              rw [← HK.out]
              go_wp2_with fail
              refine (end_any gr r ys er _ _ _ hRj).mono ?_
              rintro e w10 ⟨rfl, rfl⟩
              rw [show endOf er ys.length = er by simp [endOf, hc]]
              go_wp2
              go_roundw
              case rel => exact ⟨i + 1, _, _, by simp, by omega, hRj, hF0j⟩
              case measure => simp [intOf]; omega
            · have hk1 : (k == 1) = false := by rw [beq_eq_false_iff_ne]; exact hkk.1
              have hk3 : (k == 3) = false := by rw [beq_eq_false_iff_ne]; exact hkk.2.1
              have hk4 : (k == 4) = false := by rw [beq_eq_false_iff_ne]; exact hkk.2.2
              clear hkk
              go_wp2_with fail
              refine (rVar_any gr r ys er _ _ _ (hRi.keep (Fr.alloc [] wr _) (by simp) (by simp))).mono ?_
              rintro e w9 ⟨rfl, aoj, capj, hRj, hFj⟩
              rw [rdBy_gone _ _ _ _ hc] at hRj ⊢
              simp only at hRj ⊢
              have hF0j : Fr [] w w9 := (hFi.then (Fr.alloc [] wr _)).on hFj (by intro x hx; simp at hx; omega)
              clear hFj hRi hFi c0 c1 c2 c3 c4
              go_wp2_with fail
              refine (left_any gr r ys er _ _ _ hRj).mono ?_
              rintro e w10 ⟨rfl, rfl⟩
              rw [← HK.out]
              go_wp2_with fail
              refine (end_any gr r ys er _ _ _ hRj).mono ?_
              rintro e w10 ⟨rfl, rfl⟩
              rw [show endOf er ys.length = er by simp [endOf, hc]]
              go_wp2
              go_roundw
              case rel => exact ⟨i + 1, _, _, by simp, by omega, hRj, hF0j⟩
              case measure => simp [intOf]; omega
          · have hiM' : (M : Int) ≤ i := by omega
            go_wp2
            go_ret
            exact ⟨rfl, hFi⟩
    · obtain rfl : gk = 0 := by omega
      have hy0 : ys = [] := List.eq_nil_of_length_eq_zero HK.out.symm
      go_wp2_with fail
      refine (left_any gr r ys 0 _ _ _ hR5).mono ?_
      rintro e w9 ⟨rfl, rfl⟩
      rw [← HK.out]
      go_wp2_with fail
      refine (rFixed_any gr r ys 0 _ _ 1 _ hR5).mono ?_
      rintro e w8 ⟨rfl, ao8, cap8, hR8, hF8⟩
      have e1 : rdBy (fixF 1) 0 ys 0 = (0, ys, 5) := by rw [hy0]; rfl
      rw [e1] at hR8 ⊢
      simp only at hR8 ⊢
      have h08 : Fr [] w w8 := h05.on hF8 (by intro x hx; simp at hx; omega)
      obtain ⟨er, her⟩ : ∃ er, er = 5 := ⟨_, rfl⟩
      rw [← her] at hR8
      have hc : er ≠ 0 := by omega
      clear e1 hF8 hR5 h05 hy0 her
      go_wp2_with fail
      refine (left_any gr r ys er _ _ _ hR8).mono ?_
      rintro e w9 ⟨rfl, rfl⟩
      rw [← HK.out]
      go_wp2_with fail
      refine (end_any gr r ys er _ _ _ hR8).mono ?_
      rintro e w9 ⟨rfl, rfl⟩
      rw [show endOf er ys.length = er by simp [endOf, hc]]
      have herb : ((er : Int) == 0) = false := by rw [beq_eq_false_iff_ne]; omega
      go_wp2_with fail
      go_loopw [9] (fun ii wr => ∃ (i : Nat) (ao : Option Addr) (cap : Nat), ii = .int .i64 i ∧ i ≤ M ∧ Rd wr gr r ys er ao cap ∧ Fr [] w wr) (fun ii _ => M - (intOf ii).toNat)
      case atStart => exact ⟨0, _, _, rfl, Nat.zero_le _, hR8, h08⟩
      case round =>
        obtain ⟨i, aoi, capi, rfl, hi, hRi, hFi⟩ := hrel
        clear hR8 h08 hR3
        by_cases hiM : i < M
        · obtain ⟨sb, soff, e, _, hcells⟩ := (hs.keep hFi).lies (by omega)
          subst e
          have hO := hcells i hiM
          obtain ⟨v, hv⟩ : ∃ v, v = os.getD i OpV.zero := ⟨_, rfl⟩
          have hok := hs.each v (by rw [hv]; exact getD_mem os i (by rw [← hs.len]; exact hiM))
          rw [← hv] at hO
          have c0 := hO.c0
          have c1 := hO.c1
          have c2 := hO.c2
          have c3 := hO.c3
          have c4 := hO.c4
          have hm0 := hok.m0
          have hm1 := hok.m1
          obtain ⟨k, n, wd, tx, ms⟩ := v
          simp only at c0 c1 c2 c3 c4 hm0 hm1
          clear hO hv hcells hok
          rcases (show k = 1 ∨ k = 3 ∨ k = 4 ∨ (k ≠ 1 ∧ k ≠ 3 ∧ k ≠ 4) from by omega) with hkk | hkk | hkk | hkk
          · have hk1 : (k == 1) = true := by rw [beq_iff_eq]; exact hkk
            clear hkk
            go_wp2_with fail
            refine (rFixed_any gr r ys er _ _ wd _ (hRi.keep (Fr.alloc [] wr _) (by simp) (by simp))).mono ?_
            rintro e w9 ⟨rfl, aoj, capj, hRj, hFj⟩
            rw [rdBy_gone _ _ _ _ hc] at hRj ⊢
            simp only at hRj ⊢
            have hF0j : Fr [] w w9 := (hFi.then (Fr.alloc [] wr _)).on hFj (by intro x hx; simp at hx; omega)
            clear hFj hRi hFi c0 c1 c2 c3 c4
            go_wp2_with fail
            refine (left_any gr r ys er _ _ _ hRj).mono ?_
            rintro e w10 ⟨rfl, rfl⟩
            rw [← HK.out]
            go_wp2_with fail
            refine (end_any gr r ys er _ _ _ hRj).mono ?_
            rintro e w10 ⟨rfl, rfl⟩
            rw [show endOf er ys.length = er by simp [endOf, hc]]
            go_wp2
            go_roundw
            case rel => exact ⟨i + 1, _, _, by simp, by omega, hRj, hF0j⟩
            case measure => simp [intOf]; omega
          · have hk1 : (k == 1) = false := by rw [hkk]; decide
            have hk3 : (k == 3) = true := by rw [beq_iff_eq]; exact hkk
            clear hkk
            go_wp2_with fail
            refine (rInt_any gr r ys er _ _ _ (hRi.keep (Fr.alloc [] wr _) (by simp) (by simp))).mono ?_
            rintro e w9 ⟨rfl, aoj, capj, hRj, hFj⟩
            rw [rdBy_gone _ _ _ _ hc] at hRj ⊢
            simp only at hRj ⊢
            have hF0j : Fr [] w w9 := (hFi.then (Fr.alloc [] wr _)).on hFj (by intro x hx; simp at hx; omega)
            clear hFj hRi hFi c0 c1 c2 c3 c4
            go_wp2_with fail
            refine (left_any gr r ys er _ _ _ hRj).mono ?_
            rintro e w10 ⟨rfl, rfl⟩
            rw [← HK.out]
            go_wp2_with fail
            refine (end_any gr r ys er _ _ _ hRj).mono ?_
            rintro e w10 ⟨rfl, rfl⟩
            rw [show endOf er ys.length = er by simp [endOf, hc]]
            go_wp2
            go_roundw
            case rel => exact ⟨i + 1, _, _, by simp, by omega, hRj, hF0j⟩
            case measure => simp [intOf]; omega
          · have hk1 : (k == 1) = false := by rw [hkk]; decide
            have hk3 : (k == 3) = false := by rw [hkk]; decide
            have hk4 : (k == 4) = true := by rw [beq_iff_eq]; exact hkk
            clear hkk
            go_wp2_with fail
            refine (rText_any gr r ys er _ _ ms _ (hRi.keep (Fr.alloc [] wr _) (by simp) (by simp)) hm0 hm1).mono ?_
            rintro e w9 ⟨rfl, aoj, capj, hRj, hFj⟩
            rw [rdBy_gone _ _ _ _ hc] at hRj ⊢
            simp only at hRj ⊢
            have hF0j : Fr [] w w9 := (hFi.then (Fr.alloc [] wr _)).on hFj (by intro x hx; simp at hx; omega)
            clear hFj hRi hFi c0 c1 c2 c3 c4
            go_wp2_with fail
            refine (left_any gr r ys er _ _ _ hRj).mono ?_
            rintro e w10 ⟨rfl, rfl⟩
            rw [← HK.out]
            go_wp2_with fail
            refine (end_any gr r ys er _ _ _ hRj).mono ?_
            rintro e w10 ⟨rfl, rfl⟩
            rw [show endOf er ys.length = er by simp [endOf, hc]]
            go_wp2
            go_roundw
            case rel => exact ⟨i + 1, _, _, by simp, by omega, hRj, hF0j⟩
            case measure => simp [intOf]; omega
          · have hk1 : (k == 1) = false := by rw [beq_eq_false_iff_ne]; exact hkk.1
            have hk3 : (k == 3) = false := by rw [beq_eq_false_iff_ne]; exact hkk.2.1
            have hk4 : (k == 4) = false := by rw [beq_eq_false_iff_ne]; exact hkk.2.2
            clear hkk
            go_wp2_with fail
            refine (rVar_any gr r ys er _ _ _ (hRi.keep (Fr.alloc [] wr _) (by simp) (by simp))).mono ?_
            rintro e w9 ⟨rfl, aoj, capj, hRj, hFj⟩
            rw [rdBy_gone _ _ _ _ hc] at hRj ⊢
            simp only at hRj ⊢
            have hF0j : Fr [] w w9 := (hFi.then (Fr.alloc [] wr _)).on hFj (by intro x hx; simp at hx; omega)
            clear hFj hRi hFi c0 c1 c2 c3 c4
            go_wp2_with fail
            refine (left_any gr r ys er _ _ _ hRj).mono ?_
            rintro e w10 ⟨rfl, rfl⟩
            rw [← HK.out]
            go_wp2_with fail
            refine (end_any gr r ys er _ _ _ hRj).mono ?_
            rintro e w10 ⟨rfl, rfl⟩
            rw [show endOf er ys.length = er by simp [endOf, hc]]
            go_wp2
            go_roundw
            case rel => exact ⟨i + 1, _, _, by simp, by omega, hRj, hF0j⟩
            case measure => simp [intOf]; omega
        · have hiM' : (M : Int) ≤ i := by omega
          go_wp2
          go_ret
          exact ⟨rfl, hFi⟩
end Go.Proofs.Ytcajoihfdeoikaa.codecStops

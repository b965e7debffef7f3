/- The walk of the law DepsEnds, for every list of transactions and every row of bytes. No conditions. -/
import Derived.Test.YtdcmjoildfofcaaLe11
import Derived.Test.YtdcmjoildfofcaaTxs
import Derived.Deep.RegionHeld3
namespace Go.Proofs.Ytdcmjoildfofcaa.depsEnds
open Go.ChangeShapes Go.WideShapes Go.ChangeAt Go.RowKit Go.Lib Go.Maps
set_option linter.unusedVariables false
set_option linter.unusedSimpArgs false

/-- What the law keeps from step to step. -/
structure St (ts : List Tm) (L : Nat) (w : World) (tb g1 g2 g3 : Nat) (a s : Nat) (B : List Nat) (rs : List Bool) (tl : List Int) (wl : List Bool) (W : World) : Prop where
  t : Tl W tb B (65 * a) (LT ts a) (enR rs)
  b : ∀ j ∈ B, w.heap.size ≤ j
  n1 : g1 ∉ B
  n2 : g2 ∉ B
  n3 : g3 ∉ B
  r1 : BR W g1 rs
  r2 : NR W g2 tl
  r3 : BR W g3 wl
  tt : TT ts L a rs tl wl
  fr : Fr [] w W
  al : a ≤ L
  st : s = a + cnt rs
theorem St.quiet {ts : List Tm} {L : Nat} {w : World} {tb g1 g2 g3 a s : Nat} {B : List Nat} {rs : List Bool} {tl : List Int} {wl : List Bool} {W W' : World} (h : St ts L w tb g1 g2 g3 a s B rs tl wl W) (hf : Fr [] W W') : St ts L w tb g1 g2 g3 a s B rs tl wl W' :=
  ⟨h.t.quiet hf, h.b, h.n1, h.n2, h.n3, h.r1.keep hf (by simp), h.r2.keep hf (by simp), h.r3.keep hf (by simp), h.tt, h.fr.then hf, h.al, h.st⟩
/-- How many have ended: no more than were added. -/
theorem cnt_few : ∀ (rs : List Bool) (a : Nat), rs.getD 0 false = false → (∀ j, rs.getD j false = true → j ≤ a) → cnt rs ≤ a := by
  have key : ∀ (rs : List Bool) (a : Nat), (∀ j, rs.getD j false = true → j < a) → cnt rs ≤ a := by
    intro rs
    induction rs with
    | nil => intro a _; simp [cnt]
    | cons b r ih =>
      intro a h
      cases a with
      | zero =>
        have hb : b = false := by
          cases b with
          | false => rfl
          | true => exact absurd (h 0 (by simp)) (by omega)
        have := ih 0 (fun j hj => by have := h (j + 1) (by simpa using hj); omega)
        subst hb
        unfold cnt at this ⊢
        rw [List.countP_cons]
        simpa using this
      | succ a =>
        have := ih a (fun j hj => by have := h (j + 1) (by simpa using hj); omega)
        unfold cnt at this ⊢
        rw [List.countP_cons]
        split <;> omega
  intro rs a h0 h
  cases rs with
  | nil => simp [cnt]
  | cons b r =>
    simp only [List.getD_cons_zero] at h0
    subst h0
    have := key r a (fun j hj => by have := h (j + 1) (by simpa using hj); omega)
    unfold cnt at this ⊢
    rw [List.countP_cons]
    simpa using this
theorem St.few {ts : List Tm} {L : Nat} {w : World} {tb g1 g2 g3 a s : Nat} {B : List Nat} {rs : List Bool} {tl : List Int} {wl : List Bool} {W : World} (h : St ts L w tb g1 g2 g3 a s B rs tl wl W) (hN : Num ts L) (hL : L = ts.length) : s ≤ 2 * L ∧ ∀ j, rs.getD j false = true → j ≤ a := by
  have h1 : ∀ j, rs.getD j false = true → j ≤ a := fun j hj => by
    have h2 := h.t.ended (j : Int) ((enR_nat rs j).2 hj)
    obtain ⟨k, hk, e⟩ := (LT_num ts a (by rw [← hL]; exact h.al) (fun t ht => hN t (by have := h.al; omega)) (j : Int)).1 h2
    omega
  have := cnt_few rs a h.tt.r0 h1
  have := h.st
  have := h.al
  exact ⟨by omega, h1⟩
set_option maxHeartbeats 16000000 in
set_option maxRecDepth 100000 in
theorem walk (ao : Option Addr) (L cap : Nat) (ts : List Tm) (bo : Option Addr) (Bn bc : Nat) (bs : List Nat) (w : World) (hT : TRs w ao ts) (hLe : L = ts.length) (hcap : L ≤ cap) (hB : BArg w bo Bn bc bs) (hBn : Bn ≤ 140737488351232) :
    Calls Try.prog 3 #[.slice ao L cap, .slice bo Bn bc] w fun e w' => e = .returned (.bool true) ∧ Fr [] w w' := by
  classical
  have HL : Hid (L = ts.length) := hLe
  have HI : Hid (∀ W, Fr [] w W → TRs W ao ts) := fun W hf => hT.keep hf
  have HBs : Hid (∀ W, Fr [] w W → BArg W bo Bn bc bs) := fun W hf => hB.keep hf
  have hL63 : L ≤ 140737488355328 := by rw [hLe]; exact hT.few
  have HAl : Hid (∀ W, Calls _ _ _ _ _) := fun W => alive11_any W
  clear hLe hT hB
  go_enter Try.func3, Try.ntmps3
  by_cases hbig : 40 < L
  · have hb' : (40 : Int) < L := by omega
    go_wp2_with fail
    refine Calls.mono (HAl.out _) ?_
    rintro e w1 ⟨rfl, hF1⟩
    go_wp2_with fail
    refine Calls.mono (HAl.out _) ?_
    rintro e w2 ⟨rfl, hF2⟩
    have hG := hF1.then hF2
    go_wp2
    go_ret
    exact ⟨rfl, hG⟩
  have hb' : ¬ ((40 : Int) < L) := by omega
  have hL40 : L ≤ 40 := by omega
  clear hbig
  go_wp2_with fail
  refine Calls.mono (HAl.out _) ?_
  rintro e w1 ⟨rfl, hF1⟩
  go_wp2_with fail
  refine (txnsSize11 ao L cap ts _ (HI.out _ hF1) HL.out).mono ?_
  rintro e w2 ⟨N0, rfl, hN0b, hF2⟩
  have hG2 := hF1.then hF2
  clear hF1 hF2
  go_wp2_with fail
  refine (beyond_any w2.heap.size N0 _ (by omega) (by simp)).mono ?_
  rintro e w3 ⟨rfl, rfl⟩
  have hG3 := hG2.then (Fr.alloc [] w2 (.cells #[.int .i64 (N0 : Int)] 3))
  obtain ⟨w3, HW3⟩ : ∃ w3, Hid (w2.alloc (.cells #[.int .i64 (N0 : Int)] 3) = w3) := ⟨_, rfl⟩
  rw [HW3.out] at hG3 ⊢
  clear HW3 hG2
  obtain ⟨Bq, hBq⟩ : ∃ Bq, Bq = decide (1048576 < N0) := ⟨_, rfl⟩
  rw [← hBq]
  clear hBq
  cases Bq with
  | true =>
    go_wp2_with fail
    refine Calls.mono (HAl.out _) ?_
    rintro e w4 ⟨rfl, hF4⟩
    have hG4 := hG3.then hF4
    go_wp2
    go_ret
    exact ⟨rfl, hG4⟩
  | false =>
    clear HAl
    go_wp2_with fail
    go_loopw [5] (fun ii wr => ∃ (i : Nat), ii = .int .i64 i ∧ i ≤ L ∧ Hid (Num ts i ∧ ∀ j, j < i → okT (ts.getD j Tm.zero).n (ts.getD j Tm.zero).ws) ∧ Hid (Fr [] w wr)) (fun ii _ => L - (RowKit.intOf ii).toNat)
    case atStart => exact ⟨0, rfl, Nat.zero_le _, ⟨fun j hj => by omega, fun j hj => by omega⟩, hG3⟩
    case round =>
      clear hG3
      obtain ⟨i, rfl, hiL, HN, HF⟩ := hrel
      obtain ⟨wo, hwo⟩ : ∃ wo, wo = wr := ⟨_, rfl⟩
      subst hwo
      by_cases hi : i < L
      · have hi' : i < ts.length := by rw [← HL.out]; exact hi
        obtain ⟨ab, aof, rfl, _, hcs⟩ := (HI.out _ HF.out).lies (by omega)
        have hat := (HI.out _ HF.out).each _ (tgetD_mem ts i hi')
        have HC : Hid (∀ W, Fr [] w W → TAt W ab (aof + i * 2) (ts.getD i Tm.zero)) := fun W hf => by
          obtain ⟨b2, o2, e2, _, hc2⟩ := (HI.out W hf).lies (by omega)
          cases e2
          exact hc2 i hi'
        have HNs : Hid ((ts.getD i Tm.zero).n = (i : Int) + 1 → okT (ts.getD i Tm.zero).n (ts.getD i Tm.zero).ws → Num ts (i + 1) ∧ ∀ j, j < i + 1 → okT (ts.getD j Tm.zero).n (ts.getD j Tm.zero).ws) := fun h h2 => ⟨HN.out.1.snoc h, fun j hj => by
          by_cases e : j = i
          · rw [e]; exact h2
          · exact HN.out.2 j (by omega)⟩
        obtain ⟨x, hxx⟩ : ∃ x, x = ts.getD i Tm.zero := ⟨_, rfl⟩
        rw [← hxx] at HC HNs hat
        clear hxx hcs
        obtain ⟨nn, xo, M, cm, ws⟩ := x
        simp only at HNs
        have hnb := hat.bounds
        simp only at hnb
        obtain ⟨c0, c1⟩ := HC.out _ HF.out
        simp only at c0 c1
        by_cases hok : okT nn ws
        · have HOK : Hid (okT nn ws) := hok
          go_wp2_with fail
          refine (check_any nn xo M cm 0 ws _ hat.rs hat.len hnb.1 hnb.2 (Or.inl ⟨hok, rfl⟩)).mono ?_
          rintro e w5 ⟨rfl, hF5⟩
          have hG5 := HF.out.then hF5
          obtain ⟨d0, d1⟩ := HC.out _ hG5
          simp only at d0 d1
          by_cases hni : nn = (i : Int) + 1
          · have hneq : (nn != (i : Int) + 1) = false := by rw [hni]; simp
            have HNi : Hid (nn = (i : Int) + 1) := hni
            clear hni hok c0 c1 hat
            go_wp2
            go_roundw
            case rel => exact ⟨i + 1, by simp, by omega, HNs.out HNi.out HOK.out, hG5⟩
            case measure => simp [RowKit.intOf]; omega
          · have hneq : (nn != (i : Int) + 1) = true := by simpa using hni
            clear hni
            go_wp2
            go_ret
            exact ⟨rfl, hG5⟩
        · go_wp2_with fail
          refine (check_any nn xo M cm 1 ws _ hat.rs hat.len hnb.1 hnb.2 (Or.inr ⟨hok, rfl⟩)).mono ?_
          rintro e w5 ⟨rfl, hF5⟩
          have hG5 := HF.out.then hF5
          go_wp2
          go_ret
          exact ⟨rfl, hG5⟩
      · obtain rfl : L = i := by omega
        go_wp2_with fail
        refine (tl_new _).mono ?_
        rintro e w4 ⟨tb, B, rfl, hT4, hB4, hF4⟩
        have hG4 := HF.out.then hF4
        have HT4 : Hid (Tl w4 tb B 0 [] (fun _ => False)) := hT4
        have HB4 : Hid (∀ j ∈ B, w.heap.size ≤ j) := fun j hj => Nat.le_trans HF.out.size (hB4 j hj)
        clear hT4 hB4 hF4
        obtain ⟨iB, hiB, hzB, hszB, hbB⟩ := info_parts Try.infoBl
        obtain ⟨iI, hiI, hzI, hszI, hbI⟩ := infoI_parts
        go_upto_region 10 with (at_make; refine wpList_make_full _ rfl (.tmp 70) (.tmp 70) 34 rfl 0 4 iB _ 1 Try.undBools hiB hzB hszB .i64 .i64 ((L : Int) + 1) ((L : Int) + 1) (L + 1) rfl rfl (by omega) (by omega) ?b2 ?b3 ?b4 ?_)
        case b2 => rw [hbB]; omega
        case b3 => unfold maxLen; omega
        case b4 => exact Nat.zero_le _
        intro w5 hown hgrow
        rw [made_bools] at hown
        have hr5 : BR w5 w4.heap.size (List.replicate (L + 1) false) := bools_full hown
        have hF5 : Fr [] w4 w5 := Fr.grown (S := []) hgrow (by simp)
        obtain ⟨g1, hg1⟩ : ∃ g1, g1 = w4.heap.size := ⟨_, rfl⟩
        rw [← hg1] at hr5 ⊢
        have HGg1 : Hid (g1 = w4.heap.size) := hg1
        clear hg1
        have HR5 : Hid (BR w5 g1 (List.replicate (L + 1) false)) := hr5
        clear hown hgrow hr5
        go_upto_region 11 with (at_make; refine wpList_make_full _ rfl (.tmp 74) (.tmp 74) 35 rfl 0 3 iI _ 1 Try.undIs11 hiI hzI hszI .i64 .i64 ((L : Int) + 1) ((L : Int) + 1) (L + 1) rfl rfl (by omega) (by omega) ?b2 ?b3 ?b4 ?_)
        case b2 => rw [hbI]; omega
        case b3 => unfold maxLen; omega
        case b4 => exact Nat.zero_le _
        intro w6 hown hgrow
        rw [made_ints] at hown
        have hr6 : NR w6 w5.heap.size (List.replicate (L + 1) 0) := ints_full hown
        have hF6 : Fr [] w5 w6 := Fr.grown (S := []) hgrow (by simp)
        obtain ⟨g2, hg2⟩ : ∃ g2, g2 = w5.heap.size := ⟨_, rfl⟩
        rw [← hg2] at hr6 ⊢
        have HGg2 : Hid (g2 = w5.heap.size) := hg2
        clear hg2
        have HR6 : Hid (NR w6 g2 (List.replicate (L + 1) 0)) := hr6
        clear hown hgrow hr6
        go_wp2_with (at_make; refine wpList_make_full _ rfl (.tmp 78) (.tmp 78) 34 rfl 0 4 iB _ 1 Try.undBools hiB hzB hszB .i64 .i64 ((L : Int) + 1) ((L : Int) + 1) (L + 1) rfl rfl (by omega) (by omega) ?b2 ?b3 ?b4 ?_)
        case b2 => rw [hbB]; omega
        case b3 => unfold maxLen; omega
        case b4 => exact Nat.zero_le _
        intro w7 hown hgrow
        rw [made_bools] at hown
        have hr7 : BR w7 w6.heap.size (List.replicate (L + 1) false) := bools_full hown
        have hF7 : Fr [] w6 w7 := Fr.grown (S := []) hgrow (by simp)
        obtain ⟨g3, hg3⟩ : ∃ g3, g3 = w6.heap.size := ⟨_, rfl⟩
        rw [← hg3] at hr7 ⊢
        have hg1 := HGg1.out
        have hg2 := HGg2.out
        have hmB := HT4.out.mine
        have s45 := hF5.size
        have s56 := hF6.size
        have hl5 : g1 < w5.heap.size := lt_of_block HR5.out
        have hl6 : g2 < w6.heap.size := lt_of_block HR6.out
        have hgw : w.heap.size ≤ g1 ∧ g1 < g2 ∧ g2 < g3 := by have := hG4.size; omega
        have HS0 : Hid (St ts L w tb g1 g2 g3 0 0 B (List.replicate (L + 1) false) (List.replicate (L + 1) 0) (List.replicate (L + 1) false) w7) := by
          have e : enR (List.replicate (L + 1) false) = fun _ => False := by
            funext x
            apply propext
            constructor
            · rintro ⟨j, _, h⟩
              rw [rep_getD] at h
              cases h
            · exact fun h => h.elim
          refine ⟨?_, HB4.out, fun h => ?_, fun h => ?_, fun h => ?_, (HR5.out.keep hF6 (by simp)).keep hF7 (by simp), HR6.out.keep hF7 (by simp), hr7, TT.start ts L, hG4.then (hF5.then (hF6.then hF7)), Nat.zero_le _, by rw [cnt_rep]⟩
          · rw [e]
            exact HT4.out.quiet (hF5.then (hF6.then hF7))
          · have := hmB _ h; omega
          · have := hmB _ h; omega
          · have := hmB _ h; omega
        have HNum : Hid (Num ts L ∧ ∀ j, j < L → okT (ts.getD j Tm.zero).n (ts.getD j Tm.zero).ws) := HN.out
        clear hown hgrow hr7 hF5 hF6 hF7 hg1 hg2 hg3 hmB s45 s56 hl5 hl6 HR5 HR6 HT4 HB4 hG4 HN HF hiB hzB hszB hbB hiI hzI hszI hbI
        go_wp2_with fail
        go_loopw [10, 11] (fun aa ii wr => ∃ (a s : Nat) (B : List Nat) (rs : List Bool) (tl : List Int) (wl : List Bool), aa = .int .i64 a ∧ ii = .int .i64 s ∧ Hid (St ts L w tb g1 g2 g3 a s B rs tl wl wr)) (fun _ ii _ => 4 * L + 4 - (RowKit.intOf ii).toNat)
        case atStart => exact ⟨0, 0, B, _, _, _, rfl, rfl, HS0.out⟩
        case round =>
          clear HS0
          obtain ⟨a, s, B, rs, tl, wl, rfl, rfl, HS⟩ := hrel
          obtain ⟨wt, hwt⟩ : ∃ wt, wt = wr := ⟨_, rfl⟩
          subst hwt
          obtain ⟨hs2, hen⟩ := HS.out.few HNum.out.1 HL.out
          have HEn : Hid (∀ j, rs.getD j false = true → j ≤ a) := hen
          have hs4 : (s : Int) < 4 * (L : Int) + 4 := by omega
          have haL : a ≤ L := HS.out.al
          clear hen
          go_upto_region 17 with fail
          go_cut [91] from 88 to 91 (fun p wx => ∃ bb : Bool, p = .bool bb ∧ Hid (bb = true ↔ s < Bn) ∧ wt = wx)
          case first =>
            by_cases hsb : s < Bn
            · have hsb' : (s : Int) < Bn := by omega
              go_wp2
              go_meet
              exact ⟨true, rfl, ⟨fun _ => hsb, fun _ => rfl⟩, rfl⟩
            · have hsb' : ¬ ((s : Int) < Bn) := by omega
              go_wp2
              go_meet
              exact ⟨false, rfl, ⟨fun h => (by cases h), fun h => absurd h hsb⟩, rfl⟩
          case rest =>
            obtain ⟨bb, rfl, HBb, rfl⟩ := hcut
            rename_i hK17
            refine hK17 _ _ ?_
            clear hK17
            go_cut [12] from 88 to 96 (fun p wx => ∃ pv : Nat, p = .int .i64 pv ∧ pv < 256 ∧ wt = wx)
            case first =>
              cases bb with
              | true =>
                have hsb := HBb.out.1 rfl
                have hb := HBs.out _ HS.out.fr
                obtain ⟨pb, pof, rfl, _, hpc⟩ := hb.lies (by omega)
                have hc := hpc s hsb
                have hlow : bs.getD s 0 < 256 := hb.low _ (by have hs2 : s < bs.length := by rw [← hb.len]; exact hsb
                                                              simp [List.getD, hs2])
                obtain ⟨pv, hv⟩ : ∃ pv, pv = bs.getD s 0 := ⟨_, rfl⟩
                rw [← hv] at hc hlow
                clear hv hpc hb
                go_wp2
                go_meet
                exact ⟨pv, rfl, hlow, rfl⟩
              | false =>
                go_wp2
                go_meet
                exact ⟨0, rfl, by omega, rfl⟩
            case rest =>
              obtain ⟨pv, rfl, hpv, rfl⟩ := hcut
              clear HBb
              go_wp2_with fail
              refine (tl_open _ HS.out.t (by omega)).mono ?_
              rintro e w8 ⟨so, N, c, os, rfl, hO8, hR8, hM8, hF8⟩
              have HS8 : Hid (St ts L w tb g1 g2 g3 a s B rs tl wl w8) := HS.out.quiet hF8
              have HO : Hid (Ris os ∧ ∀ x, x ∈ os ↔ Op11 (LT ts a) (enR rs) x) := ⟨hR8, hM8⟩
              have HOr : Hid (IOw wt.heap.size w8 so N c os) := hO8
              have HNo : Hid (N = os.length) := hO8.len
              have hN40 : N ≤ 40 := by
                rw [hO8.len]
                refine Nat.le_trans (hR8.few (a := 1) (n := a) (fun x hx => ?_)) (by omega)
                obtain ⟨h1, _⟩ := (hM8 x).1 hx
                obtain ⟨j, hj, rfl⟩ := (LT_num ts a (by rw [← HL.out]; exact haL) (fun t ht => HNum.out.1 t (by omega)) x).1 h1
                omega
              have HNa : Hid (Num ts a) := fun t ht => HNum.out.1 t (by omega)
              clear hO8 hR8 hM8 hF8 HS
              go_upto_region 20 with fail
              go_cut [112] from 99 to 112 (fun p wx => ∃ bb : Bool, p = .bool bb ∧ Hid (bb = true ↔ (a < L ∧ (pv % 3 = 0 ∨ N = 0))) ∧ w8 = wx)
              case first =>
                have h3i : ((pv : Int) % 3 == 0) = decide (pv % 3 = 0) := by
                  by_cases h : pv % 3 = 0
                  · rw [decide_eq_true h]; simp; omega
                  · rw [decide_eq_false h]; simp; omega
                have h3t : (Int.tmod (pv : Int) 3 == 0) = decide (pv % 3 = 0) := by
                  rw [Int.tmod_eq_emod_of_nonneg (by omega)]; exact h3i
                by_cases h1 : a < L
                · have h1' : (a : Int) < L := by omega
                  by_cases h2 : pv % 3 = 0
                  · rw [decide_eq_true h2] at h3i h3t
                    go_wp2
                    go_meet
                    exact ⟨true, rfl, ⟨fun _ => ⟨h1, Or.inl h2⟩, fun _ => rfl⟩, rfl⟩
                  · rw [decide_eq_false h2] at h3i h3t
                    by_cases h4 : N = 0
                    · subst h4
                      go_wp2
                      go_meet
                      exact ⟨true, rfl, ⟨fun _ => ⟨h1, Or.inr trivial⟩, fun _ => rfl⟩, rfl⟩
                    · have h4' : ((N : Int) == 0) = false := by simp; omega
                      go_wp2
                      go_meet
                      exact ⟨false, rfl, ⟨fun h => (by cases h), fun h => h.2.elim (fun h => absurd h h2) (fun h => absurd h h4)⟩, rfl⟩
                · have h1' : ¬ ((a : Int) < L) := by omega
                  go_wp2
                  go_meet
                  exact ⟨false, rfl, ⟨fun h => (by cases h), fun h => absurd h.1 h1⟩, rfl⟩
              case rest =>
                obtain ⟨go, rfl, HGo, rfl⟩ := hcut
                cases go with
                | true => as_aux_lemma =>
                    obtain ⟨haL2, _⟩ := HGo.out.1 rfl
                    have ha' : a < ts.length := by rw [← HL.out]; exact haL2
                    have hGf := HS8.out.fr
                    obtain ⟨ab, aof, rfl, _, _⟩ := (HI.out _ hGf).lies (by omega)
                    have HC : Hid (∀ W, Fr [] w W → ∀ j, j < L → TAt W ab (aof + j * 2) (ts.getD j Tm.zero)) := fun W hf j hj => by
                      obtain ⟨b2, o2, e2, _, hc2⟩ := (HI.out W hf).lies (by omega)
                      cases e2
                      exact hc2 j (by rw [← HL.out]; exact hj)
                    have HAt : Hid (∀ W, Fr [] w W → ∀ j, j < L → (ts.getD j Tm.zero).at W) := fun W hf j hj => (HI.out W hf).each _ (tgetD_mem ts j (by rw [← HL.out]; exact hj))
                    have HSn : Hid (LT ts (a + 1) = LT ts a ++ [((ts.getD a Tm.zero).n, keysW (ts.getD a Tm.zero).ws)]) := LT_snoc ts a ha'
                    have HNn := HNum.out.1 a haL2
                    have HOK := HNum.out.2 a haL2
                    have hc := HC.out w8 hGf a haL2
                    have hat := HAt.out w8 hGf a haL2
                    have hat0 := HAt.out w (Fr.refl _ _) a haL2
                    obtain ⟨x, hxx⟩ : ∃ x, x = ts.getD a Tm.zero := ⟨_, rfl⟩
                    rw [← hxx] at HSn HNn HOK hc hat hat0
                    have HXX : Hid (x = ts.getD a Tm.zero) := hxx
                    clear hxx
                    obtain ⟨nn, xo, M, cm, ws⟩ := x
                    obtain ⟨c0, c1⟩ := hc
                    simp only at HSn HNn HOK c0 c1
                    subst HNn
                    have HOK : Hid (okT ((a : Int) + 1) ws) := HOK
                    have hat1 : TArg w8 ((a : Int) + 1) xo M cm ws := hat
                    have hat2 : TArg w ((a : Int) + 1) xo M cm ws := hat0
                    have hWB : 0 < ws.length → ∀ a, xo = some a → a.block ∉ B := fun h0 a ha hm => by
                      obtain ⟨b2, o2, e2, hb2, _⟩ := hat2.rs.lies h0
                      rw [e2] at ha
                      cases ha
                      have := HS8.out.b _ hm
                      simp only at this
                      omega
                    have HAd : Hid (Calls _ _ _ _ _) := tl_add ((a : Int) + 1) xo M cm ws w8 HS8.out.t hat1.rs hat1.len HOK.out (fun p hp => LT_lt ts a (by rw [← HL.out]; exact haL) HNa.out p hp) (by omega) hWB
                    clear hat hat0 hat1 hat2 hWB
                    go_wp2_with fail
                    refine Calls.mono HAd.out ?_
                    rintro e w9 ⟨xs, B', rfl, hAd, hT9, hB9, hF9⟩
                    rw [← HSn.out] at hT9
                    have HAd2 : Hid (AdT (LT ts a) (enR rs) (keysW ws) xs) := hAd
                    have HSa : Hid (Tl w9 tb B' (65 * (a + 1)) (LT ts (a + 1)) (enR rs) ∧ (∀ j ∈ B', w.heap.size ≤ j) ∧ (g1 ∉ B' ∧ g2 ∉ B' ∧ g3 ∉ B') ∧ BR w9 g1 rs ∧ NR w9 g2 tl ∧ BR w9 g3 wl ∧ Fr [] w w9) := by
                      have hl : ∀ g, g < w8.heap.size → g ∉ B → g ∉ B' := fun g h1 h2 h3 => by
                        rcases hB9 g h3 with h4 | h4
                        · exact h2 h4
                        · omega
                      have hS := HS8.out
                      exact ⟨hT9, fun j hj => (by
                        rcases hB9 j hj with h1 | h1
                        · exact hS.b j h1
                        · exact Nat.le_trans hGf.size h1), ⟨hl g1 (lt_of_block hS.r1) hS.n1, hl g2 (lt_of_block hS.r2) hS.n2, hl g3 (lt_of_block hS.r3) hS.n3⟩, hS.r1.keep hF9 hS.n1, hS.r2.keep hF9 hS.n2, hS.r3.keep hF9 hS.n3, hGf.on hF9 hS.b⟩
                    have HTT : Hid (TT ts L (a + 1) rs tl (wl.set (a + 1) (decide (0 < xs.length)))) := HS8.out.tt.add HSa.out.1.ris HSn.out hAd haL2
                    have HEa : Hid (¬ enR rs ((a : Int) + 1)) := fun he => by
                      obtain ⟨p, hp, e⟩ := HS8.out.t.ended _ he
                      have := LT_lt ts a (by rw [← HL.out]; exact haL) HNa.out p hp
                      omega
                    have hOp : Op11 (LT ts (a + 1)) (enR rs) ((a : Int) + 1) := ⟨⟨((a : Int) + 1, keysW ws), by rw [HSn.out]; simp, rfl⟩, HEa.out⟩
                    have HWt : Hid (Calls _ _ _ _ _) := tl_waits ((a : Int) + 1) w9 hT9 hOp
                    obtain ⟨Q, hQ⟩ : ∃ Q, Q = xs.length := ⟨_, rfl⟩
                    rw [← hQ]
                    have HQ : Hid (Q = xs.length) := hQ
                    have HEr : Hid (rs.length = L + 1 ∧ s = a + cnt rs) := ⟨HS8.out.tt.rl, HS8.out.st⟩
                    have HSt : Hid (wl.length = L + 1) := HS8.out.tt.wll
                    clear hQ hAd hT9 hB9 hF9 HAd hOp HS8 c0 c1 hGf HOr HO HNo
                    go_wp2_with fail
                    refine Calls.mono HWt.out ?_
                    rintro e wa ⟨zo, Z, zc, zs, rfl, hOa, hWa, hFa⟩
                    have hzx : zs = xs := by
                      have hr := HSa.out.1.ris
                      rw [HSn.out] at hWa hr
                      exact add_waits hr HAd2.out hWa
                    subst hzx
                    obtain rfl : Q = Z := by rw [HQ.out, hOa.len]
                    have HZa : Hid (∀ W, Fr [] wa W → IOw w9.heap.size W zo Q zc zs) := fun W hf => hOa.keep hf
                    have HSb : Hid (∀ W, Fr [] wa W → Tl W tb B' (65 * (a + 1)) (LT ts (a + 1)) (enR rs) ∧ BR W g1 rs ∧ NR W g2 tl ∧ BR W g3 wl ∧ Fr [] w W) := fun W hf => ⟨HSa.out.1.quiet (hFa.then hf), HSa.out.2.2.2.1.keep (hFa.then hf) (by simp), HSa.out.2.2.2.2.1.keep (hFa.then hf) (by simp), HSa.out.2.2.2.2.2.1.keep (hFa.then hf) (by simp), HSa.out.2.2.2.2.2.2.then (hFa.then hf)⟩
                    have hqq : ((Q : Int) != (Q : Int)) = false := by simp
                    clear hOa hWa hFa HWt
                    have hQ32 : Q ≤ 40 := by
                      rw [HQ.out]
                      refine Nat.le_trans (HAd2.out.1.few (a := 1) (n := a) (fun x hx => ?_)) (by omega)
                      obtain ⟨⟨h1, _⟩, _⟩ := (HAd2.out.2 x).1 hx
                      obtain ⟨j, hj, rfl⟩ := (LT_num ts a (by rw [← HL.out]; exact haL) HNa.out x).1 h1
                      omega
                    go_wp2_with fail
                    go_loopw [18] (fun kk wr => ∃ (k : Nat), kk = .int .i64 k ∧ k ≤ Q ∧ Hid (Fr [] wa wr)) (fun kk _ => Q - (RowKit.intOf kk).toNat)
                    case atStart => exact ⟨0, rfl, Nat.zero_le _, Fr.refl _ _⟩
                    case round =>
                      obtain ⟨k, rfl, hkQ, HFk⟩ := hrel
                      by_cases hk : k < Q
                      · have hkl : k < zs.length := by rw [← HQ.out]; exact hk
                        have hmem := igetD_mem zs k hkl
                        obtain ⟨⟨hm1, hm2⟩, _⟩ := (HAd2.out.2 _).1 hmem
                        have hwt2 := (HSa.out.1)
                        obtain ⟨mk, hmk, hme⟩ := (LT_num ts a (by rw [← HL.out]; exact haL) HNa.out _).1 hm1
                        obtain ⟨zg, rfl, _, _, _⟩ := (HZa.out wr HFk.out).cells (by omega)
                        have f1 : ∀ x : Wd wr, x.W.cell? ⟨zg, k, none⟩ = some (.int .i64 ((mk : Int) + 1)) := fun x => by
                          obtain ⟨g', e', _, _, hc'⟩ := (HZa.out x.W (HFk.out.then x.h)).cells (by omega)
                          cases e'
                          rw [hc' k hk, hme]
                        have HDep : Hid (Nr (LT ts (a + 1)) ((mk : Int) + 1) ((a : Int) + 1)) := by
                          obtain ⟨h1, k', hk', h2⟩ := (HAd2.out.2 _).1 hmem
                          have hr := HSa.out.1.ris
                          have hd : Dep (LT ts (a + 1)) ((a : Int) + 1) ((mk : Int) + 1) := by
                            rw [HSn.out]
                            exact (dep_snoc _ _ _ _).2 (Or.inr ⟨rfl, by omega, k', hk', by rw [← hme]; exact h2⟩)
                          exact (hd.lt hr).2.2
                        have HNe : Hid (NearW (ts.getD mk Tm.zero).ws (ts.getD a Tm.zero).ws) := (nearW_nr ts (a + 1) mk a (by omega) (fun t ht => HNum.out.1 t (by omega)) (by omega) (by omega)).2 HDep.out
                        have hen : rs.getD (mk + 1) false = false := by
                          cases hh : rs.getD (mk + 1) false with
                          | false => rfl
                          | true =>
                            refine absurd ((enR_nat rs (mk + 1)).2 hh) ?_
                            rw [show ((mk + 1 : Nat) : Int) = zs.getD k 0 from by rw [hme]; omega]
                            exact hm2
                        have f3 : ∀ x : Wd wr, x.W.cell? ⟨g1, mk + 1, none⟩ = some (.bool false) := fun x => by
                          rw [(HSb.out x.W (HFk.out.then x.h)).2.1.cell (mk + 1) (by rw [HEr.out.1]; omega), hen]
                        have hfr : ∀ x : Wd wr, Fr [] w x.W := fun x => (HSb.out x.W (HFk.out.then x.h)).2.2.2.2
                        obtain ⟨y, hyy⟩ : ∃ y, y = ts.getD mk Tm.zero := ⟨_, rfl⟩
                        have f4 : ∀ x : Wd wr, x.W.cell? ⟨ab, aof + mk * 2, none⟩ = some (.int .i64 y.n) := fun x => by rw [hyy]; exact (HC.out x.W (hfr x) mk (by omega)).c0
                        have f5 : ∀ x : Wd wr, x.W.cell? ⟨ab, aof + mk * 2 + 1, none⟩ = some (.slice y.ao y.L y.cap) := fun x => by rw [hyy]; exact (HC.out x.W (hfr x) mk (by omega)).c1
                        have f6 : ∀ x : Wd wr, x.W.cell? ⟨ab, aof + a * 2, none⟩ = some (.int .i64 ((a : Int) + 1)) := fun x => by have := (HC.out x.W (hfr x) a haL2).c0; rw [← HXX.out] at this; exact this
                        have f7 : ∀ x : Wd wr, x.W.cell? ⟨ab, aof + a * 2 + 1, none⟩ = some (.slice xo M cm) := fun x => by have := (HC.out x.W (hfr x) a haL2).c1; rw [← HXX.out] at this; exact this
                        have HNr : Hid (∀ x : Wd wr, Calls Try.prog 14 #[.agg #[.int .i64 y.n, .slice y.ao y.L y.cap], .agg #[.int .i64 ((a : Int) + 1), .slice xo M cm]] x.W fun e w' => e = .returned (.bool true) ∧ Fr [] x.W w') := fun x => by
                          have a1 := HAt.out x.W (hfr x) mk (by omega)
                          have a2 := HAt.out x.W (hfr x) a haL2
                          rw [← hyy] at a1
                          rw [← HXX.out] at a2
                          refine near_any y.n ((a : Int) + 1) y.ao xo y.L y.cap M cm y.ws ws true x.W a1.rs a1.len a2.rs a2.len ⟨fun _ => ?_, fun _ => rfl⟩
                          have := HNe.out
                          rw [← hyy, ← HXX.out] at this
                          exact this
                        have hm3 : (mk : Int) < a := by omega
                        have hd1 : decide ((mk : Int) + 1 < 1) = false := by simp; omega
                        have hd2 : decide ((a : Int) ≤ (mk : Int)) = false := by simp; omega
                        have hd3 : decide (a ≤ mk) = false := by simp; omega
                        have hd4 : decide ((a : Int) + 1 ≤ (mk : Int) + 1) = false := by simp; omega
                        have hlk1 : mk + 1 < L + 1 := by omega
                        have hlk2 : mk < L := by omega
                        have HPrev : Hid (0 < k → zs.getD (k - 1) 0 < (mk : Int) + 1) := fun h0 => by
                          rw [← hme]
                          have hp := List.pairwise_iff_getElem.1 HAd2.out.1 (k - 1) k (by omega) hkl (by omega)
                          simpa [List.getD, hkl, show k - 1 < zs.length by omega] using hp
                        clear hmem hm1 hm2 hwt2 hen hfr hyy
                        obtain ⟨yn, yo, yL, yc, yw⟩ := y
                        simp only at f4 f5 HNr
                        cases k with
                        | zero => as_aux_lemma =>
                            go_upto_region 31 with fail
                            refine wp_region_wd (w1 := wr) (by kernel_rfl) (by kernel_rfl) (Fr.refl _ _) ?_
                            repeat (go_big_quiet_step ((go_at_call 14; with_reducible refine (HNr.out _).mono ?_; exact fun e w3 hh => ⟨hh.1, ⟨_, Fr.then (Wd.h _) hh.2⟩, rfl⟩)))
                            refine wpQuiet_nil ?_
                            rintro _ ⟨x, rfl⟩
                            go_wp2_with fail
                            go_roundw
                            case rel => exact ⟨1, by simp, by omega, HFk.out.then x.h⟩
                            case measure => simp [RowKit.intOf]; omega
                        | succ k => as_aux_lemma =>
                            have hpz := HPrev.out (by omega)
                            rw [Nat.add_sub_cancel] at hpz
                            obtain ⟨pz, hpe⟩ : ∃ pz, pz = zs.getD k 0 := ⟨_, rfl⟩
                            have f2 : ∀ x : Wd wr, x.W.cell? ⟨zg, k, none⟩ = some (.int .i64 pz) := fun x => by
                              obtain ⟨g', e', _, _, hc'⟩ := (HZa.out x.W (HFk.out.then x.h)).cells (by omega)
                              cases e'
                              rw [hc' k (by omega), hpe]
                            rw [← hpe] at hpz
                            have hd5 : decide ((mk : Int) + 1 ≤ pz) = false := by simp; omega
                            have hk0 : decide ((0 : Int) < (k : Int) + 1) = true := by simp
                            have hkk : k < Q := by omega
                            clear hpe hpz HPrev
                            go_upto_region 31 with fail
                            refine wp_region_wd (w1 := wr) (by kernel_rfl) (by kernel_rfl) (Fr.refl _ _) ?_
                            repeat (go_big_quiet_step ((go_at_call 14; with_reducible refine (HNr.out _).mono ?_; exact fun e w3 hh => ⟨hh.1, ⟨_, Fr.then (Wd.h _) hh.2⟩, rfl⟩)))
                            refine wpQuiet_nil ?_
                            rintro _ ⟨x, rfl⟩
                            go_wp2_with fail
                            go_roundw
                            case rel => exact ⟨k + 1 + 1, by simp, by omega, HFk.out.then x.h⟩
                            case measure => simp [RowKit.intOf]; omega
                      · obtain rfl : Q = k := by omega
                        obtain ⟨k1, k2, k3, k4, k5⟩ := HSb.out wr HFk.out
                        have hcg := k4.cell (a + 1) (by rw [HSt.out]; omega)
                        have hfg := k4.free (a + 1)
                        have ha1 : a + 1 < L + 1 := by omega
                        have hFs := fun x => Fr.set (S := [g3]) wr ⟨g3, a + 1, none⟩ (.bool x) (by simp)
                        have HNx : Hid (∀ x : Bool, x = decide (0 < zs.length) → St ts L w tb g1 g2 g3 (a + 1) (s + 1) B' rs tl (wl.set (a + 1) x) (wr.setCell ⟨g3, a + 1, none⟩ (.bool x))) := fun x hx => by
                          have hS := HSa.out
                          refine ⟨k1.keep (hFs x) (fun j hj => by simpa using fun e => hS.2.2.1.2.2 (by rw [← e]; exact hj)), hS.2.1, hS.2.2.1.1, hS.2.2.1.2.1, hS.2.2.1.2.2, k2.keep (hFs x) (by simp; omega), k3.keep (hFs x) (by simp; omega), k4.put _ _, by rw [hx]; exact HTT.out, k5.on (hFs x) (by simp; omega), by omega, by have := HEr.out.2; omega⟩
                        clear k1 k2 k3 k4 k5 hFs
                        by_cases hQ0 : 0 < Q
                        · have hQ0' : (0 : Int) < Q := by omega
                          have HX := HNx.out true (by rw [← HQ.out]; simp; omega)
                          have HX : Hid (St _ _ _ _ _ _ _ _ _ _ _ _ _ _) := HX
                          go_wp2
                          go_roundw
                          case rel => exact ⟨a + 1, s + 1, B', rs, tl, _, by simp, by simp, HX.out⟩
                          case measure => simp [RowKit.intOf]; omega
                        · obtain rfl : Q = 0 := by omega
                          have HX := HNx.out false (by rw [← HQ.out]; simp)
                          have HX : Hid (St _ _ _ _ _ _ _ _ _ _ _ _ _ _) := HX
                          go_wp2
                          go_roundw
                          case rel => exact ⟨a + 1, s + 1, B', rs, tl, _, by simp, by simp, HX.out⟩
                          case measure => simp [RowKit.intOf]; omega
                | false => as_aux_lemma =>
                    by_cases hN0 : N = 0
                    · subst hN0
                      have haL3 : a = L := by
                        refine Classical.byContradiction fun hne => ?_
                        have := HGo.out.2 ⟨by omega, Or.inr rfl⟩
                        cases this
                      have HNop : Hid (∀ x, ¬ Op11 (LT ts a) (enR rs) x) := fun x hx => by
                        have h1 := (HO.out.2 x).2 hx
                        have h2 : os = [] := List.eq_nil_of_length_eq_zero HNo.out.symm
                        rw [h2] at h1
                        cases h1
                      obtain rfl : L = a := haL3.symm
                      have HAll : Hid (∀ j, 1 ≤ j → j ≤ L → rs.getD j false = true) := fun j h1 h2 => by
                        cases hh : rs.getD j false with
                        | true => rfl
                        | false =>
                          exfalso
                          refine HNop.out (j : Int) ⟨(LT_num ts L (by rw [← HL.out]; exact Nat.le_refl _) HNa.out _).2 ⟨j - 1, by omega, by omega⟩, fun he => ?_⟩
                          rw [(enR_nat rs j).1 he] at hh
                          cases hh
                      have HOp : Hid (Calls _ _ _ _ _) := tl_open w8 HS8.out.t (by omega)
                      have HCs : Hid (∀ W, Fr [] w8 W → BR W g1 rs ∧ NR W g2 tl ∧ BR W g3 wl) := fun W hf => ⟨HS8.out.r1.keep hf (by simp), HS8.out.r2.keep hf (by simp), HS8.out.r3.keep hf (by simp)⟩
                      have HTT : Hid (TT ts L L rs tl wl) := HS8.out.tt
                      have hGf := HS8.out.fr
                      clear HS8 HOr HO HNo HGo haL3
                      go_wp2_with fail
                      refine Calls.mono HOp.out ?_
                      rintro e w9 ⟨oo, O, oc, os2, rfl, hOo, hRo, hMo, hF9⟩
                      have hO0 : O = 0 := by
                        rw [hOo.len, List.length_eq_zero_iff]
                        exact List.eq_nil_iff_forall_not_mem.2 (fun x hx => HNop.out x ((hMo x).1 hx))
                      subst hO0
                      clear hOo hRo hMo HOp
                      go_wp2_with fail
                      go_loopw [30] (fun ii wr => ∃ (i : Nat), ii = .int .i64 ((i : Int) + 1) ∧ i ≤ L ∧ Hid (Fr [] w8 wr)) (fun ii _ => L + 1 - (RowKit.intOf ii).toNat)
                      case atStart => exact ⟨0, rfl, Nat.zero_le _, hF9⟩
                      case round =>
                        obtain ⟨i, rfl, hiL2, HFi⟩ := hrel
                        by_cases hi2 : i < L
                        · obtain ⟨r1, r2, r3⟩ := HCs.out _ HFi.out
                          have e1 := r1.cell (i + 1) (by rw [HTT.out.rl]; omega)
                          have e2 := r2.cell (i + 1) (by rw [HTT.out.tll]; omega)
                          have e3 := r3.cell (i + 1) (by rw [HTT.out.wll]; omega)
                          rw [HAll.out (i + 1) (by omega) (by omega)] at e1
                          have hle1 : decide ((i : Int) + 1 ≤ (L : Int)) = true := by simp; omega
                          have hi3 : i + 1 < L + 1 := by omega
                          have hone := HTT.out.one (i + 1) (by omega)
                          obtain ⟨b, hb⟩ : ∃ b, b = wl.getD (i + 1) false := ⟨_, rfl⟩
                          rw [← hb] at e3 hone
                          have hnd : Nd ts L rs (i + 1) := fun m hm => absurd hm (HNop.out m)
                          cases b with
                          | true =>
                            rw [hone.2.2 ⟨rfl, hnd⟩] at e2
                            clear hone hnd hb r1 r2 r3
                            go_wp2_with fail
                            go_quiet (fail)
                            go_wp2
                            go_roundw
                            case rel => exact ⟨i + 1, by simp, by omega, HFi.out.then (Fr.drewN _ _ _)⟩
                            case measure => simp [RowKit.intOf]; omega
                          | false =>
                            have h0 : tl.getD (i + 1) 0 = 0 := by
                              rcases hone.1 with h | h
                              · exact h
                              · have := (hone.2.1 h).1; cases this
                            rw [h0] at e2
                            clear hone hnd hb h0 r1 r2 r3
                            go_wp2_with fail
                            go_quiet (fail)
                            go_wp2
                            go_roundw
                            case rel => exact ⟨i + 1, by simp, by omega, HFi.out.then (Fr.drewN _ _ _)⟩
                            case measure => simp [RowKit.intOf]; omega
                        · obtain rfl : L = i := by omega
                          have hnl : ¬ ((L : Int) + 1 ≤ L) := by omega
                          go_wp2
                          go_ret
                          exact ⟨rfl, hGf.then HFi.out⟩
                    · have hN1 : 0 < N := by omega
                      have hN0' : ((N : Int) == 0) = false := by simp; omega
                      obtain ⟨q, hq⟩ : ∃ q : Int → Bool, ∀ x, q x = decide (∀ m, Op11 (LT ts a) (enR rs) m → ¬ Dep (LT ts a) x m) := ⟨fun x => decide _, fun _ => rfl⟩
                      have HQ : Hid (∀ x, q x = true ↔ ∀ m, Op11 (LT ts a) (enR rs) m → ¬ Dep (LT ts a) x m) := fun x => by rw [hq]; simp
                      clear hq HGo
                      go_wp2_with fail
                      go_loopw [19, 20] (fun ll ii wr => ∃ (i : Nat) (fo : Option Addr) (F fc : Nat), ii = .int .i64 i ∧ i ≤ N ∧ ll = .slice fo F fc ∧ F ≤ i ∧ Hid (IOw w8.heap.size wr fo F fc ((os.take i).filter q)) ∧ Hid (Fr [] w8 wr)) (fun _ ii _ => N - (RowKit.intOf ii).toNat)
                      case atStart => exact ⟨0, none, 0, 0, rfl, Nat.zero_le _, rfl, Nat.le_refl _, IOw.nil _ _, Fr.refl _ _⟩
                      case round =>
                        obtain ⟨i, fo, F, fc, rfl, hiN, rfl, hFi, HOf, HFf⟩ := hrel
                        by_cases hi2 : i < N
                        · as_aux_lemma =>
                            have hil : i < os.length := by rw [← HNo.out]; exact hi2
                            obtain ⟨og, rfl, _, _, hoc⟩ := (HOr.out.keep HFf.out).cells hN1
                            have hci := hoc i hi2
                            obtain ⟨x, hx⟩ : ∃ x, x = os.getD i 0 := ⟨_, rfl⟩
                            rw [← hx] at hci
                            have hxo : Op11 (LT ts a) (enR rs) x := by rw [hx]; exact (HO.out.2 _).1 (igetD_mem os i hil)
                            have HWt : Hid (Calls _ _ _ _ _) := tl_waits x wr (HS8.out.t.quiet HFf.out) hxo
                            have HSn := ifilter_snoc os q i hil
                            rw [← hx] at HSn
                            have HSn : Hid ((os.take (i + 1)).filter q = _) := HSn
                            have HCo : Hid (∀ W, Fr [] wr W → W.cell? ⟨og, i, none⟩ = some (.int .i64 x)) := fun W hf => by
                              obtain ⟨g', e', _, _, hc'⟩ := ((HOr.out.keep HFf.out).keep hf).cells hN1
                              cases e'
                              rw [hc' i hi2, hx]
                            clear hx hoc hxo
                            go_wp2_with fail
                            refine Calls.mono HWt.out ?_
                            rintro e wx ⟨yo, Y, yc, ys, rfl, hOy, hWy, hFx⟩
                            have hcx := HCo.out _ hFx
                            have hiff : q x = true ↔ Y = 0 := by
                              rw [HQ.out, hOy.len, List.length_eq_zero_iff, List.eq_nil_iff_forall_not_mem]
                              constructor
                              · intro h m hm
                                obtain ⟨h1, h2⟩ := (hWy.2 m).1 hm
                                exact h m h1 h2
                              · intro h m h1 h2
                                exact h m ((hWy.2 m).2 ⟨h1, h2⟩)
                            have HOx : Hid (∀ W, Fr [] wx W → IOw w8.heap.size W fo F fc ((os.take i).filter q)) := fun W hf => HOf.out.keep (hFx.then hf)
                            have HBx : Hid (∀ W W', Fr [] wx W → Fr (Value.slice fo F fc).ownBlock.toList W W' → Fr [] w8 W') := fun W W' h1 h2 => HOf.out.on (Nat.le_refl _) HFf.out (hFx.then h1) h2
                            have hsz : w8.heap.size ≤ wx.heap.size := Nat.le_trans HFf.out.size hFx.size
                            have hFx2 := HFf.out.then hFx
                            clear hOy hWy HWt
                            by_cases hY : Y = 0
                            · rw [hiff.2 hY, if_pos rfl] at HSn
                              subst hY
                              clear hiff
                              go_wp2_with (first
                                | (at_builtin; refine wpList_appI w8.heap.size _ rfl _ _ rfl fo F fc _ rfl (HOx.out _ (Fr.alloc [] _ _)) _ _ x rfl ?hcell (by omega) ?hsize ?_
                                   case hcell => exact cell_new1 _ _ _
                                   case hsize => simp; omega
                                   intro o' c' wy hO9 hF9 _
                                   have HR9 : Hid (_ ∧ _) := ⟨hO9, HBx.out _ _ (Fr.alloc [] _ _) hF9⟩
                                   clear hO9 hF9
                                   go_frame)
                                | fail)
                              go_roundw
                              case rel => exact ⟨i + 1, o', F + 1, c', by simp, by omega, rfl, by omega, (by rw [HSn.out]; exact HR9.out.1), HR9.out.2⟩
                              case measure => simp [RowKit.intOf]; omega
                            · have hY' : ((Y : Int) == 0) = false := by simp; omega
                              have hqf : q x = false := by
                                cases hh : q x with
                                | false => rfl
                                | true => exact absurd (hiff.1 hh) hY
                              rw [hqf, if_neg (by simp)] at HSn
                              clear hiff hqf
                              go_wp2
                              go_roundw
                              case rel => exact ⟨i + 1, fo, F, fc, by simp, by omega, rfl, by omega, (by rw [HSn.out]; exact HOx.out _ (Fr.refl _ _)), hFx2⟩
                              case measure => simp [RowKit.intOf]; omega
                        · obtain rfl : N = i := by omega
                          rw [List.take_of_length_le (by rw [← HNo.out]; exact Nat.le_refl _)] at HOf
                          obtain ⟨wf, hwf⟩ : ∃ wf, wf = wr := ⟨_, rfl⟩
                          subst hwf
                          have hol : 0 < os.length := by rw [← HNo.out]; exact hN1
                          have hq0 : q (os.getD 0 0) = true := (HQ.out _).2 (least_free HS8.out.t.ris (fun x hx => ris_head HO.out.1 hol x ((HO.out.2 x).2 hx)))
                          obtain ⟨hfh, hfp⟩ := filter_head hol hq0
                          have hF0 : 0 < F := by rw [HOf.out.len]; exact hfp
                          have hF0' : ((F : Int) == 0) = false := by simp; omega
                          obtain ⟨og, rfl, _, _, hoc⟩ := (HOr.out.keep HFf.out).cells hN1
                          obtain ⟨fg, rfl, _, _, hfc⟩ := HOf.out.cells hF0
                          have e1 := hoc 0 hN1
                          have e2 := hfc 0 hF0
                          rw [hfh] at e2
                          obtain ⟨v0, hv0⟩ : ∃ v0, v0 = os.getD 0 0 := ⟨_, rfl⟩
                          rw [← hv0] at e1 e2
                          have hv00 : (v0 != v0) = false := by simp
                          obtain ⟨d, hd⟩ : ∃ d, d = pv % F := ⟨_, rfl⟩
                          have hdF : d < F := by rw [hd]; exact Nat.mod_lt _ hF0
                          have hmod : (pv : Int) % (F : Int) = (d : Int) := by rw [hd]; exact (Int.natCast_emod pv F).symm
                          have hmod2 : Int.tmod (pv : Int) (F : Int) = (d : Int) := by rw [Int.tmod_eq_emod_of_nonneg (by omega)]; exact hmod
                          have hFi : (F : Int) ≠ 0 := by omega
                          have hmem := igetD_mem (os.filter q) d (by rw [← HOf.out.len]; exact hdF)
                          obtain ⟨hm1, hm2⟩ := List.mem_filter.1 hmem
                          have hno := (HO.out.2 _).1 hm1
                          have hnf := (HQ.out _).1 hm2
                          obtain ⟨nk, hnk, hne⟩ := (LT_num ts a (by rw [← HL.out]; exact haL) HNa.out _).1 hno.1
                          rw [hne] at hno hnf
                          have e3 : ∀ j, wf.drewN j = wf.drewN j := fun _ => rfl
                          have HC3 : Hid (∀ W, Fr [] wf W → W.cell? ⟨fg, d, none⟩ = some (.int .i64 ((nk : Int) + 1))) := fun W hf => by
                            obtain ⟨g', e', _, _, hc'⟩ := (HOf.out.keep hf).cells hF0
                            cases e'
                            rw [hc' d hdF, hne]
                          have HNo2 : Hid (Op11 (LT ts a) (enR rs) ((nk : Int) + 1) ∧ ∀ m, Op11 (LT ts a) (enR rs) m → ¬ Dep (LT ts a) ((nk : Int) + 1) m) := ⟨hno, hnf⟩
                          have HSf : Hid (∀ W, Fr [] wf W → St ts L w tb g1 g2 g3 a s B rs tl wl W) := fun W hf => HS8.out.quiet (HFf.out.then hf)
                          clear hoc hfc hv0 hd hmem hm1 hm2 hno hnf hne hfh hfp hq0 hol HOr HO HNo HQ HS8 e3
                          go_wp2_with fail
                          go_quiet (fail)
                          obtain ⟨wz, HWz⟩ : ∃ wz, Hid (wf.drewN nq = wz) := ⟨_, rfl⟩
                          rw [HWz.out]
                          have hFz : Fr [] wf wz := by rw [← HWz.out]; exact Fr.drewN _ _ _
                          have e3 := HC3.out _ hFz
                          have HSz : Hid (∀ W, Fr [] wz W → St ts L w tb g1 g2 g3 a s B rs tl wl W) := fun W hf => HSf.out _ (hFz.then hf)
                          clear HWz e1 e2 HC3 HSf HOf HFf
                          have haP : 0 < L := by omega
                          obtain ⟨ab, aof, rfl, _, _⟩ := (HI.out _ (HSz.out wz (Fr.refl _ _)).fr).lies (by rw [← HL.out]; exact haP)
                          have HC : Hid (∀ W, Fr [] w W → ∀ j, j < L → TAt W ab (aof + j * 2) (ts.getD j Tm.zero)) := fun W hf j hj => by
                            obtain ⟨b2, o2, e2, _, hc2⟩ := (HI.out W hf).lies (by rw [← HL.out]; exact haP)
                            cases e2
                            exact hc2 j (by rw [← HL.out]; exact hj)
                          have HAt : Hid (∀ W, Fr [] w W → ∀ j, j < L → (ts.getD j Tm.zero).at W) := fun W hf j hj => (HI.out W hf).each _ (tgetD_mem ts j (by rw [← HL.out]; exact hj))
                          go_wp2_with fail
                          go_loopw [24] (fun ii wr => ∃ (i : Nat), ii = .int .i64 ((i : Int) + 1) ∧ i ≤ nk ∧ Hid (Fr [] wz wr)) (fun ii _ => nk + 1 - (RowKit.intOf ii).toNat)
                          case atStart => exact ⟨0, rfl, Nat.zero_le _, Fr.refl _ _⟩
                          case round =>
                            obtain ⟨i, rfl, hin, HFi⟩ := hrel
                            by_cases hi3 : i < nk
                            · as_aux_lemma =>
                                have hlt : ((i : Int) + 1) < (nk : Int) + 1 := by omega
                                have hrl := (HSz.out wr HFi.out).tt.rl
                                have fx : ∀ x : Wd wr, St ts L w tb g1 g2 g3 a s B rs tl wl x.W := fun x => HSz.out x.W (HFi.out.then x.h)
                                obtain ⟨b, hb⟩ : ∃ b, b = rs.getD (i + 1) false := ⟨_, rfl⟩
                                have f1 : ∀ x : Wd wr, x.W.cell? ⟨g1, i + 1, none⟩ = some (.bool b) := fun x => by rw [(fx x).r1.cell (i + 1) (by rw [hrl]; omega), ← hb]
                                have hlk1 : i + 1 < L + 1 := by omega
                                cases b with
                                | true =>
                                  clear fx hrl hb
                                  go_upto_region 50 with fail
                                  refine wp_region_wd (w1 := wr) (by kernel_rfl) (by kernel_rfl) (Fr.refl _ _) ?_
                                  repeat (go_big_quiet_step (fail))
                                  refine wpQuiet_nil ?_
                                  rintro _ ⟨x, rfl⟩
                                  go_wp2_with fail
                                  go_roundw
                                  case rel => exact ⟨i + 1, by simp, by omega, HFi.out.then x.h⟩
                                  case measure => simp [RowKit.intOf]; omega
                                | false =>
                                  obtain ⟨y, hyy⟩ : ∃ y, y = ts.getD i Tm.zero := ⟨_, rfl⟩
                                  obtain ⟨z, hzz⟩ : ∃ z, z = ts.getD nk Tm.zero := ⟨_, rfl⟩
                                  have f4 : ∀ x : Wd wr, x.W.cell? ⟨ab, aof + i * 2, none⟩ = some (.int .i64 y.n) := fun x => by rw [hyy]; exact (HC.out x.W (fx x).fr i (by omega)).c0
                                  have f5 : ∀ x : Wd wr, x.W.cell? ⟨ab, aof + i * 2 + 1, none⟩ = some (.slice y.ao y.L y.cap) := fun x => by rw [hyy]; exact (HC.out x.W (fx x).fr i (by omega)).c1
                                  have f6 : ∀ x : Wd wr, x.W.cell? ⟨ab, aof + nk * 2, none⟩ = some (.int .i64 z.n) := fun x => by rw [hzz]; exact (HC.out x.W (fx x).fr nk (by omega)).c0
                                  have f7 : ∀ x : Wd wr, x.W.cell? ⟨ab, aof + nk * 2 + 1, none⟩ = some (.slice z.ao z.L z.cap) := fun x => by rw [hzz]; exact (HC.out x.W (fx x).fr nk (by omega)).c1
                                  have HNe : Hid (¬ NearW y.ws z.ws) := fun h => by
                                    rw [hyy, hzz] at h
                                    have hnr := (nearW_nr ts a i nk (by rw [← HL.out]; exact haL) HNa.out (by omega) hnk).1 h
                                    have he := (HSz.out wr HFi.out).t.free HNo2.out.1 HNo2.out.2 (by omega) hnr
                                    have := (enR_nat rs (i + 1)).1 (by rw [show ((i + 1 : Nat) : Int) = (i : Int) + 1 from by omega]; exact he)
                                    rw [← hb] at this
                                    cases this
                                  have HNr : Hid (∀ x : Wd wr, Calls Try.prog 14 #[.agg #[.int .i64 y.n, .slice y.ao y.L y.cap], .agg #[.int .i64 z.n, .slice z.ao z.L z.cap]] x.W fun e w' => e = .returned (.bool false) ∧ Fr [] x.W w') := fun x => by
                                    have a1 := HAt.out x.W (fx x).fr i (by omega)
                                    have a2 := HAt.out x.W (fx x).fr nk (by omega)
                                    rw [← hyy] at a1
                                    rw [← hzz] at a2
                                    exact near_any y.n z.n y.ao z.ao y.L y.cap z.L z.cap y.ws z.ws false x.W a1.rs a1.len a2.rs a2.len ⟨fun h => (by cases h), fun h => absurd h HNe.out⟩
                                  have hlk2 : i < L := by omega
                                  have hlk3 : nk < L := by omega
                                  clear fx hrl hyy hzz hb
                                  obtain ⟨yn, yo, yL, yc, yw⟩ := y
                                  obtain ⟨zn, zo, zL, zc, zw⟩ := z
                                  simp only at f4 f5 f6 f7 HNr
                                  go_upto_region 50 with fail
                                  refine wp_region_wd (w1 := wr) (by kernel_rfl) (by kernel_rfl) (Fr.refl _ _) ?_
                                  repeat (go_big_quiet_step ((go_at_call 14; with_reducible refine (HNr.out _).mono ?_; exact fun e w3 hh => ⟨hh.1, ⟨_, Fr.then (Wd.h _) hh.2⟩, rfl⟩)))
                                  refine wpQuiet_nil ?_
                                  rintro _ ⟨x, rfl⟩
                                  go_wp2_with fail
                                  go_roundw
                                  case rel => exact ⟨i + 1, by simp, by omega, HFi.out.then x.h⟩
                                  case measure => simp [RowKit.intOf]; omega
                            · obtain rfl : nk = i := by omega
                              have hnl : ¬ ((nk : Int) + 1 < (nk : Int) + 1) := by omega
                              have hS := HSz.out wr HFi.out
                              have HS9 : Hid (St ts L w tb g1 g2 g3 a s B rs tl wl wr) := hS
                              have HDo : Hid (Calls _ _ _ _ _) := tl_done ((nk : Int) + 1) wr hS.t HNo2.out.1 HNo2.out.2
                              have hl1 : g1 < wr.heap.size := lt_of_block hS.r1
                              have hl2 : g2 < wr.heap.size := lt_of_block hS.r2
                              obtain ⟨wn, hwn⟩ : ∃ wn, wn = wr := ⟨_, rfl⟩
                              subst hwn
                              clear hS HSz HFi hFz HC HAt e3
                              go_wp2_with fail
                              refine Calls.mono HDo.out ?_
                              rintro e wq ⟨zo, Z, zc, zs, rfl, hOz, hDz, hTz, hFq⟩
                              have hS := HS9.out
                              have hr1 := hS.r1.keep hFq hS.n1
                              have hr2 := hS.r2.keep hFq hS.n2
                              have hr3 := hS.r3.keep hFq hS.n3
                              have hnl2 : nk + 1 < rs.length := by rw [hS.tt.rl]; omega
                              have hcg := hr1.cell (nk + 1) hnl2
                              have hfg := hr1.free (nk + 1)
                              have hef : rs.getD (nk + 1) false = false := by
                                cases hh : rs.getD (nk + 1) false with
                                | false => rfl
                                | true => exact absurd ((enR_nat rs (nk + 1)).2 hh) (by rw [show ((nk + 1 : Nat) : Int) = (nk : Int) + 1 from by omega]; exact HNo2.out.1.2)
                              obtain ⟨wp, HWp⟩ : ∃ wp, Hid (wq.setCell ⟨g1, nk + 1, none⟩ (.bool true) = wp) := ⟨_, rfl⟩
                              have hFp : Fr [g1] wq wp := by rw [← HWp.out]; exact Fr.set _ _ _ (by simp)
                              have HP : Hid (Tl wp tb B (65 * a) (LT ts a) (enR (rs.set (nk + 1) true)) ∧ BR wp g1 (rs.set (nk + 1) true) ∧ NR wp g2 tl ∧ BR wp g3 wl ∧ Fr [] w wp ∧ IOw wn.heap.size wp zo Z zc zs) := by
                                have e : enR (rs.set (nk + 1) true) = fun x => enR rs x ∨ x = (nk : Int) + 1 := by rw [enR_set rs (nk + 1) hnl2]; rfl
                                refine ⟨?_, ?_, hr2.keep hFp (by simp; omega), hr3.keep hFp (by simp; omega), (hS.fr.on hFq hS.b).on hFp (by simp; omega), hOz.keepS hFp (fun k hk => ?_)⟩
                                · rw [e]
                                  exact hTz.keep hFp (fun j hj => by simpa using fun e => hS.n1 (by rw [← e]; exact hj))
                                · rw [← HWp.out]; exact hr1.put _ _
                                · have := (hOz.blk hk).1
                                  simp
                                  omega
                              have HDz : Hid (DoT (LT ts a) (Op11 (LT ts a) (enR rs)) ((nk : Int) + 1) zs) := hDz
                              have HZl : Hid (Z = zs.length) := hOz.len
                              have hZ40 : Z ≤ 40 := by
                                rw [hOz.len]
                                refine Nat.le_trans (hDz.1.few (a := 1) (n := a) (fun x hx => ?_)) (by omega)
                                obtain ⟨⟨h1, _⟩, _⟩ := (hDz.2 x).1 hx
                                obtain ⟨j, hj, rfl⟩ := (LT_num ts a (by rw [← HL.out]; exact haL) HNa.out x).1 h1
                                omega
                              have hn1L : nk + 1 < L + 1 := by omega
                              have HEf : Hid (rs.getD (nk + 1) false = false ∧ nk + 1 < rs.length) := ⟨hef, hnl2⟩
                              clear hS hr1 hr2 hr3 hFq hFp hOz hDz hTz HDo hef hnl2
                              go_upto_region 56 with fail
                              rw [HWp.out]
                              clear HWp hcg hfg
                              go_wp2_with fail
                              go_loopw [27] (fun ii wr => ∃ (i : Nat) (tli : List Int), ii = .int .i64 i ∧ i ≤ Z ∧ Hid (NR wr g2 tli ∧ tli.length = L + 1 ∧ ∀ o : Nat, o ≤ L → tli.getD o 0 = tl.getD o 0 + if (o : Int) ∈ zs.take i then 1 else 0) ∧ Hid (Fr [g2] wp wr)) (fun ii _ => Z - (RowKit.intOf ii).toNat)
                              case atStart => exact ⟨0, tl, rfl, Nat.zero_le _, ⟨HP.out.2.2.1, HS9.out.tt.tll, fun o _ => by simp⟩, Fr.refl _ _⟩
                              case round =>
                                obtain ⟨i, tli, rfl, hiZ, HTi, HFi⟩ := hrel
                                by_cases hi4 : i < Z
                                · as_aux_lemma =>
                                    have hil : i < zs.length := by rw [← HZl.out]; exact hi4
                                    have hmem := igetD_mem zs i hil
                                    obtain ⟨h1, h2, h3⟩ := (HDz.out.2 _).1 hmem
                                    obtain ⟨zk, hzk, hze⟩ := (LT_num ts a (by rw [← HL.out]; exact haL) HNa.out _).1 h1.1
                                    have hrow := HP.out.2.2.2.2.2.keepS HFi.out (fun k hk => by
                                      have := (HP.out.2.2.2.2.2.blk hk).1
                                      simp
                                      omega)
                                    obtain ⟨zg, rfl, hzg, _, hzc⟩ := hrow.cells (by omega)
                                    have hc1 := hzc i hi4
                                    rw [hze] at hc1 h1 h2 h3
                                    have hlt := (h2.lt HP.out.1.ris).2.1
                                    obtain ⟨v, hv⟩ : ∃ v, v = tli.getD (zk + 1) 0 := ⟨_, rfl⟩
                                    have hc2 := HTi.out.1.cell (zk + 1) (by rw [HTi.out.2.1]; omega)
                                    have hf2 := HTi.out.1.free (zk + 1)
                                    rw [← hv] at hc2
                                    have hvv : 0 ≤ v ∧ v ≤ 2 := by
                                      rw [hv, HTi.out.2.2 (zk + 1) (by omega)]
                                      have := (HS9.out.tt.one (zk + 1) (by omega)).1
                                      split <;> omega
                                    have hv0 := hvv.1
                                    have hv2 := hvv.2
                                    have HV : Hid (v = tli.getD (zk + 1) 0) := hv
                                    have hns := ris_take zs HDz.out.1 i hil
                                    rw [hze] at hns
                                    have HTn : Hid (∀ o : Nat, o ≤ L → (tli.set (zk + 1) (v + 1)).getD o 0 = tl.getD o 0 + if (o : Int) ∈ zs.take (i + 1) then 1 else 0) := fun o ho => by
                                      have hmm : ((o : Int) ∈ zs.take (i + 1)) ↔ ((o : Int) ∈ zs.take i ∨ o = zk + 1) := by
                                        rw [itake_snoc11 zs i hil, List.mem_append, hze, List.mem_singleton]
                                        constructor
                                        · rintro (h | h)
                                          · exact Or.inl h
                                          · exact Or.inr (by omega)
                                        · rintro (h | h)
                                          · exact Or.inl h
                                          · exact Or.inr (by omega)
                                      by_cases e : o = zk + 1
                                      · subst e
                                        rw [List.getD_eq_getElem?_getD, List.getElem?_set_self (by rw [HTi.out.2.1]; omega), if_pos (hmm.2 (Or.inr rfl))]
                                        have := HTi.out.2.2 (zk + 1) (by omega)
                                        rw [← HV.out, if_neg (by rw [show ((zk + 1 : Nat) : Int) = (zk : Int) + 1 from by omega]; exact hns)] at this
                                        simp only [Option.getD_some]
                                        omega
                                      · rw [List.getD_eq_getElem?_getD, List.getElem?_set_ne (fun h => e h.symm), ← List.getD_eq_getElem?_getD, HTi.out.2.2 o ho]
                                        by_cases h5 : (o : Int) ∈ zs.take i
                                        · rw [if_pos h5, if_pos (hmm.2 (Or.inl h5))]
                                        · rw [if_neg h5, if_neg (fun h => (hmm.1 h).elim h5 e)]
                                    obtain ⟨wy, HWy⟩ : ∃ wy, Hid (wr.setCell ⟨g2, zk + 1, none⟩ (.int .i64 (v + 1)) = wy) := ⟨_, rfl⟩
                                    have hFy : Fr [g2] wr wy := by rw [← HWy.out]; exact Fr.set _ _ _ (by simp)
                                    have HNy : Hid (NR wy g2 (tli.set (zk + 1) (v + 1))) := by show NR _ _ _; rw [← HWy.out]; exact HTi.out.1.put _
                                    have hcy : wy.cell? ⟨zg, i, none⟩ = some (.int .i64 ((zk : Int) + 1)) := far_cell11 hFy hc1 (World.block_lt_of_cell? wr _ (by rw [hc1])) (by simp; omega)
                                    have hTy : Tl wy tb B (65 * a) (LT ts a) (enR (rs.set (nk + 1) true)) := (HP.out.1.keep HFi.out (fun j hj => by simpa using fun e => HS9.out.n2 (by rw [← e]; exact hj))).keep hFy (fun j hj => by simpa using fun e => HS9.out.n2 (by rw [← e]; exact hj))
                                    have hen2 : ∀ x, enR (rs.set (nk + 1) true) x ↔ enR rs x ∨ x = (nk : Int) + 1 := fun x => by rw [enR_set rs (nk + 1) HEf.out.2]; exact Iff.rfl
                                    have hop : Op11 (LT ts a) (enR (rs.set (nk + 1) true)) ((zk : Int) + 1) := ⟨h1.1, fun he => by
                                      rcases (hen2 _).1 he with h | h
                                      · exact h1.2 h
                                      · omega⟩
                                    have HWt : Hid (Calls _ _ _ _ _) := tl_waits ((zk : Int) + 1) wy hTy hop
                                    have HNone : Hid (∀ m, Op11 (LT ts a) (enR (rs.set (nk + 1) true)) m → ¬ Dep (LT ts a) ((zk : Int) + 1) m) := fun m hm hd => by
                                      have hm2 : Op11 (LT ts a) (enR rs) m ∧ m ≠ (nk : Int) + 1 := ⟨⟨hm.1, fun h => hm.2 ((hen2 m).2 (Or.inl h))⟩, fun h => hm.2 ((hen2 m).2 (Or.inr h))⟩
                                      exact h3 m hm2.1 hm2.2 hd
                                    have HLn : Hid ((tli.set (zk + 1) (v + 1)).length = L + 1) := by show _ = _; rw [List.length_set]; exact HTi.out.2.1
                                    have HFy : Hid (Fr [g2] wp wy) := HFi.out.then hFy
                                    have hdd1 : decide ((zk : Int) + 1 ≤ (nk : Int) + 1) = false := by simp; omega
                                    have hdd2 : decide ((zk : Int) ≤ (nk : Int)) = false := by simp; omega
                                    have hdd3 : decide (zk ≤ nk) = false := by simp; omega
                                    have hdd4 : decide ((a : Int) < (zk : Int) + 1) = false := by simp; omega
                                    have hzL : zk + 1 < L + 1 := by omega
                                    have hnz : (nk : Int) < zk := by omega
                                    have hza : ¬ ((a : Int) < (zk : Int) + 1) := by omega
                                    clear hmem h1 h2 h3 hze hrow hzc hv hvv hns hFy hTy hen2 hop HV hlt
                                    go_upto_region 62 with fail
                                    rw [HWy.out]
                                    clear HWy
                                    go_wp2_with fail
                                    refine Calls.mono HWt.out ?_
                                    rintro e wv ⟨yo, Y, yc, ys, rfl, hOy, hWy, hFv⟩
                                    have hY : Y = 0 := by
                                      rw [hOy.len, List.length_eq_zero_iff]
                                      exact List.eq_nil_iff_forall_not_mem.2 (fun m hm => by have := (hWy.2 m).1 hm; exact HNone.out m this.1 this.2)
                                    subst hY
                                    have HNv := HNy.out.keep hFv (by simp)
                                    have HNv : Hid (NR wv g2 _) := HNv
                                    have HFv : Hid (Fr [g2] wp wv) := HFy.out.then (hFv.mono (by simp))
                                    clear hOy hWy hFv
                                    go_wp2
                                    go_roundw
                                    case rel => exact ⟨i + 1, _, by simp, by omega, ⟨HNv.out, HLn.out, HTn.out⟩, HFv.out⟩
                                    case measure => simp [RowKit.intOf]; omega
                                · obtain rfl : Z = i := by omega
                                  have hTi := HTi.out
                                  rw [List.take_of_length_le (by rw [← HZl.out]; exact Nat.le_refl _)] at hTi
                                  have hS := HS9.out
                                  have HX : Hid (St ts L w tb g1 g2 g3 a (s + 1) B (rs.set (nk + 1) true) tli wl wr) := by
                                    have hP := HP.out
                                    have hnb : ∀ j ∈ B, j ∉ [g2] := fun j hj => by simpa using fun e => hS.n2 (by rw [← e]; exact hj)
                                    refine ⟨hP.1.keep HFi.out hnb, hS.b, hS.n1, hS.n2, hS.n3, hP.2.1.keep HFi.out (by simp; omega), hTi.1, hP.2.2.2.1.keep HFi.out (by simp; omega), ?_, hP.2.2.2.2.1.on HFi.out (by simp; omega), hS.al, by rw [cnt_set rs (nk + 1) HEf.out.2 HEf.out.1]; have := hS.st; omega⟩
                                    refine hS.tt.done (n := nk + 1) (zs := zs) hP.1.ris hS.t.order ?_ ?_ ⟨by omega, by omega⟩ hTi.2.1 hTi.2.2
                                    · rw [show ((nk + 1 : Nat) : Int) = (nk : Int) + 1 from by omega]; exact HNo2.out.1
                                    · rw [show ((nk + 1 : Nat) : Int) = (nk : Int) + 1 from by omega]; exact HDz.out
                                  clear hTi hS
                                  go_wp2
                                  go_roundw
                                  case rel => exact ⟨a, s + 1, B, _, tli, wl, by simp, by simp, HX.out⟩
                                  case measure => simp [RowKit.intOf]; omega
end Go.Proofs.Ytdcmjoildfofcaa.depsEnds

/- How many steps a log takes: the program's Log. Conditions: the slices hold no more than fits. -/
import Derived.Test.YtdojhkgnnbdfkaaLm22
namespace Go.Proofs.Ytdojhkgnnbdfkaa
open Go.ChangeShapes Go.WideShapes Go.ChangeAt Go.RowKit Go.Lib
set_option linter.unusedVariables false
set_option linter.unusedSimpArgs false

/-- What stands when the loop begins its round i: in slot 2 what is left beyond, in slot 8 the steps so far. -/
structure LgI (base : Nat) (w wr : World) (ds : List Tm) (bs : List Int) (i : Nat) (v2 v8 : Value) : Prop where
  ex : ∃ (q acc : List Int) (so : Option Addr) (n c : Nat) (eo : Option Addr) (N ec : Nat), v2 = .slice so n c ∧ v8 = .slice eo N ec ∧ n = q.length ∧ n ≤ c ∧ N = i ∧ Hid (∀ W, Fr [] w W → IRs W so q) ∧ Hid (IOw base wr eo N ec acc) ∧ Hid (acc ++ stL (ds.drop i) q = stL ds bs)
  fr : Fr [] w wr

set_option maxHeartbeats 8000000 in
set_option maxRecDepth 100000 in
theorem nlog_ok (ao : Option Addr) (L cap : Nat) (ts : List Tm) (M : Nat) (bo : Option Addr) (Lb cb : Nat) (bs : List Int) (w : World) (hT : TRs w ao ts) (hL : L = ts.length) (hcap : L ≤ cap) (hI : IRs w bo bs) (hLb : Lb = bs.length) (hcb : Lb ≤ cb) (hok : LgOk ts (M : Int) bs) :
    Calls Try.prog 12 #[.slice ao L cap, .int .i64 (M : Int), .slice bo Lb cb] w fun e w' => e = .returned (.tuple #[.int .i64 (sumI (stL (ts.drop M) bs)), .int .i64 0]) ∧ Fr [] w w' := by
  obtain ⟨ho1, _, ho2, ho3⟩ := hok
  obtain ⟨hok1, hfew⟩ := okL_ts ho1
  have hML : M ≤ L := by omega
  have hL6 : L ≤ 65536 := by omega
  obtain ⟨cc, hcc⟩ := Bad.ex (txs ts) 1
  have hc0 : cc = 0 := hcc.ok.2 ho1
  subst hc0
  have HCk : Hid (∀ W, Fr [] w W → Calls Try.prog 23 #[.slice ao L cap] W fun e w' => e = .returned (.int .i64 0) ∧ Fr [] W w') := fun W hf => lcheck_any ao L cap 0 ts W (hT.keep hf) hL hcc
  have HMb : Hid (∀ W, Fr [] w W → Calls Try.prog 24 #[.slice bo Lb cb, .int .i64 (M : Int), .int .i64 (L : Int)] W fun e w' => e = .returned (.bool true) ∧ Fr [] W w') := fun W hf => (nmayb_any bo Lb cb bs M L W (hI.keep hf) hLb (by omega)).mono (by
    rintro e w' ⟨⟨B, rfl, hB⟩, h2⟩
    have : B = true := hB.2 (by rw [hL]; exact ho3)
    subst this
    exact ⟨rfl, h2⟩)
  obtain ⟨so, hs1, hs2, hs3⟩ := slice_lowT ao L cap M hML hcap
  have HTd : Hid (∀ W, Fr [] w W → TRs W so (ts.drop M)) := fun W hf => (hT.keep hf).drop22 M (fun h => hs3 (by omega))
  have HI0 : Hid (∀ W, Fr [] w W → IRs W bo bs) := fun W hf => hI.keep hf
  have hDl : (ts.drop M).length = L - M := by rw [List.length_drop]; omega
  have HOk : Hid (∀ t ∈ ts.drop M, okT t.n t.ws) := fun t ht => hok1 t (List.mem_of_mem_drop ht)
  have HLb : Hid (Lb = bs.length) := hLb
  generalize ts.drop M = ds at HTd hDl HOk ⊢
  clear hok1 hfew ho1 ho2 ho3 hT hI hcc hs3 hL hLb
  obtain ⟨D, hD⟩ : ∃ D, D = L - M := ⟨_, rfl⟩
  rw [← hD] at hDl hs1 hs2
  have HDl : Hid (ds.length = D) := hDl
  have hD6 : D ≤ 65536 := by omega
  have hcM : D ≤ cap - M := by omega
  generalize cap - M = cM at hs1 hs2 hcM
  clear hDl hD
  have n1 : ((0 : Int) != 0) = false := rfl
  have n2 : decide ((M : Int) < 0) = false := by simp
  have n3 : decide ((L : Int) < (M : Int)) = false := by simp; omega
  have hn2 : ¬ ((M : Int) < 0) := by omega
  have hn3 : ¬ ((L : Int) < (M : Int)) := by omega
  go_enter Try.func12, Try.ntmps12
  go_wp2_with fail
  refine (HCk.out _ (Fr.refl _ _)).mono ?_
  rintro e w1 ⟨rfl, hF1⟩
  go_wp2_with fail
  refine (HMb.out _ hF1).mono ?_
  rintro e w2 ⟨rfl, hF2⟩
  have HF2 : Hid (Fr [] w w2) := hF1.then hF2
  clear HCk HMb hF1 hF2
  go_wp2_with fail
  have n4 : decide (L < M) = false := by simp; omega
  simp only [n4]
  go_loopw [2, 8, 37] (fun v2 v8 ii wr => ∃ (i : Nat), ii = .int .i64 i ∧ i ≤ D ∧ LgI w.heap.size w wr ds bs i v2 v8) (fun _ _ ii _ => D - (intOf ii).toNat)
  case atStart => exact ⟨0, rfl, Nat.zero_le _, ⟨⟨bs, [], bo, Lb, cb, none, 0, 0, rfl, rfl, HLb.out, hcb, rfl, HI0.out, IOw.nil _ _, by show _ = _; simp⟩, HF2.out⟩⟩
  case round =>
    obtain ⟨i, rfl, hiD, ⟨⟨q, acc, qo, n, c, eo, N, ec, rfl, rfl, hn, hnc, hN, HQ, HE, HS⟩, hF⟩⟩ := hrel
    subst hN
    by_cases hi : N < D
    · have hi' : N < ds.length := by rw [HDl.out]; exact hi
      have hT := HTd.out _ hF
      obtain ⟨bb, off, rfl, _, hc⟩ := hT.lies (by omega)
      obtain ⟨d0, d1⟩ := hc N hi'
      have hk := HOk.out _ (tgetD_mem ds N hi')
      have hat := (HTd.out _ (Fr.refl _ _)).each _ (tgetD_mem ds N hi')
      have HS1 : Hid (acc ++ stL (ds.getD N Tm.zero :: ds.drop (N + 1)) q = stL ds bs) := by
        show _ = _
        rw [← tdrop22 ds N hi']
        exact HS.out
      generalize ds.getD N Tm.zero = t at d0 d1 hk hat HS1
      obtain ⟨num, wo, wL, wc, ws⟩ := t
      simp only at d0 d1 hk hat
      have HOf : Hid (∀ sk W, Fr [] w W → Calls Try.prog 19 #[.agg #[.int .i64 num, .slice wo wL wc], .bool sk] W fun e w' => e = .returned (.int .i64 (tnC ws sk : Int)) ∧ Fr [] W w') := fun sk W hf => noftxn_any num wo wL wc ws sk W (TArg.keep hat hf) hk
      have HSn : Hid (acc ++ ((tnC ws (hits num q) : Nat) : Int) :: stL (ds.drop (N + 1)) (nxt num q) = stL ds bs) := HS1.out
      clear HS HS1 hk hat hc hT
      obtain ⟨w3, HW3⟩ : ∃ w3, Hid (wr.alloc (.cells #[.int .i64 num, .slice wo wL wc] 24) = w3) := ⟨_, rfl⟩
      obtain ⟨B9, HB9⟩ : ∃ B9, Hid (B9 = wr.heap.size) := ⟨_, rfl⟩
      have hF3 : Fr [] wr w3 := by rw [← HW3.out]; exact Fr.alloc [] wr _
      have hby : w3.heap[B9]? = some (.cells #[.int .i64 num, .slice wo wL wc] 24 (0, 0)) := by rw [← HW3.out, HB9.out]; exact heap_alloc_new wr _
      have e0 : w3.cell? ⟨B9, 0, none⟩ = some (.int .i64 num) := by rw [cell_of_row _ _ _ _ _ _ hby]; rfl
      have e1 : w3.cell? ⟨B9, 1, none⟩ = some (.slice wo wL wc) := by rw [cell_of_row _ _ _ _ _ _ hby]; rfl
      have hG3 : Fr [] w w3 := hF.then hF3
      clear hby
      go_upto_region 7 with fail
      rw [HW3.out, ← HB9.out]
      clear HW3 HB9 d0 d1
      cases q with
      | nil =>
        obtain rfl : n = 0 := hn
        have HS2 : Hid ((acc ++ [((tnC ws false : Nat) : Int)]) ++ stL (ds.drop (N + 1)) [] = stL ds bs) := by
          show _ = _
          rw [List.append_assoc]
          exact HSn.out
        clear HSn
        go_quiet (fail)
        go_wp2_with fail
        refine (HOf.out false _ (hG3.then (by first | exact Fr.drewN [] _ _ | exact Fr.drew [] _ | exact Fr.refl _ _))).mono ?_
        rintro e w5 ⟨rfl, hF5⟩
        have HW : Hid (Fr [] wr w5) := (hF3.then (by first | exact Fr.drewN [] _ _ | exact Fr.drew [] _ | exact Fr.refl _ _)).then hF5
        have HO2 : Hid (∀ W, Fr [] w5 W → IOw w.heap.size W eo N ec acc) := fun W hf => HE.out.keep (HW.out.then hf)
        have HB2 : Hid (∀ W W', Fr [] w5 W → Fr (Value.slice eo N ec).ownBlock.toList W W' → Fr [] w W') := fun W W' h1 h2 => HE.out.on (Nat.le_refl _) hF (HW.out.then h1) h2
        have hsz : w.heap.size ≤ w5.heap.size := Nat.le_trans hF.size HW.out.size
        clear hF5 hF3 hG3 e0 e1
        go_wp2_with (first
          | (at_builtin; refine wpList_appI w.heap.size _ rfl _ _ rfl eo N ec acc rfl (HO2.out _ (Fr.alloc [] _ _)) _ _ ((tnC ws false : Nat) : Int) rfl ?hcell (by omega) ?hsize ?_
             case hcell => exact cell_new1 _ _ _
             case hsize => simp; omega
             intro o' c' w9 hO9 hF9 _
             have HR9 : Hid (_ ∧ _) := ⟨hO9, HB2.out _ _ (Fr.alloc [] _ _) hF9⟩
             clear hO9 hF9
             go_frame)
          | fail)
        go_roundw
        case rel => exact ⟨N + 1, by simp, by omega, ⟨⟨[], acc ++ [((tnC ws false : Nat) : Int)], qo, 0, c, o', N + 1, c', rfl, rfl, rfl, hnc, rfl, HQ, HR9.out.1, HS2.out⟩, HR9.out.2⟩⟩
        case measure => simp [intOf]; omega
      | cons x q =>
        obtain ⟨n, rfl⟩ : ∃ m, n = m + 1 := ⟨q.length, hn⟩
        obtain ⟨qb, qf, rfl, g0⟩ := (HQ.out _ hG3).cell22
        have hnq : n = q.length := by simpa using hn
        have HNq : Hid (n = q.length) := hnq
        clear hnq hn
        by_cases hx : x = num
        · have hxe : (x == num) = true := by simp [hx]
          have HS2 : Hid ((acc ++ [((tnC ws true : Nat) : Int)]) ++ stL (ds.drop (N + 1)) q = stL ds bs) := by
            show _ = _
            have h := HSn.out
            simp only [hits, nxt, hxe, if_true, List.tail_cons] at h
            rw [List.append_assoc]
            exact h
          obtain ⟨so2, hz1, hz2, hz3⟩ := slice_oneI (some ⟨qb, qf, none⟩) (n + 1) c (by omega) hnc
          have HQ2 : Hid (∀ W, Fr [] w W → IRs W so2 q) := fun W hf => (HQ.out W hf).drop22 (fun h => hz3 (by rw [HNq.out]; omega))
          rw [show n + 1 - 1 = n from by omega] at hz1 hz2
          have hnc2 : n ≤ c - 1 := by omega
          generalize c - 1 = c1 at hz1 hz2 hnc2
          clear HSn hx hz3
          go_quiet (fail)
          go_wp2_with fail
          refine (HOf.out true _ (hG3.then (by first | exact Fr.drewN [] _ _ | exact Fr.drew [] _ | exact Fr.refl _ _))).mono ?_
          rintro e w5 ⟨rfl, hF5⟩
          have HW : Hid (Fr [] wr w5) := (hF3.then (by first | exact Fr.drewN [] _ _ | exact Fr.drew [] _ | exact Fr.refl _ _)).then hF5
          have HO2 : Hid (∀ W, Fr [] w5 W → IOw w.heap.size W eo N ec acc) := fun W hf => HE.out.keep (HW.out.then hf)
          have HB2 : Hid (∀ W W', Fr [] w5 W → Fr (Value.slice eo N ec).ownBlock.toList W W' → Fr [] w W') := fun W W' h1 h2 => HE.out.on (Nat.le_refl _) hF (HW.out.then h1) h2
          have hsz : w.heap.size ≤ w5.heap.size := Nat.le_trans hF.size HW.out.size
          clear hF5 hF3 hG3 e0 e1
          go_wp2_with (first
            | (at_builtin; refine wpList_appI w.heap.size _ rfl _ _ rfl eo N ec acc rfl (HO2.out _ (Fr.alloc [] _ _)) _ _ ((tnC ws true : Nat) : Int) rfl ?hcell (by omega) ?hsize ?_
               case hcell => exact cell_new1 _ _ _
               case hsize => simp; omega
               intro o' c' w9 hO9 hF9 _
               have HR9 : Hid (_ ∧ _) := ⟨hO9, HB2.out _ _ (Fr.alloc [] _ _) hF9⟩
               clear hO9 hF9
               go_frame)
            | fail)
          go_roundw
          case rel => exact ⟨N + 1, by simp, by omega, ⟨⟨q, acc ++ [((tnC ws true : Nat) : Int)], so2, n, c1, o', N + 1, c', rfl, rfl, HNq.out, hnc2, rfl, HQ2, HR9.out.1, HS2.out⟩, HR9.out.2⟩⟩
          case measure => simp [intOf]; omega
        · have hxe : (x == num) = false := by simp [hx]
          have HS2 : Hid ((acc ++ [((tnC ws false : Nat) : Int)]) ++ stL (ds.drop (N + 1)) (x :: q) = stL ds bs) := by
            show _ = _
            have h := HSn.out
            simp only [hits, nxt, hxe, Bool.false_eq_true, if_false] at h
            rw [List.append_assoc]
            exact h
          clear HSn hx
          go_quiet (fail)
          go_wp2_with fail
          refine (HOf.out false _ (hG3.then (by first | exact Fr.drewN [] _ _ | exact Fr.drew [] _ | exact Fr.refl _ _))).mono ?_
          rintro e w5 ⟨rfl, hF5⟩
          have HW : Hid (Fr [] wr w5) := (hF3.then (by first | exact Fr.drewN [] _ _ | exact Fr.drew [] _ | exact Fr.refl _ _)).then hF5
          have HO2 : Hid (∀ W, Fr [] w5 W → IOw w.heap.size W eo N ec acc) := fun W hf => HE.out.keep (HW.out.then hf)
          have HB2 : Hid (∀ W W', Fr [] w5 W → Fr (Value.slice eo N ec).ownBlock.toList W W' → Fr [] w W') := fun W W' h1 h2 => HE.out.on (Nat.le_refl _) hF (HW.out.then h1) h2
          have hsz : w.heap.size ≤ w5.heap.size := Nat.le_trans hF.size HW.out.size
          clear hF5 hF3 hG3 e0 e1
          go_wp2_with (first
            | (at_builtin; refine wpList_appI w.heap.size _ rfl _ _ rfl eo N ec acc rfl (HO2.out _ (Fr.alloc [] _ _)) _ _ ((tnC ws false : Nat) : Int) rfl ?hcell (by omega) ?hsize ?_
               case hcell => exact cell_new1 _ _ _
               case hsize => simp; omega
               intro o' c' w9 hO9 hF9 _
               have HR9 : Hid (_ ∧ _) := ⟨hO9, HB2.out _ _ (Fr.alloc [] _ _) hF9⟩
               clear hO9 hF9
               go_frame)
            | fail)
          go_roundw
          case rel => exact ⟨N + 1, by simp, by omega, ⟨⟨x :: q, acc ++ [((tnC ws false : Nat) : Int)], (some ⟨qb, qf, none⟩), n + 1, c, o', N + 1, c', rfl, rfl, (by rw [HNq.out]; rfl), hnc, rfl, HQ, HR9.out.1, HS2.out⟩, HR9.out.2⟩⟩
          case measure => simp [intOf]; omega
    · obtain rfl : N = D := by omega
      have HS2 : Hid (acc = stL ds bs) := by
        have h := HS.out
        rw [← HDl.out, List.drop_length] at h
        show _ = _
        simpa [stL] using h
      have HT : Hid (Calls Try.prog 25 #[.slice eo N ec] wr fun e w' => e = .returned (.int .i64 (sumI (stL ds bs))) ∧ Fr [] wr w') := by
        have h := ntotal_any eo N ec acc wr (HE.out.irs22 (by omega)) HE.out.len (by rw [HS2.out]; exact stL_le ds bs HOk.out) (by omega)
        rw [HS2.out] at h
        exact h
      clear hi hiD HS
      go_wp2_with fail
      refine HT.out.mono ?_
      rintro e w4 ⟨rfl, hF4⟩
      go_wp2_with fail
      go_ret2
      exact ⟨rfl, hF.then hF4⟩
end Go.Proofs.Ytdojhkgnnbdfkaa

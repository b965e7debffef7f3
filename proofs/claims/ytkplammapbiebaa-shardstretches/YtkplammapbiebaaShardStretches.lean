/- For every list of parts and every two texts the law ShardStretches returns true, and the list reads as it did. No conditions. -/
import Derived.Test.YtkplammapbiebaaHa9
namespace Go.Proofs.Ytkplammapbiebaa.shardStretches
open Go.ChangeShapes Go.WideShapes Go.ChangeAt Go.RowKit Go.Lib Go.Maps Go.ChangeMaps
set_option linter.unusedVariables false
set_option linter.unusedSimpArgs false

theorem noB : (⟨#[]⟩ : ByteArray) = noS := rfl
theorem atMark_all (M : ByteArray → List Vn) (k : Int) (s : ByteArray) : atMark M ⟨#[]⟩ ⟨#[]⟩ k s = valAt (M s) k := by
  unfold atMark
  rw [if_pos (inS_all2 s)]
theorem part_is {M : ByteArray → List Vn} {key en : ByteArray} {k : Int} {qs ps : List Pr} (h : Is (atMark M ⟨#[]⟩ ⟨#[]⟩ k) ps) (hq : Is (atMark M key en k) qs) : qs = ps.filter fun p => inS key en p.1 := by
  refine hq.unique ((h.filter (inS key en)).cong fun s => ?_)
  rw [atMark_all]
  rfl
theorem both_is {M : ByteArray → List Vn} {key : ByteArray} {k : Int} {ps qs rs : List Pr} (h : Is (atMark M ⟨#[]⟩ ⟨#[]⟩ k) ps) (hk : key.toList ≠ []) (hq : Is (atMark M ⟨#[]⟩ key k) qs) (hr : Is (atMark M key ⟨#[]⟩ k) rs) : qs ++ rs = ps := by
  rw [part_is h hq, part_is h hr]
  have e1 : ps.filter (fun p => inS ⟨#[]⟩ key p.1) = ps.filter (fun p => Op.bytesLess p.1.toList key.toList) := List.filter_congr fun p _ => inS_lo key p.1 hk
  have e2 : ps.filter (fun p => inS key ⟨#[]⟩ p.1) = ps.filter (fun p => !(Op.bytesLess p.1.toList key.toList)) := List.filter_congr fun p _ => inS_hi key p.1
  rw [e1, e2]
  exact split_at h.inc key
theorem filt_get {ps : List Pr} (K : Pr → Bool) (i : Nat) (hi : i < ps.length) (hK : K (ps.getD i e0) = true) : ((ps.take i).filter K).length < (ps.filter K).length ∧ (ps.filter K).getD ((ps.take i).filter K).length e0 = ps.getD i e0 := by
  have e : ps = ps.take i ++ (ps.getD i e0 :: ps.drop (i + 1)) := by
    have h1 : ps.drop i = ps[i] :: ps.drop (i + 1) := List.drop_eq_getElem_cons hi
    have h2 : ps.getD i e0 = ps[i] := by simp [List.getD, hi]
    rw [h2, ← h1, List.take_append_drop]
  have e2 : ps.filter K = (ps.take i).filter K ++ (ps.getD i e0 :: (ps.drop (i + 1)).filter K) := by
    conv => lhs; rw [e]
    rw [List.filter_append, List.filter_cons, if_pos hK]
  rw [e2]
  constructor
  · simp
  · simp [List.getD]
theorem filt_step {ps : List Pr} (K : Pr → Bool) (i : Nat) (hi : i < ps.length) : (ps.take (i + 1)).filter K = (ps.take i).filter K ++ if K (ps.getD i e0) = true then [ps.getD i e0] else [] := by
  rw [List.take_add_one, List.filter_append]
  congr 1
  have h2 : ps.getD i e0 = ps[i] := by simp [List.getD, hi]
  rw [h2]
  simp only [List.getElem?_eq_getElem hi, Option.toList_some]
  by_cases hk : K ps[i] = true
  · rw [if_pos hk]; simp [hk]
  · rw [if_neg hk]; simp [hk]
set_option maxHeartbeats 16000000 in
set_option maxRecDepth 100000 in
theorem walk (ao : Option Addr) (L cap : Nat) (ps : List Pt) (key : ByteArray) (hkz : key.size ≤ 140737488355328) (en : ByteArray) (hez : en.size ≤ 140737488355328) (w : World) (hP : PRs w ao ps) (hL : L = ps.length) :
    Calls Try.prog 6 #[.slice ao L cap, .string key, .string en] w fun e w' => e = .returned (.bool true) ∧ Fr [] w w' := by
  have HL : Hid (L = ps.length) := hL
  have HP : Hid (∀ W, Fr [] w W → PRs W ao ps) := fun W hf => hP.keep hf
  have hLL : L ≤ 4398046511104 := by have := hP.few; omega
  clear hP hL
  go_enter Try.func6, Try.ntmps6
  go_wp2_with fail
  refine (alive9_any _).mono ?_
  rintro e w1 ⟨rfl, hF1⟩
  have HZ : Hid (Calls _ _ _ _ _) := size9_any ao L cap ps w1 (HP.out _ hF1) HL.out
  have HF1 : Hid (Fr [] w w1) := hF1
  clear hF1
  go_wp2_with fail
  refine Calls.mono HZ.out ?_
  rintro e w2 ⟨N0, rfl, hN0, hF2⟩
  have HF2 : Hid (Fr [] w w2) := HF1.out.then hF2
  clear HZ hF2 HF1
  go_wp2_with fail
  refine (beyond3_any w2.heap.size N0 key.size en.size _ hN0 (by omega) (by omega) (by simp) (by simp) (by simp)).mono ?_
  rintro e w3 ⟨B, rfl, _, rfl⟩
  obtain ⟨w3, HW3⟩ : ∃ w3, Hid (w2.alloc (.cells #[.int .i64 (N0 : Int), .int .i64 (key.size : Int), .int .i64 (en.size : Int)] 3) = w3) := ⟨_, rfl⟩
  rw [HW3.out]
  have HF3 : Hid (Fr [] w w3) := by rw [← HW3.out]; exact HF2.out.then (Fr.alloc [] _ _)
  clear HW3 HF2
  cases B with
  | true =>
    go_wp2_with fail
    refine (alive9_any _).mono ?_
    rintro e w4 ⟨rfl, hF4⟩
    go_wp2
    go_ret
    exact ⟨rfl, HF3.out.then hF4⟩
  | false =>
    have HFi : Hid (Calls _ _ _ _ _) := filled_any ao L cap ps w3 (HP.out _ HF3.out) HL.out
    go_wp2_with fail
    refine Calls.mono HFi.out ?_
    rintro e w4 ⟨sb, b, M, ri, Ni, rci, ins, rfl, hFil⟩
    have HS : Hid (∀ W, Fr [] w4 W → Sh w3 W sb b 200 M) := fun W hf => hFil.sh.keep hf
    have HF4 : Hid (Fr [] w w4) := HF3.out.then hFil.fr
    clear hFil HFi HF3 HP
    have HC : Hid (∀ W (k e : ByteArray), Fr [] w4 W → Calls Try.prog 15 #[.pointer (some ⟨sb, 0, none⟩), .string k, .string e, .int .i64 65536] W fun x w' => ∃ ro N rc qs, x = .returned (.slice ro N rc) ∧ ERs w' ro qs ∧ N = qs.length ∧ N ≤ 200 ∧ Is (atMark M k e 65536) qs ∧ Fr [] W w') := fun W k e hf => by
      refine (hScan_any k e 65536 W (HS.out W hf) (by omega)).mono ?_
      rintro x w' ⟨ro, N, rc, qs, rfl, h1, h2, h3, h4⟩
      exact ⟨ro, N, rc, qs, rfl, ers_of h1.row h1.len (by have := h1.len; omega), h1.len, h2, h3, h4⟩
    have HC1 : Hid (Calls _ _ _ _ _) := HC.out w4 ⟨#[]⟩ ⟨#[]⟩ (Fr.refl _ _)
    go_wp2_with fail
    refine Calls.mono HC1.out ?_
    rintro e w5 ⟨ra, Na, rca, as', rfl, hEa, hNa, hNa2, hIa, hF5⟩
    have HEa : Hid (∀ W, Fr [] w5 W → ERs W ra as') := fun W hf => hEa.keep hf
    have HF5 : Hid (Fr [] w4 w5) := hF5
    have HC2 : Hid (Calls _ _ _ _ _) := HC.out w5 key en hF5
    have HIa : Hid (Is (atMark M ⟨#[]⟩ ⟨#[]⟩ 65536) as' ∧ Na = as'.length) := ⟨hIa, hNa⟩
    clear HC1 hEa hF5 hIa hNa
    go_wp2_with fail
    refine Calls.mono HC2.out ?_
    rintro e w6 ⟨rb, Nb, rcb, bs, rfl, hEb, hNb, hNb2, hIb, hF6⟩
    have HEb : Hid (∀ W, Fr [] w6 W → ERs W rb bs ∧ ERs W ra as') := fun W hf => ⟨hEb.keep hf, HEa.out W (hF6.then hf)⟩
    have HF6 : Hid (Fr [] w4 w6) := HF5.out.then hF6
    have HIb : Hid (bs = as'.filter (fun p => inS key en p.1) ∧ Nb = bs.length) := ⟨part_is HIa.out.1 hIb, hNb⟩
    clear HC2 hEb hF6 hIb hNb HEa HF5
    have hE0 : (⟨#[]⟩ : ByteArray).toList = [] := (tl_nil _).2 rfl
    go_wp2_with fail
    go_loopw [11, 12] (fun nn ii wr => ∃ (q i : Nat), nn = .int .i64 q ∧ ii = .int .i64 i ∧ i ≤ Na ∧ q ≤ i ∧ Hid (q = ((as'.take i).filter (fun p => inS key en p.1)).length) ∧ Hid (Fr [] w6 wr)) (fun _ ii _ => Na - (RowKit.intOf ii).toNat)
    case atStart => exact ⟨0, 0, rfl, rfl, Nat.zero_le _, Nat.le_refl _, rfl, Fr.refl _ _⟩
    case round =>
      obtain ⟨q, i, rfl, rfl, hiN, hqi, HQ, HF⟩ := hrel
      by_cases hi : i < Na
      · have hi' : i < as'.length := by rw [← HIa.out.2]; exact hi
        have hEr := HEb.out _ HF.out
        obtain ⟨ga, rfl, c0, c1⟩ := hEr.2.at i hi'
        obtain ⟨x, hx⟩ : ∃ x, x = as'.getD i e0 := ⟨_, rfl⟩
        have HSt : Hid ((as'.take (i + 1)).filter (fun p => inS key en p.1) = (as'.take i).filter (fun p => inS key en p.1) ++ if inS key en x.1 = true then [x] else []) := by rw [hx]; exact filt_step _ i hi'
        have HGt : Hid (inS key en x.1 = true → q < bs.length ∧ bs.getD q e0 = x) := fun h => by
          have h2 := filt_get (ps := as') (fun p => inS key en p.1) i hi' (by rw [← hx]; exact h)
          rw [← HIb.out.1, ← HQ.out, ← hx] at h2
          exact h2
        rw [← hx] at c0 c1
        clear hx
        obtain ⟨xk, xv⟩ := x
        simp only at c0 c1 HSt HGt
        obtain ⟨G9, hG9⟩ : ∃ G, Op.bytesLess xk.toList key.toList = G := ⟨_, rfl⟩
        obtain ⟨E9, hE9⟩ : ∃ E, ((en.size : Int) == 0) = E := ⟨_, rfl⟩
        obtain ⟨K9, hK9⟩ : ∃ K, Op.bytesLess xk.toList en.toList = K := ⟨_, rfl⟩
        have hEE : (en.toList == ([] : List UInt8)) = E9 := by
          rw [← hE9]
          by_cases h0 : en.size = 0
          · rw [(tl_nil en).2 h0, h0]; rfl
          · have h1 : ¬ en.toList = [] := fun e => h0 ((tl_nil en).1 e)
            have h2 : ((en.size : Int) == 0) = false := by rw [beq_eq_false_iff_ne]; omega
            rw [h2]
            simpa using h1
        have hBB : inS key en xk = (!G9 && (E9 || K9)) := by rw [← hG9, ← hEE, ← hK9]; rfl
        have hway : (G9 = false ∧ E9 = true) ∨ (G9 = false ∧ E9 = false ∧ K9 = true) ∨ G9 = true ∨ (G9 = false ∧ E9 = false ∧ K9 = false) := by
          cases G9 <;> cases E9 <;> cases K9 <;> simp
        rw [hBB] at HSt HGt
        clear hBB hEE
        rcases hway with ⟨rfl, rfl⟩ | ⟨rfl, rfl, rfl⟩ | rfl | ⟨rfl, rfl, rfl⟩
        · have hgt := HGt.out (by simp)
          obtain ⟨gb, rfl, d0, d1⟩ := hEr.1.at q hgt.1
          rw [hgt.2] at d0 d1
          simp only at d0 d1
          have hqN : q < Nb := by rw [HIb.out.2]; exact hgt.1
          have hd1 : decide ((Nb : Int) ≤ (q : Int)) = false := by simp; omega
          have hd2 : decide (Nb ≤ q) = false := by simp; omega
          have HQ2 : Hid (q + 1 = ((as'.take (i + 1)).filter (fun p => inS key en p.1)).length) := by
            rw [HSt.out, if_pos (by simp), List.length_append, ← HQ.out]
            rfl
          clear hgt HGt HSt HQ hEr
          go_wp2_with fail
          go_quiet (fail)
          go_wp2_with fail
          go_roundw
          case rel => exact ⟨q + 1, i + 1, by simp, by simp, by omega, by omega, HQ2, HF.out.then (Fr.drewN _ _ _)⟩
          case measure => simp [RowKit.intOf]; omega
        · have hgt := HGt.out (by simp)
          obtain ⟨gb, rfl, d0, d1⟩ := hEr.1.at q hgt.1
          rw [hgt.2] at d0 d1
          simp only at d0 d1
          have hqN : q < Nb := by rw [HIb.out.2]; exact hgt.1
          have hd1 : decide ((Nb : Int) ≤ (q : Int)) = false := by simp; omega
          have hd2 : decide (Nb ≤ q) = false := by simp; omega
          have HQ2 : Hid (q + 1 = ((as'.take (i + 1)).filter (fun p => inS key en p.1)).length) := by
            rw [HSt.out, if_pos (by simp), List.length_append, ← HQ.out]
            rfl
          clear hgt HGt HSt HQ hEr
          go_wp2_with fail
          go_quiet (fail)
          go_wp2_with fail
          go_roundw
          case rel => exact ⟨q + 1, i + 1, by simp, by simp, by omega, by omega, HQ2, HF.out.then (Fr.drewN _ _ _)⟩
          case measure => simp [RowKit.intOf]; omega
        · have HQ2 : Hid (q = ((as'.take (i + 1)).filter (fun p => inS key en p.1)).length) := by
            rw [HSt.out, if_neg (by simp), List.append_nil]
            exact HQ.out
          clear HGt HSt HQ hEr
          go_wp2_with fail
          go_roundw
          case rel => exact ⟨q, i + 1, rfl, by simp, by omega, by omega, HQ2, HF⟩
          case measure => simp [RowKit.intOf]; omega
        · have HQ2 : Hid (q = ((as'.take (i + 1)).filter (fun p => inS key en p.1)).length) := by
            rw [HSt.out, if_neg (by simp), List.append_nil]
            exact HQ.out
          clear HGt HSt HQ hEr
          go_wp2_with fail
          go_roundw
          case rel => exact ⟨q, i + 1, rfl, by simp, by omega, by omega, HQ2, HF⟩
          case measure => simp [RowKit.intOf]; omega
      · have hq : q = Nb := by
          have h1 := HQ.out
          rw [List.take_of_length_le (by have := HIa.out.2; omega), ← HIb.out.1, ← HIb.out.2] at h1
          exact h1
        have HEr : Hid (∀ W, Fr [] wr W → ERs W ra as') := fun W hf => (HEb.out W (HF.out.then hf)).2
        have HFr : Hid (Fr [] w4 wr) := HF6.out.then HF.out
        subst hq
        clear HQ HF HEb HIb
        by_cases hk0 : key.size = 0
        · have hk1 : ((key.size : Int) == 0) = true := by rw [beq_iff_eq]; omega
          go_wp2
          go_ret
          exact ⟨rfl, HF4.out.then HFr.out⟩
        · have hk1 : ((key.size : Int) == 0) = false := by rw [beq_eq_false_iff_ne]; omega
          have HKn : Hid (key.toList ≠ []) := fun e => hk0 ((tl_nil key).1 e)
          clear hk0
          have HC3 : Hid (Calls _ _ _ _ _) := HC.out wr ⟨#[]⟩ key HFr.out
          go_wp2_with fail
          refine Calls.mono HC3.out ?_
          rintro e w7 ⟨rc1, N1, rcc1, q1, rfl, hE1, hN1, hN12, hI1, hF7⟩
          have HE1 : Hid (ESl w7 rc1 N1 q1) := by
            have := hE1.take q1.length (Nat.le_refl _)
            rw [List.take_length, ← hN1] at this
            exact this
          have HI1 : Hid (Is (atMark M ⟨#[]⟩ key 65536) q1 ∧ N1 = q1.length) := ⟨hI1, hN1⟩
          have HF7 : Hid (Fr [] wr w7) := hF7
          clear HC3 hE1 hI1 hN1 hF7
          go_wp2_with (first
            | (at_builtin; refine wpList_appE _ rfl _ _ rfl wr.heap.size (.slice none 0 0) [] rfl ⟨rfl, .inl ⟨rfl, rfl⟩⟩ rc1 N1 rcc1 q1 rfl HE1.out (by simp; omega) HF7.out.size ?_
               intro bo n8 cap8 w8 e1 e2 e3
               have HO8 : Hid (w8.ownsRow wr.heap.size 47 2 (.slice bo n8 cap8) n8 (celsE q1) ∧ n8 = q1.length) := ⟨by simpa using e2, by simpa using e1⟩
               have HF8 : Hid (Fr [] wr w8) := HF7.out.then e3
               clear e1 e2 e3)
            | fail)
          have HC4 : Hid (Calls _ _ _ _ _) := HC.out w8 key ⟨#[]⟩ (HFr.out.then HF8.out)
          go_wp2_with fail
          refine Calls.mono HC4.out ?_
          rintro e w9 ⟨rc2, N2, rcc2, q2, rfl, hE2, hN2, hN22, hI2, hF9⟩
          have HE2 : Hid (ESl w9 rc2 N2 q2) := by
            have := hE2.take q2.length (Nat.le_refl _)
            rw [List.take_length, ← hN2] at this
            exact this
          have HEq : Hid (q1 ++ q2 = as') := both_is HIa.out.1 HKn.out HI1.out.1 hI2
          have HF9 : Hid (Fr [] wr w9) := HF8.out.then hF9
          have HO9 : Hid (w9.ownsRow wr.heap.size 47 2 (.slice bo n8 cap8) q1.length (celsE q1)) := by
            rw [← HO8.out.2]
            exact owns_keepB HO8.out.1 hF9 (by simp)
          have HSz9 : Hid (wr.heap.size ≤ w9.heap.size) := HF9.out.size
          have HBd : Hid (q1.length + N2 < 2199023255552) := by show _ < _; have := HI1.out.2; omega
          clear HC4 hE2 hI2 hN2 hF9 HO8 HF8 HE1
          go_wp2_with (first
            | (at_builtin; refine wpList_appE _ rfl _ _ rfl wr.heap.size (.slice bo n8 cap8) q1 rfl HO9.out rc2 N2 rcc2 q2 rfl HE2.out HBd.out HSz9.out ?_
               intro bo2 n10 cap10 w10 e1 e2 e3
               have HO10 : Hid (ERs w10 bo2 as' ∧ n10 = as'.length) := by
                 rw [HEq.out] at e1 e2
                 exact ⟨ers_of e2 e1 (by have := HIa.out.2; omega), e1⟩
               have HF10 : Hid (Fr [] w w10) := ((HF4.out.then HFr.out).then HF9.out).on e3 (fun x hx => Nat.le_trans (HF4.out.then HFr.out).size (owns_cells HO9.out (Option.mem_toList.1 hx)).1)
               have HE10 : Hid (ERs w10 ra as') := by
                 have h1 := HEr.out w9 HF9.out
                 refine ⟨h1.few, fun h0 => ?_⟩
                 obtain ⟨g, cur, e4, hb, ht⟩ := h1.lies h0
                 refine ⟨g, cur, e4, e3.keep hb (fun hm => ?_), ht⟩
                 have h2 := (owns_cells HO9.out (Option.mem_toList.1 hm)).1
                 obtain ⟨g', cur', e5, hb', _⟩ := (HEr.out wr (Fr.refl _ _)).lies h0
                 rw [e4] at e5
                 cases e5
                 have := lt_of_block hb'
                 omega
               clear e1 e2 e3)
            | fail)
          obtain rfl : n10 = Na := by rw [HO10.out.2, HIa.out.2]
          have HSm : Hid (Calls _ _ _ _ _) := sameEntries_any bo2 ra n10 cap10 rca as' w10 HO10.out.1 HE10.out HO10.out.2
          go_wp2_with fail
          refine Calls.mono HSm.out ?_
          rintro e w11 ⟨rfl, hF11⟩
          go_wp2
          go_ret
          exact ⟨rfl, HF10.out.then hF11⟩

theorem own : ownKnob Try.prog.godebug = none := by kernel_rfl
theorem laidOut : laidOutB Try.prog = true := by kernel_rfl
set_option maxHeartbeats 4000000 in
set_option maxRecDepth 100000 in
theorem lifted (os : Os) (started : os.Started) (H : Type) (enc : TypeId × Value → H) :
    ReturnsInHanded {} Try.checked os 6 .any (Rows.shardStretchesSpec.pre6 enc Try.prog Try.f6 Rows.shardStretchesRow.domain false) (Rows.shardStretchesSpec.post enc Try.prog Try.f6 false true false false) := by
  refine returnsInHanded_of_change_sized (C := Try.checked) own started (by kernel_rfl) Try.func6
    (ChangeSpec.witness6 (enc := enc) (C := Try.checked) false ⟨#[], #[.slice none 0 0, .string ⟨#[]⟩, .string ⟨#[]⟩], []⟩ 8 (by kernel_rfl) (by kernel_rfl) (by kernel_rfl) (by kernel_rfl)) ?_
  intro W base args ds gs before hval0 hW hcnd hsz0 _
  have hval : ∀ (j : Nat) t v, Try.f6.params[j]? = some t → args[j]? = some v → Value.okWide Try.prog W .any base t v := hval0
  have hsz : (DataW.weightsEach Try.prog (Try.f6.params.toList ++ Rows.shardStretchesSpec.plain.varTypes Try.prog) (ds ++ gs)).all (· ≤ reachBytes) = true := hsz0
  have hW' := hW
  obtain ⟨p, q, hA0, hV, rfl, hfz, hnd⟩ := hW
  have hA : DataW.TrodAll enc Try.prog W 0 (fun _ => true) true Try.f6.params.toList args.toList ds p := hA0
  rw [Try.params6] at hA hval hsz
  obtain ⟨v0, vs0, d0, ds0, p0, q0, hargs, rfl, rfl, h0, r0⟩ := trodAll_cons hA
  obtain ⟨v1, vs1, d1, ds1, p1, q1, rfl, rfl, rfl, h1, r1⟩ := trodAll_cons r0
  obtain ⟨v2, vs2, d2, ds2, p2, q2, rfl, rfl, rfl, h2, r2⟩ := trodAll_cons r1
  obtain ⟨rfl, rfl, rfl⟩ := trodAll_nil r2
  obtain rfl : args = #[v0, v1, v2] := by cases args; simp_all
  obtain ⟨rfl, rfl⟩ := trodVars_none hV
  have k0 := h0
  have lt0 : ∀ x ∈ p0, x.block < W.heap.size := by obtain ⟨m, hm⟩ := k0; exact DataW.trod_lt m _ _ _ hm
  obtain ⟨a0, len0, cap0, xs0, rfl, hB0, hL0, hC0⟩ : ∃ ao L cap xs, v0 = .slice ao L cap ∧ PRs W ao xs ∧ L = xs.length ∧ L ≤ cap := by
    obtain ⟨fuel, hf⟩ := h0
    obtain ⟨ao, L, cap, rfl⟩ := okWide_slice Try.undParts' (hval 0 22 v0 rfl rfl)
    exact ps_open hf (fun n hn => of_decide_eq_true (List.all_eq_true.1 hsz n (DataW.weights_mem_each (j := 0) (t := 22) rfl rfl n hn)))
  obtain ⟨s1, rfl, rfl, rfl, w1⟩ := open_string Try.underlying9 (hval 1 9 v1 rfl rfl) h1
  have z1 : s1.size ≤ 140737488355328 := by
    have h9 : s1.size ≤ reachBytes := of_decide_eq_true (List.all_eq_true.1 hsz s1.size (DataW.weights_mem_each (j := 1) (t := 9) rfl rfl _ (by
      simp only [DataW.weights, List.mem_singleton]
      show s1.data.size = _
      simp)))
    have := reachBytes_lt
    omega
  obtain ⟨s2, rfl, rfl, rfl, w2⟩ := open_string Try.underlying9 (hval 2 9 v2 rfl rfl) h2
  have z2 : s2.size ≤ 140737488355328 := by
    have h9 : s2.size ≤ reachBytes := of_decide_eq_true (List.all_eq_true.1 hsz s2.size (DataW.weights_mem_each (j := 2) (t := 9) rfl rfl _ (by
      simp only [DataW.weights, List.mem_singleton]
      show s2.data.size = _
      simp)))
    have := reachBytes_lt
    omega
  clear hA0 hval0
  refine (walk a0 len0 cap0 xs0 s1 z1 s2 z2 W hB0 hL0).mono fun e W' ⟨he, hf⟩ => ?_
  subst he
  have bel : Below W.heap.size W W' := hf.below (Nat.le_refl _) (by simp)
  exact ⟨_, rfl, _, _, _, [], _, [], hW', trodAll_mk1 (shut_bool Try.underlying4 _), (trodAll_cons_mk (Below.trod laidOut (by kernel_rfl) (of_decide_eq_true (by kernel_rfl)) k0 bel lt0) (trodAll_cons_mk (shut_string Try.underlying9 w1) (trodAll_cons_mk (shut_string Try.underlying9 w2) trodAll_mk0))), rfl, bel.frame _, fun h => by cases h⟩

theorem over : Rows.shardStretchesRow.holds Try.pinned (OpenSpec.ofChange Rows.shardStretchesSpec) :=
  OpenClaim.holds_of_wide 6 Try.f6 rfl rfl rfl rfl rfl rfl rfl ⟨rfl, rfl, rfl, rfl, rfl⟩ rfl rfl rfl rfl rfl (by kernel_rfl) Try.func6 (by kernel_rfl)
    (of_decide_eq_true (by kernel_rfl)) (by unfold Func.isWrapper; first | (rw [if_pos (by decide +kernel)]; kernel_rfl) | (rw [if_neg (by decide +kernel)]; exact ⟨rfl, rfl⟩))
    (fun os started H enc _ => lifted os started H enc)
end Go.Proofs.Ytkplammapbiebaa.shardStretches
namespace Go.Proofs.Ytkplammapbiebaa
theorem shardstretches_holds : Rows.ShardStretchesSaid := shardStretches.over
#print axioms shardstretches_holds
end Go.Proofs.Ytkplammapbiebaa

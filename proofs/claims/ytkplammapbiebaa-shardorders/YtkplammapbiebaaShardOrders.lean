/- For every list of parts and every turn the law ShardOrders returns true, and the list reads as it did. No conditions. -/
import Derived.Test.YtkplammapbiebaaHg9
namespace Go.Proofs.Ytkplammapbiebaa.shardOrders
open Go.ChangeShapes Go.WideShapes Go.ChangeAt Go.RowKit Go.Lib Go.Maps
set_option linter.unusedVariables false
set_option linter.unusedSimpArgs false

/-- The parts in another order. -/
def oth (ins : List Pt) (t i : Nat) : List Pt := (List.range i).map fun j => ins.getD (fidx ins.length t j) Pt.zero
theorem oth_snoc (ins : List Pt) (t i : Nat) : oth ins t (i + 1) = oth ins t i ++ [ins.getD (fidx ins.length t i) Pt.zero] := by simp [oth, List.range_succ]
theorem oth_mem (ins : List Pt) (t : Nat) (p : Pt) : p ∈ ins ↔ p ∈ oth ins t ins.length := by
  unfold oth
  constructor
  · intro hp
    obtain ⟨j, hj, e⟩ := List.mem_iff_getElem.1 hp
    refine List.mem_map.2 ⟨fidx ins.length t j, List.mem_range.2 (fidx_lt hj), ?_⟩
    rw [fidx_fidx hj]
    simp [List.getD, hj, e]
  · intro hp
    obtain ⟨j, hj, e⟩ := List.mem_map.1 hp
    rw [← e]
    exact pgetD_mem ins _ (fidx_lt (List.mem_range.1 hj))
theorem oth_dis {ins : List Pt} (t : Nat) (hd : DisP ins) : DisP (oth ins t ins.length) := by
  unfold DisP
  rw [List.pairwise_iff_getElem]
  intro i j hi hj hij
  have hi' : i < ins.length := by simpa [oth] using hi
  have hj' : j < ins.length := by simpa [oth] using hj
  have e1 : (oth ins t ins.length)[i] = ins.getD (fidx ins.length t i) Pt.zero := by simp [oth]
  have e2 : (oth ins t ins.length)[j] = ins.getD (fidx ins.length t j) Pt.zero := by simp [oth]
  rw [e1, e2]
  have hne : fidx ins.length t i ≠ fidx ins.length t j := fun e => by have := fidx_inj hi' hj' e; omega
  have l1 := fidx_lt (t := t) hi'
  have l2 := fidx_lt (t := t) hj'
  have hp := List.pairwise_iff_getElem.1 hd
  rcases Nat.lt_or_gt_of_ne hne with h | h
  · have := hp _ _ l1 l2 h
    simpa [List.getD, l1, l2] using this
  · have := hp _ _ l2 l1 h
    intro e
    have h3 := this (by simpa [List.getD, l1, l2] using e.symm)
    simpa [List.getD, l1, l2] using fun e4 : _ = _ => h3 e4.symm
theorem okP_each {p : Pt} (h : okP p) : PEach p := ⟨by have := h.1.2; omega, by have := h.2.2.2.1; simp only [Pt.v] at this; omega, by have := h.2.1; simp only [Pt.v] at this; omega, by have := h.2.2.1; simp only [Pt.v] at this; omega⟩
set_option maxHeartbeats 16000000 in
set_option maxRecDepth 100000 in
theorem walk (ao : Option Addr) (L cap : Nat) (ps : List Pt) (t : Nat) (ht : t < 256) (w : World) (hP : PRs w ao ps) (hL : L = ps.length) :
    Calls Try.prog 3 #[.slice ao L cap, .int .u8 (t : Int)] w fun e w' => e = .returned (.bool true) ∧ Fr [] w w' := by
  have HL : Hid (L = ps.length) := hL
  have HP : Hid (∀ W, Fr [] w W → PRs W ao ps) := fun W hf => hP.keep hf
  have hLL : L ≤ 4398046511104 := by have := hP.few; omega
  clear hP hL
  go_enter Try.func3, Try.ntmps3
  go_wp2_with fail
  refine (alive9_any _).mono ?_
  rintro e w1 ⟨rfl, hF1⟩
  have HZ : Hid (Calls _ _ _ _ _) := size9_any ao L cap ps w1 (HP.out _ hF1) HL.out
  have HF1 : Hid (Fr [] w w1) := hF1
  clear hF1
  go_wp2_with fail
  refine Calls.mono HZ.out ?_
  rintro e w2 ⟨N0, rfl, hN0, hF2⟩
  have HF2 : Hid (Fr [] w w2) := HF1.out.then hF2
  clear HZ hF2 HF1
  go_wp2_with fail
  refine (beyond_any w2.heap.size N0 _ (by omega) (by simp)).mono ?_
  rintro e w3 ⟨rfl, rfl⟩
  obtain ⟨w3, HW3⟩ : ∃ w3, Hid (w2.alloc (.cells #[.int .i64 (N0 : Int)] 3) = w3) := ⟨_, rfl⟩
  rw [HW3.out]
  have HF3 : Hid (Fr [] w w3) := by rw [← HW3.out]; exact HF2.out.then (Fr.alloc [] _ _)
  clear HW3 HF2
  obtain ⟨Bq, hBq⟩ : ∃ Bq, Bq = decide (1048576 < N0) := ⟨_, rfl⟩
  rw [← hBq]
  clear hBq
  cases Bq with
  | true =>
    go_wp2_with fail
    refine (alive9_any _).mono ?_
    rintro e w4 ⟨rfl, hF4⟩
    go_wp2
    go_ret
    exact ⟨rfl, HF3.out.then hF4⟩
  | false =>
    have HFi : Hid (Calls _ _ _ _ _) := filled_any ao L cap ps w3 (HP.out _ HF3.out) HL.out
    go_wp2_with fail
    refine Calls.mono HFi.out ?_
    rintro e w4 ⟨sb, b, M, ri, Ni, rci, ins, rfl, hFil⟩
    have HS : Hid (∀ W, Fr [] w4 W → Sh w3 W sb b 200 M) := fun W hf => hFil.sh.keep hf
    have HF4 : Hid (Fr [] w w4) := HF3.out.then hFil.fr
    have hNi : Ni ≤ 200 := by
      have h1 := hFil.goes.len
      have h2 := hFil.row.len
      simp only [List.length_take] at h1
      omega
    have HIn : Hid (Ni = ins.length ∧ HoldsP M ins ∧ DisP ins ∧ (∀ p ∈ ins, okP p) ∧ ∀ k, okV (M k)) := ⟨hFil.row.len, hFil.holds, hFil.goes.dis, hFil.goes.ok, hFil.sh.ok⟩
    have HR : Hid (∀ W, Fr [] w4 W → PRs W ri ins) := fun W hf => (hFil.row.keep hf).rs (by have := hFil.row.len; omega) (fun x hx => okP_each (hFil.goes.ok x hx))
    clear hFil HFi HF3 HP
    have HO0 : Hid (POut w4 w4 none 0 0 (oth ins t 0)) := ⟨rfl, ⟨rfl, .inl ⟨rfl, rfl⟩⟩⟩
    go_wp2_with fail
    go_loopw [7, 8] (fun ll ii wr => ∃ (ro : Option Addr) (rc i : Nat), ll = .slice ro i rc ∧ ii = .int .i64 i ∧ i ≤ Ni ∧ Hid (POut w4 wr ro i rc (oth ins t i)) ∧ Hid (Fr [] w4 wr)) (fun _ ii _ => Ni - (RowKit.intOf ii).toNat)
    case atStart => exact ⟨none, 0, 0, rfl, rfl, Nat.zero_le _, HO0, Fr.refl _ _⟩
    case round =>
      obtain ⟨ro, rc, i, rfl, rfl, hiN, HO, HF⟩ := hrel
      by_cases hi : i < Ni
      · have hfl : fidx Ni t i < Ni := fidx_lt hi
        obtain ⟨j, hj⟩ : ∃ j, j = fidx Ni t i := ⟨_, rfl⟩
        have hj2 : (((Ni : Int) - 1 - (i : Int)) + (t : Int)) % (Ni : Int) = (j : Int) := by
          rw [hj]
          unfold fidx
          rw [show ((Ni : Int) - 1 - (i : Int)) + (t : Int) = ((Ni - 1 - i + t : Nat) : Int) by omega]
          exact (Int.natCast_emod _ _).symm
        rw [← hj] at hfl
        have hj3 : j < ins.length := by rw [← HIn.out.1]; exact hfl
        obtain ⟨pb, off, rfl, _, hat⟩ := (HR.out _ HF.out).lies (by omega)
        obtain ⟨c0, c1, c2, c3⟩ := hat j hj3
        have HSn : Hid (oth ins t (i + 1) = oth ins t i ++ [ins.getD j Pt.zero]) := by rw [hj, HIn.out.1]; exact oth_snoc ins t i
        obtain ⟨p, hp⟩ : ∃ p, p = ins.getD j Pt.zero := ⟨_, rfl⟩
        rw [← hp] at c0 c1 c2 c3 HSn
        clear hp hat
        obtain ⟨num, key, val, drop⟩ := p
        simp only at c0 c1 c2 c3
        have Hj : Hid (j = fidx Ni t i) := hj
        have hsz : w4.heap.size ≤ wr.heap.size := HF.out.size
        clear hj
        go_wp2_with (first
          | (at_builtin; refine wpList_appP w4 wr rfl _ _ rfl ro i rc (oth ins t i) rfl HO.out (by omega) hsz ⟨num, key, val, drop⟩ rfl ?_
             intro ro' rc' w5 hO5 hF5
             have HO5 : Hid (POut w4 w5 ro' (i + 1) rc' (oth ins t (i + 1))) := by rw [HSn.out]; exact hO5
             have HF5 : Hid (Fr [] w4 w5) := HF.out.on hF5 (fun x hx => (owns_cells HO.out.row (Option.mem_toList.1 hx)).1)
             clear hO5 hF5
             go_frame)
          | fail)
        go_roundw
        case rel => exact ⟨ro', rc', i + 1, rfl, by simp, by omega, HO5, HF5⟩
        case measure => simp [RowKit.intOf]; omega
      · have hiN2 : i = Ni := by omega
        subst hiN2
        have HOs : Hid (∀ p, p ∈ ins ↔ p ∈ oth ins t i) := fun p => by rw [HIn.out.1]; exact oth_mem ins t p
        have HOd : Hid (DisP (oth ins t i)) := by rw [HIn.out.1]; exact oth_dis t HIn.out.2.2.1
        have HOo : Hid (∀ p ∈ oth ins t i, okP p) := fun p hp => HIn.out.2.2.2.1 p ((HOs.out p).2 hp)
        have hol : i = (oth ins t i).length := HO.out.len
        have HFi : Hid (Calls _ _ _ _ _) := filled_any ro i rc (oth ins t i) wr (HO.out.rs (by omega) (fun x hx => okP_each (HOo.out x hx))) hol
        have Hol : Hid (i = (oth ins t i).length) := hol
        clear hol
        go_wp2_with fail
        refine Calls.mono HFi.out ?_
        rintro e w6 ⟨sb2, b2, M2, ri2, Ni2, rci2, ins2, rfl, hFil2⟩
        have h200 : (oth ins t i).take 200 = oth ins t i := List.take_of_length_le (by have := Hol.out; omega)
        have hgo := hFil2.goes
        rw [h200] at hgo
        have hall := hgo.all HOo.out HOd.out
        obtain rfl : Ni2 = i := by rw [hFil2.row.len, hall]; exact Hol.out.symm
        have hMM : M = M2 := HIn.out.2.1.one hFil2.holds HIn.out.2.2.2.2 hFil2.sh.ok (fun p => by rw [hall]; exact HOs.out p)
        subst hMM
        have HF6 : Hid (Fr [] w4 w6) := HF.out.then hFil2.fr
        have HS2 : Hid (∀ W, Fr [] w6 W → Sh w3 W sb b 200 M ∧ Sh wr W sb2 b2 200 M) := fun W hf => ⟨HS.out W (HF6.out.then hf), hFil2.sh.keep hf⟩
        clear hFil2 HFi hgo hall h200 HO HF HOs HOd HOo HS HR
        have HAl : Hid (∀ (W W0 : World) (sb b : Nat), Sh W0 W sb b 200 M → Calls Try.prog 12 #[.pointer (some ⟨sb, 0, none⟩)] W fun e w' => ∃ ro N rc hs, e = .returned (.slice ro N rc) ∧ HRs w' ro hs ∧ N = hs.length ∧ PkT M M hs ∧ LoOk hs ∧ N ≤ 200 ∧ Fr [] W w') := fun W W0 sb b hS => by
          refine (hall_any W hS (by omega)).mono ?_
          rintro e w' ⟨ro, N, rc, hs, rfl, h1, h2, h3, h4⟩
          have h5 : LoOk hs := h3.ok (fun k hk => hS.keyok hk) hS.ok
          exact ⟨ro, N, rc, hs, rfl, h1.rs h5 (by omega), h1.len, h3, h5, h2, h4⟩
        have HA1 : Hid (Calls _ _ _ _ _) := HAl.out w6 w3 sb b (HS2.out w6 (Fr.refl _ _)).1
        go_wp2_with fail
        refine Calls.mono HA1.out ?_
        rintro e w7 ⟨r1, N1, c1, hs1, rfl, hR1, hN1, hP1, hL1, hN12, hF7⟩
        have HLd : Hid (Calls _ _ _ _ _) := hload_any r1 N1 c1 hs1 w7 hR1 hN1
        have HP1 : Hid (PkT M M hs1 ∧ LoOk hs1 ∧ mOf hs1 = M) := ⟨hP1, hL1, hP1.mOf hL1 (fun k hk => hk)⟩
        have HF7 : Hid (Fr [] w6 w7) := hF7
        clear HA1 hR1 hN1 hP1 hL1 hF7
        go_wp2_with fail
        refine Calls.mono HLd.out ?_
        rintro e w8 h8
        obtain ⟨sb3, b3, rfl, hS3, hF8⟩ : ∃ sb3 b3, e = .returned (.tuple #[.pointer (some ⟨sb3, 0, none⟩), .int .i64 0]) ∧ Sh w7 w8 sb3 b3 N1 (mOf hs1) ∧ Fr [] w7 w8 := by
          rcases h8 with ⟨_, h⟩ | ⟨h, _⟩
          · exact h
          · exact absurd HP1.out.2.1 h
        rw [HP1.out.2.2] at hS3
        have HF8 : Hid (Fr [] w6 w8) := HF7.out.then hF8
        have HS3 : Hid (∀ W, Fr [] w8 W → Sh w7 W sb3 b3 200 M) := fun W hf => (hS3.keep hf).mono hN12
        clear h8 hS3 hF8 HLd HF7
        have HZ2 : Hid (Calls Try.prog 13 #[.pointer (some ⟨sb, 0, none⟩)] w8 fun e w' => e = .returned (.int .i64 (Ni2 : Int)) ∧ Fr [] w8 w') := by
          refine (hsize_any w8 (HS2.out w8 HF8.out).1 (by omega)).mono ?_
          rintro e w' ⟨S, rfl, hS, hF⟩
          rw [hS.holds HIn.out.2.1 HIn.out.2.2.2.2 HIn.out.2.2.1, ← HIn.out.1]
          exact ⟨rfl, hF⟩
        go_wp2_with fail
        refine Calls.mono HZ2.out ?_
        rintro e w9 ⟨rfl, hF9⟩
        have HF9 : Hid (Fr [] w8 w9) := hF9
        clear HZ2 hF9
        have HA2 : Hid (Calls _ _ _ _ _) := HAl.out w9 w3 sb b (HS2.out w9 (HF8.out.then HF9.out)).1
        go_wp2_with fail
        refine Calls.mono HA2.out ?_
        rintro e w10 ⟨r2, N2, c2, hs2, rfl, hR2, hN2, hP2, hL2, hN22, hF10⟩
        have HF10 : Hid (Fr [] w8 w10) := HF9.out.then hF10
        have HR2 : Hid (∀ W, Fr [] w10 W → HRs W r2 hs2) := fun W hf => hR2.keep hf
        have HP2 : Hid (PkT M M hs2 ∧ N2 = hs2.length) := ⟨hP2, hN2⟩
        clear HA2 hR2 hN2 hP2 hL2 hF10 HF9
        have HA3 : Hid (Calls _ _ _ _ _) := HAl.out w10 wr sb2 b2 (HS2.out w10 (HF8.out.then HF10.out)).2
        go_wp2_with fail
        refine Calls.mono HA3.out ?_
        rintro e w11 ⟨r3, N3, c3, hs3, rfl, hR3, hN3, hP3, hL3, hN32, hF11⟩
        have he3 : hs2.map hkv = hs3.map hkv := HP2.out.1.one hP3
        obtain rfl : N3 = N2 := by have := congrArg List.length he3; simp only [List.length_map] at this; have := HP2.out.2; omega
        have HSm : Hid (Calls _ _ _ _ _) := sameHelds_any r2 r3 N3 c2 c3 hs2 hs3 w11 (HR2.out _ hF11) hR3 HP2.out.2 he3
        have HF11 : Hid (Fr [] w8 w11) := HF10.out.then hF11
        clear HA3 hR3 hN3 hP3 hL3 hF11 he3 HR2 HF10 HP2
        go_wp2_with fail
        refine Calls.mono HSm.out ?_
        rintro e w12 ⟨rfl, hF12⟩
        have HF12 : Hid (Fr [] w8 w12) := HF11.out.then hF12
        clear HSm hF12 HF11
        have HA2 : Hid (Calls _ _ _ _ _) := HAl.out w12 w3 sb b (HS2.out w12 (HF8.out.then HF12.out)).1
        go_wp2_with fail
        refine Calls.mono HA2.out ?_
        rintro e w13 ⟨r4, N4, c4, hs4, rfl, hR4, hN4, hP4, hL4, hN42, hF13⟩
        have HF13 : Hid (Fr [] w8 w13) := HF12.out.then hF13
        have HR4 : Hid (∀ W, Fr [] w13 W → HRs W r4 hs4) := fun W hf => hR4.keep hf
        have HP4 : Hid (PkT M M hs4 ∧ N4 = hs4.length) := ⟨hP4, hN4⟩
        clear HA2 hR4 hN4 hP4 hL4 hF13 HF12
        have HA3 : Hid (Calls _ _ _ _ _) := HAl.out w13 w7 sb3 b3 (HS3.out w13 HF13.out)
        go_wp2_with fail
        refine Calls.mono HA3.out ?_
        rintro e w14 ⟨r5, N5, c5, hs5, rfl, hR5, hN5, hP5, hL5, hN52, hF14⟩
        have he5 : hs4.map hkv = hs5.map hkv := HP4.out.1.one hP5
        obtain rfl : N5 = N4 := by have := congrArg List.length he5; simp only [List.length_map] at this; have := HP4.out.2; omega
        have HSm : Hid (Calls _ _ _ _ _) := sameHelds_any r4 r5 N5 c4 c5 hs4 hs5 w14 (HR4.out _ hF14) hR5 HP4.out.2 he5
        have HF14 : Hid (Fr [] w8 w14) := HF13.out.then hF14
        clear HA3 hR5 hN5 hP5 hL5 hF14 he5 HR4 HF13 HP4
        go_wp2_with fail
        refine Calls.mono HSm.out ?_
        rintro e w15 ⟨rfl, hF15⟩
        go_wp2
        go_ret
        exact ⟨rfl, HF4.out.then (HF6.out.then (HF8.out.then (HF14.out.then hF15)))⟩

theorem own : ownKnob Try.prog.godebug = none := by kernel_rfl
theorem laidOut : laidOutB Try.prog = true := by kernel_rfl
set_option maxHeartbeats 4000000 in
set_option maxRecDepth 100000 in
theorem lifted (os : Os) (started : os.Started) (H : Type) (enc : TypeId × Value → H) :
    ReturnsInHanded {} Try.checked os 3 .any (Rows.shardOrdersSpec.pre6 enc Try.prog Try.f3 Rows.shardOrdersRow.domain false) (Rows.shardOrdersSpec.post enc Try.prog Try.f3 false true false false) := by
  refine returnsInHanded_of_change_sized (C := Try.checked) own started (by kernel_rfl) Try.func3
    (ChangeSpec.witness6 (enc := enc) (C := Try.checked) false ⟨#[], #[.slice none 0 0, .int .u8 0], []⟩ 8 (by kernel_rfl) (by kernel_rfl) (by kernel_rfl) (by kernel_rfl)) ?_
  intro W base args ds gs before hval0 hW hcnd hsz0 _
  have hval : ∀ (j : Nat) t v, Try.f3.params[j]? = some t → args[j]? = some v → Value.okWide Try.prog W .any base t v := hval0
  have hsz : (DataW.weightsEach Try.prog (Try.f3.params.toList ++ Rows.shardOrdersSpec.plain.varTypes Try.prog) (ds ++ gs)).all (· ≤ reachBytes) = true := hsz0
  have hW' := hW
  obtain ⟨p, q, hA0, hV, rfl, hfz, hnd⟩ := hW
  have hA : DataW.TrodAll enc Try.prog W 0 (fun _ => true) true Try.f3.params.toList args.toList ds p := hA0
  rw [Try.params3] at hA hval hsz
  obtain ⟨v0, vs0, d0, ds0, p0, q0, hargs, rfl, rfl, h0, r0⟩ := trodAll_cons hA
  obtain ⟨v1, vs1, d1, ds1, p1, q1, rfl, rfl, rfl, h1, r1⟩ := trodAll_cons r0
  obtain ⟨rfl, rfl, rfl⟩ := trodAll_nil r1
  obtain rfl : args = #[v0, v1] := by cases args; simp_all
  obtain ⟨rfl, rfl⟩ := trodVars_none hV
  have k0 := h0
  have lt0 : ∀ x ∈ p0, x.block < W.heap.size := by obtain ⟨m, hm⟩ := k0; exact DataW.trod_lt m _ _ _ hm
  obtain ⟨a0, len0, cap0, xs0, rfl, hB0, hL0, hC0⟩ : ∃ ao L cap xs, v0 = .slice ao L cap ∧ PRs W ao xs ∧ L = xs.length ∧ L ≤ cap := by
    obtain ⟨fuel, hf⟩ := h0
    obtain ⟨ao, L, cap, rfl⟩ := okWide_slice Try.undParts' (hval 0 22 v0 rfl rfl)
    exact ps_open hf (fun n hn => of_decide_eq_true (List.all_eq_true.1 hsz n (DataW.weights_mem_each (j := 0) (t := 22) rfl rfl n hn)))
  obtain ⟨n1, rfl, rfl, rfl, w1⟩ := open_int Try.underlying5 (hval 1 5 v1 rfl rfl) h1
  have b1 := bounds_u8 w1
  obtain ⟨m1, rfl⟩ : ∃ m : Nat, n1 = (m : Int) := ⟨n1.toNat, by omega⟩
  clear hA0 hval0
  refine (walk a0 len0 cap0 xs0 m1 (by omega) W hB0 hL0).mono fun e W' ⟨he, hf⟩ => ?_
  subst he
  have bel : Below W.heap.size W W' := hf.below (Nat.le_refl _) (by simp)
  exact ⟨_, rfl, _, _, _, [], _, [], hW', trodAll_mk1 (shut_bool Try.underlying4 _), (trodAll_cons_mk (Below.trod laidOut (by kernel_rfl) (of_decide_eq_true (by kernel_rfl)) k0 bel lt0) (trodAll_cons_mk (shut_int Try.underlying5 w1) trodAll_mk0)), rfl, bel.frame _, fun h => by cases h⟩

theorem over : Rows.shardOrdersRow.holds Try.pinned (OpenSpec.ofChange Rows.shardOrdersSpec) :=
  OpenClaim.holds_of_wide 3 Try.f3 rfl rfl rfl rfl rfl rfl rfl ⟨rfl, rfl, rfl, rfl, rfl⟩ rfl rfl rfl rfl rfl (by kernel_rfl) Try.func3 (by kernel_rfl)
    (of_decide_eq_true (by kernel_rfl)) (by unfold Func.isWrapper; first | (rw [if_pos (by decide +kernel)]; kernel_rfl) | (rw [if_neg (by decide +kernel)]; exact ⟨rfl, rfl⟩))
    (fun os started H enc _ => lifted os started H enc)
end Go.Proofs.Ytkplammapbiebaa.shardOrders
namespace Go.Proofs.Ytkplammapbiebaa
theorem shardorders_holds : Rows.ShardOrdersSaid := shardOrders.over
#print axioms shardorders_holds
end Go.Proofs.Ytkplammapbiebaa

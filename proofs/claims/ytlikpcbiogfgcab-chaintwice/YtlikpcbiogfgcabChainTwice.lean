/- For every list of versions and all numbers the law ChainTwice returns true, and the list reads as it did. No conditions. -/
import Derived.Test.YtlikpcbiogfgcabVl
import Derived.Test.YtlikpcbiogfgcabVz
namespace Go.Proofs.Ytlikpcbiogfgcab.chainTwice
open Go.ChangeShapes Go.WideShapes Go.ChangeAt Go.RowKit Go.Lib
set_option linter.unusedVariables false
set_option linter.unusedSimpArgs false

set_option maxHeartbeats 16000000 in
set_option maxRecDepth 100000 in
theorem walk (ao : Option Addr) (L cap : Nat) (vs : List Vn) (a : Nat) (ha : a < 65536) (b : Nat) (hb : b < 65536) (w : World) (hV : VRs w ao vs) (hL : L = vs.length) (hC : L ≤ cap) :
    Calls Try.prog 3 #[.slice ao L cap, .int .u16 (a : Int), .int .u16 (b : Int)] w fun e w' => e = .returned (.bool true) ∧ Fr [] w w' := by
  have HL : Hid (L = vs.length) := hL
  have HV : Hid (∀ W, Fr [] w W → VRs W ao vs) := fun W hf => hV.keep hf
  have hLL : L ≤ 4398046511104 := by have := hV.few; omega
  clear hV hL
  go_enter Try.func3, Try.ntmps3
  go_wp2_with fail
  refine (alive8_any _).mono ?_
  rintro e w1 ⟨rfl, hF1⟩
  obtain ⟨c, hck⟩ := CkT.ex vs
  have HC : Hid (Calls _ _ _ _ _) := vcheck_any ao L cap c vs w1 (HV.out _ hF1) HL.out hck
  rcases hck with ⟨rfl, hok⟩ | ⟨rfl, hok⟩
  rotate_left
  · clear hok
    go_wp2_with fail
    refine Calls.mono HC.out ?_
    rintro e w2 ⟨rfl, hF2⟩
    go_wp2_with fail
    refine (alive8_any _).mono ?_
    rintro e w3 ⟨rfl, hF3⟩
    go_wp2
    go_ret
    exact ⟨rfl, hF1.then (hF2.then hF3)⟩
  have HO : Hid (okV vs) := hok
  have hL2 : L ≤ 65536 := by have := okV_few hok; have := HL.out; omega
  clear hok
  go_wp2_with fail
  refine Calls.mono HC.out ?_
  rintro e w2 ⟨rfl, hF2⟩
  have hG2 := hF1.then hF2
  clear HC hF1 hF2
  go_wp2_with fail
  refine (vsize_any ao L cap vs _ (HV.out _ hG2) HL.out).mono ?_
  rintro e w3 ⟨N0, rfl, hLN, hN0, rfl⟩
  go_wp2_with fail
  refine (beyond_any w2.heap.size N0 _ (by omega) (by simp)).mono ?_
  rintro e w3 ⟨rfl, rfl⟩
  have hG3 := hG2.then (Fr.alloc [] w2 (.cells #[.int .i64 (N0 : Int)] 3))
  obtain ⟨w3, HW3⟩ : ∃ w3, Hid (w2.alloc (.cells #[.int .i64 (N0 : Int)] 3) = w3) := ⟨_, rfl⟩
  rw [HW3.out] at hG3 ⊢
  clear HW3 hG2
  obtain ⟨Bq, hBq⟩ : ∃ Bq, Bq = decide (1048576 < N0) := ⟨_, rfl⟩
  rw [← hBq]
  clear hBq
  cases Bq with
  | true =>
    go_wp2_with fail
    refine (alive8_any _).mono ?_
    rintro e w4 ⟨rfl, hF4⟩
    go_wp2
    go_ret
    exact ⟨rfl, hG3.then hF4⟩
  | false =>
    rcases Nat.lt_trichotomy a b with hab | hab | hab
    · have habz : (a : Int) < b := by omega
      have HX : Hid (Calls _ _ _ _ _) := collect_any ao L cap (a : Int) vs w3 (HV.out _ hG3) HL.out hC
      have HZ : Hid (∀ W, Fr [] w W → Calls Try.prog 8 #[.slice ao L cap, .int .i64 (b : Int)] W fun e w' => ∃ ro N rc us n c, e = .returned (.tuple #[.slice ro N rc, .int .i64 ((n : Nat) : Int), .int .i64 ((c : Nat) : Int)]) ∧ CoTold vs (b : Int) us n c ∧ VOut W w' ro N rc us ∧ Fr [] W w') := fun W hf => collect_any ao L cap (b : Int) vs W (HV.out _ hf) HL.out hC
      go_wp2_with fail
      refine Calls.mono HX.out ?_
      rintro e w4 ⟨ro, N, rc, us, n, c, rfl, hT, hO4, hF4⟩
      have hG4 := hG3.then hF4
      rcases hT with ⟨_, h, _⟩ | ⟨rfl, _, d, hd, rfl, rfl⟩
      · exact absurd HO.out h
      obtain ⟨n, hn⟩ : ∃ n, n = d - 1 := ⟨_, rfl⟩
      rw [← hn] at hO4 ⊢
      have hdle := hd.le
      have hn2 : n ≤ 65536 := by have := HL.out; omega
      have HXo : Hid (okV (vs.drop n)) := okV_drop HO.out n
      have hR4 := hO4.rs (by have := okV_few HXo.out; omega) (fun x hx => okX_each (HXo.out.1 x hx))
      have HY : Hid (Calls _ _ _ _ _) := collect_any ro N rc (b : Int) (vs.drop n) w4 hR4 hO4.len hO4.cap
      have HD : Hid (UpTo vs (a : Int) d ∧ n = d - 1) := ⟨hd, hn⟩
      clear HX hd hn hdle hO4 hR4 hF4
      go_wp2_with fail
      refine Calls.mono HY.out ?_
      rintro e w5 ⟨ro5, N5, rc5, us5, n5, c5, rfl, hT, hO5, hF5⟩
      have hG5 := hG4.then hF5
      rcases hT with ⟨_, h, _⟩ | ⟨rfl, _, d5, hd5, hn5, hus5⟩
      · exact absurd HXo.out h
      have hd5le := hd5.le
      have hn52 : n5 ≤ 65536 := by have := HL.out; rw [List.length_drop] at hd5le; omega
      have HZ2 : Hid (Calls _ _ _ _ _) := HZ.out _ hG5
      have HD5 : Hid (UpTo (vs.drop n) (b : Int) d5 ∧ n5 = d5 - 1 ∧ us5 = (vs.drop n).drop n5) := ⟨hd5, hn5, hus5⟩
      have HO5 : Hid (VOut w4 w5 ro5 N5 rc5 us5) := hO5
      clear HY hd5 hn5 hus5 hO5 hF5 hd5le HZ
      go_wp2_with fail
      refine Calls.mono HZ2.out ?_
      rintro e w6 ⟨ro6, N6, rc6, us6, n6, c6, rfl, hT, hO6, hF6⟩
      have hG6 := hG5.then hF6
      rcases hT with ⟨_, h, _⟩ | ⟨rfl, _, d6, hd6, hn6, hus6⟩
      · exact absurd HO.out h
      have key : n + n5 = n6 ∧ us5 = us6 := by
        obtain ⟨h1, h2⟩ := HD.out
        obtain ⟨h3, h4, h5⟩ := HD5.out
        have hm : d ≤ d6 := h1.mono hd6 (by omega)
        have h6 := h3.one (hd6.drop (d := n) (by omega))
        have h7 : n + n5 = n6 := by omega
        refine ⟨h7, ?_⟩
        rw [h5, hus6, List.drop_drop, h7]
      have hok6 : okV us6 := by rw [hus6]; exact okV_drop HO.out _
      have few6 : us6.length ≤ 4398046511104 := by have := okV_few hok6; omega
      have hR5 := (HO5.out.rs (by rw [key.2]; exact few6) (by rw [key.2]; exact fun x hx => okX_each (hok6.1 x hx))).keep hF6
      have hR6 := hO6.rs few6 (fun x hx => okX_each (hok6.1 x hx))
      have HS : Hid (Calls _ _ _ _ _) := sameVs_any ro5 ro6 N5 N6 rc5 rc6 true us5 us6 w6 hR5 hR6 HO5.out.len hO6.len (by simp [key.2])
      have heq : (((n : Int) + (n5 : Int)) == (n6 : Int)) = true := by rw [beq_iff_eq]; omega
      clear hd6 hn6 hus6 key hok6 few6 hR5 hR6 hO6 HZ2 HD HD5 HO5 HXo HO HL HV hF6
      go_wp2_with fail
      refine Calls.mono HS.out ?_
      rintro e w7 ⟨rfl, hF7⟩
      have hG7 := hG6.then hF7
      clear HS
      go_wp2
      go_ret
      exact ⟨rfl, hG7⟩
    · subst hab
      have HX : Hid (Calls _ _ _ _ _) := collect_any ao L cap (a : Int) vs w3 (HV.out _ hG3) HL.out hC
      have HZ : Hid (∀ W, Fr [] w W → Calls Try.prog 8 #[.slice ao L cap, .int .i64 (a : Int)] W fun e w' => ∃ ro N rc us n c, e = .returned (.tuple #[.slice ro N rc, .int .i64 ((n : Nat) : Int), .int .i64 ((c : Nat) : Int)]) ∧ CoTold vs (a : Int) us n c ∧ VOut W w' ro N rc us ∧ Fr [] W w') := fun W hf => collect_any ao L cap (a : Int) vs W (HV.out _ hf) HL.out hC
      go_wp2_with fail
      refine Calls.mono HX.out ?_
      rintro e w4 ⟨ro, N, rc, us, n, c, rfl, hT, hO4, hF4⟩
      have hG4 := hG3.then hF4
      rcases hT with ⟨_, h, _⟩ | ⟨rfl, _, d, hd, rfl, rfl⟩
      · exact absurd HO.out h
      obtain ⟨n, hn⟩ : ∃ n, n = d - 1 := ⟨_, rfl⟩
      rw [← hn] at hO4 ⊢
      have hdle := hd.le
      have hn2 : n ≤ 65536 := by have := HL.out; omega
      have HXo : Hid (okV (vs.drop n)) := okV_drop HO.out n
      have hR4 := hO4.rs (by have := okV_few HXo.out; omega) (fun x hx => okX_each (HXo.out.1 x hx))
      have HY : Hid (Calls _ _ _ _ _) := collect_any ro N rc (a : Int) (vs.drop n) w4 hR4 hO4.len hO4.cap
      have HD : Hid (UpTo vs (a : Int) d ∧ n = d - 1) := ⟨hd, hn⟩
      clear HX hd hn hdle hO4 hR4 hF4
      go_wp2_with fail
      refine Calls.mono HY.out ?_
      rintro e w5 ⟨ro5, N5, rc5, us5, n5, c5, rfl, hT, hO5, hF5⟩
      have hG5 := hG4.then hF5
      rcases hT with ⟨_, h, _⟩ | ⟨rfl, _, d5, hd5, hn5, hus5⟩
      · exact absurd HXo.out h
      have hd5le := hd5.le
      have hn52 : n5 ≤ 65536 := by have := HL.out; rw [List.length_drop] at hd5le; omega
      have HZ2 : Hid (Calls _ _ _ _ _) := HZ.out _ hG5
      have HD5 : Hid (UpTo (vs.drop n) (a : Int) d5 ∧ n5 = d5 - 1 ∧ us5 = (vs.drop n).drop n5) := ⟨hd5, hn5, hus5⟩
      have HO5 : Hid (VOut w4 w5 ro5 N5 rc5 us5) := hO5
      clear HY hd5 hn5 hus5 hO5 hF5 hd5le HZ
      go_wp2_with fail
      refine Calls.mono HZ2.out ?_
      rintro e w6 ⟨ro6, N6, rc6, us6, n6, c6, rfl, hT, hO6, hF6⟩
      have hG6 := hG5.then hF6
      rcases hT with ⟨_, h, _⟩ | ⟨rfl, _, d6, hd6, hn6, hus6⟩
      · exact absurd HO.out h
      have key : n + n5 = n6 ∧ us5 = us6 := by
        obtain ⟨h1, h2⟩ := HD.out
        obtain ⟨h3, h4, h5⟩ := HD5.out
        have hm : d ≤ d6 := h1.mono hd6 (by omega)
        have h6 := h3.one (hd6.drop (d := n) (by omega))
        have h7 : n + n5 = n6 := by omega
        refine ⟨h7, ?_⟩
        rw [h5, hus6, List.drop_drop, h7]
      have hok6 : okV us6 := by rw [hus6]; exact okV_drop HO.out _
      have few6 : us6.length ≤ 4398046511104 := by have := okV_few hok6; omega
      have hR5 := (HO5.out.rs (by rw [key.2]; exact few6) (by rw [key.2]; exact fun x hx => okX_each (hok6.1 x hx))).keep hF6
      have hR6 := hO6.rs few6 (fun x hx => okX_each (hok6.1 x hx))
      have HS : Hid (Calls _ _ _ _ _) := sameVs_any ro5 ro6 N5 N6 rc5 rc6 true us5 us6 w6 hR5 hR6 HO5.out.len hO6.len (by simp [key.2])
      have heq : (((n : Int) + (n5 : Int)) == (n6 : Int)) = true := by rw [beq_iff_eq]; omega
      clear hd6 hn6 hus6 key hok6 few6 hR5 hR6 hO6 HZ2 HD HD5 HO5 HXo HO HL HV hF6
      go_wp2_with fail
      refine Calls.mono HS.out ?_
      rintro e w7 ⟨rfl, hF7⟩
      have hG7 := hG6.then hF7
      clear HS
      go_wp2
      go_ret
      exact ⟨rfl, hG7⟩
    · have habz : (b : Int) < a := by omega
      have HX : Hid (Calls _ _ _ _ _) := collect_any ao L cap (b : Int) vs w3 (HV.out _ hG3) HL.out hC
      have HZ : Hid (∀ W, Fr [] w W → Calls Try.prog 8 #[.slice ao L cap, .int .i64 (a : Int)] W fun e w' => ∃ ro N rc us n c, e = .returned (.tuple #[.slice ro N rc, .int .i64 ((n : Nat) : Int), .int .i64 ((c : Nat) : Int)]) ∧ CoTold vs (a : Int) us n c ∧ VOut W w' ro N rc us ∧ Fr [] W w') := fun W hf => collect_any ao L cap (a : Int) vs W (HV.out _ hf) HL.out hC
      go_wp2_with fail
      refine Calls.mono HX.out ?_
      rintro e w4 ⟨ro, N, rc, us, n, c, rfl, hT, hO4, hF4⟩
      have hG4 := hG3.then hF4
      rcases hT with ⟨_, h, _⟩ | ⟨rfl, _, d, hd, rfl, rfl⟩
      · exact absurd HO.out h
      obtain ⟨n, hn⟩ : ∃ n, n = d - 1 := ⟨_, rfl⟩
      rw [← hn] at hO4 ⊢
      have hdle := hd.le
      have hn2 : n ≤ 65536 := by have := HL.out; omega
      have HXo : Hid (okV (vs.drop n)) := okV_drop HO.out n
      have hR4 := hO4.rs (by have := okV_few HXo.out; omega) (fun x hx => okX_each (HXo.out.1 x hx))
      have HY : Hid (Calls _ _ _ _ _) := collect_any ro N rc (a : Int) (vs.drop n) w4 hR4 hO4.len hO4.cap
      have HD : Hid (UpTo vs (b : Int) d ∧ n = d - 1) := ⟨hd, hn⟩
      clear HX hd hn hdle hO4 hR4 hF4
      go_wp2_with fail
      refine Calls.mono HY.out ?_
      rintro e w5 ⟨ro5, N5, rc5, us5, n5, c5, rfl, hT, hO5, hF5⟩
      have hG5 := hG4.then hF5
      rcases hT with ⟨_, h, _⟩ | ⟨rfl, _, d5, hd5, hn5, hus5⟩
      · exact absurd HXo.out h
      have hd5le := hd5.le
      have hn52 : n5 ≤ 65536 := by have := HL.out; rw [List.length_drop] at hd5le; omega
      have HZ2 : Hid (Calls _ _ _ _ _) := HZ.out _ hG5
      have HD5 : Hid (UpTo (vs.drop n) (a : Int) d5 ∧ n5 = d5 - 1 ∧ us5 = (vs.drop n).drop n5) := ⟨hd5, hn5, hus5⟩
      have HO5 : Hid (VOut w4 w5 ro5 N5 rc5 us5) := hO5
      clear HY hd5 hn5 hus5 hO5 hF5 hd5le HZ
      go_wp2_with fail
      refine Calls.mono HZ2.out ?_
      rintro e w6 ⟨ro6, N6, rc6, us6, n6, c6, rfl, hT, hO6, hF6⟩
      have hG6 := hG5.then hF6
      rcases hT with ⟨_, h, _⟩ | ⟨rfl, _, d6, hd6, hn6, hus6⟩
      · exact absurd HO.out h
      have key : n + n5 = n6 ∧ us5 = us6 := by
        obtain ⟨h1, h2⟩ := HD.out
        obtain ⟨h3, h4, h5⟩ := HD5.out
        have hm : d ≤ d6 := h1.mono hd6 (by omega)
        have h6 := h3.one (hd6.drop (d := n) (by omega))
        have h7 : n + n5 = n6 := by omega
        refine ⟨h7, ?_⟩
        rw [h5, hus6, List.drop_drop, h7]
      have hok6 : okV us6 := by rw [hus6]; exact okV_drop HO.out _
      have few6 : us6.length ≤ 4398046511104 := by have := okV_few hok6; omega
      have hR5 := (HO5.out.rs (by rw [key.2]; exact few6) (by rw [key.2]; exact fun x hx => okX_each (hok6.1 x hx))).keep hF6
      have hR6 := hO6.rs few6 (fun x hx => okX_each (hok6.1 x hx))
      have HS : Hid (Calls _ _ _ _ _) := sameVs_any ro5 ro6 N5 N6 rc5 rc6 true us5 us6 w6 hR5 hR6 HO5.out.len hO6.len (by simp [key.2])
      have heq : (((n : Int) + (n5 : Int)) == (n6 : Int)) = true := by rw [beq_iff_eq]; omega
      clear hd6 hn6 hus6 key hok6 few6 hR5 hR6 hO6 HZ2 HD HD5 HO5 HXo HO HL HV hF6
      go_wp2_with fail
      refine Calls.mono HS.out ?_
      rintro e w7 ⟨rfl, hF7⟩
      have hG7 := hG6.then hF7
      clear HS
      go_wp2
      go_ret
      exact ⟨rfl, hG7⟩

theorem own : ownKnob Try.prog.godebug = none := by kernel_rfl
theorem laidOut : laidOutB Try.prog = true := by kernel_rfl
set_option maxHeartbeats 4000000 in
set_option maxRecDepth 100000 in
theorem lifted (os : Os) (started : os.Started) (H : Type) (enc : TypeId × Value → H) :
    ReturnsInHanded {} Try.checked os 3 .any (Rows.chainTwiceSpec.pre6 enc Try.prog Try.f3 Rows.chainTwiceRow.domain false) (Rows.chainTwiceSpec.post enc Try.prog Try.f3 false true false false) := by
  refine returnsInHanded_of_change_sized (C := Try.checked) own started (by kernel_rfl) Try.func3
    (ChangeSpec.witness6 (enc := enc) (C := Try.checked) false ⟨#[], #[.slice none 0 0, .int .u16 0, .int .u16 0], []⟩ 8 (by kernel_rfl) (by kernel_rfl) (by kernel_rfl) (by kernel_rfl)) ?_
  intro W base args ds gs before hval0 hW hcnd hsz0 _
  have hval : ∀ (j : Nat) t v, Try.f3.params[j]? = some t → args[j]? = some v → Value.okWide Try.prog W .any base t v := hval0
  have hsz : (DataW.weightsEach Try.prog (Try.f3.params.toList ++ Rows.chainTwiceSpec.plain.varTypes Try.prog) (ds ++ gs)).all (· ≤ reachBytes) = true := hsz0
  have hW' := hW
  obtain ⟨p, q, hA0, hV, rfl, hfz, hnd⟩ := hW
  have hA : DataW.TrodAll enc Try.prog W 0 (fun _ => true) true Try.f3.params.toList args.toList ds p := hA0
  rw [Try.params3] at hA hval hsz
  obtain ⟨v0, vs0, d0, ds0, p0, q0, hargs, rfl, rfl, h0, r0⟩ := trodAll_cons hA
  obtain ⟨v1, vs1, d1, ds1, p1, q1, rfl, rfl, rfl, h1, r1⟩ := trodAll_cons r0
  obtain ⟨v2, vs2, d2, ds2, p2, q2, rfl, rfl, rfl, h2, r2⟩ := trodAll_cons r1
  obtain ⟨rfl, rfl, rfl⟩ := trodAll_nil r2
  obtain rfl : args = #[v0, v1, v2] := by cases args; simp_all
  obtain ⟨rfl, rfl⟩ := trodVars_none hV
  have k0 := h0
  have lt0 : ∀ x ∈ p0, x.block < W.heap.size := by obtain ⟨m, hm⟩ := k0; exact DataW.trod_lt m _ _ _ hm
  obtain ⟨a0, len0, cap0, xs0, rfl, hB0, hL0, hC0⟩ : ∃ ao L cap xs, v0 = .slice ao L cap ∧ VRs W ao xs ∧ L = xs.length ∧ L ≤ cap := by
    obtain ⟨fuel, hf⟩ := h0
    obtain ⟨ao, L, cap, rfl⟩ := okWide_slice Try.undVns' (hval 0 22 v0 rfl rfl)
    exact vs_open hf (fun n hn => of_decide_eq_true (List.all_eq_true.1 hsz n (DataW.weights_mem_each (j := 0) (t := 22) rfl rfl n hn)))
  obtain ⟨n1, rfl, rfl, rfl, w1⟩ := open_int Try.underlying23 (hval 1 23 v1 rfl rfl) h1
  have b1 := bounds_u16 w1
  obtain ⟨m1, rfl⟩ : ∃ m : Nat, n1 = (m : Int) := ⟨n1.toNat, by omega⟩
  obtain ⟨n2, rfl, rfl, rfl, w2⟩ := open_int Try.underlying23 (hval 2 23 v2 rfl rfl) h2
  have b2 := bounds_u16 w2
  obtain ⟨m2, rfl⟩ : ∃ m : Nat, n2 = (m : Int) := ⟨n2.toNat, by omega⟩
  clear hA0 hval0
  refine (walk a0 len0 cap0 xs0 m1 (by omega) m2 (by omega) W hB0 hL0 hC0).mono fun e W' ⟨he, hf⟩ => ?_
  subst he
  have bel : Below W.heap.size W W' := hf.below (Nat.le_refl _) (by simp)
  exact ⟨_, rfl, _, _, _, [], _, [], hW', trodAll_mk1 (shut_bool Try.underlying4 _), (trodAll_cons_mk (Below.trod laidOut (by kernel_rfl) (of_decide_eq_true (by kernel_rfl)) k0 bel lt0) (trodAll_cons_mk (shut_int Try.underlying23 w1) (trodAll_cons_mk (shut_int Try.underlying23 w2) trodAll_mk0))), rfl, bel.frame _, fun h => by cases h⟩

theorem over : Rows.chainTwiceRow.holds Try.pinned (OpenSpec.ofChange Rows.chainTwiceSpec) :=
  OpenClaim.holds_of_wide 3 Try.f3 rfl rfl rfl rfl rfl rfl rfl ⟨rfl, rfl, rfl, rfl, rfl⟩ rfl rfl rfl rfl rfl (by kernel_rfl) Try.func3 (by kernel_rfl)
    (of_decide_eq_true (by kernel_rfl)) (by unfold Func.isWrapper; first | (rw [if_pos (by decide +kernel)]; kernel_rfl) | (rw [if_neg (by decide +kernel)]; exact ⟨rfl, rfl⟩))
    (fun os started H enc _ => lifted os started H enc)
end Go.Proofs.Ytlikpcbiogfgcab.chainTwice
namespace Go.Proofs.Ytlikpcbiogfgcab
theorem chaintwice_holds : Rows.ChainTwiceSaid := chainTwice.over
#print axioms chaintwice_holds
end Go.Proofs.Ytlikpcbiogfgcab

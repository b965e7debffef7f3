/- For every list of versions and all numbers the law ChainThins returns true, and the list reads as it did. No conditions. -/
import Derived.Test.YtlikpcbiogfgcaaVl
import Derived.Test.YtlikpcbiogfgcaaVz
namespace Go.Proofs.Ytlikpcbiogfgcaa.chainThins
open Go.ChangeShapes Go.WideShapes Go.ChangeAt Go.RowKit Go.Lib
set_option linter.unusedVariables false
set_option linter.unusedSimpArgs false

set_option maxHeartbeats 16000000 in
set_option maxRecDepth 100000 in
theorem walk (ao : Option Addr) (L cap : Nat) (vs : List Vn) (k : Int) (m : Nat) (hm : m < 65536) (w : World) (hV : VRs w ao vs) (hL : L = vs.length) (hC : L ≤ cap) (hk : -9223372036854775808 ≤ k ∧ k ≤ 9223372036854775807) :
    Calls Try.prog 4 #[.slice ao L cap, .int .i64 k, .int .u16 (m : Int)] w fun e w' => e = .returned (.bool true) ∧ Fr [] w w' := by
  have HL : Hid (L = vs.length) := hL
  have HV : Hid (∀ W, Fr [] w W → VRs W ao vs) := fun W hf => hV.keep hf
  have hLL : L ≤ 4398046511104 := by have := hV.few; omega
  clear hV hL
  go_enter Try.func4, Try.ntmps4
  go_wp2_with fail
  refine (alive8_any _).mono ?_
  rintro e w1 ⟨rfl, hF1⟩
  obtain ⟨c, hck⟩ := CkT.ex vs
  have HC : Hid (Calls _ _ _ _ _) := vcheck_any ao L cap c vs w1 (HV.out _ hF1) HL.out hck
  rcases hck with ⟨rfl, hok⟩ | ⟨rfl, hok⟩
  rotate_left
  · clear hok
    go_wp2_with fail
    refine Calls.mono HC.out ?_
    rintro e w2 ⟨rfl, hF2⟩
    go_wp2_with fail
    refine (alive8_any _).mono ?_
    rintro e w3 ⟨rfl, hF3⟩
    go_wp2
    go_ret
    exact ⟨rfl, hF1.then (hF2.then hF3)⟩
  have HO : Hid (okV vs) := hok
  have hL2 : L ≤ 65536 := by have := okV_few hok; have := HL.out; omega
  clear hok
  go_wp2_with fail
  refine Calls.mono HC.out ?_
  rintro e w2 ⟨rfl, hF2⟩
  have hG2 := hF1.then hF2
  clear HC hF1 hF2
  go_wp2_with fail
  refine (vsize_any ao L cap vs _ (HV.out _ hG2) HL.out).mono ?_
  rintro e w3 ⟨N0, rfl, hLN, hN0, rfl⟩
  go_wp2_with fail
  refine (beyond_any w2.heap.size N0 _ (by omega) (by simp)).mono ?_
  rintro e w3 ⟨rfl, rfl⟩
  have hG3 := hG2.then (Fr.alloc [] w2 (.cells #[.int .i64 (N0 : Int)] 3))
  obtain ⟨w3, HW3⟩ : ∃ w3, Hid (w2.alloc (.cells #[.int .i64 (N0 : Int)] 3) = w3) := ⟨_, rfl⟩
  rw [HW3.out] at hG3 ⊢
  clear HW3 hG2
  obtain ⟨Bq, hBq⟩ : ∃ Bq, Bq = decide (1048576 < N0) := ⟨_, rfl⟩
  rw [← hBq]
  clear hBq
  cases Bq with
  | true =>
    go_wp2_with fail
    refine (alive8_any _).mono ?_
    rintro e w4 ⟨rfl, hF4⟩
    go_wp2
    go_ret
    exact ⟨rfl, hG3.then hF4⟩
  | false =>
    have HX : Hid (Calls _ _ _ _ _) := collect_any ao L cap k vs w3 (HV.out _ hG3) HL.out hC
    go_wp2_with fail
    refine Calls.mono HX.out ?_
    rintro e w4 ⟨ro, N, rc, us, n, c, rfl, hT, hO4, hF4⟩
    have hG4 := hG3.then hF4
    rcases hT with ⟨_, h, _⟩ | ⟨rfl, _, d, hd, rfl, rfl⟩
    · exact absurd HO.out h
    have hR4 := hO4.rs (by have := okV_few (okV_drop HO.out (d - 1)); omega) (fun x hx => okX_each ((okV_drop HO.out (d - 1)).1 x hx))
    have HR4 : Hid (∀ W, Fr [] w4 W → VRs W ro (vs.drop (d - 1))) := fun W hf => hR4.keep hf
    have HN : Hid (N = (vs.drop (d - 1)).length) := hO4.len
    have hNrc : N ≤ rc := hO4.cap
    have hdle := hd.le
    have hNL : N + (d - 1) = L := by have h1 := HN.out; have h2 := HL.out; rw [List.length_drop] at h1; omega
    have hN2 : N ≤ 65536 := by omega
    have HD : Hid (UpTo vs k d) := hd
    obtain ⟨n, hn⟩ : ∃ n, n = d - 1 := ⟨_, rfl⟩
    rw [← hn] at HN HR4 hNL
    have HNd : Hid (n = d - 1) := hn
    have hne : (((N : Int) + (n : Int)) != (L : Int)) = false := by rw [bne_eq_false_iff_eq]; omega
    have hn2 : n ≤ 65536 := by omega
    have HU : Hid (UpTo (vs.drop n) k (d - n)) := by rw [hn]; exact hd.drop (by omega)
    have HXo : Hid (okV (vs.drop n)) := okV_drop HO.out n
    clear HX hO4 hd hR4 hF4 hdle
    rw [← hn]
    clear hn
    have HC2 : Hid (Calls _ _ _ _ _) := vcheck_any ro N rc 0 (vs.drop n) w4 (HR4.out _ (Fr.refl _ _)) HN.out (CkT.of HXo.out)
    have HNL : Hid (N + n = L) := hNL
    clear hNL
    go_wp2_with fail
    refine Calls.mono HC2.out ?_
    rintro e w5 ⟨rfl, hF5⟩
    have hG5 := hG4.then hF5
    have hr5 := HR4.out _ hF5
    have HR5 : Hid (VRs w5 ro (vs.drop n)) := hr5
    have HH5 : Hid (Fr [] w4 w5) := hF5
    clear HC2 hr5 hF5
    go_wp2_with fail
    go_loop [10, 11] (fun ll ii => ∃ (lw i : Nat), ll = .int .i64 lw ∧ ii = .int .i64 i ∧ i ≤ N ∧ lw ≤ 1 ∧ lw ≤ i) (fun _ ii => N - (intOf ii).toNat)
    case atStart => exact ⟨0, 0, rfl, rfl, Nat.zero_le _, by omega, Nat.le_refl _⟩
    case round =>
      obtain ⟨lw, i, rfl, rfl, hiN, hlw1, hlwi⟩ := hrel
      by_cases hi : i < N
      · have hi' : i < (vs.drop n).length := by rw [← HN.out]; exact hi
        obtain ⟨b, off, rfl, _, hat⟩ := HR5.out.lies (by omega)
        obtain ⟨c0, _, _⟩ := hat i hi'
        have hgt : 1 ≤ i → k < ((vs.drop n).getD i Vn.zero).num := fun h1 => HU.out.hi i (by have := HNd.out; omega) hi'
        obtain ⟨x, hx⟩ : ∃ x, x = ((vs.drop n).getD i Vn.zero).num := ⟨_, rfl⟩
        rw [← hx] at c0 hgt
        clear hx hat
        by_cases hxk : x ≤ k
        · have hlw0 : lw < 1 := by
            rcases Nat.eq_zero_or_pos i with h | h
            · omega
            · have := hgt h; omega
          clear hgt
          go_wp2
          exact ⟨⟨lw + 1, i + 1, by simp, by simp, by omega, by omega, by omega⟩, by simp [intOf]; omega⟩
        · have hxk' : k < x := by omega
          clear hxk
          go_wp2
          exact ⟨⟨lw, i + 1, rfl, by simp, by omega, by omega, by omega⟩, by simp [intOf]; omega⟩
      · have hlw2 : ¬ ((lw : Int) > 1) := by omega
        have HX : Hid (Calls _ _ _ _ _) := collect_any ro N rc k (vs.drop n) w5 HR5.out HN.out hNrc
        go_wp2_with fail
        refine Calls.mono HX.out ?_
        rintro e w6 ⟨ro6, N6, rc6, us6, n6, c6, rfl, hT, hO6, hF6⟩
        have hG6 := hG5.then hF6
        rcases hT with ⟨_, h, _⟩ | ⟨rfl, _, d6, hd6, rfl, rfl⟩
        · exact absurd HXo.out h
        have hd6' := hd6.one HU.out
        obtain ⟨n6, hn6⟩ : ∃ n6, n6 = d6 - 1 := ⟨_, rfl⟩
        obtain rfl : n6 = 0 := by have := HNd.out; omega
        rw [← hn6] at hO6 ⊢
        clear hn6 hd6' hd6 HX
        rw [List.drop_zero] at hO6
        have hR6 := hO6.rs (by have := okV_few HXo.out; omega) (fun x hx => okX_each (HXo.out.1 x hx))
        have HN6 : Hid (N6 = (vs.drop n).length) := hO6.len
        have HS : Hid (Calls _ _ _ _ _) := sameVs_any ro6 ro N6 N rc6 rc true (vs.drop n) (vs.drop n) w6 hR6 (HR5.out.keep hF6) HN6.out HN.out (by simp)
        have hH6 := HH5.out.then hF6
        clear hO6 hR6 hF6
        have hlw3 : decide ((lw : Int) > 1) = false := by simp; omega
        go_wp2_with fail
        refine Calls.mono HS.out ?_
        rintro e w7 ⟨rfl, hF7⟩
        have hG7 := hG6.then hF7
        have hH7 := hH6.then hF7
        clear HS
        obtain ⟨at', hat'⟩ : ∃ at' : Int, at' = max (m : Int) k := ⟨_, rfl⟩
        have HA : Hid (Calls _ _ _ _ _) := at_any ao L cap at' vs w7 (HV.out _ hG7) HL.out
        have hkat : k ≤ at' := by omega
        have fin : ∀ (W7 : World), W7 = w7 → ∀ x ok c, AtTold vs at' x ok c → ∀ x' ok' c', AtTold (vs.drop n) at' x' ok' c' → c = 0 ∧ c' = 0 ∧ ok = ok' ∧ x = x' := by
          intro W7 _ x ok c h x' ok' c' h'
          rcases h with ⟨_, h, _⟩ | ⟨rfl, _, e1, he1, rfl, rfl⟩
          · exact absurd HO.out h
          rcases h' with ⟨_, h, _⟩ | ⟨rfl, _, e2, he2, rfl, rfl⟩
          · exact absurd HXo.out h
          have hde : d ≤ e1 := HD.out.mono he1 hkat
          have hne1 : n ≤ e1 := by have := HNd.out; omega
          obtain rfl := he2.one (he1.drop hne1)
          refine ⟨rfl, rfl, ?_, (atV_drop vs e1 n (by have := HNd.out; omega)).symm⟩
          have := HNd.out
          by_cases h0 : 0 < e1
          · rw [decide_eq_true h0, decide_eq_true (by omega)]
          · rw [decide_eq_false h0, decide_eq_false (by omega)]
        have HFin : Hid (∀ (W7 : World), W7 = w7 → ∀ x ok c, AtTold vs at' x ok c → ∀ x' ok' c', AtTold (vs.drop n) at' x' ok' c' → c = 0 ∧ c' = 0 ∧ ok = ok' ∧ x = x') := fin
        have HAt : Hid (at' = max (m : Int) k) := hat'
        clear fin hat' hkat
        have hgu := Try.guardVn
        by_cases hmk : (m : Int) < k
        · have hak : at' = k := by have := HAt.out; omega
          clear HAt
          subst hak
          go_wp2_with fail
          refine Calls.mono HA.out ?_
          rintro e w8 ⟨x, ok, c, rfl, hT8, hF8⟩
          obtain ⟨W8, HW8⟩ : ∃ W8, Hid (w8.alloc (.cells #[.int .i64 x.num, .string x.val, .bool x.drop] 30) = W8) := ⟨_, rfl⟩
          have hF8' : Fr [] w8 W8 := by rw [← HW8.out]; exact Fr.alloc [] w8 _
          have hb8 : W8.heap[w8.heap.size]? = some (.cells #[.int .i64 x.num, .string x.val, .bool x.drop] 30 (0, 0)) := by rw [← HW8.out]; exact heap_alloc_new w8 _
          have hG8 := hG7.then (hF8.then hF8')
          have HA2 : Hid (Calls _ _ _ _ _) := at_any ro N rc at' (vs.drop n) W8 (HR4.out _ (hH7.then (hF8.then hF8'))) HN.out
          have HT8 : Hid (AtTold vs at' x ok c) := hT8
          clear HA hT8 hF8 hF8'
          go_wp2_with fail
          rw [HW8.out]
          refine Calls.mono HA2.out ?_
          rintro e w9 ⟨x', ok', c', rfl, hT9, hF9⟩
          obtain ⟨rfl, rfl, rfl, rfl⟩ := HFin.out _ rfl _ _ _ HT8.out _ _ _ hT9
          obtain ⟨W9, HW9⟩ : ∃ W9, Hid (w9.alloc (.cells #[.int .i64 x.num, .string x.val, .bool x.drop] 30) = W9) := ⟨_, rfl⟩
          have hF9' : Fr [] w9 W9 := by rw [← HW9.out]; exact Fr.alloc [] w9 _
          have hb9 : W9.heap[w9.heap.size]? = some (.cells #[.int .i64 x.num, .string x.val, .bool x.drop] 30 (0, 0)) := by rw [← HW9.out]; exact heap_alloc_new w9 _
          have hb8' := (hF9.then hF9').keep hb8 (by simp)
          have hG9 := hG8.then (hF9.then hF9')
          have y0 : W9.cell? ⟨w8.heap.size, 0, none⟩ = some (.int .i64 x.num) := by rw [cell_of_row _ _ _ _ _ _ hb8']; rfl
          have y1 : W9.cell? ⟨w8.heap.size, 1, none⟩ = some (.string x.val) := by rw [cell_of_row _ _ _ _ _ _ hb8']; rfl
          have y2 : W9.cell? ⟨w8.heap.size, 2, none⟩ = some (.bool x.drop) := by rw [cell_of_row _ _ _ _ _ _ hb8']; rfl
          have z0 : W9.cell? ⟨w9.heap.size, 0, none⟩ = some (.int .i64 x.num) := by rw [cell_of_row _ _ _ _ _ _ hb9]; rfl
          have z1 : W9.cell? ⟨w9.heap.size, 1, none⟩ = some (.string x.val) := by rw [cell_of_row _ _ _ _ _ _ hb9]; rfl
          have z2 : W9.cell? ⟨w9.heap.size, 2, none⟩ = some (.bool x.drop) := by rw [cell_of_row _ _ _ _ _ _ hb9]; rfl
          have hqq : ∀ W, (Op.equalIn 10000 30 (.agg #[.int .i64 x.num, .string x.val, .bool x.drop]) (.agg #[.int .i64 x.num, .string x.val, .bool x.drop])).run Try.prog W = .ok true W := fun W => by rw [vn_in W x x, (sameV_iff x x).2 rfl]
          clear HA2 hT9 hF9 hF9' hb8 hb8' hb9 HT8 HFin
          obtain ⟨xn, xv, xd⟩ := x
          simp only at y0 y1 y2 z0 z1 z2 hqq
          have HG9 : Hid (Fr [] w W9) := hG9
          clear HV HL HO HN HR4 HD HNd HU HXo HNL HR5 HH5 hG3 hG4 hG5 hG6 hG7 hG8 hG9 hH6 hH7 HN6
          go_upto_region 20 with fail
          rw [HW9.out]
          clear HW8 HW9
          cases ok
          · go_wp2
            go_ret
            exact ⟨rfl, HG9.out⟩
          · go_wp2
            go_ret
            exact ⟨rfl, HG9.out⟩
        · have hak : at' = (m : Int) := by have := HAt.out; omega
          clear HAt
          subst hak
          have hmk' : k ≤ (m : Int) := by omega
          clear hmk
          go_wp2_with fail
          refine Calls.mono HA.out ?_
          rintro e w8 ⟨x, ok, c, rfl, hT8, hF8⟩
          obtain ⟨W8, HW8⟩ : ∃ W8, Hid (w8.alloc (.cells #[.int .i64 x.num, .string x.val, .bool x.drop] 30) = W8) := ⟨_, rfl⟩
          have hF8' : Fr [] w8 W8 := by rw [← HW8.out]; exact Fr.alloc [] w8 _
          have hb8 : W8.heap[w8.heap.size]? = some (.cells #[.int .i64 x.num, .string x.val, .bool x.drop] 30 (0, 0)) := by rw [← HW8.out]; exact heap_alloc_new w8 _
          have hG8 := hG7.then (hF8.then hF8')
          have HA2 : Hid (Calls _ _ _ _ _) := at_any ro N rc (m : Int) (vs.drop n) W8 (HR4.out _ (hH7.then (hF8.then hF8'))) HN.out
          have HT8 : Hid (AtTold vs (m : Int) x ok c) := hT8
          clear HA hT8 hF8 hF8'
          go_wp2_with fail
          rw [HW8.out]
          refine Calls.mono HA2.out ?_
          rintro e w9 ⟨x', ok', c', rfl, hT9, hF9⟩
          obtain ⟨rfl, rfl, rfl, rfl⟩ := HFin.out _ rfl _ _ _ HT8.out _ _ _ hT9
          obtain ⟨W9, HW9⟩ : ∃ W9, Hid (w9.alloc (.cells #[.int .i64 x.num, .string x.val, .bool x.drop] 30) = W9) := ⟨_, rfl⟩
          have hF9' : Fr [] w9 W9 := by rw [← HW9.out]; exact Fr.alloc [] w9 _
          have hb9 : W9.heap[w9.heap.size]? = some (.cells #[.int .i64 x.num, .string x.val, .bool x.drop] 30 (0, 0)) := by rw [← HW9.out]; exact heap_alloc_new w9 _
          have hb8' := (hF9.then hF9').keep hb8 (by simp)
          have hG9 := hG8.then (hF9.then hF9')
          have y0 : W9.cell? ⟨w8.heap.size, 0, none⟩ = some (.int .i64 x.num) := by rw [cell_of_row _ _ _ _ _ _ hb8']; rfl
          have y1 : W9.cell? ⟨w8.heap.size, 1, none⟩ = some (.string x.val) := by rw [cell_of_row _ _ _ _ _ _ hb8']; rfl
          have y2 : W9.cell? ⟨w8.heap.size, 2, none⟩ = some (.bool x.drop) := by rw [cell_of_row _ _ _ _ _ _ hb8']; rfl
          have z0 : W9.cell? ⟨w9.heap.size, 0, none⟩ = some (.int .i64 x.num) := by rw [cell_of_row _ _ _ _ _ _ hb9]; rfl
          have z1 : W9.cell? ⟨w9.heap.size, 1, none⟩ = some (.string x.val) := by rw [cell_of_row _ _ _ _ _ _ hb9]; rfl
          have z2 : W9.cell? ⟨w9.heap.size, 2, none⟩ = some (.bool x.drop) := by rw [cell_of_row _ _ _ _ _ _ hb9]; rfl
          have hqq : ∀ W, (Op.equalIn 10000 30 (.agg #[.int .i64 x.num, .string x.val, .bool x.drop]) (.agg #[.int .i64 x.num, .string x.val, .bool x.drop])).run Try.prog W = .ok true W := fun W => by rw [vn_in W x x, (sameV_iff x x).2 rfl]
          clear HA2 hT9 hF9 hF9' hb8 hb8' hb9 HT8 HFin
          obtain ⟨xn, xv, xd⟩ := x
          simp only at y0 y1 y2 z0 z1 z2 hqq
          have HG9 : Hid (Fr [] w W9) := hG9
          clear HV HL HO HN HR4 HD HNd HU HXo HNL HR5 HH5 hG3 hG4 hG5 hG6 hG7 hG8 hG9 hH6 hH7 HN6
          go_upto_region 20 with fail
          rw [HW9.out]
          clear HW8 HW9
          cases ok
          · go_wp2
            go_ret
            exact ⟨rfl, HG9.out⟩
          · go_wp2
            go_ret
            exact ⟨rfl, HG9.out⟩

theorem own : ownKnob Try.prog.godebug = none := by kernel_rfl
theorem laidOut : laidOutB Try.prog = true := by kernel_rfl
set_option maxHeartbeats 4000000 in
set_option maxRecDepth 100000 in
theorem lifted (os : Os) (started : os.Started) (H : Type) (enc : TypeId × Value → H) :
    ReturnsInHanded {} Try.checked os 4 .any (Rows.chainThinsSpec.pre6 enc Try.prog Try.f4 Rows.chainThinsRow.domain false) (Rows.chainThinsSpec.post enc Try.prog Try.f4 false true false false) := by
  refine returnsInHanded_of_change_sized (C := Try.checked) own started (by kernel_rfl) Try.func4
    (ChangeSpec.witness6 (enc := enc) (C := Try.checked) false ⟨#[], #[.slice none 0 0, .int .i64 0, .int .u16 0], []⟩ 8 (by kernel_rfl) (by kernel_rfl) (by kernel_rfl) (by kernel_rfl)) ?_
  intro W base args ds gs before hval0 hW hcnd hsz0 _
  have hval : ∀ (j : Nat) t v, Try.f4.params[j]? = some t → args[j]? = some v → Value.okWide Try.prog W .any base t v := hval0
  have hsz : (DataW.weightsEach Try.prog (Try.f4.params.toList ++ Rows.chainThinsSpec.plain.varTypes Try.prog) (ds ++ gs)).all (· ≤ reachBytes) = true := hsz0
  have hW' := hW
  obtain ⟨p, q, hA0, hV, rfl, hfz, hnd⟩ := hW
  have hA : DataW.TrodAll enc Try.prog W 0 (fun _ => true) true Try.f4.params.toList args.toList ds p := hA0
  rw [Try.params4] at hA hval hsz
  obtain ⟨v0, vs0, d0, ds0, p0, q0, hargs, rfl, rfl, h0, r0⟩ := trodAll_cons hA
  obtain ⟨v1, vs1, d1, ds1, p1, q1, rfl, rfl, rfl, h1, r1⟩ := trodAll_cons r0
  obtain ⟨v2, vs2, d2, ds2, p2, q2, rfl, rfl, rfl, h2, r2⟩ := trodAll_cons r1
  obtain ⟨rfl, rfl, rfl⟩ := trodAll_nil r2
  obtain rfl : args = #[v0, v1, v2] := by cases args; simp_all
  obtain ⟨rfl, rfl⟩ := trodVars_none hV
  have k0 := h0
  have lt0 : ∀ x ∈ p0, x.block < W.heap.size := by obtain ⟨m, hm⟩ := k0; exact DataW.trod_lt m _ _ _ hm
  obtain ⟨a0, len0, cap0, xs0, rfl, hB0, hL0, hC0⟩ : ∃ ao L cap xs, v0 = .slice ao L cap ∧ VRs W ao xs ∧ L = xs.length ∧ L ≤ cap := by
    obtain ⟨fuel, hf⟩ := h0
    obtain ⟨ao, L, cap, rfl⟩ := okWide_slice Try.undVns' (hval 0 22 v0 rfl rfl)
    exact vs_open hf (fun n hn => of_decide_eq_true (List.all_eq_true.1 hsz n (DataW.weights_mem_each (j := 0) (t := 22) rfl rfl n hn)))
  obtain ⟨n1, rfl, rfl, rfl, w1⟩ := open_int Try.underlying3 (hval 1 3 v1 rfl rfl) h1
  have b1 := bounds_i64 w1
  obtain ⟨n2, rfl, rfl, rfl, w2⟩ := open_int Try.underlying36 (hval 2 36 v2 rfl rfl) h2
  have b2 := bounds_u16 w2
  obtain ⟨m2, rfl⟩ : ∃ m : Nat, n2 = (m : Int) := ⟨n2.toNat, by omega⟩
  clear hA0 hval0
  refine (walk a0 len0 cap0 xs0 n1 m2 (by omega) W hB0 hL0 hC0 b1).mono fun e W' ⟨he, hf⟩ => ?_
  subst he
  have bel : Below W.heap.size W W' := hf.below (Nat.le_refl _) (by simp)
  exact ⟨_, rfl, _, _, _, [], _, [], hW', trodAll_mk1 (shut_bool Try.underlying4 _), (trodAll_cons_mk (Below.trod laidOut (by kernel_rfl) (of_decide_eq_true (by kernel_rfl)) k0 bel lt0) (trodAll_cons_mk (shut_int Try.underlying3 w1) (trodAll_cons_mk (shut_int Try.underlying36 w2) trodAll_mk0))), rfl, bel.frame _, fun h => by cases h⟩

theorem over : Rows.chainThinsRow.holds Try.pinned (OpenSpec.ofChange Rows.chainThinsSpec) :=
  OpenClaim.holds_of_wide 4 Try.f4 rfl rfl rfl rfl rfl rfl rfl ⟨rfl, rfl, rfl, rfl, rfl⟩ rfl rfl rfl rfl rfl (by kernel_rfl) Try.func4 (by kernel_rfl)
    (of_decide_eq_true (by kernel_rfl)) (by unfold Func.isWrapper; first | (rw [if_pos (by decide +kernel)]; kernel_rfl) | (rw [if_neg (by decide +kernel)]; exact ⟨rfl, rfl⟩))
    (fun os started H enc _ => lifted os started H enc)
end Go.Proofs.Ytlikpcbiogfgcaa.chainThins
namespace Go.Proofs.Ytlikpcbiogfgcaa
theorem chainthins_holds : Rows.ChainThinsSaid := chainThins.over
#print axioms chainthins_holds
end Go.Proofs.Ytlikpcbiogfgcaa

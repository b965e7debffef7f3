/- How great transactions are together: one answer, in whatever world. Conditions as each names them. -/
import Derived.Test.YtfminnmfdogopaaLfT
import Derived.Test.YtfminnmfdogopaaAsko
namespace Go.Proofs.Ytfminnmfdogopaa
open Go.ChangeShapes Go.WideShapes Go.ChangeAt Go.RowKit Go.Lib
set_option linter.unusedVariables false
set_option linter.unusedSimpArgs false
def wszG : Nat → List Wt → Nat
  | n, [] => n
  | n, x :: r => if n ≤ 1048576 then wszG (n + x.key.size + x.val.size) r else n
theorem wszG_stop {n : Nat} (h : ¬ n ≤ 1048576) (xs : List Wt) : wszG n xs = n := by
  cases xs with
  | nil => rfl
  | cons x r => simp [wszG, h]
def tszG : Nat → List Tm → Nat
  | n, [] => n
  | n, t :: r => if n ≤ 1048576 then tszG (n + (wszG t.ws.length t.ws + 1)) r else n
theorem tszG_stop {n : Nat} (h : ¬ n ≤ 1048576) (xs : List Tm) : tszG n xs = n := by
  cases xs with
  | nil => rfl
  | cons x r => simp [tszG, h]
theorem dropW_cons (xs : List Wt) (i : Nat) (h : i < xs.length) : xs.drop i = xs.getD i Wt.zero :: xs.drop (i + 1) := by
  rw [List.drop_eq_getElem_cons h]
  simp [List.getD, h]
theorem dropT_cons (xs : List Tm) (i : Nat) (h : i < xs.length) : xs.drop i = xs.getD i Tm.zero :: xs.drop (i + 1) := by
  rw [List.drop_eq_getElem_cons h]
  simp [List.getD, h]
set_option maxHeartbeats 4000000 in
set_option maxRecDepth 100000 in
theorem wsSizeD_any (a : Option Addr) (L ca : Nat) (xs : List Wt) (R : Nat) (w : World) (ha : WRs w a xs) (hL : L = xs.length) (hR : wszG L xs = R) :
    Calls Try.prog 50 #[.slice a L ca] w fun e w' => e = .returned (.int .i64 (R : Int)) ∧ R ≤ 422212465065984 ∧ Fr [] w w' := by
  have HL : Hid (L = xs.length) := hL
  have HR : Hid (wszG L xs = R) := hR
  have HA : Hid (∀ W, Fr [] w W → WRs W a xs) := fun W hf => ha.keep hf
  have hLl : L ≤ 140737488355328 := by have := ha.few; omega
  clear hL hR ha
  go_enter Try.func50, Try.ntmps50
  go_wp2_with fail
  go_loopw [3, 4] (fun vv ii wr => ∃ (n i : Nat), vv = .int .i64 n ∧ ii = .int .i64 i ∧ i ≤ L ∧ n ≤ 422212465065984 ∧ Hid (wszG n (xs.drop i) = R) ∧ Fr [] w wr) (fun _ ii _ => L - (intOf ii).toNat)
  case atStart => exact ⟨L, 0, rfl, rfl, Nat.zero_le _, by omega, by rw [List.drop_zero]; exact HR.out, Fr.refl _ _⟩
  case round =>
    obtain ⟨n, i, rfl, rfl, hiL, hn, HE, hFr⟩ := hrel
    by_cases hi : i < L
    · by_cases hbig : 1048576 < n
      · have hb' : (1048576 : Int) < n := by omega
        have hi' : (i : Int) < L := by omega
        obtain rfl : n = R := by rw [← HE.out]; exact (wszG_stop (by omega) _).symm
        go_wp2
        go_ret
        first | exact ⟨rfl, hn, hFr⟩ | exact ⟨rfl, hFr⟩
      · have hb' : (n : Int) ≤ 1048576 := by omega
        have hil : i < xs.length := by rw [← HL.out]; exact hi
        have hA := HA.out _ hFr
        obtain ⟨ba, oa, rfl, _, hca⟩ := hA.lies (by omega)
        obtain ⟨c0, c1, c2⟩ := hca i hil
        have hm := hA.each _ (wgetD_mem xs i hil)
        have hE := HE.out
        rw [dropW_cons xs i hil] at hE
        obtain ⟨x, hxx⟩ : ∃ x, x = xs.getD i Wt.zero := ⟨_, rfl⟩
        rw [← hxx] at c0 c1 c2 hm hE
        simp only [wszG] at hE
        rw [if_pos (by omega)] at hE
        obtain ⟨key, val, drop⟩ := x
        simp only at c0 c1 c2 hm hE
        have HE2 : Hid (wszG (n + key.size + val.size) (xs.drop (i + 1)) = R) := hE
        have hk1 := hm.1
        have hv1 := hm.2
        clear hxx hca hm hE hA HE
        go_wp2_with fail
        go_quiet (fail)
        go_wp2
        exact ⟨⟨n + key.size + val.size, i + 1, by simp, by simp, by omega, by omega, HE2, hFr.then (Fr.drewN _ _ _)⟩, by simp [intOf]; omega⟩
    · obtain rfl : n = R := by
        have := HE.out
        rw [List.drop_of_length_le (by have := HL.out; omega)] at this
        exact this
      go_wp2
      go_ret
      first | exact ⟨rfl, hn, hFr⟩ | exact ⟨rfl, hFr⟩
set_option maxHeartbeats 2000000 in
set_option maxRecDepth 100000 in
theorem txSizeD_any (m : Int) (a : Option Addr) (L ca R : Nat) (xs : List Wt) (w : World) (ha : WRs w a xs) (hL : L = xs.length) (hR : wszG L xs = R) :
    Calls Try.prog 26 #[.agg #[.int .i64 m, .slice a L ca]] w fun e w' => e = .returned (.int .i64 ((R : Int) + 1)) ∧ R ≤ 422212465065984 ∧ Fr [] w w' := by
  have HL : Hid (L = xs.length) := hL
  have HR : Hid (wszG L xs = R) := hR
  clear hL hR
  have hF0 : Fr [] w (w.alloc (.cells #[.int .i64 m, .slice a L ca] 51)) := Fr.alloc [] w _
  have ha0 := ha.keep hF0
  go_enter Try.func26, Try.ntmps26
  go_wp2_with fail
  refine (wsSizeD_any a L ca xs R _ ha0 HL.out HR.out).mono ?_
  rintro e w1 ⟨rfl, hN, hF1⟩
  go_wp2
  go_ret
  exact ⟨by simp; omega, hN, hF0.then hF1⟩
set_option maxHeartbeats 4000000 in
set_option maxRecDepth 100000 in
theorem txnsSizeD_any (ao : Option Addr) (L cap R : Nat) (ts : List Tm) (w : World) (hT : TRs w ao ts) (hL : L = ts.length) (hR : tszG L ts = R) :
    Calls Try.prog 9 #[.slice ao L cap] w fun e w' => e = .returned (.int .i64 (R : Int)) ∧ R ≤ 9007199254740992 ∧ Fr [] w w' := by
  have HL : Hid (L = ts.length) := hL
  have HR : Hid (tszG L ts = R) := hR
  have hLm : L ≤ 140737488355328 := by have := hT.few; omega
  clear hL hR
  go_enter Try.func9, Try.ntmps9
  go_wp2_with fail
  go_loopw [3, 4] (fun nn ii wr => ∃ (n i : Nat), nn = .int .i64 n ∧ ii = .int .i64 i ∧ i ≤ L ∧ n ≤ 9007199254740992 ∧ Hid (tszG n (ts.drop i) = R) ∧ Fr [] w wr) (fun _ ii _ => L - (intOf ii).toNat)
  case atStart => exact ⟨L, 0, rfl, rfl, Nat.zero_le _, by omega, by rw [List.drop_zero]; exact HR.out, Fr.refl _ _⟩
  case round =>
    obtain ⟨n, i, rfl, rfl, hiL, hn, HE, hFr⟩ := hrel
    by_cases hi : i < L
    · by_cases hbig : n ≤ 1048576
      · have hi' : i < ts.length := by rw [← HL.out]; exact hi
        have hb' : (n : Int) ≤ 1048576 := by omega
        obtain ⟨bb, off, rfl, _, hc⟩ := (hT.keep hFr).lies (by omega)
        have hx := hc i hi'
        have hat := (hT.keep hFr).each _ (tgetD_mem ts i hi')
        have hE := HE.out
        rw [dropT_cons ts i hi'] at hE
        obtain ⟨x, hxx⟩ : ∃ x, x = ts.getD i Tm.zero := ⟨_, rfl⟩
        rw [← hxx] at hx hat hE
        simp only [tszG] at hE
        rw [if_pos hbig] at hE
        obtain ⟨nn, xo, M, cm, ws⟩ := x
        obtain ⟨c0, c1⟩ := hx
        simp only at c0 c1 hE
        have hat' : TArg wr nn xo M cm ws := hat
        obtain ⟨K, hK⟩ : ∃ K, wszG M ws = K := ⟨_, rfl⟩
        rw [← hat'.len, hK] at hE
        have HE2 : Hid (tszG (n + (K + 1)) (ts.drop (i + 1)) = R) := hE
        have HX : Hid (Calls _ _ _ _ _) := txSizeD_any nn xo M cm K ws wr hat'.rs hat'.len hK
        clear hc hxx hat hat' hE hK HE
        go_wp2_with fail
        refine Calls.mono HX.out ?_
        rintro e w2 ⟨rfl, hK, hF2⟩
        have hG2 := hFr.then hF2
        clear HX hF2
        go_wp2
        exact ⟨⟨n + (K + 1), i + 1, by simp, by simp, by omega, by omega, HE2, hG2⟩, by simp [intOf]; omega⟩
      · have hb' : (1048576 : Int) < n := by omega
        have hb2 : ¬ ((n : Int) ≤ 1048576) := by omega
        obtain rfl : n = R := by rw [← HE.out]; exact (tszG_stop hbig _).symm
        go_wp2
        go_ret
        first | exact ⟨rfl, hn, hFr⟩ | exact ⟨rfl, hFr⟩
    · obtain rfl : n = R := by
        have := HE.out
        rw [List.drop_of_length_le (by have := HL.out; omega)] at this
        exact this
      go_wp2
      go_ret
      first | exact ⟨rfl, hn, hFr⟩ | exact ⟨rfl, hFr⟩
theorem tszG_ge : ∀ (ts : List Tm) (n : Nat), n ≤ tszG n ts
  | [], n => Nat.le_refl _
  | t :: r, n => by
    simp only [tszG]
    split
    · have := tszG_ge r (n + (wszG t.ws.length t.ws + 1)); omega
    · exact Nat.le_refl _
set_option maxHeartbeats 2000000 in
theorem beyond3D_any (k N M P : Nat) (B : Bool) (w : World) (hN : N ≤ 9007199254740992) (hM : M ≤ 9007199254740992) (hP : P ≤ 9007199254740992) (h0 : w.cell? ⟨k, 0, none⟩ = some (.int .i64 (N : Int))) (h1 : w.cell? ⟨k, 1, none⟩ = some (.int .i64 (M : Int))) (h2 : w.cell? ⟨k, 2, none⟩ = some (.int .i64 (P : Int))) (hB : B = true ↔ 1048576 < N + M + P) :
    Calls Try.prog 8 #[.slice (some ⟨k, 0, none⟩) 3 3] w fun e w' => e = .returned (.bool B) ∧ w = w' := by
  by_cases h4 : 1048576 < N + M + P
  · obtain rfl : B = true := hB.2 h4
    clear hB
    by_cases h : 1048576 < N
    · have h' : (1048576 : Int) < N := by omega
      go_enter Try.func8, Try.ntmps8
      go_wp2_with fail
      refine wp_loop_rounds 1 ?_
      rw [rounds_succ]
      go_wp2
      go_ret
      exact ⟨rfl, rfl⟩
    · have h' : (N : Int) ≤ 1048576 := by omega
      by_cases h3 : 1048576 < N + M
      · have h3' : (1048576 : Int) < (N : Int) + M := by omega
        go_enter Try.func8, Try.ntmps8
        go_wp2_with fail
        refine wp_loop_rounds 2 ?_
        rw [rounds_succ]
        go_wp2
        rw [rounds_succ]
        go_wp2
        go_ret
        exact ⟨rfl, rfl⟩
      · have h3' : (N : Int) + M ≤ 1048576 := by omega
        have h4' : (1048576 : Int) < (N : Int) + M + P := by omega
        go_enter Try.func8, Try.ntmps8
        go_wp2_with fail
        refine wp_loop_rounds 3 ?_
        rw [rounds_succ]
        go_wp2
        rw [rounds_succ]
        go_wp2
        rw [rounds_succ]
        go_wp2
        go_ret
        exact ⟨rfl, rfl⟩
  · obtain rfl : B = false := by
      cases B with
      | false => rfl
      | true => exact absurd (hB.1 rfl) h4
    clear hB
    have h' : (N : Int) ≤ 1048576 := by omega
    have h3' : (N : Int) + M ≤ 1048576 := by omega
    have h4' : (N : Int) + M + P ≤ 1048576 := by omega
    go_enter Try.func8, Try.ntmps8
    go_wp2_with fail
    refine wp_loop_rounds 4 ?_
    rw [rounds_succ]
    go_wp2
    rw [rounds_succ]
    go_wp2
    rw [rounds_succ]
    go_wp2
    rw [rounds_succ]
    go_wp2
    go_ret
    exact ⟨rfl, rfl⟩
end Go.Proofs.Ytfminnmfdogopaa

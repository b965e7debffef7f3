/- What the statements' own helpers on transactions answer: TxnsSize, SameTxns, Beyond of two. Conditions as each names them. -/
import Derived.Test.YtaefninikmaiiaaGreatDoorAlive6
namespace Go.Proofs.YtaefninikmaiiaaGreatDoor
open Go.ChangeShapes Go.WideShapes Go.ChangeAt Go.RowKit Go.Lib
set_option linter.unusedVariables false

set_option maxHeartbeats 4000000 in
set_option maxRecDepth 100000 in
theorem txnsSize_any (ao : Option Addr) (L cap : Nat) (ts : List Tm) (w : World) (hT : TRs w ao ts) (hL : L = ts.length) :
    Calls Tryz.prog 8 #[.slice ao L cap] w fun e w' => ∃ N : Nat, e = .returned (.int .i64 (N : Int)) ∧ N ≤ 9007199254740992 ∧ Fr [] w w' := by
  have HL : Hid (L = ts.length) := hL
  have hLm : L ≤ 140737488355328 := by have := hT.few; omega
  clear hL
  go_enter Tryz.func8, Tryz.ntmps8
  go_wp2_with fail
  go_loopw [3, 4] (fun nn ii wr => ∃ (n i : Nat), nn = .int .i64 n ∧ ii = .int .i64 i ∧ i ≤ L ∧ n ≤ 9007199254740992 ∧ Fr [] w wr) (fun _ ii _ => L - (intOf ii).toNat)
  case atStart => exact ⟨L, 0, rfl, rfl, Nat.zero_le _, by omega, Fr.refl _ _⟩
  case round =>
    obtain ⟨n, i, rfl, rfl, hiL, hn, hFr⟩ := hrel
    by_cases hi : i < L
    · by_cases hbig : n ≤ 1048576
      · have hi' : i < ts.length := by rw [← HL.out]; exact hi
        have hb' : (n : Int) ≤ 1048576 := by omega
        obtain ⟨bb, off, rfl, _, hc⟩ := (hT.keep hFr).lies (by omega)
        have hx := hc i hi'
        have hat := (hT.keep hFr).each _ (tgetD_mem ts i hi')
        obtain ⟨x, hxx⟩ : ∃ x, x = ts.getD i Tm.zero := ⟨_, rfl⟩
        rw [← hxx] at hx hat
        clear hxx hc
        obtain ⟨nn, xo, M, cm, ws⟩ := x
        obtain ⟨c0, c1⟩ := hx
        simp only at c0 c1
        have hat' : TArg wr nn xo M cm ws := hat
        go_wp2_with fail
        refine (txSize_any nn xo M cm ws _ hat'.rs hat'.len).mono ?_
        rintro e w2 ⟨K, rfl, hW, hF2⟩
        have hK : K ≤ 1125899906842624 := hW.2.1
        have hG2 := hFr.then hF2
        clear hat hat' hW hF2 hFr
        go_wp2
        go_roundw
        case rel => exact ⟨n + (K + 1), i + 1, by simp, by simp, by omega, by omega, hG2⟩
        case measure => simp [intOf]; omega
      · have hb' : (1048576 : Int) < n := by omega
        have hb2 : ¬ ((n : Int) ≤ 1048576) := by omega
        go_wp2
        go_ret
        exact ⟨n, rfl, hn, hFr⟩
    · go_wp2
      go_ret
      exact ⟨n, rfl, hn, hFr⟩

set_option maxHeartbeats 1000000 in
theorem beyond2_any (k N M : Nat) (w : World) (hN : N ≤ 9007199254740992) (hM : M ≤ 9007199254740992) (h0 : w.cell? ⟨k, 0, none⟩ = some (.int .i64 (N : Int))) (h1 : w.cell? ⟨k, 1, none⟩ = some (.int .i64 (M : Int))) :
    Calls Tryz.prog 7 #[.slice (some ⟨k, 0, none⟩) 2 2] w fun e w' => ∃ B : Bool, e = .returned (.bool B) ∧ (B = false → N + M ≤ 1048576) ∧ w = w' := by
  by_cases h : 1048576 < N
  · have h' : (1048576 : Int) < N := by omega
    go_enter Tryz.func7, Tryz.ntmps7
    go_wp2_with fail
    refine wp_loop_rounds 1 ?_
    rw [rounds_succ]
    go_wp2
    go_ret
    exact ⟨true, rfl, fun hh => (by cases hh), rfl⟩
  · have h' : (N : Int) ≤ 1048576 := by omega
    by_cases h2 : 1048576 < N + M
    · have h2' : (1048576 : Int) < (N : Int) + M := by omega
      go_enter Tryz.func7, Tryz.ntmps7
      go_wp2_with fail
      refine wp_loop_rounds 2 ?_
      rw [rounds_succ]
      go_wp2
      rw [rounds_succ]
      go_wp2
      go_ret
      exact ⟨true, rfl, fun hh => (by cases hh), rfl⟩
    · have h2' : (N : Int) + M ≤ 1048576 := by omega
      go_enter Tryz.func7, Tryz.ntmps7
      go_wp2_with fail
      refine wp_loop_rounds 3 ?_
      rw [rounds_succ]
      go_wp2
      rw [rounds_succ]
      go_wp2
      rw [rounds_succ]
      go_wp2
      go_ret
      exact ⟨false, rfl, fun _ => (by omega), rfl⟩

theorem txs_upto (xs ys : List Tm) (hl : xs.length = ys.length) (h : ∀ j, j < xs.length → (xs.getD j Tm.zero).tx = (ys.getD j Tm.zero).tx) : txs xs = txs ys := by
  apply List.ext_getElem
  · simp [txs, hl]
  · intro i h1 h2
    have h3 := h i (by simpa [txs] using h1)
    have a : i < xs.length := by simpa [txs] using h1
    have b : i < ys.length := by simpa [txs] using h2
    simpa [txs, List.getD, a, b] using h3
set_option maxHeartbeats 8000000 in
set_option maxRecDepth 100000 in
theorem sameTxns_any (ao bo : Option Addr) (L M ca cb : Nat) (R : Bool) (xs ys : List Tm) (w : World) (ha : TRs w ao xs) (hb : TRs w bo ys) (hL : L = xs.length) (hM : M = ys.length) (hR : R = true ↔ txs xs = txs ys) :
    Calls Tryz.prog 21 #[.slice ao L ca, .slice bo M cb] w fun e w' => e = .returned (.bool R) ∧ Fr [] w w' := by
  have HR : Hid (R = true ↔ txs xs = txs ys) := hR
  have HL : Hid (L = xs.length) := hL
  have HM : Hid (M = ys.length) := hM
  have hLm : L ≤ 140737488355328 := by have := ha.few; omega
  have hMm : M ≤ 140737488355328 := by have := hb.few; omega
  clear hR hL hM
  by_cases hne : L = M
  · subst hne
    have hbn : ((L : Int) != (L : Int)) = false := by simp
    go_enter Tryz.func21, Tryz.ntmps21
    go_wp2_with fail
    go_loopw [5] (fun ii wr => ∃ (i : Nat), ii = .int .i64 i ∧ i ≤ L ∧ Hid (∀ j, j < i → (xs.getD j Tm.zero).tx = (ys.getD j Tm.zero).tx) ∧ Fr [] w wr) (fun ii _ => L - (intOf ii).toNat)
    case atStart => exact ⟨0, rfl, Nat.zero_le _, fun j hj => by omega, Fr.refl _ _⟩
    case round =>
      obtain ⟨i, rfl, hiL, HE, hFr⟩ := hrel
      by_cases hi : i < L
      · have hix : i < xs.length := by rw [← HL.out]; exact hi
        have hiy : i < ys.length := by rw [← HM.out]; exact hi
        obtain ⟨b1, o1, rfl, hlt1, hc1⟩ := (ha.keep hFr).lies (by omega)
        obtain ⟨b2, o2, rfl, hlt2, hc2⟩ := (hb.keep hFr).lies (by omega)
        have hx := hc1 i hix
        have hy := hc2 i hiy
        have hatx := (ha.keep hFr).each _ (tgetD_mem xs i hix)
        have haty := (hb.keep hFr).each _ (tgetD_mem ys i hiy)
        obtain ⟨x, hxx⟩ : ∃ x, x = xs.getD i Tm.zero := ⟨_, rfl⟩
        obtain ⟨y, hyy⟩ : ∃ y, y = ys.getD i Tm.zero := ⟨_, rfl⟩
        rw [← hxx] at hx hatx
        rw [← hyy] at hy haty
        have HX : Hid (x = xs.getD i Tm.zero) := hxx
        have HY : Hid (y = ys.getD i Tm.zero) := hyy
        clear hxx hyy hc1 hc2
        obtain ⟨n1, x1, m1, k1, ws1⟩ := x
        obtain ⟨n2, x2, m2, k2, ws2⟩ := y
        obtain ⟨c0, c1⟩ := hx
        obtain ⟨d0, d1⟩ := hy
        simp only at c0 c1 d0 d1
        have hax : TArg wr n1 x1 m1 k1 ws1 := hatx
        have hay : TArg wr n2 x2 m2 k2 ws2 := haty
        obtain ⟨S, HS⟩ : ∃ S : Bool, Hid (S = true ↔ n1 = n2 ∧ ws1 = ws2) := by
          by_cases hh : n1 = n2 ∧ ws1 = ws2
          · exact ⟨true, by simp [Hid, hh]⟩
          · exact ⟨false, by simp only [Hid]; exact ⟨fun h => (by cases h), fun h => absurd h hh⟩⟩
        have hST := sameTxn_any n1 n2 x1 x2 m1 m2 k1 k2 S ws1 ws2 wr.drew (hax.rs.keep (Fr.drew [] wr)) (hay.rs.keep (Fr.drew [] wr)) hax.len hay.len HS.out
        obtain ⟨e0, e1, g0, g1⟩ : wr.drew.cell? ⟨b1, o1 + i * 2, none⟩ = some (.int .i64 n1) ∧ wr.drew.cell? ⟨b1, o1 + i * 2 + 1, none⟩ = some (.slice x1 m1 k1) ∧ wr.drew.cell? ⟨b2, o2 + i * 2, none⟩ = some (.int .i64 n2) ∧ wr.drew.cell? ⟨b2, o2 + i * 2 + 1, none⟩ = some (.slice x2 m2 k2) := ⟨c0, c1, d0, d1⟩
        have hq1 : b1 < wr.drew.heap.size := hlt1
        have hq2 : b2 < wr.drew.heap.size := hlt2
        clear hatx haty hax hay hlt1 hlt2
        go_wp2_with fail
        go_region_held3 (fun W => W.cell? ⟨b1, o1 + i * 2, none⟩ = some (.int .i64 n1) ∧ W.cell? ⟨b1, o1 + i * 2 + 1, none⟩ = some (.slice x1 m1 k1) ∧ W.cell? ⟨b2, o2 + i * 2, none⟩ = some (.int .i64 n2) ∧ W.cell? ⟨b2, o2 + i * 2 + 1, none⟩ = some (.slice x2 m2 k2)) (go_keep)
          (with_reducible refine hST.mono ?_; rintro e w2 ⟨rfl, hF2⟩; have z0 := (World.cell?_of_block (hF2.block b1 hq1 (by simp))).trans e0; have z1 := (World.cell?_of_block (hF2.block b1 hq1 (by simp))).trans e1; have z2 := (World.cell?_of_block (hF2.block b2 hq2 (by simp))).trans g0; have z3 := (World.cell?_of_block (hF2.block b2 hq2 (by simp))).trans g1)
        have hG2 := hFr.then ((Fr.drew [] wr).then hF2)
        clear hST hF2 c0 c1 d0 d1 e0 e1 g0 g1 z0 z1 z2 z3
        cases S with
        | true =>
          have HE2 : Hid (∀ j, j < i + 1 → (xs.getD j Tm.zero).tx = (ys.getD j Tm.zero).tx) := by
            intro j hj
            by_cases hji : j = i
            · subst hji
              rw [← HX.out, ← HY.out]
              obtain ⟨h1, h2⟩ := HS.out.1 rfl
              simp [Tm.tx, h1, h2]
            · exact HE.out j (by omega)
          go_wp2
          go_roundw
          case rel => exact ⟨i + 1, by simp, by omega, HE2, hG2⟩
          case measure => simp [intOf]; omega
        | false =>
          have hRf : R = false := by
            cases hRR : R with
            | false => rfl
            | true =>
              exfalso
              have h1 := HR.out.1 hRR
              have h2 : (xs.getD i Tm.zero).tx = (ys.getD i Tm.zero).tx := by rw [← txs_getD, ← txs_getD, h1]
              rw [← HX.out, ← HY.out] at h2
              simp only [Tm.tx, Tx.mk.injEq] at h2
              have := HS.out.2 h2
              cases this
          subst hRf
          go_wp2
          go_ret
          exact ⟨rfl, hG2⟩
      · have hRt : R = true := HR.out.2 (txs_upto xs ys (by rw [← HL.out, ← HM.out]) (fun j hj => HE.out j (by have := HL.out; omega)))
        subst hRt
        go_wp2
        go_ret
        exact ⟨rfl, hFr⟩
  · have hRf : R = false := by
      cases hRR : R with
      | false => rfl
      | true =>
        exfalso
        have h1 := congrArg List.length (HR.out.1 hRR)
        rw [txs_length, txs_length, ← HL.out, ← HM.out] at h1
        exact hne h1
    subst hRf
    have hbn : ((L : Int) != (M : Int)) = true := by rw [bne_iff_ne]; omega
    clear hne
    go_enter Tryz.func21, Tryz.ntmps21
    go_wp2_with fail
    go_ret
    exact ⟨rfl, Fr.refl _ _⟩
end Go.Proofs.YtaefninikmaiiaaGreatDoor

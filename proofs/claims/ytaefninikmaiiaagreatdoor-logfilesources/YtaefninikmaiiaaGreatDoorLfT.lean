/- What the statements' helper LeftTxns answers of twins; a stronger word on TxnsSize; twins read as what they were made of. Conditions as each names them. -/
import Derived.Test.YtaefninikmaiiaaGreatDoorTwT
namespace Go.Proofs.YtaefninikmaiiaaGreatDoor
open Go.ChangeShapes Go.WideShapes Go.ChangeAt Go.RowKit Go.Lib
set_option linter.unusedVariables false
set_option linter.unusedSimpArgs false

set_option maxHeartbeats 4000000 in
set_option maxRecDepth 100000 in
theorem txnsSizeB_any (ao : Option Addr) (L cap : Nat) (ts : List Tm) (w : World) (hT : TRs w ao ts) (hL : L = ts.length) :
    Calls Tryz.prog 8 #[.slice ao L cap] w fun e w' => ∃ N : Nat, e = .returned (.int .i64 (N : Int)) ∧ N ≤ 9007199254740992 ∧ L ≤ N ∧ (N ≤ 1048576 → Few ts) ∧ Fr [] w w' := by
  have HL : Hid (L = ts.length) := hL
  have hLm : L ≤ 140737488355328 := by have := hT.few; omega
  clear hL
  go_enter Tryz.func8, Tryz.ntmps8
  go_wp2_with fail
  go_loopw [3, 4] (fun nn ii wr => ∃ (n i : Nat), nn = .int .i64 n ∧ ii = .int .i64 i ∧ i ≤ L ∧ n ≤ 9007199254740992 ∧ L ≤ n ∧ Hid (∀ j, j < i → (ts.getD j Tm.zero).L < n) ∧ Fr [] w wr) (fun _ ii _ => L - (intOf ii).toNat)
  case atStart => exact ⟨L, 0, rfl, rfl, Nat.zero_le _, by omega, Nat.le_refl _, fun j hj => by omega, Fr.refl _ _⟩
  case round =>
    obtain ⟨n, i, rfl, rfl, hiL, hn, hLn, HE, hFr⟩ := hrel
    by_cases hi : i < L
    · by_cases hbig : n ≤ 1048576
      · have hi' : i < ts.length := by rw [← HL.out]; exact hi
        have hb' : (n : Int) ≤ 1048576 := by omega
        obtain ⟨bb, off, rfl, _, hc⟩ := (hT.keep hFr).lies (by omega)
        have hx := hc i hi'
        have hat := (hT.keep hFr).each _ (tgetD_mem ts i hi')
        obtain ⟨x, hxx⟩ : ∃ x, x = ts.getD i Tm.zero := ⟨_, rfl⟩
        rw [← hxx] at hx hat
        have HX : Hid (x = ts.getD i Tm.zero) := hxx
        clear hxx hc
        obtain ⟨nn, xo, M, cm, ws⟩ := x
        obtain ⟨c0, c1⟩ := hx
        simp only at c0 c1
        have hat' : TArg wr nn xo M cm ws := hat
        have hML := hat'.len
        have HML : Hid (M = ws.length) := hML
        clear hML
        go_wp2_with fail
        refine (txSize_any nn xo M cm ws _ hat'.rs hat'.len).mono ?_
        rintro e w2 ⟨K, rfl, hW, hF2⟩
        have hK : K ≤ 1125899906842624 := hW.2.1
        have hKM : M ≤ K := by have := hW.1; rw [HML.out]; exact this
        have HE2 : Hid (∀ j, j < i + 1 → (ts.getD j Tm.zero).L < n + (K + 1)) := by
          intro j hj
          by_cases hji : j = i
          · subst hji
            rw [← HX.out]
            show M < _
            omega
          · have := HE.out j (by omega); omega
        have hG2 := hFr.then hF2
        clear hat hat' hW hF2 hFr
        go_wp2
        go_roundw
        case rel => exact ⟨n + (K + 1), i + 1, by simp, by simp, by omega, by omega, by omega, HE2, hG2⟩
        case measure => simp [intOf]; omega
      · have hb' : (1048576 : Int) < n := by omega
        have hb2 : ¬ ((n : Int) ≤ 1048576) := by omega
        go_wp2
        go_ret
        exact ⟨n, rfl, hn, hLn, fun h => absurd h hbig, hFr⟩
    · go_wp2
      go_ret
      refine ⟨n, rfl, hn, hLn, fun h t ht => ?_, hFr⟩
      obtain ⟨j, hj, rfl⟩ := List.getElem_of_mem ht
      have := HE.out j (by have := HL.out; omega)
      simp only [List.getD, List.getElem?_eq_getElem hj, Option.getD_some] at this
      omega
set_option maxHeartbeats 8000000 in
set_option maxRecDepth 100000 in
theorem leftTs_any (b : Nat) (ks : List Nat) (w0 : World) (ao : Option Addr) (L cap : Nat) (ts : List Tm) (w : World) (h : TRs w ao ts) (hLe : L = ts.length) (hL : L < 2^21) (hfew : Few ts) (hT : Twd w0 w ts ks) (hrow : w.heap[b]? = some (.cells (tmsC (twTs ts ks ++ [spT])).toArray 63 (0, 0))) :
    Calls Tryz.prog 14 #[.slice (some ⟨b, 0, none⟩) L (L + 1), .slice ao L cap] w fun e w' => e = .returned (.bool true) ∧ Fr [] w w' := by
  have HL : Hid (L = ts.length) := hLe
  have HFew : Hid (Few ts) := hfew
  have HT : Hid (Twd w0 w ts ks) := hT
  have hcl : ∀ j c, j < L + 1 → c < 2 → w.cell? ⟨b, j * 2 + c, none⟩ = (tmC ((twTs ts ks ++ [spT]).getD j Tm.zero))[c]? := by
    intro j c hj hc
    rw [cell_of_row _ _ _ _ _ _ hrow]
    have := tmsC_get (twTs ts ks ++ [spT]) j c (by rw [List.length_append, twTs_length ts ks hT.len, ← hLe]; simpa using hj) hc
    simpa using this
  have hlb := lt_of_block hrow
  have hct : ∀ j t k, ts[j]? = some t → ks[j]? = some k → w.cell? ⟨b, j * 2, none⟩ = some (.int .i64 t.n) ∧ w.cell? ⟨b, j * 2 + 1, none⟩ = some (.slice (some ⟨k, 0, none⟩) t.L (t.L + 1)) := by
    intro j t k ht hk
    have hj : j < ts.length := (List.getElem?_eq_some_iff.1 ht).1
    have hu : (twTs ts ks)[j]? = some (twT t k) := by
      unfold twTs
      rw [List.getElem?_zipWith, ht, hk]
    have e : (twTs ts ks ++ [spT]).getD j Tm.zero = twT t k := by
      rw [List.getD, List.getElem?_append_left (by rw [twTs_length ts ks hT.len]; exact hj), hu]
      rfl
    have a := hcl j 0 (by omega) (by omega)
    have c := hcl j 1 (by omega) (by omega)
    rw [e] at a c
    exact ⟨a, c⟩
  have hsp : w.cell? ⟨b, L * 2, none⟩ = some (.int .i64 7777) ∧ w.cell? ⟨b, L * 2 + 1, none⟩ = some (.slice none 0 0) := by
    have e : (twTs ts ks ++ [spT]).getD L Tm.zero = spT := by
      rw [List.getD, List.getElem?_append_right (by rw [twTs_length ts ks hT.len]; omega), twTs_length ts ks hT.len, hLe]
      simp
    have a := hcl L 0 (by omega) (by omega)
    have c := hcl L 1 (by omega) (by omega)
    rw [e] at a c
    exact ⟨a, c⟩
  have HCT : Hid (∀ j t k, ts[j]? = some t → ks[j]? = some k → _) := hct
  have hne : ((L : Int) != L) = false := by simp
  clear hLe hfew hT hrow hcl hct
  go_enter Tryz.func14, Tryz.ntmps14
  go_wp2_with fail
  go_loopw [5] (fun ii wr => ∃ (i : Nat), ii = .int .i64 i ∧ i ≤ L ∧ Fr [] w wr) (fun ii _ => L - (intOf ii).toNat)
  case atStart => exact ⟨0, rfl, Nat.zero_le _, Fr.refl _ _⟩
  case round =>
    obtain ⟨i, rfl, hiL, hFr⟩ := hrel
    by_cases hi : i < L
    · have hix : i < ts.length := by rw [← HL.out]; exact hi
      have hik : i < ks.length := by rw [HT.out.len]; exact hix
      obtain ⟨b2, o2, rfl, hlt2, hc2⟩ := (h.keep hFr).lies (by omega)
      have hy := hc2 i hix
      have haty := (h.keep hFr).each _ (tgetD_mem ts i hix)
      have hfw := HFew.out _ (tgetD_mem ts i hix)
      have hty : ts[i]? = some (ts.getD i Tm.zero) := by simp [List.getD, hix]
      obtain ⟨k, hk⟩ : ∃ k, ks[i]? = some k := ⟨_, List.getElem?_eq_getElem hik⟩
      obtain ⟨c0, c1⟩ := HCT.out i _ k hty hk
      have hrowk := HT.out.row i _ k hty hk
      obtain ⟨y, hyy⟩ : ∃ y, y = ts.getD i Tm.zero := ⟨_, rfl⟩
      rw [← hyy] at hy haty c0 c1 hrowk hfw
      clear hyy hc2 hty hk
      obtain ⟨n2, x2, m2, k2, ws2⟩ := y
      obtain ⟨d0, d1⟩ := hy
      simp only at c0 c1 d0 d1 hrowk hfw
      have hay : TArg wr n2 x2 m2 k2 ws2 := haty
      have hST := leftTxn_any n2 k x2 m2 k2 ws2 wr.drew (hay.rs.keep (Fr.drew [] wr)) hay.len hfw ((hFr.then (Fr.drew [] wr)).keep hrowk (by simp))
      have p0 : wr.drew.cell? ⟨b, i * 2, none⟩ = some (.int .i64 n2) := (World.cell?_of_block ((hFr.then (Fr.drew [] wr)).block b hlb (by simp))).trans c0
      have p1 : wr.drew.cell? ⟨b, i * 2 + 1, none⟩ = some (.slice (some ⟨k, 0, none⟩) m2 (m2 + 1)) := (World.cell?_of_block ((hFr.then (Fr.drew [] wr)).block b hlb (by simp))).trans c1
      have g0 : wr.drew.cell? ⟨b2, o2 + i * 2, none⟩ = some (.int .i64 n2) := d0
      have g1 : wr.drew.cell? ⟨b2, o2 + i * 2 + 1, none⟩ = some (.slice x2 m2 k2) := d1
      have hq1 : b < wr.drew.heap.size := by have := (hFr.then (Fr.drew [] wr)).size; omega
      have hq2 : b2 < wr.drew.heap.size := hlt2
      have r0 : wr.cell? ⟨b, i * 2, none⟩ = some (.int .i64 n2) := p0
      have r1 : wr.cell? ⟨b, i * 2 + 1, none⟩ = some (.slice (some ⟨k, 0, none⟩) m2 (m2 + 1)) := p1
      clear haty hay hlt2 c0 c1 hrowk
      go_wp2_with fail
      go_region_held3 (fun W => W.cell? ⟨b, i * 2, none⟩ = some (.int .i64 n2) ∧ W.cell? ⟨b, i * 2 + 1, none⟩ = some (.slice (some ⟨k, 0, none⟩) m2 (m2 + 1)) ∧ W.cell? ⟨b2, o2 + i * 2, none⟩ = some (.int .i64 n2) ∧ W.cell? ⟨b2, o2 + i * 2 + 1, none⟩ = some (.slice x2 m2 k2)) (go_keep)
        (with_reducible refine hST.mono ?_; rintro e w2 ⟨rfl, hF2⟩; have z0 := (World.cell?_of_block (hF2.block b hq1 (by simp))).trans p0; have z1 := (World.cell?_of_block (hF2.block b hq1 (by simp))).trans p1; have z2 := (World.cell?_of_block (hF2.block b2 hq2 (by simp))).trans g0; have z3 := (World.cell?_of_block (hF2.block b2 hq2 (by simp))).trans g1)
      have hG2 := hFr.then ((Fr.drew [] wr).then hF2)
      clear hST hF2 d0 d1 p0 p1 g0 g1 r0 r1 z0 z1 z2 z3
      go_wp2
      go_roundw
      case rel => exact ⟨i + 1, by simp, by omega, hG2⟩
      case measure => simp [intOf]; omega
    · obtain rfl : i = L := by omega
      have c0 : wr.cell? ⟨b, i * 2, none⟩ = some (.int .i64 7777) := (World.cell?_of_block (hFr.block b hlb (by simp))).trans hsp.1
      have c1 : wr.cell? ⟨b, i * 2 + 1, none⟩ = some (.slice none 0 0) := (World.cell?_of_block (hFr.block b hlb (by simp))).trans hsp.2
      go_wp2
      go_ret
      exact ⟨by simp, hFr.then (Fr.alloc [] _ _)⟩
/-- A twin reads as what it was made of. -/
theorem twin_at {w w' : World} {t : Tm} {k : Nat} (h : t.at w) (hr : w'.heap[k]? = some (.cells (wtsC (t.ws ++ [spW])).toArray 124 (0, 0))) : (twT t k).at w' :=
  ⟨WRs.of_row (rest := wtsC [spW]) (t := 124) (f := (0, 0)) (by rw [← wtsC_append]; exact hr) h.rs.few h.rs.each, h.len, h.n0, h.n1⟩
theorem twins_trs {w0 w w' : World} {ts : List Tm} {ks : List Nat} {b : Nat} {ao : Option Addr} (h : TRs w0 ao ts) (hT : Twd w w' ts ks) (hb : w'.heap[b]? = some (.cells (tmsC (twTs ts ks ++ [spT])).toArray 63 (0, 0))) : TRs w' (some ⟨b, 0, none⟩) (twTs ts ks) := by
  refine TRs.of_row (rest := tmsC [spT]) (t := 63) (f := (0, 0)) (by rw [← tmsC_append]; exact hb) (by rw [twTs_length ts ks hT.len]; exact h.few) ?_
  intro u hu
  obtain ⟨i, hi⟩ := List.getElem?_of_mem hu
  obtain ⟨t, k, ht, hk, rfl⟩ := twTs_get hi
  exact twin_at (h.each t (List.mem_of_getElem? ht)) (hT.row i t k ht hk)
end Go.Proofs.YtaefninikmaiiaaGreatDoor

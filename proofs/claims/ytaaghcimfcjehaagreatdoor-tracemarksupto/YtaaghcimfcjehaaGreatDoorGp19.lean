/- Texts of this claim laid together, one behind the other: contracts and plain lemmas; conditions as each names them. -/
import Derived.Test.YtaaghcimfcjehaaGreatDoorGp18
/- A transaction is open; the dispatcher's step. Conditions as each names them. -/
namespace Go.Proofs.YtaaghcimfcjehaaGreatDoor
open Go.ChangeShapes Go.WideShapes Go.ChangeAt Go.RowKit Go.Lib Go.Maps
set_option linter.unusedVariables false
set_option linter.unusedSimpArgs false

/-- What opening makes of a story. -/
noncomputable def opn (T : List Tx) (s : Sy) (n : Int) : Sy :=
  { s with L := s.L ++ [(n, keysW (wsAt T n))], R := if (adx s.L s.en (keysW (wsAt T n))).length = 0 then upd s.R 0 (s.R 0 ++ [n]) else s.R }
def OpnP (w : World) (Z : Zs) (c : Cf) (k : Nat) (N : Int) (s' : Sy) (e : Ending) (w' : World) : Prop := ∃ Z', e = .returned (.int .i64 N) ∧ SyM w' Z' c s' (k + 1) ∧ Mv w Z w' Z'
section
variable {w w' wS : World} {Z : Zs} {c : Cf} {s : Sy} {k : Nat} {ts : List Tm}
set_option maxHeartbeats 8000000 in
set_option maxRecDepth 100000 in
theorem open_any (h : SyM w Z c s k) (hx : Cx wS w Z ts) (hT : Lk (txs ts)) (n : Int) (h1 : 1 ≤ n) (h2 : n ≤ (ts.length : Int)) (hold : ∀ p ∈ s.L, p.1 < n) (hk : k ≤ 4194304) (hl0 : (s.R 0).length ≤ 65537 * k) :
    Calls Tryz.prog 144 #[.pointer (some ⟨Z.sb, 0, none⟩), .int .i64 n] w (OpnP w Z c k (((adx s.L s.en (keysW (wsAt (txs ts) n))).length : Nat) : Int) (opn (txs ts) s n)) := by
  have hlen := hT.len
  rw [txs_length] at hlen
  have hok := hT.tx n h1 (by rw [txs_length]; exact h2)
  have hnum := hT.num n h1 (by rw [txs_length]; exact h2)
  obtain ⟨j, rfl⟩ : ∃ j : Nat, n = (j : Int) + 1 := ⟨(n - 1).toNat, by omega⟩
  have hj : j < ts.length := by omega
  have hws : wsAt (txs ts) ((j : Int) + 1) = (ts.getD j Tm.zero).ws := by
    unfold wsAt
    rw [show ((j : Int) + 1 - 1).toNat = j by omega, txs_getD]
    rfl
  rw [show ((j : Int) + 1 - 1).toNat = j by omega, txs_getD] at hnum
  have hnum : (ts.getD j Tm.zero).n = (j : Int) + 1 := hnum
  have hTr := hx.trs
  have hLM := hx.len
  obtain ⟨lb, loff, hlo, hlb, hcl⟩ := hTr.lies (by omega)
  have hlbS : lb < wS.heap.size := by
    obtain ⟨b2, o2, e2, hb2, _⟩ := hx.log.lies (by omega)
    rw [hlo] at e2
    cases e2
    exact hb2
  obtain ⟨d1, d2⟩ := hcl j hj
  have hat := hTr.each _ (tgetD_mem ts j hj)
  have hatS := hx.log.each _ (tgetD_mem ts j hj)
  unfold Tm.at at hat hatS
  rw [hws] at hok ⊢
  unfold opn
  rw [hws]
  have hWB : 0 < (ts.getD j Tm.zero).ws.length → ∀ a, (ts.getD j Tm.zero).ao = some a → a.block ∉ Z.B := by
    intro h0 a ha hh
    obtain ⟨b, off, e, hb, _⟩ := hatS.rs.lies h0
    rw [e] at ha
    cases ha
    have := hx.base b (Zs.mem_own.2 (Or.inr (Or.inl hh)))
    omega
  have HA : Hid (∀ W, Fr [] w W → Calls _ _ _ W _) := fun W hf => tl_add (ts.getD j Tm.zero).n (ts.getD j Tm.zero).ao (ts.getD j Tm.zero).L (ts.getD j Tm.zero).cap (ts.getD j Tm.zero).ws W (h.quiet hf).deps (hat.rs.keep hf) hat.len (by rw [hnum]; exact hok) (by rw [hnum]; exact hold) (by omega) hWB
  have c4 : w.cell? ⟨Z.sb, 4, none⟩ = some (.slice (some ⟨lb, loff, none⟩) ts.length Z.mc) := by have := h.cell (j := 4) (v := .slice Z.logo Z.M Z.mc) rfl; rw [hlo, hLM] at this; exact this
  have c6 : w.cell? ⟨Z.sb, 6, none⟩ = some (.pointer (some ⟨Z.tb, 0, none⟩)) := h.cell rfl
  have HM : Hid (∀ W xs B', Fr Z.B w W → AdT s.L s.en (keysW (ts.getD j Tm.zero).ws) xs → Tl W Z.tb B' (65 * k + 65) (s.L ++ [((ts.getD j Tm.zero).n, keysW (ts.getD j Tm.zero).ws)]) s.en → (∀ x ∈ B', x ∈ Z.B ∨ w.heap.size ≤ x) →
      (W.cell? ⟨Z.sb, 4, none⟩ = some (.slice (some ⟨lb, loff, none⟩) ts.length Z.mc) ∧ W.cell? ⟨Z.sb, 6, none⟩ = some (.pointer (some ⟨Z.tb, 0, none⟩)) ∧ W.cell? ⟨lb, loff + j * 2, none⟩ = some (.int .i64 (ts.getD j Tm.zero).n) ∧ W.cell? ⟨lb, loff + j * 2 + 1, none⟩ = some (.slice (ts.getD j Tm.zero).ao (ts.getD j Tm.zero).L (ts.getD j Tm.zero).cap)) ∧ SyM W { Z with B := B' } c { s with L := s.L ++ [((j : Int) + 1, keysW (ts.getD j Tm.zero).ws)] } (k + 1) ∧ Mv w Z W { Z with B := B' } ∧ (adx s.L s.en (keysW (ts.getD j Tm.zero).ws)) = xs ∧ W.cell? ⟨Z.sb, 9, none⟩ = some (.slice (Z.q 0).lo (Z.q 0).n (Z.q 0).c)) := by
    intro W xs B' hF hA hT' hB
    rw [hnum] at hT'
    obtain ⟨m1, m2⟩ := h.setDeps (Nat.le_succ k) hF (by rw [Nat.mul_succ]; exact hT') hB
    have hkl : ∀ o, W.cell? ⟨lb, o, none⟩ = w.cell? ⟨lb, o, none⟩ := fun o => World.cell?_of_block (hF.block lb (Nat.lt_of_lt_of_le hlbS hx.fr.size) (fun hh => by have := hx.base lb (Zs.mem_own.2 (Or.inr (Or.inl hh))); omega))
    refine ⟨⟨?_, m1.cell (j := 6) (v := .pointer (some ⟨Z.tb, 0, none⟩)) rfl, (hkl _).trans d1, (hkl _).trans d2⟩, m1, m2, adx_eq hA, m1.cell (j := 9) (v := (Z.q 0).v) rfl⟩
    have := m1.cell (j := 4) (v := .slice Z.logo Z.M Z.mc) rfl
    rw [hlo, hLM] at this
    exact this
  have hn0 : (Z.q 0).n ≤ 65537 * k := by rw [(h.rows 0).len]; exact hl0
  obtain ⟨t, htt⟩ : ∃ t, t = ts.getD j Tm.zero := ⟨_, rfl⟩
  rw [← htt] at d1 d2 HA HM hnum ⊢
  obtain ⟨tn, ao, L, cap, ws⟩ := t
  simp only at d1 d2 HA HM hnum ⊢
  obtain ⟨TL, hTL⟩ : ∃ TL, TL = ts.length := ⟨_, rfl⟩
  rw [← hTL] at c4 hj hlen HM
  obtain ⟨n, hn⟩ : ∃ n, n = (j : Int) + 1 := ⟨_, rfl⟩
  have hsub : n - 1 = (j : Int) := by omega
  have hnb1 : 1 ≤ n := by omega
  have hnb2 : n ≤ 65536 := by omega
  have hjT : (j : Int) < (TL : Int) := by omega
  have hj0 : (0 : Int) ≤ (j : Int) := by omega
  rw [← hn] at HM ⊢
  obtain ⟨NN, HNN⟩ : ∃ NN, Hid ((adx s.L s.en (keysW ws)).length = NN) := ⟨_, rfl⟩
  rw [HNN.out]
  clear h hx hT hws hok hat hatS hTr hcl hlo hLM hold htt hTL hWB hlb hlbS h1 h2 hl0 hn hnum
  have hwr : IntKind.i64.wrap (n - 1) = (j : Int) := by rw [IntKind.wrap_i64]; omega
  clear hsub
  go_enter Tryz.func144, Tryz.ntmps144
  go_wp2_with fail
  go_region_held3 (fun W => W.cell? ⟨Z.sb, 4, none⟩ = some (.slice (some ⟨lb, loff, none⟩) TL Z.mc) ∧ W.cell? ⟨Z.sb, 6, none⟩ = some (.pointer (some ⟨Z.tb, 0, none⟩)) ∧ W.cell? ⟨lb, loff + j * 2, none⟩ = some (.int .i64 tn) ∧ W.cell? ⟨lb, loff + j * 2 + 1, none⟩ = some (.slice ao L cap)) (go_keep)
    (first
      | (with_reducible refine Calls.mono (HA.out _ (Fr.drew _ _)) ?_; rintro e w4 ⟨xs, B', rfl, hA4, hT4, hB4, hF4⟩; obtain ⟨⟨y1, y2, y3, y4⟩, hR4⟩ := HM.out w4 xs B' (((Fr.drew [] w).mono (by simp)).then hF4) hA4 hT4 (fun x hx => Or.imp_right (fun h => Nat.le_trans (Fr.drew [] w).size h) (hB4 x hx))))
  obtain ⟨m1, m2, m3, m4⟩ := hR4
  have HS4 : Hid (SyM w4 { Z with B := B' } c { s with L := s.L ++ [(n, keysW ws)] } (k + 1) ∧ Mv w Z w4 { Z with B := B' }) := ⟨m1, m2⟩
  have hxl : xs.length = NN := by rw [← HNN.out, m3]
  rw [hxl]
  clear m1 m2 m3 y1 y2 y3 y4 c4 c6 d1 d2 hA4 hT4 hB4 hF4 HM HA hxl HNN
  by_cases hN0 : NN = 0
  · subst hN0
    have HQ : Hid (QR w4 (Z.q 0).lo (Z.q 0).n (Z.q 0).c (s.R 0)) := HS4.out.1.rows 0
    have H4 : Hid (∀ lo' N' c' W', QR W' lo' N' c' (s.R 0 ++ [n]) → Fr (qb (Z.q 0).lo).toList w4 W' → (qb lo' = qb (Z.q 0).lo ∨ ∃ k, qb lo' = some k ∧ w4.heap.size ≤ k) → W'.cell? ⟨Z.sb, 9, none⟩ = some (.slice (Z.q 0).lo (Z.q 0).n (Z.q 0).c) ∧ W'.frozen? ⟨Z.sb, 9, none⟩ = false ∧ ∃ Z2, SyM (W'.setCell ⟨Z.sb, 9, none⟩ (.slice lo' N' c')) Z2 c { s with L := s.L ++ [(n, keysW ws)], R := upd s.R 0 (s.R 0 ++ [n]) } (k + 1) ∧ Mv w Z (W'.setCell ⟨Z.sb, 9, none⟩ (.slice lo' N' c')) Z2) := by
      intro lo' N' c' W' hQ hF' hm
      obtain ⟨m1, m2⟩ := HS4.out.1.row0 (w1 := W') ⟨lo', N', c'⟩ _ hF' hQ hm
      have hb := hF'.keep HS4.out.1.box (fun hh => (HS4.out.1.apa.nR 0 _ (Option.mem_toList.1 hh)).1 (by simp [Zs.six]))
      exact ⟨by rw [cell_of_row _ _ _ _ _ _ hb]; rfl, by simp [World.frozen?, hb], _, m1, HS4.out.2.trans m2⟩
    obtain ⟨lo, hlo⟩ : ∃ lo, lo = (Z.q 0).lo := ⟨_, rfl⟩
    obtain ⟨m, hm⟩ : ∃ m, m = (Z.q 0).n := ⟨_, rfl⟩
    obtain ⟨cl, hcl⟩ : ∃ cl, cl = (Z.q 0).c := ⟨_, rfl⟩
    rw [← hlo, ← hm, ← hcl] at HQ H4 m4
    rw [← hm] at hn0
    clear hlo hm hcl
    go_wp2_with (first
      | (at_builtin; refine wpList_appQ1 w4 rfl _ _ rfl lo m cl (s.R 0) (n) rfl HQ.out (by omega) rfl ?_; intro lo' c' w5 hQ5 hF5 hm5; obtain ⟨j1, j2, Z2, j4, j5⟩ := H4.out lo' _ c' w5 hQ5 hF5 hm5; have HE : Hid (SyM _ _ _ _ _ ∧ Mv _ _ _ _) := ⟨j4, j5⟩; clear j4 j5 hQ5 hF5 hm5)
      | fail)
    go_ret
    refine ⟨Z2, ?_, ?_, HE.out.2⟩
    · rfl
    · exact HE.out.1
  · have hne : ((NN : Int) == 0) = false := by simp; omega
    have HZ : Hid (¬ NN = 0) := hN0
    clear hN0 m4
    go_wp2_with fail
    go_ret
    refine ⟨{ Z with B := B' }, rfl, ?_, HS4.out.2⟩
    first | exact HS4.out.1 | (rw [if_neg HZ.out]; exact HS4.out.1)
end
end Go.Proofs.YtaaghcimfcjehaaGreatDoor

/- Is one of a transaction's keys' last writers reached: contracts of the closure of Chained, of IndexFunc and ContainsFunc over it. Conditions as each names them. -/
import Derived.Test.YtdcmjoildfofcaaChn
namespace Go.Proofs.Ytdcmjoildfofcaa
open Go.ChangeShapes Go.WideShapes Go.ChangeAt Go.RowKit Go.Lib Go.Maps
set_option linter.unusedVariables false
set_option linter.unusedSimpArgs false

/-- What Chained holds: the row of who is reached, the map of writers, their boxes. -/
structure CW (W : World) (B10 B9 g b J : Nat) (F : ByteArray → Int → Int) (rs : List Bool) : Prop where
  x10 : W.heap[B10]? = some (.cells #[.slice (some ⟨g, 0, none⟩) J J] 34 (0, 0))
  x9 : W.heap[B9]? = some (.cells #[.map (some b)] 70 (0, 0))
  row : W.heap[g]? = some (.cells (rs.map Value.bool).toArray 4 (0, 0))
  map : MapF W b 9000000 F
  len : rs.length = J
theorem CW.keep {S : List Nat} {W W' : World} {B10 B9 g b J : Nat} {F : ByteArray → Int → Int} {rs : List Bool} (h : CW W B10 B9 g b J F rs) (hf : Fr S W W') (h1 : B10 ∉ S) (h2 : B9 ∉ S) (h3 : g ∉ S) (h4 : b ∉ S) : CW W' B10 B9 g b J F rs :=
  ⟨hf.keep h.x10 h1, hf.keep h.x9 h2, hf.keep h.row h3, h.map.keep hf h4, h.len⟩
theorem CW.quiet {W W' : World} {B10 B9 g b J : Nat} {F : ByteArray → Int → Int} {rs : List Bool} (h : CW W B10 B9 g b J F rs) (hf : Fr [] W W') : CW W' B10 B9 g b J F rs := h.keep hf (by simp) (by simp) (by simp) (by simp)
theorem CW.cell {W : World} {B10 B9 g b J : Nat} {F : ByteArray → Int → Int} {rs : List Bool} (h : CW W B10 B9 g b J F rs) (q : Nat) (hq : q < J) : W.cell? ⟨g, q, none⟩ = some (.bool (rs.getD q false)) := by
  rw [cell_of_row _ _ _ _ _ _ h.row]
  have hl : q < rs.length := by rw [h.len]; exact hq
  simp [List.getD, hl]

set_option maxHeartbeats 4000000 in
set_option maxRecDepth 100000 in
theorem fCh1_any (B10 B9 B12 g b J q : Nat) (F : ByteArray → Int → Int) (rs : List Bool) (n : Int) (xo : Option Addr) (M cm : Nat) (key val : ByteArray) (drop R : Bool) (W : World) (h : CW W B10 B9 g b J F rs) (hx : W.heap[B12]? = some (.cells #[.int .i64 n, .slice xo M cm] 31 (0, 0)))
    (hq : F key n = (q : Int)) (hqJ : q < J) (hJ : J ≤ 65537) (hR : R = rs.getD q false) (hks : key.size ≤ 64) (hn0 : 0 ≤ n) (hn1 : n ≤ 65536) :
    Calls Try.prog 32 #[.agg #[.string key, .string val, .bool drop], .pointer (some ⟨B10, 0, none⟩), .pointer (some ⟨B9, 0, none⟩), .pointer (some ⟨B12, 0, none⟩)] W fun e w' => e = .returned (.bool R) ∧ Fr [] W w' := by
  obtain ⟨w0, HW0⟩ : ∃ w0, Hid (W.alloc (.cells #[.string key, .string val, .bool drop] 47) = w0) := ⟨_, rfl⟩
  have hF0 : Fr [] W w0 := by rw [← HW0.out]; exact Fr.alloc [] W _
  have hb0 : w0.heap[W.heap.size]? = some (.cells #[.string key, .string val, .bool drop] 47 (0, 0)) := by rw [← HW0.out]; exact heap_alloc_new W _
  have h0 := h.quiet hF0
  have hx0 := hF0.keep hx (by simp)
  have c0 : w0.cell? ⟨W.heap.size, 0, none⟩ = some (.string key) := by rw [cell_of_row _ _ _ _ _ _ hb0]; rfl
  have c1 : w0.cell? ⟨B10, 0, none⟩ = some (.slice (some ⟨g, 0, none⟩) J J) := by rw [cell_of_row _ _ _ _ _ _ h0.x10]; rfl
  have c2 : w0.cell? ⟨B9, 0, none⟩ = some (.map (some b)) := by rw [cell_of_row _ _ _ _ _ _ h0.x9]; rfl
  have c3 : w0.cell? ⟨B12, 0, none⟩ = some (.int .i64 n) := by rw [cell_of_row _ _ _ _ _ _ hx0]; rfl
  have c4 := h0.cell q hqJ
  rw [← hR] at c4
  have hlk : ∀ k, (Instr.lookup 70 (.map (some b)) (.agg #[.string key, .int .i64 n]) false).run Try.prog (w0.drewN k) = .ok (.int .i64 (q : Int)) (w0.drewN k) := fun k => by
    have := (h0.map.keep (Fr.drewN [] w0 k) (by simp)).look key n (by unfold maxLen; omega) (wf_i64' (by omega) (by omega))
    rw [hq] at this
    exact this
  have hl1 : (Instr.lookup 70 (.map (some b)) (.agg #[.string key, .int .i64 n]) false).run Try.prog w0 = .ok (.int .i64 (q : Int)) w0 := hlk 0
  clear h h0 hx hx0 hb0 hR hq
  go_enter Try.func32, Try.ntmps32
  go_upto_region 1 with fail
  rw [HW0.out]
  go_quiet (fail)
  go_wp2
  go_ret
  exact ⟨rfl, hF0.then (Fr.drewN _ _ _)⟩
/-- Is one of the writes' last writers reached? -/
def Hit (F : ByteArray → Int → Int) (n : Int) (rs : List Bool) (x : Wt) : Bool := rs.getD (F x.key n).toNat false
set_option maxHeartbeats 8000000 in
set_option maxRecDepth 100000 in
theorem indexF_any (B10 B9 B12 g b J : Nat) (F : ByteArray → Int → Int) (rs : List Bool) (n : Int) (xo : Option Addr) (M cm : Nat) (ws : List Wt) (W : World) (h : CW W B10 B9 g b J F rs) (hx : W.heap[B12]? = some (.cells #[.int .i64 n, .slice xo M cm] 31 (0, 0)))
    (hat : TArg W n xo M cm ws) (hF : ∀ x ∈ ws, 0 ≤ F x.key n ∧ F x.key n < (J : Int)) (hJ : J ≤ 65537) (hks : ∀ x ∈ ws, x.key.size ≤ 64) (hn0 : 0 ≤ n) (hn1 : n ≤ 65536) (hM : M ≤ 32) :
    Calls Try.prog 40 #[.slice xo M cm, .func (Fn.func 32) #[] #[.pointer (some ⟨B10, 0, none⟩), .pointer (some ⟨B9, 0, none⟩), .pointer (some ⟨B12, 0, none⟩)]] W fun e w' => ∃ r : Int, e = .returned (.int .i64 r) ∧ (0 ≤ r ↔ ∃ x ∈ ws, Hit F n rs x = true) ∧ -1 ≤ r ∧ r ≤ 32 ∧ Fr [] W w' := by
  have HL : Hid (M = ws.length) := hat.len
  have HRs : Hid (∀ V, Fr [] W V → WRs V xo ws) := fun V hf => hat.rs.keep hf
  have HC : Hid (∀ V, Fr [] W V → CW V B10 B9 g b J F rs) := fun V hf => h.quiet hf
  have HX : Hid (∀ V, Fr [] W V → V.heap[B12]? = some (.cells #[.int .i64 n, .slice xo M cm] 31 (0, 0))) := fun V hf => hf.keep hx (by simp)
  have HF : Hid (∀ x ∈ ws, 0 ≤ F x.key n ∧ F x.key n < (J : Int)) := hF
  have HK : Hid (∀ x ∈ ws, x.key.size ≤ 64) := hks
  clear h hx hat hF hks
  go_enter Try.func40, Try.ntmps40
  go_wp2_with fail
  go_loopw [8] (fun ii wr => ∃ (i : Nat), ii = .int .i64 i ∧ i ≤ M ∧ Hid (∀ j, j < i → Hit F n rs (ws.getD j Wt.zero) = false) ∧ Fr [] W wr) (fun ii _ => M - (intOf ii).toNat)
  case atStart => exact ⟨0, rfl, Nat.zero_le _, fun j hj => by omega, Fr.refl _ _⟩
  case round =>
    obtain ⟨i, rfl, hiM, HE, hFr⟩ := hrel
    by_cases hi : i < M
    · have hi' : i < ws.length := by rw [← HL.out]; exact hi
      obtain ⟨b2, o2, e2, _, hc2⟩ := (HRs.out _ hFr).lies (by omega)
      obtain ⟨d0, d1, d2⟩ := hc2 i hi'
      have hm := wgetD_mem ws i hi'
      have hkz := HK.out _ hm
      have hfz := HF.out _ hm
      have HMem : Hid (ws.getD i Wt.zero ∈ ws) := hm
      obtain ⟨y, hyy⟩ : ∃ y, y = ws.getD i Wt.zero := ⟨_, rfl⟩
      rw [← hyy] at d0 d1 d2 hkz hfz
      have HY : Hid (y = ws.getD i Wt.zero) := hyy
      clear hyy hc2 hm
      obtain ⟨key, val, drop⟩ := y
      simp only at d0 d1 d2 hkz hfz
      obtain ⟨q, hq⟩ : ∃ q : Nat, F key n = (q : Int) := ⟨(F key n).toNat, by omega⟩
      obtain ⟨R, hR⟩ : ∃ R : Bool, R = rs.getD q false := ⟨_, rfl⟩
      have HR : Hid (Hit F n rs (ws.getD i Wt.zero) = R) := by
        show Hit _ _ _ _ = _
        rw [← HY.out, hR]
        unfold Hit
        simp only
        rw [hq, Int.toNat_natCast]
      have HCl : Hid _ := fCh1_any B10 B9 B12 g b J q F rs n xo M cm key val drop R wr (HC.out _ hFr) (HX.out _ hFr) hq (by omega) hJ hR hkz hn0 hn1
      clear hq hR hfz
      subst e2
      go_wp2_with fail
      refine Calls.mono HCl.out ?_
      rintro e w2 ⟨rfl, hF2⟩
      have hG2 := hFr.then hF2
      clear HCl hF2 d0 d1 d2
      cases R with
      | true =>
        have HRes : Hid (0 ≤ (i : Int) ↔ ∃ x ∈ ws, Hit F n rs x = true) := ⟨fun _ => ⟨_, HMem.out, HR.out⟩, fun _ => by omega⟩
        go_wp2
        go_ret
        exact ⟨i, rfl, HRes.out, by omega, by omega, hG2⟩
      | false =>
        have HE2 : Hid (∀ j, j < i + 1 → Hit F n rs (ws.getD j Wt.zero) = false) := by
          intro j hj
          by_cases hji : j = i
          · subst hji; exact HR.out
          · exact HE.out j (by omega)
        go_wp2
        go_roundw
        case rel => exact ⟨i + 1, by simp, by omega, HE2, hG2⟩
        case measure => simp [intOf]; omega
    · have HRes : Hid (0 ≤ (-1 : Int) ↔ ∃ x ∈ ws, Hit F n rs x = true) := by
        refine ⟨fun h => by omega, ?_⟩
        rintro ⟨x, hx, hh⟩
        obtain ⟨j, hj, rfl⟩ := List.getElem_of_mem hx
        have := HE.out j (by have := HL.out; omega)
        simp only [List.getD, List.getElem?_eq_getElem hj, Option.getD_some] at this
        rw [this] at hh
        cases hh
      go_wp2
      go_ret
      exact ⟨-1, rfl, HRes.out, by omega, by omega, hFr⟩
set_option maxHeartbeats 2000000 in
theorem containsF_any (B10 B9 B12 g b J : Nat) (F : ByteArray → Int → Int) (rs : List Bool) (n : Int) (xo : Option Addr) (M cm : Nat) (ws : List Wt) (R : Bool) (W : World) (h : CW W B10 B9 g b J F rs) (hx : W.heap[B12]? = some (.cells #[.int .i64 n, .slice xo M cm] 31 (0, 0)))
    (hat : TArg W n xo M cm ws) (hF : ∀ x ∈ ws, 0 ≤ F x.key n ∧ F x.key n < (J : Int)) (hJ : J ≤ 65537) (hks : ∀ x ∈ ws, x.key.size ≤ 64) (hn0 : 0 ≤ n) (hn1 : n ≤ 65536) (hM : M ≤ 32) (hR : R = true ↔ ∃ x ∈ ws, Hit F n rs x = true) :
    Calls Try.prog 31 #[.slice xo M cm, .func (Fn.func 32) #[] #[.pointer (some ⟨B10, 0, none⟩), .pointer (some ⟨B9, 0, none⟩), .pointer (some ⟨B12, 0, none⟩)]] W fun e w' => e = .returned (.bool R) ∧ Fr [] W w' := by
  have HCl : Hid _ := indexF_any B10 B9 B12 g b J F rs n xo M cm ws W h hx hat hF hJ hks hn0 hn1 hM
  have HR : Hid (R = true ↔ ∃ x ∈ ws, Hit F n rs x = true) := hR
  clear h hx hat hF hR hks
  go_enter Try.func31, Try.ntmps31
  go_wp2_with fail
  refine Calls.mono HCl.out ?_
  rintro e w1 ⟨r, rfl, hr, hr0, hr1, hF1⟩
  have hRr : R = decide (0 ≤ r) := by
    rw [Bool.eq_iff_iff, HR.out, ← hr]
    simp
  have HRr : Hid (R = decide (0 ≤ r)) := hRr
  clear hRr hr HCl
  go_wp2
  go_ret
  exact ⟨by rw [HRr.out]; rfl, hF1⟩
end Go.Proofs.Ytdcmjoildfofcaa

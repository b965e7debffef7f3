/- Texts of this claim laid together, one behind the other: contracts and plain lemmas; conditions as each names them. -/
import Derived.Test.YtaaghcimfcjehaaGreatDoorGp17
import Derived.Deep.RegionLaw
import Derived.Deep.RegionWith
import Derived.Deep.RegionHeld3
import Derived.Deep.CutRange
import Derived.Maps.OwnOps
import Derived.Maps.Views
import Derived.DeepKeys4
import Derived.Laws.Cover1
import Derived.Laws.Strings
/- The document's Check of a transaction, and what it leans on. Conditions as each names them. -/
namespace Go.Proofs.YtaaghcimfcjehaaGreatDoor
open Go.ChangeShapes Go.WideShapes Go.ChangeAt Go.RowKit Go.Lib
set_option linter.unusedVariables false
set_option linter.unusedSimpArgs false

theorem xKey_any (s : ByteArray) (B : Bool) (w : World) (hs : s.size ≤ 140737488355328) (hB : B = true ↔ 1 ≤ s.size ∧ s.size ≤ 64) : Calls Tryz.prog 155 #[.string s] w fun e w' => e = .returned (.bool B) ∧ w = w' := by
  have HB : Hid (B = true ↔ 1 ≤ s.size ∧ s.size ≤ 64) := hB
  clear hB
  by_cases h1 : 1 ≤ s.size
  · have h1' : (1 : Int) ≤ s.size := by omega
    by_cases h2 : s.size ≤ 64
    · have h2' : (s.size : Int) ≤ 64 := by omega
      have HR : Hid (B = true) := HB.out.2 ⟨h1, h2⟩
      go_enter Tryz.func155, Tryz.ntmps155
      go_wp2
      go_ret
      rw [HR.out]
      simp [h2']
    · have h2' : decide ((s.size : Int) ≤ 64) = false := by simp; omega
      have HR : Hid (B = false) := by show B = false; simpa using fun h : B = true => h2 (HB.out.1 h).2
      clear h2
      go_enter Tryz.func155, Tryz.ntmps155
      go_wp2
      go_ret
      rw [HR.out]
      simp [h2']
  · have h1' : decide ((1 : Int) ≤ s.size) = false := by simp; omega
    have h1'' : (s.size : Int) < 1 := by omega
    have HR : Hid (B = false) := by show B = false; simpa using fun h : B = true => h1 (HB.out.1 h).1
    clear h1
    go_enter Tryz.func155, Tryz.ntmps155
    go_wp2
    go_ret
    rw [HR.out]
    simp
theorem xVal_any (s : ByteArray) (B : Bool) (w : World) (hs : s.size ≤ 140737488355328) (hB : B = true ↔ s.size ≤ 1024) : Calls Tryz.prog 156 #[.string s] w fun e w' => e = .returned (.bool B) ∧ w = w' := by
  have HB : Hid (decide ((s.size : Int) ≤ 1024) = B) := by
    show _ = _
    cases B with
    | true => have := hB.1 rfl; simp; omega
    | false => have : ¬ s.size ≤ 1024 := fun h => by have := hB.2 h; simp at this
               simp; omega
  clear hB
  go_enter Tryz.func156, Tryz.ntmps156
  go_wp2
  go_ret
  rw [← HB.out]
  exact ⟨rfl, rfl⟩
/-- It tells whether the write may be. -/
def TellsY (e : Ending) (x : Wt) : Prop := ∃ B : Bool, e = .returned (.bool B) ∧ (B = true ↔ okW x)
set_option maxHeartbeats 2000000 in
set_option maxRecDepth 100000 in
theorem xWrite_any (key val : ByteArray) (drop : Bool) (w : World) (hk : key.size ≤ 140737488355328) (hv : val.size ≤ 140737488355328) :
    Calls Tryz.prog 128 #[.agg #[.string key, .string val, .bool drop]] w fun e w' => TellsY e ⟨key, val, drop⟩ ∧ Fr [] w w' := by
  have hF0 : Fr [] w (w.alloc (.cells #[.string key, .string val, .bool drop] 92)) := Fr.alloc [] w _
  have HO : Hid (okW ⟨key, val, drop⟩ ↔ (1 ≤ key.size ∧ key.size ≤ 64) ∧ val.size ≤ 1024 ∧ (drop = true → val.size = 0)) := by
    show _ ↔ _
    unfold okW
    rw [← noS_iff]
    simp only
    constructor
    · rintro ⟨a, b, c, d⟩; exact ⟨⟨a, b⟩, c, d⟩
    · rintro ⟨⟨a, b⟩, c, d⟩; exact ⟨a, b, c, d⟩
  by_cases h1 : 1 ≤ key.size ∧ key.size ≤ 64
  · by_cases h2 : val.size ≤ 1024
    · cases drop with
      | true =>
        by_cases h3 : val.size = 0
        · have h3' : ((val.size : Int) == 0) = true := by rw [h3]; rfl
          have HA : Hid (okW ⟨key, val, true⟩) := HO.out.2 ⟨h1, h2, fun _ => h3⟩
          go_enter Tryz.func128, Tryz.ntmps128
          go_wp2_with fail
          refine (xKey_any key true _ hk (by simpa using h1)).mono ?_
          rintro e w1 ⟨rfl, rfl⟩
          go_wp2_with fail
          refine (xVal_any val true _ hv (by simpa using h2)).mono ?_
          rintro e w1 ⟨rfl, rfl⟩
          go_wp2
          go_ret
          exact ⟨⟨true, by simp [h3'], by simp [HA.out]⟩, hF0⟩
        · have h3' : ((val.size : Int) == 0) = false := by rw [beq_eq_false_iff_ne]; omega
          have HA : Hid (¬ okW ⟨key, val, true⟩) := fun h => h3 ((HO.out.1 h).2.2 rfl)
          clear h3
          go_enter Tryz.func128, Tryz.ntmps128
          go_wp2_with fail
          refine (xKey_any key true _ hk (by simpa using h1)).mono ?_
          rintro e w1 ⟨rfl, rfl⟩
          go_wp2_with fail
          refine (xVal_any val true _ hv (by simpa using h2)).mono ?_
          rintro e w1 ⟨rfl, rfl⟩
          go_wp2
          go_ret
          exact ⟨⟨false, by simp [h3'], by simp [HA.out]⟩, hF0⟩
      | false =>
        have HA : Hid (okW ⟨key, val, false⟩) := HO.out.2 ⟨h1, h2, fun h => by simp at h⟩
        go_enter Tryz.func128, Tryz.ntmps128
        go_wp2_with fail
        refine (xKey_any key true _ hk (by simpa using h1)).mono ?_
        rintro e w1 ⟨rfl, rfl⟩
        go_wp2_with fail
        refine (xVal_any val true _ hv (by simpa using h2)).mono ?_
        rintro e w1 ⟨rfl, rfl⟩
        go_wp2
        go_ret
        exact ⟨⟨true, by simp, by simp [HA.out]⟩, hF0⟩
    · have HA : Hid (¬ okW ⟨key, val, drop⟩) := fun h => h2 (HO.out.1 h).2.1
      go_enter Tryz.func128, Tryz.ntmps128
      go_wp2_with fail
      refine (xKey_any key true _ hk (by simpa using h1)).mono ?_
      rintro e w1 ⟨rfl, rfl⟩
      go_wp2_with fail
      refine (xVal_any val false _ hv (by simpa using h2)).mono ?_
      rintro e w1 ⟨rfl, rfl⟩
      go_wp2
      go_ret
      exact ⟨⟨false, by simp, by simp [HA.out]⟩, hF0⟩
  · have HA : Hid (¬ okW ⟨key, val, drop⟩) := fun h => h1 (HO.out.1 h).1
    have HB : Hid (false = true ↔ 1 ≤ key.size ∧ key.size ≤ 64) := ⟨fun h => by simp at h, fun h => absurd h h1⟩
    clear h1
    go_enter Tryz.func128, Tryz.ntmps128
    go_wp2_with fail
    refine (xKey_any key false _ hk HB.out).mono ?_
    rintro e w1 ⟨rfl, rfl⟩
    go_wp2
    go_ret
    exact ⟨⟨false, by simp, by simp [HA.out]⟩, hF0⟩
theorem xNumber_any (n : Int) (B : Bool) (w : World) (hB : B = true ↔ 1 ≤ n ∧ n ≤ 65536) : Calls Tryz.prog 127 #[.int .i64 n] w fun e w' => e = .returned (.bool B) ∧ w = w' := by
  have HB : Hid (B = true ↔ 1 ≤ n ∧ n ≤ 65536) := hB
  clear hB
  by_cases h1 : 1 ≤ n
  · have HR : Hid (decide (n ≤ 65536) = B) := by
      show _ = _
      cases B with
      | true => have := HB.out.1 rfl; simp; omega
      | false => have : ¬ n ≤ 65536 := fun h => by have := HB.out.2 ⟨h1, h⟩; simp at this
                 simp; omega
    go_enter Tryz.func127, Tryz.ntmps127
    go_wp2
    go_ret
    rw [← HR.out]
    exact ⟨by simp, rfl⟩
  · have h1' : n < 1 := by omega
    have HR : Hid (B = false) := by show B = false; simpa using fun h : B = true => h1 (HB.out.1 h).1
    clear h1
    go_enter Tryz.func127, Tryz.ntmps127
    go_wp2
    go_ret
    rw [HR.out]
    simp

set_option maxHeartbeats 4000000 in
set_option maxRecDepth 100000 in
theorem xCheck_any (n : Int) (ao : Option Addr) (L cap c : Nat) (ws : List Wt) (w : World) (hW : WRs w ao ws) (hL : L = ws.length) (hn0 : -9223372036854775808 ≤ n) (hn1 : n ≤ 9223372036854775807)
    (hc : (okT n ws ∧ c = 0) ∨ (¬ okT n ws ∧ c = 1)) :
    Calls Tryz.prog 80 #[.agg #[.int .i64 n, .slice ao L cap]] w fun e w' => e = .returned (.int .i64 (c : Int)) ∧ Fr [] w w' := by
  have HC : Hid (_ ∨ _) := hc
  have HL : Hid (L = ws.length) := hL
  have hLm : L ≤ 140737488355328 := by have := hW.few; omega
  have hF0 : Fr [] w (w.alloc (.cells #[.int .i64 n, .slice ao L cap] 66)) := Fr.alloc _ _ _
  have hW1 := hW.keep hF0
  clear hc hL
  by_cases h1 : 1 ≤ n ∧ n ≤ 65536
  · have hN := fun w => xNumber_any n true w (by simpa using h1)
    by_cases h3 : 32 < L
    · have hc1 : c = 1 := by rcases HC.out with ⟨h, _⟩ | ⟨_, h⟩; · exact absurd h.2.2.1 (by rw [← HL.out]; omega)
                             · exact h
      subst hc1
      clear HC
      have h3' : (32 : Int) < L := by omega
      go_enter Tryz.func80, Tryz.ntmps80
      go_wp2_with fail
      refine (hN _).mono ?_
      rintro e w1 ⟨rfl, rfl⟩
      clear hN
      go_wp2
      go_ret
      exact ⟨rfl, hF0⟩
    · have h3' : (L : Int) ≤ 32 := by omega
      have hd3 : decide ((32 : Int) < L) = false := by simp; omega
      clear h3
      have c1 : (w.alloc (.cells #[.int .i64 n, .slice ao L cap] 66)).cell? ⟨w.heap.size, 1, none⟩ = some (.slice ao L cap) := cell_of_row _ _ _ _ _ _ (heap_alloc_new w _)
      go_enter Tryz.func80, Tryz.ntmps80
      go_wp2_with fail
      refine (hN _).mono ?_
      rintro e w1 ⟨rfl, rfl⟩
      clear hN
      go_wp2_with fail
      obtain ⟨w1, HW1⟩ : ∃ w1, Hid (w.alloc (.cells #[.int .i64 n, .slice ao L cap] 66) = w1) := ⟨_, rfl⟩
      rw [HW1.out] at c1 hF0 hW1 ⊢
      have hlt : w.heap.size < w1.heap.size := by rw [← HW1.out]; simp
      go_loopw [3] (fun ii wr => ∃ (i : Nat), ii = .int .i64 i ∧ i ≤ L ∧ Hid (∀ j, j < i → okW (ws.getD j Wt.zero)) ∧ Fr [] w1 wr) (fun ii _ => L - (RowKit.intOf ii).toNat)
      case atStart => exact ⟨0, rfl, Nat.zero_le _, fun j hj => by omega, Fr.refl _ _⟩
      case round =>
        obtain ⟨i, rfl, hiL, HE, hFr⟩ := hrel
        have c1r : wr.cell? ⟨w.heap.size, 1, none⟩ = some (.slice ao L cap) := (World.cell?_of_block (hFr.block _ hlt (by simp))).trans c1
        by_cases hi : i < L
        · have hi' : i < ws.length := by rw [← HL.out]; exact hi
          obtain ⟨b, off, rfl, _, hc⟩ := (hW1.keep hFr).lies (by omega)
          obtain ⟨d0, d1, d2⟩ := hc i hi'
          have hm := hW.each _ (wgetD_mem ws i hi')
          obtain ⟨x, hxx⟩ : ∃ x, x = ws.getD i Wt.zero := ⟨_, rfl⟩
          rw [← hxx] at d0 d1 d2 hm
          have HX : Hid (x = ws.getD i Wt.zero) := hxx
          clear hxx hc
          obtain ⟨key, val, drop⟩ := x
          simp only at d0 d1 d2 hm
          go_wp2_with fail
          refine (xWrite_any key val drop _ hm.1 hm.2).mono ?_
          rintro e w2 ⟨⟨B, rfl, hB⟩, hF2⟩
          cases B with
          | false =>
            have hno : ¬ okW ⟨key, val, drop⟩ := fun h => by have := hB.2 h; simp at this
            have hc1 : c = 1 := by rcases HC.out with ⟨h, _⟩ | ⟨_, h⟩; · exact absurd h (okT_no hi' (HX.out ▸ hno))
                                   · exact h
            subst hc1
            clear HC hB hno
            go_wp2
            go_ret
            exact ⟨rfl, hF0.then (hFr.then hF2)⟩
          | true =>
            have HE2 : Hid (∀ j, j < i + 1 → okW (ws.getD j Wt.zero)) := by
              intro j hj
              by_cases hji : j = i
              · subst hji
                rw [← HX.out]
                exact hB.1 rfl
              · exact HE.out j (by omega)
            clear hB
            go_wp2
            go_roundw
            case rel => exact ⟨i + 1, by simp, by omega, HE2, hFr.then hF2⟩
            case measure => simp [RowKit.intOf]; omega
        · have hc0 : c = 0 := by
            rcases HC.out with ⟨_, h⟩ | ⟨h, _⟩
            · exact h
            · refine absurd ⟨h1.1, h1.2, by rw [← HL.out]; omega, ?_⟩ h
              intro x hx
              obtain ⟨j, hj, rfl⟩ := List.getElem_of_mem hx
              have := HE.out j (by have := HL.out; omega)
              simpa [List.getD, hj] using this
          subst hc0
          clear HC
          go_wp2
          go_ret
          exact ⟨rfl, hF0.then hFr⟩
  · have hN := fun w => xNumber_any n false w ⟨fun h => by simp at h, fun h => absurd h h1⟩
    have hc1 : c = 1 := by rcases HC.out with ⟨h, _⟩ | ⟨_, h⟩; · exact absurd ⟨h.1, h.2.1⟩ h1
                           · exact h
    subst hc1
    clear HC h1
    go_enter Tryz.func80, Tryz.ntmps80
    go_wp2_with fail
    refine (hN _).mono ?_
    rintro e w1 ⟨rfl, rfl⟩
    clear hN
    go_wp2
    go_ret
    exact ⟨rfl, hF0⟩
end Go.Proofs.YtaaghcimfcjehaaGreatDoor
/- May a log be: the document's Check (stages 6 and 7), the program's check (stage 7). Conditions as each names them. -/
namespace Go.Proofs.YtaaghcimfcjehaaGreatDoor
open Go.ChangeShapes Go.WideShapes Go.ChangeAt Go.RowKit Go.Lib
set_option linter.unusedVariables false
set_option linter.unusedSimpArgs false
theorem tdrop_cons7 (ts : List Tm) (i : Nat) (h : i < ts.length) : ts.drop i = ts.getD i Tm.zero :: ts.drop (i + 1) := by
  rw [List.drop_eq_getElem_cons h]
  simp [List.getD, h]

set_option maxHeartbeats 4000000 in
set_option maxRecDepth 100000 in
theorem ycheck_any (ao : Option Addr) (L cap c : Nat) (ts : List Tm) (w : World) (hT : TRs w ao ts) (hL : L = ts.length) (hc : Bad 1 (txs ts) c) :
    Calls Tryz.prog 28 #[.slice ao L cap] w fun e w' => e = .returned (.int .i64 (c : Int)) ∧ Fr [] w w' := by
  have HC : Hid (Bad 1 (txs ts) c) := hc
  have HL : Hid (L = ts.length) := hL
  have hLm : L ≤ 140737488355328 := by have := hT.few; omega
  clear hc hL
  go_enter Tryz.func28, Tryz.ntmps28
  go_wp2_with fail
  go_loopw [3] (fun ii wr => ∃ (i : Nat), ii = .int .i64 i ∧ i ≤ L ∧ Hid (Bad (1 + i) (txs (ts.drop i)) c) ∧ Fr [] w wr) (fun ii _ => L - (RowKit.intOf ii).toNat)
  case atStart => exact ⟨0, rfl, Nat.zero_le _, HC.out, Fr.refl _ _⟩
  case round =>
    obtain ⟨i, rfl, hiL, HE, hFr⟩ := hrel
    by_cases hi : i < L
    · have hi' : i < ts.length := by rw [← HL.out]; exact hi
      obtain ⟨bb, off, rfl, hbl, hc⟩ := (hT.keep hFr).lies (by omega)
      have hx := hc i hi'
      have hat := (hT.keep hFr).each _ (tgetD_mem ts i hi')
      obtain ⟨x, hxx⟩ : ∃ x, x = ts.getD i Tm.zero := ⟨_, rfl⟩
      rw [← hxx] at hx hat
      have HX : Hid (x = ts.getD i Tm.zero) := hxx
      clear hxx hc
      obtain ⟨n, xo, M, cm, ws⟩ := x
      obtain ⟨c0, c1⟩ := hx
      simp only at c0 c1
      have e1 := HE.out
      rw [tdrop_cons7 ts i hi', ← HX.out] at e1
      have hn0 := hat.n0
      have hn1 := hat.n1
      simp only at hn0 hn1
      have hG := hFr
      have hat1 : TArg wr n xo M cm ws := hat
      have HCe : Hid (∀ W, Fr [] wr W → W.cell? ⟨bb, off + i * 2, none⟩ = some (.int .i64 n)) := fun W hf => (World.cell?_of_block (hf.block bb hbl (by simp))).trans c0
      clear hat
      clear HE HC
      rcases e1 with ⟨h1, rfl⟩ | ⟨h1, h2, rfl⟩ | ⟨h1, h2, h3⟩
      · have HN : Hid (¬ okT n ws) := h1
        clear h1
        go_wp2_with fail
        refine (xCheck_any n xo M cm 1 ws _ hat1.rs hat1.len hn0 hn1 (Or.inr ⟨HN.out, rfl⟩)).mono ?_
        rintro e w2 ⟨rfl, hF2⟩
        have hG2 := hG.then hF2
        clear hG hF2 hat1
        go_wp2
        go_ret
        exact ⟨rfl, hG2⟩
      · have HN : Hid (okT n ws) := h1
        have hne : (n != (i : Int) + 1) = true := by rw [bne_iff_ne]; have h2' : n ≠ ((1 + i : Nat) : Int) := h2; omega
        clear h1 h2
        go_wp2_with fail
        refine (xCheck_any n xo M cm 0 ws _ hat1.rs hat1.len hn0 hn1 (Or.inl ⟨HN.out, rfl⟩)).mono ?_
        rintro e w2 ⟨rfl, hF2⟩
        have hG2 := hG.then hF2
        have k0 := HCe.out _ hF2
        clear hG hF2 hat1 c0 c1
        go_wp2
        go_ret
        exact ⟨rfl, hG2⟩
      · have HN : Hid (okT n ws ∧ Bad (1 + i + 1) (txs (ts.drop (i + 1))) c) := ⟨h1, h3⟩
        have hne : (n != (i : Int) + 1) = false := by rw [bne_eq_false_iff_eq]; have h2' : n = ((1 + i : Nat) : Int) := h2; omega
        clear h1 h2 h3
        go_wp2_with fail
        refine (xCheck_any n xo M cm 0 ws _ hat1.rs hat1.len hn0 hn1 (Or.inl ⟨HN.out.1, rfl⟩)).mono ?_
        rintro e w2 ⟨rfl, hF2⟩
        have hG2 := hG.then hF2
        have k0 := HCe.out _ hF2
        clear hG hF2 hat1 c0 c1
        go_wp2
        go_roundw
        case rel => exact ⟨i + 1, by simp, by omega, by show Bad _ _ _; rw [show 1 + (i + 1) = 1 + i + 1 by omega]; exact HN.out.2, hG2⟩
        case measure => simp [RowKit.intOf]; omega
    · have hc0 : c = 0 := by
        have e1 := HE.out
        rw [List.drop_eq_nil_of_le (by rw [← HL.out]; omega)] at e1
        exact e1
      subst hc0
      clear HC HE
      go_wp2
      go_ret
      exact ⟨rfl, hFr⟩

set_option maxHeartbeats 4000000 in
set_option maxRecDepth 100000 in
theorem fcheck_any (ao : Option Addr) (L cap c : Nat) (ts : List Tm) (w : World) (hT : TRs w ao ts) (hL : L = ts.length) (hc : Bad 1 (txs ts) c) :
    Calls Tryz.prog 164 #[.slice ao L cap] w fun e w' => e = .returned (.int .i64 (c : Int)) ∧ Fr [] w w' := by
  have HC : Hid (Bad 1 (txs ts) c) := hc
  have HL : Hid (L = ts.length) := hL
  have hLm : L ≤ 140737488355328 := by have := hT.few; omega
  clear hc hL
  go_enter Tryz.func164, Tryz.ntmps164
  go_wp2_with fail
  go_loopw [8] (fun ii wr => ∃ (i : Nat), ii = .int .i64 i ∧ i ≤ L ∧ Hid (Bad (1 + i) (txs (ts.drop i)) c) ∧ Fr [] w wr) (fun ii _ => L - (RowKit.intOf ii).toNat)
  case atStart => exact ⟨0, rfl, Nat.zero_le _, HC.out, Fr.refl _ _⟩
  case round =>
    obtain ⟨i, rfl, hiL, HE, hFr⟩ := hrel
    by_cases hi : i < L
    · have hi' : i < ts.length := by rw [← HL.out]; exact hi
      obtain ⟨bb, off, rfl, hbl, hc⟩ := (hT.keep hFr).lies (by omega)
      have hx := hc i hi'
      have hat := (hT.keep hFr).each _ (tgetD_mem ts i hi')
      obtain ⟨x, hxx⟩ : ∃ x, x = ts.getD i Tm.zero := ⟨_, rfl⟩
      rw [← hxx] at hx hat
      have HX : Hid (x = ts.getD i Tm.zero) := hxx
      clear hxx hc
      obtain ⟨n, xo, M, cm, ws⟩ := x
      obtain ⟨c0, c1⟩ := hx
      simp only at c0 c1
      have e1 := HE.out
      rw [tdrop_cons7 ts i hi', ← HX.out] at e1
      have hn0 := hat.n0
      have hn1 := hat.n1
      simp only at hn0 hn1
      have hF1 : Fr [] wr (wr.alloc (.cells #[.int .i64 n, .slice xo M cm] 66)) := Fr.alloc _ _ _
      have hbx : (wr.alloc (.cells #[.int .i64 n, .slice xo M cm] 66)).heap[wr.heap.size]? = some (.cells #[.int .i64 n, .slice xo M cm] 66 (0, 0)) := heap_alloc_new wr _
      have hG := hFr.then hF1
      obtain ⟨w1, HW1⟩ : ∃ w1, Hid (wr.alloc (.cells #[.int .i64 n, .slice xo M cm] 66) = w1) := ⟨_, rfl⟩
      rw [HW1.out] at hF1 hbx hG
      have hat1 : TArg w1 n xo M cm ws := TArg.keep hat hF1
      have HCe : Hid (∀ W, Fr [] w1 W → W.cell? ⟨wr.heap.size, 0, none⟩ = some (.int .i64 n)) := fun W hf => by
        have hb := hf.keep hbx (by simp)
        rw [cell_of_row _ _ _ _ _ _ hb]; rfl
      clear hat hF1 hbx
      clear HE HC
      rcases e1 with ⟨h1, rfl⟩ | ⟨h1, h2, rfl⟩ | ⟨h1, h2, h3⟩
      · have HN : Hid (¬ okT n ws) := h1
        clear h1
        go_wp2_with fail
        rw [HW1.out]
        refine (check_any n xo M cm 1 ws _ hat1.rs hat1.len hn0 hn1 (Or.inr ⟨HN.out, rfl⟩)).mono ?_
        rintro e w2 ⟨rfl, hF2⟩
        have hG2 := hG.then hF2
        clear hG hF2 hat1
        go_wp2
        go_ret
        exact ⟨rfl, hG2⟩
      · have HN : Hid (okT n ws) := h1
        have hne : (n != (i : Int) + 1) = true := by rw [bne_iff_ne]; have h2' : n ≠ ((1 + i : Nat) : Int) := h2; omega
        clear h1 h2
        go_wp2_with fail
        rw [HW1.out]
        refine (check_any n xo M cm 0 ws _ hat1.rs hat1.len hn0 hn1 (Or.inl ⟨HN.out, rfl⟩)).mono ?_
        rintro e w2 ⟨rfl, hF2⟩
        have hG2 := hG.then hF2
        have k0 := HCe.out _ hF2
        clear hG hF2 hat1 c0 c1
        go_wp2
        go_ret
        exact ⟨rfl, hG2⟩
      · have HN : Hid (okT n ws ∧ Bad (1 + i + 1) (txs (ts.drop (i + 1))) c) := ⟨h1, h3⟩
        have hne : (n != (i : Int) + 1) = false := by rw [bne_eq_false_iff_eq]; have h2' : n = ((1 + i : Nat) : Int) := h2; omega
        clear h1 h2 h3
        go_wp2_with fail
        rw [HW1.out]
        refine (check_any n xo M cm 0 ws _ hat1.rs hat1.len hn0 hn1 (Or.inl ⟨HN.out.1, rfl⟩)).mono ?_
        rintro e w2 ⟨rfl, hF2⟩
        have hG2 := hG.then hF2
        have k0 := HCe.out _ hF2
        clear hG hF2 hat1 c0 c1
        go_wp2
        go_roundw
        case rel => exact ⟨i + 1, by simp, by omega, by show Bad _ _ _; rw [show 1 + (i + 1) = 1 + i + 1 by omega]; exact HN.out.2, hG2⟩
        case measure => simp [RowKit.intOf]; omega
    · have hc0 : c = 0 := by
        have e1 := HE.out
        rw [List.drop_eq_nil_of_le (by rw [← HL.out]; omega)] at e1
        exact e1
      subst hc0
      clear HC HE
      go_wp2
      go_ret
      exact ⟨rfl, hFr⟩
end Go.Proofs.YtaaghcimfcjehaaGreatDoor
/- Plain facts of the types of a number and a text. -/
namespace Go.Proofs.YtaaghcimfcjehaaGreatDoor
open Go.ChangeShapes Go.WideShapes Go.ChangeAt Go.RowKit Go.Lib Go.Maps
theorem Tryz.laid7 : laidOutB Tryz.prog = true := by kernel_rfl
theorem Tryz.undI7 : Tryz.prog.underlying 3 = some (.int .i64) := by kernel_rfl
theorem Tryz.undS7 : Tryz.prog.underlying 9 = some .string := by kernel_rfl
theorem Tryz.cellsS7 : Tryz.prog.cellsOf 9 = 1 := by kernel_rfl
theorem Tryz.cellsI7 : Tryz.prog.cellsOf 3 = 1 := by kernel_rfl
theorem Tryz.zeroI7 (w : World) : (zeroValue 3).run Tryz.prog w = .ok (.int .i64 0) w := by kernel_rfl
end Go.Proofs.YtaaghcimfcjehaaGreatDoor
/- The questions of keys: one key alone, a stretch: contracts. Conditions as each names them. -/
namespace Go.Proofs.YtaaghcimfcjehaaGreatDoor
open Go.ChangeShapes Go.WideShapes Go.ChangeAt Go.RowKit Go.Lib
set_option linter.unusedVariables false
set_option linter.unusedSimpArgs false
/-- A text in a block of its own. -/
def SBox (w : World) (b : Nat) (s : ByteArray) : Prop := w.heap[b]? = some (.cells #[.string s] 9 (0, 0))
theorem SBox.c {w : World} {b : Nat} {s : ByteArray} (h : SBox w b s) : w.cell? ⟨b, 0, none⟩ = some (.string s) := by unfold SBox at h; simp [World.cell?, h]
theorem SBox.keep {S : List Nat} {w w' : World} {b : Nat} {s : ByteArray} (h : SBox w b s) (hf : Fr S w w') (hn : b ∉ S) : SBox w' b s := hf.keep h hn
theorem SBox.lt {w : World} {b : Nat} {s : ByteArray} (h : SBox w b s) : b < w.heap.size := lt_of_block h
theorem stretch_any (key en : ByteArray) (w : World) : Calls Tryz.prog 138 #[.string key, .string en] w fun e w' => ∃ b c, e = .returned (.func (Fn.func 166) #[] #[.pointer (some ⟨b, 0, none⟩), .pointer (some ⟨c, 0, none⟩)]) ∧ SBox w' b key ∧ SBox w' c en ∧ w.heap.size ≤ b ∧ w.heap.size ≤ c ∧ Fr [] w w' := by
  go_enter Tryz.func138, Tryz.ntmps138
  go_wp2
  go_ret
  refine ⟨_, _, rfl, ?_, ?_, Nat.le_refl _, Nat.le_succ _, (Fr.alloc [] w _).then (Fr.alloc [] _ _)⟩
  · exact (Fr.alloc [] _ _).keep (heap_alloc_new w (.cells #[.string key] 9)) (by simp)
  · have := heap_alloc_new (w.alloc (.cells #[.string key] 9)) (.cells #[.string en] 9)
    simpa [SBox] using this
/-- Does a key lie in a stretch? -/
def inS (key en s : ByteArray) : Bool := !(Op.bytesLess s.toList key.toList) && (en.toList == [] || Op.bytesLess s.toList en.toList)
set_option maxHeartbeats 1000000 in
theorem stretch1_any (b c : Nat) (key en s : ByteArray) (B : Bool) (w : World) (hb : SBox w b key) (hc : SBox w c en) (hB : B = inS key en s) : Calls Tryz.prog 166 #[.string s, .pointer (some ⟨b, 0, none⟩), .pointer (some ⟨c, 0, none⟩)] w fun e w' => e = .returned (.bool B) ∧ Fr [] w w' := by
  have c0 := hb.c
  have c1 := hc.c
  have hE0 : (⟨#[]⟩ : ByteArray).toList = [] := (tl_nil _).2 rfl
  obtain ⟨G, hG⟩ : ∃ G, Op.bytesLess s.toList key.toList = G := ⟨_, rfl⟩
  obtain ⟨E, hE⟩ : ∃ E, (en.toList == ([] : List UInt8)) = E := ⟨_, rfl⟩
  obtain ⟨K, hK⟩ : ∃ K, Op.bytesLess s.toList en.toList = K := ⟨_, rfl⟩
  have hB' : B = (!G && (E || K)) := by rw [hB, ← hG, ← hE, ← hK]; rfl
  have HB : Hid (B = (!G && (E || K))) := hB'
  clear hB hB'
  have hundef : undef = Value.tuple #[] := rfl
  cases G <;> cases E <;> cases K <;> (go_enter Tryz.func166, Tryz.ntmps166; go_wp2; go_ret; exact ⟨by rw [HB.out]; rfl, Fr.refl _ _⟩)
end Go.Proofs.YtaaghcimfcjehaaGreatDoor
/- Plain facts that stand ahead of the maps of entries. -/
namespace Go.Proofs.YtaaghcimfcjehaaGreatDoor
open Go.ChangeShapes Go.WideShapes Go.ChangeAt Go.RowKit Go.Lib Go.Maps
theorem ttx_get {ts : List Tm} {i : Nat} (h : i < ts.length) : txs (ts.take (i + 1)) = txs (ts.take i) ++ [(ts.getD i Tm.zero).tx] := by rw [ttake_snoc ts i h, txs_append]; rfl
theorem Tryz.undTsE : Tryz.prog.underlying 24 = some (.slice (Tryz.prog.elem 24)) := by kernel_rfl
theorem Tryz.elemTs : Tryz.prog.elem 24 = 66 := by kernel_rfl
theorem Tryz.sizeT (w : World) : (sizeOf 66).run Tryz.prog w = .ok 2 w := by kernel_rfl
end Go.Proofs.YtaaghcimfcjehaaGreatDoor

/- The document's Check of a transaction, and what it leans on. Conditions as each names them. -/
import Derived.Test.YtdojhkgnnbdfkaaTm
import Derived.Deep.RegionLaw
import Derived.Deep.RegionWith
import Derived.Deep.RegionHeld3
import Derived.Deep.CutRange
namespace Go.Proofs.Ytdojhkgnnbdfkaa
open Go.ChangeShapes Go.WideShapes Go.ChangeAt Go.RowKit Go.Lib
set_option linter.unusedVariables false
set_option linter.unusedSimpArgs false

theorem xKey_any (s : ByteArray) (B : Bool) (w : World) (hs : s.size ≤ 140737488355328) (hB : B = true ↔ 1 ≤ s.size ∧ s.size ≤ 64) : Calls Try.prog 44 #[.string s] w fun e w' => e = .returned (.bool B) ∧ w = w' := by
  have HB : Hid (B = true ↔ 1 ≤ s.size ∧ s.size ≤ 64) := hB
  clear hB
  by_cases h1 : 1 ≤ s.size
  · have h1' : (1 : Int) ≤ s.size := by omega
    by_cases h2 : s.size ≤ 64
    · have h2' : (s.size : Int) ≤ 64 := by omega
      have HR : Hid (B = true) := HB.out.2 ⟨h1, h2⟩
      go_enter Try.func44, Try.ntmps44
      go_wp2
      go_ret
      rw [HR.out]
      simp [h2']
    · have h2' : decide ((s.size : Int) ≤ 64) = false := by simp; omega
      have HR : Hid (B = false) := by show B = false; simpa using fun h : B = true => h2 (HB.out.1 h).2
      clear h2
      go_enter Try.func44, Try.ntmps44
      go_wp2
      go_ret
      rw [HR.out]
      simp [h2']
  · have h1' : decide ((1 : Int) ≤ s.size) = false := by simp; omega
    have h1'' : (s.size : Int) < 1 := by omega
    have HR : Hid (B = false) := by show B = false; simpa using fun h : B = true => h1 (HB.out.1 h).1
    clear h1
    go_enter Try.func44, Try.ntmps44
    go_wp2
    go_ret
    rw [HR.out]
    simp
theorem xVal_any (s : ByteArray) (B : Bool) (w : World) (hs : s.size ≤ 140737488355328) (hB : B = true ↔ s.size ≤ 1024) : Calls Try.prog 45 #[.string s] w fun e w' => e = .returned (.bool B) ∧ w = w' := by
  have HB : Hid (decide ((s.size : Int) ≤ 1024) = B) := by
    show _ = _
    cases B with
    | true => have := hB.1 rfl; simp; omega
    | false => have : ¬ s.size ≤ 1024 := fun h => by have := hB.2 h; simp at this
               simp; omega
  clear hB
  go_enter Try.func45, Try.ntmps45
  go_wp2
  go_ret
  rw [← HB.out]
  exact ⟨rfl, rfl⟩
/-- It tells whether the write may be. -/
def TellsY (e : Ending) (x : Wt) : Prop := ∃ B : Bool, e = .returned (.bool B) ∧ (B = true ↔ okW x)
set_option maxHeartbeats 2000000 in
set_option maxRecDepth 100000 in
theorem xWrite_any (key val : ByteArray) (drop : Bool) (w : World) (hk : key.size ≤ 140737488355328) (hv : val.size ≤ 140737488355328) :
    Calls Try.prog 36 #[.agg #[.string key, .string val, .bool drop]] w fun e w' => TellsY e ⟨key, val, drop⟩ ∧ Fr [] w w' := by
  have hF0 : Fr [] w (w.alloc (.cells #[.string key, .string val, .bool drop] 51)) := Fr.alloc [] w _
  have HO : Hid (okW ⟨key, val, drop⟩ ↔ (1 ≤ key.size ∧ key.size ≤ 64) ∧ val.size ≤ 1024 ∧ (drop = true → val.size = 0)) := by
    show _ ↔ _
    unfold okW
    rw [← noS_iff]
    simp only
    constructor
    · rintro ⟨a, b, c, d⟩; exact ⟨⟨a, b⟩, c, d⟩
    · rintro ⟨⟨a, b⟩, c, d⟩; exact ⟨a, b, c, d⟩
  by_cases h1 : 1 ≤ key.size ∧ key.size ≤ 64
  · by_cases h2 : val.size ≤ 1024
    · cases drop with
      | true =>
        by_cases h3 : val.size = 0
        · have h3' : ((val.size : Int) == 0) = true := by rw [h3]; rfl
          have HA : Hid (okW ⟨key, val, true⟩) := HO.out.2 ⟨h1, h2, fun _ => h3⟩
          go_enter Try.func36, Try.ntmps36
          go_wp2_with fail
          refine (xKey_any key true _ hk (by simpa using h1)).mono ?_
          rintro e w1 ⟨rfl, rfl⟩
          go_wp2_with fail
          refine (xVal_any val true _ hv (by simpa using h2)).mono ?_
          rintro e w1 ⟨rfl, rfl⟩
          go_wp2
          go_ret
          exact ⟨⟨true, by simp [h3'], by simp [HA.out]⟩, hF0⟩
        · have h3' : ((val.size : Int) == 0) = false := by rw [beq_eq_false_iff_ne]; omega
          have HA : Hid (¬ okW ⟨key, val, true⟩) := fun h => h3 ((HO.out.1 h).2.2 rfl)
          clear h3
          go_enter Try.func36, Try.ntmps36
          go_wp2_with fail
          refine (xKey_any key true _ hk (by simpa using h1)).mono ?_
          rintro e w1 ⟨rfl, rfl⟩
          go_wp2_with fail
          refine (xVal_any val true _ hv (by simpa using h2)).mono ?_
          rintro e w1 ⟨rfl, rfl⟩
          go_wp2
          go_ret
          exact ⟨⟨false, by simp [h3'], by simp [HA.out]⟩, hF0⟩
      | false =>
        have HA : Hid (okW ⟨key, val, false⟩) := HO.out.2 ⟨h1, h2, fun h => by simp at h⟩
        go_enter Try.func36, Try.ntmps36
        go_wp2_with fail
        refine (xKey_any key true _ hk (by simpa using h1)).mono ?_
        rintro e w1 ⟨rfl, rfl⟩
        go_wp2_with fail
        refine (xVal_any val true _ hv (by simpa using h2)).mono ?_
        rintro e w1 ⟨rfl, rfl⟩
        go_wp2
        go_ret
        exact ⟨⟨true, by simp, by simp [HA.out]⟩, hF0⟩
    · have HA : Hid (¬ okW ⟨key, val, drop⟩) := fun h => h2 (HO.out.1 h).2.1
      go_enter Try.func36, Try.ntmps36
      go_wp2_with fail
      refine (xKey_any key true _ hk (by simpa using h1)).mono ?_
      rintro e w1 ⟨rfl, rfl⟩
      go_wp2_with fail
      refine (xVal_any val false _ hv (by simpa using h2)).mono ?_
      rintro e w1 ⟨rfl, rfl⟩
      go_wp2
      go_ret
      exact ⟨⟨false, by simp, by simp [HA.out]⟩, hF0⟩
  · have HA : Hid (¬ okW ⟨key, val, drop⟩) := fun h => h1 (HO.out.1 h).1
    have HB : Hid (false = true ↔ 1 ≤ key.size ∧ key.size ≤ 64) := ⟨fun h => by simp at h, fun h => absurd h h1⟩
    clear h1
    go_enter Try.func36, Try.ntmps36
    go_wp2_with fail
    refine (xKey_any key false _ hk HB.out).mono ?_
    rintro e w1 ⟨rfl, rfl⟩
    go_wp2
    go_ret
    exact ⟨⟨false, by simp, by simp [HA.out]⟩, hF0⟩
theorem xNumber_any (n : Int) (B : Bool) (w : World) (hB : B = true ↔ 1 ≤ n ∧ n ≤ 65536) : Calls Try.prog 35 #[.int .i64 n] w fun e w' => e = .returned (.bool B) ∧ w = w' := by
  have HB : Hid (B = true ↔ 1 ≤ n ∧ n ≤ 65536) := hB
  clear hB
  by_cases h1 : 1 ≤ n
  · have HR : Hid (decide (n ≤ 65536) = B) := by
      show _ = _
      cases B with
      | true => have := HB.out.1 rfl; simp; omega
      | false => have : ¬ n ≤ 65536 := fun h => by have := HB.out.2 ⟨h1, h⟩; simp at this
                 simp; omega
    go_enter Try.func35, Try.ntmps35
    go_wp2
    go_ret
    rw [← HR.out]
    exact ⟨by simp, rfl⟩
  · have h1' : n < 1 := by omega
    have HR : Hid (B = false) := by show B = false; simpa using fun h : B = true => h1 (HB.out.1 h).1
    clear h1
    go_enter Try.func35, Try.ntmps35
    go_wp2
    go_ret
    rw [HR.out]
    simp

set_option maxHeartbeats 4000000 in
set_option maxRecDepth 100000 in
theorem xCheck_any (n : Int) (ao : Option Addr) (L cap c : Nat) (ws : List Wt) (w : World) (hW : WRs w ao ws) (hL : L = ws.length) (hn0 : -9223372036854775808 ≤ n) (hn1 : n ≤ 9223372036854775807)
    (hc : (okT n ws ∧ c = 0) ∨ (¬ okT n ws ∧ c = 1)) :
    Calls Try.prog 20 #[.agg #[.int .i64 n, .slice ao L cap]] w fun e w' => e = .returned (.int .i64 (c : Int)) ∧ Fr [] w w' := by
  have HC : Hid (_ ∨ _) := hc
  have HL : Hid (L = ws.length) := hL
  have hLm : L ≤ 140737488355328 := by have := hW.few; omega
  have hF0 : Fr [] w (w.alloc (.cells #[.int .i64 n, .slice ao L cap] 24)) := Fr.alloc _ _ _
  have hW1 := hW.keep hF0
  clear hc hL
  by_cases h1 : 1 ≤ n ∧ n ≤ 65536
  · have hN := fun w => xNumber_any n true w (by simpa using h1)
    by_cases h3 : 32 < L
    · have hc1 : c = 1 := by rcases HC.out with ⟨h, _⟩ | ⟨_, h⟩; · exact absurd h.2.2.1 (by rw [← HL.out]; omega)
                             · exact h
      subst hc1
      clear HC
      have h3' : (32 : Int) < L := by omega
      go_enter Try.func20, Try.ntmps20
      go_wp2_with fail
      refine (hN _).mono ?_
      rintro e w1 ⟨rfl, rfl⟩
      clear hN
      go_wp2
      go_ret
      exact ⟨rfl, hF0⟩
    · have h3' : (L : Int) ≤ 32 := by omega
      have hd3 : decide ((32 : Int) < L) = false := by simp; omega
      clear h3
      have c1 : (w.alloc (.cells #[.int .i64 n, .slice ao L cap] 24)).cell? ⟨w.heap.size, 1, none⟩ = some (.slice ao L cap) := cell_of_row _ _ _ _ _ _ (heap_alloc_new w _)
      go_enter Try.func20, Try.ntmps20
      go_wp2_with fail
      refine (hN _).mono ?_
      rintro e w1 ⟨rfl, rfl⟩
      clear hN
      go_wp2_with fail
      obtain ⟨w1, HW1⟩ : ∃ w1, Hid (w.alloc (.cells #[.int .i64 n, .slice ao L cap] 24) = w1) := ⟨_, rfl⟩
      rw [HW1.out] at c1 hF0 hW1 ⊢
      have hlt : w.heap.size < w1.heap.size := by rw [← HW1.out]; simp
      go_loopw [3] (fun ii wr => ∃ (i : Nat), ii = .int .i64 i ∧ i ≤ L ∧ Hid (∀ j, j < i → okW (ws.getD j Wt.zero)) ∧ Fr [] w1 wr) (fun ii _ => L - (intOf ii).toNat)
      case atStart => exact ⟨0, rfl, Nat.zero_le _, fun j hj => by omega, Fr.refl _ _⟩
      case round =>
        obtain ⟨i, rfl, hiL, HE, hFr⟩ := hrel
        have c1r : wr.cell? ⟨w.heap.size, 1, none⟩ = some (.slice ao L cap) := (World.cell?_of_block (hFr.block _ hlt (by simp))).trans c1
        by_cases hi : i < L
        · have hi' : i < ws.length := by rw [← HL.out]; exact hi
          obtain ⟨b, off, rfl, _, hc⟩ := (hW1.keep hFr).lies (by omega)
          obtain ⟨d0, d1, d2⟩ := hc i hi'
          have hm := hW.each _ (wgetD_mem ws i hi')
          obtain ⟨x, hxx⟩ : ∃ x, x = ws.getD i Wt.zero := ⟨_, rfl⟩
          rw [← hxx] at d0 d1 d2 hm
          have HX : Hid (x = ws.getD i Wt.zero) := hxx
          clear hxx hc
          obtain ⟨key, val, drop⟩ := x
          simp only at d0 d1 d2 hm
          go_wp2_with fail
          refine (xWrite_any key val drop _ hm.1 hm.2).mono ?_
          rintro e w2 ⟨⟨B, rfl, hB⟩, hF2⟩
          cases B with
          | false =>
            have hno : ¬ okW ⟨key, val, drop⟩ := fun h => by have := hB.2 h; simp at this
            have hc1 : c = 1 := by rcases HC.out with ⟨h, _⟩ | ⟨_, h⟩; · exact absurd h (okT_no hi' (HX.out ▸ hno))
                                   · exact h
            subst hc1
            clear HC hB hno
            go_wp2
            go_ret
            exact ⟨rfl, hF0.then (hFr.then hF2)⟩
          | true =>
            have HE2 : Hid (∀ j, j < i + 1 → okW (ws.getD j Wt.zero)) := by
              intro j hj
              by_cases hji : j = i
              · subst hji
                rw [← HX.out]
                exact hB.1 rfl
              · exact HE.out j (by omega)
            clear hB
            go_wp2
            go_roundw
            case rel => exact ⟨i + 1, by simp, by omega, HE2, hFr.then hF2⟩
            case measure => simp [intOf]; omega
        · have hc0 : c = 0 := by
            rcases HC.out with ⟨_, h⟩ | ⟨h, _⟩
            · exact h
            · refine absurd ⟨h1.1, h1.2, by rw [← HL.out]; omega, ?_⟩ h
              intro x hx
              obtain ⟨j, hj, rfl⟩ := List.getElem_of_mem hx
              have := HE.out j (by have := HL.out; omega)
              simpa [List.getD, hj] using this
          subst hc0
          clear HC
          go_wp2
          go_ret
          exact ⟨rfl, hF0.then hFr⟩
  · have hN := fun w => xNumber_any n false w ⟨fun h => by simp at h, fun h => absurd h h1⟩
    have hc1 : c = 1 := by rcases HC.out with ⟨h, _⟩ | ⟨_, h⟩; · exact absurd ⟨h.1, h.2.1⟩ h1
                           · exact h
    subst hc1
    clear HC h1
    go_enter Try.func20, Try.ntmps20
    go_wp2_with fail
    refine (hN _).mono ?_
    rintro e w1 ⟨rfl, rfl⟩
    clear hN
    go_wp2
    go_ret
    exact ⟨rfl, hF0⟩
end Go.Proofs.Ytdojhkgnnbdfkaa

/- Texts of this claim laid together, one behind the other: contracts and plain lemmas; conditions as each names them. -/
import Derived.Test.YtdcmjoildfofcaaGreatDoorGp27
import Derived.Deep.RegionLaw
import Derived.Deep.RegionWith
import Derived.Deep.RegionHeld3
import Derived.Deep.CutRange
import Derived.Test.YtdcmjoildfofcaaGreatDoorGp26
import Derived.Test.YtdcmjoildfofcaaGreatDoorGp2
import Derived.Laws.AppendOwn
/- The document's Check of a transaction, and what it leans on. Conditions as each names them. -/
namespace Go.Proofs.YtdcmjoildfofcaaGreatDoor
open Go.ChangeShapes Go.WideShapes Go.ChangeAt Go.RowKit Go.Lib
set_option linter.unusedVariables false
set_option linter.unusedSimpArgs false

theorem xKey_any (s : ByteArray) (B : Bool) (w : World) (hs : s.size ≤ 140737488355328) (hB : B = true ↔ 1 ≤ s.size ∧ s.size ≤ 64) : Calls Tryz.prog 108 #[.string s] w fun e w' => e = .returned (.bool B) ∧ w = w' := by
  have HB : Hid (B = true ↔ 1 ≤ s.size ∧ s.size ≤ 64) := hB
  clear hB
  by_cases h1 : 1 ≤ s.size
  · have h1' : (1 : Int) ≤ s.size := by omega
    by_cases h2 : s.size ≤ 64
    · have h2' : (s.size : Int) ≤ 64 := by omega
      have HR : Hid (B = true) := HB.out.2 ⟨h1, h2⟩
      go_enter Tryz.func108, Tryz.ntmps108
      go_wp2
      go_ret
      rw [HR.out]
      simp [h2']
    · have h2' : decide ((s.size : Int) ≤ 64) = false := by simp; omega
      have HR : Hid (B = false) := by show B = false; simpa using fun h : B = true => h2 (HB.out.1 h).2
      clear h2
      go_enter Tryz.func108, Tryz.ntmps108
      go_wp2
      go_ret
      rw [HR.out]
      simp [h2']
  · have h1' : decide ((1 : Int) ≤ s.size) = false := by simp; omega
    have h1'' : (s.size : Int) < 1 := by omega
    have HR : Hid (B = false) := by show B = false; simpa using fun h : B = true => h1 (HB.out.1 h).1
    clear h1
    go_enter Tryz.func108, Tryz.ntmps108
    go_wp2
    go_ret
    rw [HR.out]
    simp
theorem xVal_any (s : ByteArray) (B : Bool) (w : World) (hs : s.size ≤ 140737488355328) (hB : B = true ↔ s.size ≤ 1024) : Calls Tryz.prog 109 #[.string s] w fun e w' => e = .returned (.bool B) ∧ w = w' := by
  have HB : Hid (decide ((s.size : Int) ≤ 1024) = B) := by
    show _ = _
    cases B with
    | true => have := hB.1 rfl; simp; omega
    | false => have : ¬ s.size ≤ 1024 := fun h => by have := hB.2 h; simp at this
               simp; omega
  clear hB
  go_enter Tryz.func109, Tryz.ntmps109
  go_wp2
  go_ret
  rw [← HB.out]
  exact ⟨rfl, rfl⟩
/-- It tells whether the write may be. -/
def TellsY (e : Ending) (x : Wt) : Prop := ∃ B : Bool, e = .returned (.bool B) ∧ (B = true ↔ okW x)
set_option maxHeartbeats 2000000 in
set_option maxRecDepth 100000 in
theorem xWrite_any (key val : ByteArray) (drop : Bool) (w : World) (hk : key.size ≤ 140737488355328) (hv : val.size ≤ 140737488355328) :
    Calls Tryz.prog 101 #[.agg #[.string key, .string val, .bool drop]] w fun e w' => TellsY e ⟨key, val, drop⟩ ∧ Fr [] w w' := by
  have hF0 : Fr [] w (w.alloc (.cells #[.string key, .string val, .bool drop] 82)) := Fr.alloc [] w _
  have HO : Hid (okW ⟨key, val, drop⟩ ↔ (1 ≤ key.size ∧ key.size ≤ 64) ∧ val.size ≤ 1024 ∧ (drop = true → val.size = 0)) := by
    show _ ↔ _
    unfold okW
    rw [← noS_iff]
    simp only
    constructor
    · rintro ⟨a, b, c, d⟩; exact ⟨⟨a, b⟩, c, d⟩
    · rintro ⟨⟨a, b⟩, c, d⟩; exact ⟨a, b, c, d⟩
  by_cases h1 : 1 ≤ key.size ∧ key.size ≤ 64
  · by_cases h2 : val.size ≤ 1024
    · cases drop with
      | true =>
        by_cases h3 : val.size = 0
        · have h3' : ((val.size : Int) == 0) = true := by rw [h3]; rfl
          have HA : Hid (okW ⟨key, val, true⟩) := HO.out.2 ⟨h1, h2, fun _ => h3⟩
          go_enter Tryz.func101, Tryz.ntmps101
          go_wp2_with fail
          refine (xKey_any key true _ hk (by simpa using h1)).mono ?_
          rintro e w1 ⟨rfl, rfl⟩
          go_wp2_with fail
          refine (xVal_any val true _ hv (by simpa using h2)).mono ?_
          rintro e w1 ⟨rfl, rfl⟩
          go_wp2
          go_ret
          exact ⟨⟨true, by simp [h3'], by simp [HA.out]⟩, hF0⟩
        · have h3' : ((val.size : Int) == 0) = false := by rw [beq_eq_false_iff_ne]; omega
          have HA : Hid (¬ okW ⟨key, val, true⟩) := fun h => h3 ((HO.out.1 h).2.2 rfl)
          clear h3
          go_enter Tryz.func101, Tryz.ntmps101
          go_wp2_with fail
          refine (xKey_any key true _ hk (by simpa using h1)).mono ?_
          rintro e w1 ⟨rfl, rfl⟩
          go_wp2_with fail
          refine (xVal_any val true _ hv (by simpa using h2)).mono ?_
          rintro e w1 ⟨rfl, rfl⟩
          go_wp2
          go_ret
          exact ⟨⟨false, by simp [h3'], by simp [HA.out]⟩, hF0⟩
      | false =>
        have HA : Hid (okW ⟨key, val, false⟩) := HO.out.2 ⟨h1, h2, fun h => by simp at h⟩
        go_enter Tryz.func101, Tryz.ntmps101
        go_wp2_with fail
        refine (xKey_any key true _ hk (by simpa using h1)).mono ?_
        rintro e w1 ⟨rfl, rfl⟩
        go_wp2_with fail
        refine (xVal_any val true _ hv (by simpa using h2)).mono ?_
        rintro e w1 ⟨rfl, rfl⟩
        go_wp2
        go_ret
        exact ⟨⟨true, by simp, by simp [HA.out]⟩, hF0⟩
    · have HA : Hid (¬ okW ⟨key, val, drop⟩) := fun h => h2 (HO.out.1 h).2.1
      go_enter Tryz.func101, Tryz.ntmps101
      go_wp2_with fail
      refine (xKey_any key true _ hk (by simpa using h1)).mono ?_
      rintro e w1 ⟨rfl, rfl⟩
      go_wp2_with fail
      refine (xVal_any val false _ hv (by simpa using h2)).mono ?_
      rintro e w1 ⟨rfl, rfl⟩
      go_wp2
      go_ret
      exact ⟨⟨false, by simp, by simp [HA.out]⟩, hF0⟩
  · have HA : Hid (¬ okW ⟨key, val, drop⟩) := fun h => h1 (HO.out.1 h).1
    have HB : Hid (false = true ↔ 1 ≤ key.size ∧ key.size ≤ 64) := ⟨fun h => by simp at h, fun h => absurd h h1⟩
    clear h1
    go_enter Tryz.func101, Tryz.ntmps101
    go_wp2_with fail
    refine (xKey_any key false _ hk HB.out).mono ?_
    rintro e w1 ⟨rfl, rfl⟩
    go_wp2
    go_ret
    exact ⟨⟨false, by simp, by simp [HA.out]⟩, hF0⟩
theorem xNumber_any (n : Int) (B : Bool) (w : World) (hB : B = true ↔ 1 ≤ n ∧ n ≤ 65536) : Calls Tryz.prog 100 #[.int .i64 n] w fun e w' => e = .returned (.bool B) ∧ w = w' := by
  have HB : Hid (B = true ↔ 1 ≤ n ∧ n ≤ 65536) := hB
  clear hB
  by_cases h1 : 1 ≤ n
  · have HR : Hid (decide (n ≤ 65536) = B) := by
      show _ = _
      cases B with
      | true => have := HB.out.1 rfl; simp; omega
      | false => have : ¬ n ≤ 65536 := fun h => by have := HB.out.2 ⟨h1, h⟩; simp at this
                 simp; omega
    go_enter Tryz.func100, Tryz.ntmps100
    go_wp2
    go_ret
    rw [← HR.out]
    exact ⟨by simp, rfl⟩
  · have h1' : n < 1 := by omega
    have HR : Hid (B = false) := by show B = false; simpa using fun h : B = true => h1 (HB.out.1 h).1
    clear h1
    go_enter Tryz.func100, Tryz.ntmps100
    go_wp2
    go_ret
    rw [HR.out]
    simp

set_option maxHeartbeats 4000000 in
set_option maxRecDepth 100000 in
theorem xCheck_any (n : Int) (ao : Option Addr) (L cap c : Nat) (ws : List Wt) (w : World) (hW : WRs w ao ws) (hL : L = ws.length) (hn0 : -9223372036854775808 ≤ n) (hn1 : n ≤ 9223372036854775807)
    (hc : (okT n ws ∧ c = 0) ∨ (¬ okT n ws ∧ c = 1)) :
    Calls Tryz.prog 63 #[.agg #[.int .i64 n, .slice ao L cap]] w fun e w' => e = .returned (.int .i64 (c : Int)) ∧ Fr [] w w' := by
  have HC : Hid (_ ∨ _) := hc
  have HL : Hid (L = ws.length) := hL
  have hLm : L ≤ 140737488355328 := by have := hW.few; omega
  have hF0 : Fr [] w (w.alloc (.cells #[.int .i64 n, .slice ao L cap] 50)) := Fr.alloc _ _ _
  have hW1 := hW.keep hF0
  clear hc hL
  by_cases h1 : 1 ≤ n ∧ n ≤ 65536
  · have hN := fun w => xNumber_any n true w (by simpa using h1)
    by_cases h3 : 32 < L
    · have hc1 : c = 1 := by rcases HC.out with ⟨h, _⟩ | ⟨_, h⟩; · exact absurd h.2.2.1 (by rw [← HL.out]; omega)
                             · exact h
      subst hc1
      clear HC
      have h3' : (32 : Int) < L := by omega
      go_enter Tryz.func63, Tryz.ntmps63
      go_wp2_with fail
      refine (hN _).mono ?_
      rintro e w1 ⟨rfl, rfl⟩
      clear hN
      go_wp2
      go_ret
      exact ⟨rfl, hF0⟩
    · have h3' : (L : Int) ≤ 32 := by omega
      have hd3 : decide ((32 : Int) < L) = false := by simp; omega
      clear h3
      have c1 : (w.alloc (.cells #[.int .i64 n, .slice ao L cap] 50)).cell? ⟨w.heap.size, 1, none⟩ = some (.slice ao L cap) := cell_of_row _ _ _ _ _ _ (heap_alloc_new w _)
      go_enter Tryz.func63, Tryz.ntmps63
      go_wp2_with fail
      refine (hN _).mono ?_
      rintro e w1 ⟨rfl, rfl⟩
      clear hN
      go_wp2_with fail
      obtain ⟨w1, HW1⟩ : ∃ w1, Hid (w.alloc (.cells #[.int .i64 n, .slice ao L cap] 50) = w1) := ⟨_, rfl⟩
      rw [HW1.out] at c1 hF0 hW1 ⊢
      have hlt : w.heap.size < w1.heap.size := by rw [← HW1.out]; simp
      go_loopw [3] (fun ii wr => ∃ (i : Nat), ii = .int .i64 i ∧ i ≤ L ∧ Hid (∀ j, j < i → okW (ws.getD j Wt.zero)) ∧ Fr [] w1 wr) (fun ii _ => L - (RowKit.intOf ii).toNat)
      case atStart => exact ⟨0, rfl, Nat.zero_le _, fun j hj => by omega, Fr.refl _ _⟩
      case round =>
        obtain ⟨i, rfl, hiL, HE, hFr⟩ := hrel
        have c1r : wr.cell? ⟨w.heap.size, 1, none⟩ = some (.slice ao L cap) := (World.cell?_of_block (hFr.block _ hlt (by simp))).trans c1
        by_cases hi : i < L
        · have hi' : i < ws.length := by rw [← HL.out]; exact hi
          obtain ⟨b, off, rfl, _, hc⟩ := (hW1.keep hFr).lies (by omega)
          obtain ⟨d0, d1, d2⟩ := hc i hi'
          have hm := hW.each _ (wgetD_mem ws i hi')
          obtain ⟨x, hxx⟩ : ∃ x, x = ws.getD i Wt.zero := ⟨_, rfl⟩
          rw [← hxx] at d0 d1 d2 hm
          have HX : Hid (x = ws.getD i Wt.zero) := hxx
          clear hxx hc
          obtain ⟨key, val, drop⟩ := x
          simp only at d0 d1 d2 hm
          go_wp2_with fail
          refine (xWrite_any key val drop _ hm.1 hm.2).mono ?_
          rintro e w2 ⟨⟨B, rfl, hB⟩, hF2⟩
          cases B with
          | false =>
            have hno : ¬ okW ⟨key, val, drop⟩ := fun h => by have := hB.2 h; simp at this
            have hc1 : c = 1 := by rcases HC.out with ⟨h, _⟩ | ⟨_, h⟩; · exact absurd h (okT_no hi' (HX.out ▸ hno))
                                   · exact h
            subst hc1
            clear HC hB hno
            go_wp2
            go_ret
            exact ⟨rfl, hF0.then (hFr.then hF2)⟩
          | true =>
            have HE2 : Hid (∀ j, j < i + 1 → okW (ws.getD j Wt.zero)) := by
              intro j hj
              by_cases hji : j = i
              · subst hji
                rw [← HX.out]
                exact hB.1 rfl
              · exact HE.out j (by omega)
            clear hB
            go_wp2
            go_roundw
            case rel => exact ⟨i + 1, by simp, by omega, HE2, hFr.then hF2⟩
            case measure => simp [RowKit.intOf]; omega
        · have hc0 : c = 0 := by
            rcases HC.out with ⟨_, h⟩ | ⟨h, _⟩
            · exact h
            · refine absurd ⟨h1.1, h1.2, by rw [← HL.out]; omega, ?_⟩ h
              intro x hx
              obtain ⟨j, hj, rfl⟩ := List.getElem_of_mem hx
              have := HE.out j (by have := HL.out; omega)
              simpa [List.getD, hj] using this
          subst hc0
          clear HC
          go_wp2
          go_ret
          exact ⟨rfl, hF0.then hFr⟩
  · have hN := fun w => xNumber_any n false w ⟨fun h => by simp at h, fun h => absurd h h1⟩
    have hc1 : c = 1 := by rcases HC.out with ⟨h, _⟩ | ⟨_, h⟩; · exact absurd ⟨h.1, h.2.1⟩ h1
                           · exact h
    subst hc1
    clear HC h1
    go_enter Tryz.func63, Tryz.ntmps63
    go_wp2_with fail
    refine (hN _).mono ?_
    rintro e w1 ⟨rfl, rfl⟩
    clear hN
    go_wp2
    go_ret
    exact ⟨rfl, hF0⟩
end Go.Proofs.YtdcmjoildfofcaaGreatDoor
/- The document's table: contract of Add. Conditions as each names them. -/
namespace Go.Proofs.YtdcmjoildfofcaaGreatDoor
open Go.ChangeShapes Go.WideShapes Go.ChangeAt Go.RowKit Go.Lib Go.Maps
set_option linter.unusedVariables false
set_option linter.unusedSimpArgs false

theorem Tryz.undROs : Tryz.prog.underlying 55 = some (.slice 84) := by kernel_rfl
theorem Tryz.infoRO : (Tryz.prog.info? 84).map (fun i => (i.zero, i.size, i.bytes)) = some (some (.agg #[.int .i64 0, .slice none 0 0, .slice none 0 0, .bool false]), 4, 64) := by kernel_rfl
theorem Tryz.undWsU : Tryz.prog.underlying 48 = some (.slice 82) := by kernel_rfl
theorem Tryz.infoWtU : (Tryz.prog.info? 82).map (fun i => (i.zero, i.size, i.bytes)) = some (some (.agg #[.string ⟨#[]⟩, .string ⟨#[]⟩, .bool false]), 3, 40) := by kernel_rfl
/-- The writes of a slice as cells of memory. -/
theorem WRs.src {w : World} {b off : Nat} {ws : List Wt} (h : WRs w (some ⟨b, off, none⟩) ws) (h0 : 0 < ws.length) : ∀ j u, (wtsC ws)[j]? = some u → w.cell? ((⟨b, off, none⟩ : Addr).add j) = some u := by
  intro j u hj
  obtain ⟨b', off', e, _, hc⟩ := h.lies h0
  cases e
  have hlt : j < ws.length * 3 := by have := (List.getElem?_eq_some_iff.1 hj).1; rwa [wtsC_length] at this
  have hi : j / 3 < ws.length := by omega
  have hr : j % 3 < 3 := Nat.mod_lt _ (by omega)
  have hjj : j / 3 * 3 + j % 3 = j := by omega
  have h1 := wtsC_get ws (j / 3) (j % 3) hi hr
  rw [hjj, hj] at h1
  have hA := hc (j / 3) hi
  rw [Addr.add_lit]
  have hcase : j % 3 = 0 ∨ j % 3 = 1 ∨ j % 3 = 2 := by omega
  rcases hcase with h2 | h2 | h2
  · rw [h2] at h1
    have e1 : off + j = off + j / 3 * 3 := by omega
    rw [e1, hA.c0]
    simpa [wtC] using h1.symm
  · rw [h2] at h1
    have e1 : off + j = off + j / 3 * 3 + 1 := by omega
    rw [e1, hA.c1]
    simpa [wtC] using h1.symm
  · rw [h2] at h1
    have e1 : off + j = off + j / 3 * 3 + 2 := by omega
    rw [e1, hA.c2]
    simpa [wtC] using h1.symm
/-- All writes of a row that can be read, behind nothing: one step of a region that draws. -/
theorem step_allW (w : World) {ops : Array Oper} {o : Oper} {a : Act} {K : Act → World → Prop} {Q : Exit → Act → World → Prop} {E : Prop} (hg : o.guard = none) (s x : Operand)
    (ho : o.op = .call { callee := .builtin .append, args := #[s, x], argTypes := #[48, 48] })
    (hs : a.eval s = .slice none 0 0) (wo : Option Addr) (M mc : Nat) (ws : List Wt) (hx : a.eval x = .slice wo M mc) (hW : WRs w wo ws) (hM : M = ws.length) (hMb : M ≤ 1048576)
    (h : ∀ wo2 wc2 w', w'.ownsRow w.heap.size 82 3 (.slice wo2 M wc2) M (wtsC ws) → Fr [] w w' → K (a.put o.dst (.slice wo2 M wc2)) w') :
    if Region.wanted o (yielded ops a.tmps) = true then Oper.wp Tryz.prog o a w K Q else E := by
  have hw : Region.wanted o (yielded ops a.tmps) = true := by simp [Region.wanted, hg]
  rw [if_pos hw]
  obtain ⟨i0, hi, hz0, hz1, hz2⟩ := info_parts Tryz.infoWtU
  by_cases h0 : 0 < M
  · obtain ⟨b, off, rfl, _, hc⟩ := hW.lies (by omega)
    obtain ⟨v', w', hr, h2, h3, h4⟩ := run_append_own (P := Tryz.prog) w w.heap.size 48 o.type 82 i0 _ 3 40 Tryz.undWsU hi hz0 hz1 hz2 rfl (by decide) (.slice none 0 0) 0 [] (World.ownsRow_nil _ _ _ _) ⟨b, off, none⟩ M mc (wtsC ws) (by rw [wtsC_length, hM]) (hW.src (by omega)) (wtsC_oneCell ws) (by unfold maxLen; omega) (by omega) (Nat.le_refl _)
    rw [Nat.zero_add, List.nil_append] at h2
    obtain ⟨wo2, wc2, rfl⟩ : ∃ wo2 wc2, v' = .slice wo2 M wc2 := by
      rcases h2.2 with ⟨_, hh⟩ | ⟨g, cap', _, hh, _⟩
      · omega
      · exact ⟨_, cap', hh⟩
    unfold Oper.wp execOp
    simp only [ho, resolve, invoke, builtin, Sem.run_bind, Sem.run_pure, Result.andThen_ok, List.map_toArray, List.map_cons, List.map_nil, hs, hx, hr]
    exact h wo2 wc2 w' h2 (Fr.grown (S := []) h3 (fun k hk => by simp [Value.ownBlock] at hk))
  · obtain rfl : M = 0 := by omega
    have hvs : ws = [] := List.eq_nil_of_length_eq_zero hM.symm
    subst hvs
    have hl : ∀ (x : Addr), (loadCells x 0).run Tryz.prog w = .ok #[] w := fun x => by simpa using run_loadCells_list (P := Tryz.prog) w x [] (by simp)
    have hrun : (Builtin.append_ #[48, 48] o.type #[.slice none 0 0, .slice wo 0 mc]).run Tryz.prog w = .ok (.slice none 0 0) w := by
      cases wo <;> simp [Builtin.append_, run_underlying Tryz.undWsU, sizeOf, typeInfo, hi, Builtin.lenOf, Builtin.firstCells, hl, storeCells]
    unfold Oper.wp
    simp [execOp, ho, resolve, invoke, builtin, hs, hx, hrun, Result.andThen]
    exact h none 0 w (World.ownsRow_nil _ _ _ _) (Fr.refl _ _)
theorem ws_read {base : Nat} {w : World} {wo2 : Option Addr} {M wc2 : Nat} {ws : List Wt} (h : w.ownsRow base 82 3 (.slice wo2 M wc2) M (wtsC ws)) (hM : M = ws.length) (hl : ws.length ≤ 140737488355328) (he : ∀ x ∈ ws, x.key.size ≤ 140737488355328 ∧ x.val.size ≤ 140737488355328) : WRs w wo2 ws ∧ (0 < ws.length → ∀ a, wo2 = some a → (Value.slice wo2 M wc2).ownBlock = some a.block) := by
  rcases h.2 with ⟨hh, h1⟩ | ⟨g, cap, cur, hv, _, hg, _, _, _, ht⟩
  · have : ws = [] := List.eq_nil_of_length_eq_zero (by omega)
    subst this
    exact ⟨WRs.nil _ _, fun h0 => by simp at h0⟩
  · cases hv
    refine ⟨?_, fun _ a ha => by cases ha; rfl⟩
    refine WRs.of_row (rest := cur.toList.drop (M * 3)) (t := 82) (f := (0, 0)) ?_ hl he
    rw [hg, ← ht, List.take_append_drop]
theorem keysW_take (ws : List Wt) (i : Nat) (h : i < ws.length) : keysW (ws.take (i + 1)) = keysW (ws.take i) ++ [(ws.getD i Wt.zero).key] := by
  have e : ws.take (i + 1) = ws.take i ++ [ws.getD i Wt.zero] := by rw [List.take_add_one]; simp [List.getD, h]
  rw [e]
  simp [keysW]
theorem AdT.same {L : Lg} {en : Int → Prop} {ks : List ByteArray} {xs : List Int} {k : ByteArray} (h : AdT L en ks xs) (hk : ¬ Op11 L en (lst L k)) : AdT L en (ks ++ [k]) xs := by
  refine ⟨h.1, fun m => ?_⟩
  rw [h.2 m]
  constructor
  · rintro ⟨h1, q, hq, e⟩; exact ⟨h1, q, by simp [hq], e⟩
  · rintro ⟨h1, q, hq, e⟩
    rcases List.mem_append.1 hq with h2 | h2
    · exact ⟨h1, q, h2, e⟩
    · rw [List.mem_singleton] at h2
      subst h2
      rw [e] at hk
      exact absurd h1 hk
theorem AdT.more {L : Lg} {en : Int → Prop} {ks : List ByteArray} {xs ys : List Int} {k : ByteArray} (h : AdT L en ks xs) (hk : Op11 L en (lst L k)) (hr : Ris ys) (hy : ∀ m, m ∈ ys ↔ m ∈ xs ∨ m = lst L k) : AdT L en (ks ++ [k]) ys := by
  refine ⟨hr, fun m => ?_⟩
  rw [hy, h.2 m]
  constructor
  · rintro (⟨h1, q, hq, e⟩ | rfl)
    · exact ⟨h1, q, by simp [hq], e⟩
    · exact ⟨hk, k, by simp, rfl⟩
  · rintro ⟨h1, q, hq, e⟩
    rcases List.mem_append.1 hq with h2 | h2
    · exact Or.inl ⟨h1, q, h2, e⟩
    · rw [List.mem_singleton] at h2
      subst h2
      exact Or.inr e.symm
theorem AdT.few {L : Lg} {en : Int → Prop} {ks : List ByteArray} {xs : List Int} (h : AdT L en ks xs) (hb : ∀ x, Op11 L en x → 1 ≤ x ∧ x ≤ 65536) : xs.length ≤ 65536 := Ris.few (a := 1) h.1 (fun x hx => by have := hb x ((h.2 x).1 hx).1; omega)
section
variable {g n c : Nat} {OB : List Nat} {lo : Option Addr} {rs : List Ro} {L : Lg} {en : Int → Prop}
theorem Rt.small {w : World} (h : Rt w g OB lo n c rs) (hl : Rel rs L en) : ∀ x, Op11 L en x → 1 ≤ x ∧ x ≤ 65536 := by
  rintro x ⟨⟨p, hp, rfl⟩, _⟩
  obtain ⟨r, hr, rfl⟩ := hl.of hp
  exact ⟨(h.each r hr).ok.1, (h.each r hr).ok.2.1⟩
theorem Rt.room {w : World} (h : Rt w g OB lo n c rs) (hl : Rel rs L en) {nn : Int} (h1 : 1 ≤ nn) (h2 : nn ≤ 65536) (hnew : ∀ p ∈ L, p.1 < nn) : n + 1 ≤ 65536 := by
  have hr := hl.ris.ris
  have hs := Ris.snoc (xs := L.map (·.1)) (n := nn) hr (fun x hx => by obtain ⟨p, hp, rfl⟩ := List.mem_map.1 hx; exact hnew p hp)
  have := Ris.few (a := 1) (n := 65536) hs (fun x hx => by
    rcases List.mem_append.1 hx with e | e
    · obtain ⟨p, hp, rfl⟩ := List.mem_map.1 e
      have := hl.ris.pos p hp
      have := hnew p hp
      omega
    · rw [List.mem_singleton] at e; omega)
  rw [List.length_append, List.length_map, hl.len, ← h.len] at this
  exact this
set_option maxHeartbeats 2000000 in
theorem uAdd_arg (nn : Int) (wo : Option Addr) (M mc : Nat) (ws : List Wt) (w : World) (hW : WRs w wo ws) (hM : M = ws.length) (hni : i64 nn) (hok : ¬ okT nn ws) :
    Calls Tryz.prog 12 #[.pointer (some ⟨g, 0, none⟩), .agg #[.int .i64 nn, .slice wo M mc]] w fun e w' => e = .returned (.tuple #[.int .i64 0, .int .i64 1]) ∧ Fr [] w w' := by
  have hF0 : Fr [] w (w.alloc (.cells #[.int .i64 nn, .slice wo M mc] 50)) := Fr.alloc _ _ _
  have HC : Hid (Calls _ _ _ _ _) := xCheck_any nn wo M mc 1 ws _ (hW.keep hF0) hM hni.1 hni.2 (Or.inr ⟨hok, rfl⟩)
  have HF0 : Hid (Fr [] w (w.alloc (.cells #[.int .i64 nn, .slice wo M mc] 50))) := hF0
  clear hW hM hok hF0 hni
  go_enter Tryz.func12, Tryz.ntmps12
  go_wp2_with fail
  refine Calls.mono HC.out ?_
  rintro e w1 ⟨rfl, hF1⟩
  go_wp2
  refine bodyPost_ret (results_tmp2 rfl _ _ _) rfl ?_
  exact ⟨rfl, HF0.out.then hF1⟩
end
end Go.Proofs.YtdcmjoildfofcaaGreatDoor
